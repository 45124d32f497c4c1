/- WirePrefix: the walk. -/
import Derived.Test.YtpoldhblddlcpaaVals
import Derived.Test.YtpoldhblddlcpaaVPrefix
import Derived.Test.YtpoldhblddlcpaaRefVal
import Derived.Test.YtpoldhblddlcpaaWireLives
namespace Go.Proofs.Ytpoldhblddlcpaa
open Go.RowKit Go.Shelf
set_option linter.unusedVariables false

/-- The first bytes of a row. -/
theorem row_take {k : IntKind} {n₀ : Nat} {W : World} {a : Option Addr} {n cap : Nat} {zs : List Int} (h : Row k n₀ W (.slice a n cap) zs) (j : Nat) (hj : j ≤ zs.length) : Row k n₀ W (.slice a j cap) (zs.take j) := by
  rcases h with ⟨a', cap', e, h2, hn, rfl⟩ | ⟨b, off, cap', e, h1, h2, hb, hc⟩
  · simp at e
    obtain ⟨rfl, rfl, rfl⟩ := e
    have : j = 0 := by simpa using hj
    subst this
    exact .inl ⟨_, _, rfl, h2, hn, rfl⟩
  · simp at e
    obtain ⟨rfl, rfl, rfl⟩ := e
    refine .inr ⟨b, off, cap, by rw [List.length_take, Nat.min_eq_left hj], by rw [List.length_take]; omega, h2, hb, fun i hi => ?_⟩
    rw [List.length_take] at hi
    rw [hc i (by omega), List.getElem?_take]
    rw [if_pos (by omega)]
theorem rd_d {W : World} {b d : Nat} {zs : List Int} {e : Int} (h : Rd W b d zs e) : ∃ d', Rd W b d' zs e ∧ d' < W.heap.size := by
  rcases h.dlt with rfl | hd
  · obtain ⟨_, v, hv, hr⟩ := h
    refine ⟨b, ⟨.inl rfl, v, hv, ?_⟩, (Array.getElem?_eq_some_iff.1 hv).1⟩
    rcases hr with e | ⟨q, off, cap, e, h1, h2, _, _⟩
    · exact .inl e
    · exact .inl ⟨_, cap, e, h2, (fun h => by cases h), rfl⟩
  · exact ⟨d, h, hd⟩

set_option maxRecDepth 100000 in
set_option maxHeartbeats 1000000 in
theorem wirePrefix_walk (a0 : Option Addr) (len0 cap0 : Nat) (z0 : List Int) (a1 : Int) (a2 : Int) (w : World) (w0 : IsRow .i64 w a0 len0 cap0 z0) (w1 : (Lit.int .i64 a1).wf = true) (w2 : (Lit.int .u8 a2).wf = true) :
    Calls Try.prog 7 #[.slice a0 len0 cap0, .int .i64 a1, .int .u8 a2] w fun e w' => e = .returned (.bool true) ∧ Below w.heap.size w w' := by
  obtain ⟨hr, hw⟩ := w0.row
  obtain ⟨j0, hj, hy0, hy1, hy2⟩ := info_parts info_byte
  have hc2 : 0 ≤ a2 ∧ a2 < 256 := by have := u8_rng1 w2; omega
  have HC2 := Lib.hid hc2
  have W1f := Lib.hid w1
  clear w0 w1 w2 hc2
  go_enter Try.func7, Try.ntmps7
  go_wp2_with fail
  refine (vals_any a0 len0 cap0 _ _ hr hw).mono ?_
  rintro e W1 ⟨x, all, xs, rfl, hV, hvo, hvl, hb1⟩
  dsimp only
  go_wp2_with fail
  have hR := hV.vrow
  refine (encode_any x all _ hR hvo (by omega)).mono ?_
  rintro e W3 ⟨ae, ce, rfl, hoE, hrE, hb⟩
  have hR3 := (hR.below hb).more hb.size
  have b3 := stepB hb1 hb
  have hlE := vsbytes_len all hvo
  have hrg := vsbytes_rng all hvo
  have hce := hrE.lencap
  unfold maxLen at hce
  have HRG := Lib.hid hrg
  clear hV hb hb1 hR hr hw hrg hoE
  dsimp only
  by_cases hz : (vsbytes all).length = 0
  · rw [hz]
    clear hR3 hrE hce
    go_wp2_with fail
    refine (read_any (.slice none 0 0) [] _ (nil_row _ _ _) (by simp)).mono ?_
    rintro e W4 ⟨r, d, rfl, hr1, hd1, hRd, hb4⟩
    have b4 := stepB b3 hb4
    clear hb4
    dsimp only
    go_wp2_with fail
    refine (end_any r d [] 0 _ hRd).mono ?_
    rintro e W5 ⟨rfl, rfl⟩
    rw [show rEnd [] 0 = 0 from by decide]
    dsimp only
    go_wp2_with fail
    refine (lives2_any _).mono ?_
    rintro e W6 ⟨rfl, hb⟩
    dsimp only
    go_wp2_with fail
    go_ret
    exact ⟨rfl, stepB b4 hb⟩
  · have hzb : (((vsbytes all).length : Int) == 0) = false := by simpa using hz
    have hzp : 0 < (vsbytes all).length := by omega
    have HZ := Lib.hid hz
    clear hz
    go_wp2_with fail
    refine (around_any a1 (vsbytes all).length _ W1f.out (by omega) (by omega)).mono ?_
    rintro e W4 ⟨rfl, rfl⟩
    have hj0 := aroundI_lo a1 (vsbytes all).length (by omega)
    have hj1 := aroundI_hi a1 (vsbytes all).length (by omega)
    generalize aroundI a1 (vsbytes all).length = jj at *
    obtain ⟨j, rfl⟩ := Int.eq_ofNat_of_zero_le hj0
    clear hj0
    have hjl : j < (vsbytes all).length := by omega
    have hrj := row_take hrE j (by omega)
    obtain ⟨be, oe, rfl, hbe, _⟩ := hrE.at hzp
    dsimp only
    go_wp2_with fail
    refine (read_any _ ((vsbytes all).take j) _ hrj (by rw [List.length_take]; omega)).mono ?_
    rintro e W5 ⟨r, d, rfl, hr1, hd1, hRd, hb5⟩
    obtain ⟨d, hRd, hdl⟩ := rd_d hRd
    have hrl := hRd.lt
    have hrE5 := rowB hrE hb5
    have hR5 := hR3.below hb5
    have hw4 := b3.size
    have b5 := stepB b3 hb5
    have hs45 := hb5.size
    clear hrE hR3 hb5 b3 hrj hd1
    dsimp only
    go_wp2_with fail
    refine (few_int _ (vsbytes all) (vsbytes all).length _ hrE5 (by omega) (by omega)).mono ?_
    rw [Int.toNat_natCast, List.take_length]
    rintro e W6 ⟨af, cf, rfl, hoF, hrF, hb6⟩
    have hRd6 := hRd.below hrl (.inr hdl) hb6
    have hR6 := hR5.below (hb6.mono hs45)
    have b6 := stepB b5 hb6
    have hs56 := hb6.size
    clear hrE5 hrF hb6 b5 hRd hR5
    dsimp only
    go_wp2_with (at_builtin; refine wpList_append_own _ rfl _ _ 24 rfl W5.heap.size 5 j0 (.int .u8 0) 1 1 Try.underlying24 hj hy0 hy1 hy2 rfl (by decide) _ _ _ rfl (hoF.alloc _) ⟨W6.heap.size, 0, none⟩ 1 1 [.int .u8 a2] rfl rfl (cell_one_new _ _ _) (by simp [Value.oneCell']) (by unfold maxLen; omega) (by omega) (by simp; omega) ?_; intro v7 W7 hown7 hgrow7 _)
    have hb7 : Below W5.heap.size W6 W7 := ((Below.refl W5.heap.size W6).alloc hs56 _).grown hgrow7 (by simp; omega) (fun k e => (hoF.lt _ e).1)
    have hRd7 := hRd6.below hrl (.inr hdl) hb7
    have hR7 := hR6.below (hb7.mono hs45)
    have b7 := b6.trans (hb7.mono (by omega))
    clear hRd6 hR6 hgrow7 hoF
    have hm7 : (vsbytes all).map (Value.int .u8) ++ [.int .u8 a2] = (vsbytes all ++ [a2]).map (Value.int .u8) := by simp
    rw [hm7] at hown7
    have hl7 : (vsbytes all).length + 1 = (vsbytes all ++ [a2]).length := by simp
    rw [hl7] at hown7
    have hrow7 := (row_of_owns hown7).1
    clear hown7 hm7 hl7
    refine (read_any _ (vsbytes all ++ [a2]) _ hrow7 (by simp; omega)).mono ?_
    rintro e W8 ⟨r2, d2, rfl, hr2, hd2, hRd2, hb8⟩
    have hs7 : W5.heap.size ≤ W7.heap.size := by have := hb7.size; omega
    have hRd8 := hRd7.below (n := W7.heap.size) (by omega) (.inr (by omega)) hb8
    have hR8 := hR7.below (hb8.mono (by omega))
    have b8 := stepB b7 hb8
    clear hRd7 hR7 hb7 hb8 b7 b6 hrow7
    obtain ⟨av, cv, rfl, hlc, hcm, hcells⟩ := hR8
    unfold maxLen at hcm
    have hz1 : ∀ x ∈ (vsbytes all).take j, 0 ≤ x ∧ x < 256 := fun x hx => HRG.out x (List.mem_of_mem_take hx)
    have hz1l : ((vsbytes all).take j).length ≤ 100000 := by rw [List.length_take]; omega
    have hpre : Pre all 0 ((vsbytes all).take j) 0 := .inl ⟨rfl, j, hjl, rfl⟩
    dsimp only
    go_wp2_with fail
    go_loopw [12] (fun i wr => ∃ (k : Nat) (zs : List Int) (e : Int), k ≤ all.length ∧ i = .int .i64 (k : Int) ∧ Rd wr r d zs e ∧ Pre all k zs e ∧ (∀ x ∈ zs, 0 ≤ x ∧ x < 256) ∧ zs.length ≤ 100000 ∧ Rd wr r2 d2 (vsbytes (all.drop k) ++ [a2]) 0 ∧ Below W4.heap.size W8 wr) (fun i _ => all.length - (intOf i).toNat)
    case atStart => exact ⟨0, _, _, Nat.zero_le _, rfl, hRd8, hpre, hz1, hz1l, hRd2, Below.refl _ _⟩
    case round =>
      clear hRd8 hpre hz1 hz1l hRd2
      obtain ⟨k, zs, er, hk, rfl, hR1, hP, hzs, hzl, hR2, hB⟩ := hrel
      by_cases hlt : k < all.length
      · obtain ⟨b, off, rfl, hbn, hc⟩ := hcells.resolve_left (by rintro rfl; simp at hlt)
        have hgk : all[k]? = some all[k] := List.getElem?_eq_getElem hlt
        obtain ⟨sb, sl, r1, q2, c0, _, _, _, _⟩ := hc k _ hgk
        have hok := hvo _ (List.mem_of_getElem? hgk)
        have ht := vsbytes_drop all k _ hgk
        have hP2 := hP.step hgk hok
        have hdr : ∀ x ∈ vsbytes (all.drop k) ++ [a2], 0 ≤ x ∧ x < 256 := by
          intro x hx
          rcases List.mem_append.1 hx with h1 | h1
          · exact vsbytes_rng _ (fun v hv => hvo v (List.mem_of_mem_drop hv)) x h1
          · simp at h1; subst h1; exact HC2.out
        have hdl3 := vsbytes_len (all.drop k) (fun v hv => hvo v (List.mem_of_mem_drop hv))
        have hdl2 : (all.drop k).length ≤ 10 := by rw [List.length_drop]; omega
        have hdl4 : (vsbytes (all.drop k) ++ [a2]).length ≤ 100000 := by rw [List.length_append, List.length_singleton]; omega
        generalize all[k] = v at *
        clear r1 q2
        have c0' := (hB.cell (p := ⟨b, _, none⟩) hbn).trans c0
        have hM := readM_vbytes v (vsbytes (all.drop (k + 1)) ++ [a2]) hok
        have hkk := hok.canon
        have hk6 : 0 ≤ v.kind ∧ v.kind < 6 := by unfold VM.canon at hkk; omega
        have hzs2 := readM_left v.kind zs er (fun x => 0 ≤ x ∧ x < 256) hzs
        have hzl2 := readM_len v.kind zs er
        have HM := Lib.hid hM
        have HT := Lib.hid ht
        have HG := Lib.hid hgk
        have HD := Lib.hid hdr
        have HZS := Lib.hid hzs
        have HZS2 := Lib.hid hzs2
        have hsr := hB.size
        have hi1 : (k : Int) < all.length := by omega
        clear hgk ht hc hcells hM hdr hkk hzs hzs2 hP c0
        go_wp2_with fail
        refine (lread_any r d v.kind zs er _ hR1 HZS.out (by omega) hk6).mono ?_
        generalize readM v.kind zs er = RM at *
        rintro e W9 ⟨x9, rfl, hx9, hR9, ho9⟩
        have hR29 := hR2.keep ho9 (by omega) (by omega)
        have hB9 := hB.trans (only_below ho9 (by omega) hR1.lt)
        have c9 := (hB9.cell (p := ⟨b, off + k * 5, none⟩) hbn).trans ((hB.cell (p := ⟨b, off + k * 5, none⟩) hbn).symm.trans c0')
        have hs9 := ho9.size
        clear c0' hx9 hR2
        dsimp only
        go_wp2_with fail
        refine (lread_any r2 d2 v.kind _ 0 _ hR29 HD.out (by omega) hk6).mono ?_
        rw [HT.out, List.append_assoc, HM.out]
        rintro e W10 ⟨x10, rfl, hx10, hR210, ho10⟩
        have hR10 := hR9.keep ho10 (by omega) (by omega)
        have hB10 := hB9.trans (only_below ho10 (by omega) hR29.lt)
        clear c9 hx10 hR9 hR29
        dsimp only
        go_wp2_with fail
        go_roundw
        case rel => exact ⟨k + 1, _, _, by omega, by go_num, hR10, hP2, HZS2.out, by omega, hR210, hB10⟩
        case measure => simp [intOf]; omega
      · have hkl : k = all.length := by omega
        have hd : vsbytes (all.drop k) = [] := by rw [List.drop_eq_nil_of_le (by omega)]; rfl
        rw [hd, List.nil_append] at hR2
        have he3 := hP.last (by omega)
        subst he3
        have b9 := b8.trans (hB.mono hw4)
        clear hd hkl hcells hP
        have hE1 : rEnd zs 3 = 3 := if_neg (fun h => absurd h.1 (by decide))
        have hE2 : rEnd [a2] 0 = 2 := rfl
        have HE1 := Lib.hid hE1
        have HE2 := Lib.hid hE2
        clear hE1 hE2
        go_wp2_with fail
        refine (end_any r d zs 3 _ hR1).mono ?_
        rintro e W9 ⟨rfl, rfl⟩
        rw [HE1.out]
        dsimp only
        go_wp2_with fail
        refine (end_any r2 d2 [a2] 0 _ hR2).mono ?_
        rintro e W10 ⟨rfl, rfl⟩
        rw [HE2.out]
        dsimp only
        go_wp2_with fail
        refine (around_any a1 6 _ W1f.out (by omega) (by omega)).mono ?_
        rintro e W11 ⟨rfl, rfl⟩
        have hK0 := aroundI_lo a1 6 (by omega)
        have hK1 := aroundI_hi a1 6 (by omega)
        generalize aroundI a1 6 = K at *
        dsimp only
        go_wp2_with fail
        refine (lread_any r d K zs 3 _ hR1 hzs (by omega) ⟨hK0, hK1⟩).mono ?_
        rw [readM_err K zs 3 (by decide) ⟨hK0, hK1⟩]
        rintro e W12 ⟨x12, rfl, ⟨sb, sl, rfl, q1, q2⟩, hR12, ho12⟩
        dsimp only at q1 q2 hR12
        have b12 := b9.trans (only_below ho12 (by omega) hR1.lt)
        obtain ⟨asb, csb, rfl⟩ := row_slice q1
        obtain ⟨asl, csl, rfl⟩ := row_slice q2
        have bA := laidB (Below.refl W12.heap.size W12) (.cells #[.int .i64 K, .int .u64 0, .int .i64 0, .slice asb 0 csb, .slice asl 0 csl] 28)
        have q1' := rowB q1 bA
        have q2' := rowB q2 bA
        have hR13 := hR12.below hR12.lt hR12.dlt bA
        have b13 := stepB b12 bA
        clear hR1 hzs ho12 q1 q2 hR12 b12 bA
        dsimp only
        go_wp2_with fail
        refine (same_self K 0 0 _ _ _ _ [] [] _ q1' q2' (nil_row _ _ _) (nil_row _ _ _)).mono ?_
        rintro e W14 ⟨rfl, hb14⟩
        have hR14 := hR13.below hR13.lt hR13.dlt hb14
        have b14 := stepB b13 hb14
        dsimp only
        go_wp2_with fail
        refine (end_any r d zs 3 _ hR14).mono ?_
        rintro e W15 ⟨rfl, rfl⟩
        rw [HE1.out]
        dsimp only
        go_wp2_with fail
        refine (lives2_any _).mono ?_
        rintro e W16 ⟨rfl, hb16⟩
        dsimp only
        go_wp2_with fail
        go_ret
        exact ⟨rfl, stepB b14 hb16⟩
end Go.Proofs.Ytpoldhblddlcpaa
