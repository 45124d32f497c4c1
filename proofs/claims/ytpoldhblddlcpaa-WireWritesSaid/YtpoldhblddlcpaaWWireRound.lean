/- WireRound: the walk. -/
import Derived.Test.YtpoldhblddlcpaaVals
import Derived.Test.YtpoldhblddlcpaaVMath
import Derived.Test.YtpoldhblddlcpaaRefVal
import Derived.Test.YtpoldhblddlcpaaWireLives
import Derived.Deep.RegionHeld3
namespace Go.Proofs.Ytpoldhblddlcpaa
open Go.RowKit Go.Shelf
set_option linter.unusedVariables false

/-- More values at once, their cells known. -/
theorem VOut.pushes {base : Nat} {W W' : World} {x x' : Value} {l m : List VM} {xs ys : List Value} (h : VOut base W x l xs)
    (hr : W'.ownsRow base 28 5 x' (l.length + m.length) (xs ++ ys)) (hg : W.grownBy W' x.ownBlock) (hx : x'.ownBlock = x.ownBlock ∨ x'.ownBlock = some W.heap.size)
    (hm : ∀ (i : Nat) (v : VM), m[i]? = some v → ∃ sb sl, ys[i * 5]? = some (.int .i64 v.kind) ∧ ys[i * 5 + 1]? = some (.int .u64 v.u) ∧ ys[i * 5 + 2]? = some (.int .i64 v.n) ∧ ys[i * 5 + 3]? = some sb ∧ ys[i * 5 + 4]? = some sl ∧
      RowP .u8 (fun g => base ≤ g ∧ g < W.heap.size ∧ x.ownBlock ≠ some g) W sb v.B ∧ RowP .i64 (fun g => base ≤ g ∧ g < W.heap.size ∧ x.ownBlock ≠ some g) W sl v.L) : VOut base W' x' (l ++ m) (xs ++ ys) := by
  obtain ⟨ho, hc⟩ := h
  have hk : ∀ g, (base ≤ g ∧ g < W.heap.size ∧ x.ownBlock ≠ some g) → (base ≤ g ∧ g < W'.heap.size ∧ x'.ownBlock ≠ some g) := by
    rintro g ⟨a, b, c⟩
    refine ⟨a, Nat.lt_of_lt_of_le b hg.size, ?_⟩
    rcases hx with e | e
    · rw [e]; exact c
    · rw [e]; intro e2; simp at e2; omega
  have kp : KeepP (fun g => base ≤ g ∧ g < W.heap.size ∧ x.ownBlock ≠ some g) W W' := ⟨fun g hgp => hg.block g hgp.2.1 (fun e => hgp.2.2 e.symm)⟩
  have hl : xs.length = l.length * 5 := ho.1
  refine ⟨by rw [List.length_append]; exact hr, fun i u hu => ?_⟩
  rcases Nat.lt_or_ge i l.length with hi | hi
  · rw [List.getElem?_append_left hi] at hu
    obtain ⟨sb', sl', c0, c1, c2, c3, c4, r1, r2⟩ := hc i u hu
    refine ⟨sb', sl', ?_, ?_, ?_, ?_, ?_, (r1.keep kp).mono hk, (r2.keep kp).mono hk⟩ <;> (rw [List.getElem?_append_left (by omega)]; assumption)
  · rw [List.getElem?_append_right hi] at hu
    obtain ⟨sb', sl', c0, c1, c2, c3, c4, r1, r2⟩ := hm (i - l.length) u hu
    obtain ⟨j, rfl⟩ : ∃ j, i = l.length + j := ⟨i - l.length, by omega⟩
    rw [show l.length + j - l.length = j from by omega] at c0 c1 c2 c3 c4
    refine ⟨sb', sl', ?_, ?_, ?_, ?_, ?_, (r1.keep kp).mono hk, (r2.keep kp).mono hk⟩ <;> (rw [List.getElem?_append_right (by omega)])
    · rw [show (l.length + j) * 5 - xs.length = j * 5 from by omega]; exact c0
    · rw [show (l.length + j) * 5 + 1 - xs.length = j * 5 + 1 from by omega]; exact c1
    · rw [show (l.length + j) * 5 + 2 - xs.length = j * 5 + 2 from by omega]; exact c2
    · rw [show (l.length + j) * 5 + 3 - xs.length = j * 5 + 3 from by omega]; exact c3
    · rw [show (l.length + j) * 5 + 4 - xs.length = j * 5 + 4 from by omega]; exact c4
theorem two_vals {base : Nat} {W : World} {x : Value} (a1 a2 : Int) : ∀ (i : Nat) (v : VM), [VM.mk 0 a1 0 [] [], VM.mk 1 0 a2 [] []][i]? = some v → ∃ sb sl, [Value.int .i64 0, .int .u64 a1, .int .i64 0, .slice none 0 0, .slice none 0 0, .int .i64 1, .int .u64 0, .int .i64 a2, .slice none 0 0, .slice none 0 0][i * 5]? = some (.int .i64 v.kind) ∧ [Value.int .i64 0, .int .u64 a1, .int .i64 0, .slice none 0 0, .slice none 0 0, .int .i64 1, .int .u64 0, .int .i64 a2, .slice none 0 0, .slice none 0 0][i * 5 + 1]? = some (.int .u64 v.u) ∧ [Value.int .i64 0, .int .u64 a1, .int .i64 0, .slice none 0 0, .slice none 0 0, .int .i64 1, .int .u64 0, .int .i64 a2, .slice none 0 0, .slice none 0 0][i * 5 + 2]? = some (.int .i64 v.n) ∧ [Value.int .i64 0, .int .u64 a1, .int .i64 0, .slice none 0 0, .slice none 0 0, .int .i64 1, .int .u64 0, .int .i64 a2, .slice none 0 0, .slice none 0 0][i * 5 + 3]? = some sb ∧ [Value.int .i64 0, .int .u64 a1, .int .i64 0, .slice none 0 0, .slice none 0 0, .int .i64 1, .int .u64 0, .int .i64 a2, .slice none 0 0, .slice none 0 0][i * 5 + 4]? = some sl ∧
      RowP .u8 (fun g => base ≤ g ∧ g < W.heap.size ∧ x.ownBlock ≠ some g) W sb v.B ∧ RowP .i64 (fun g => base ≤ g ∧ g < W.heap.size ∧ x.ownBlock ≠ some g) W sl v.L := by
  intro i v hv
  match i, hv with
  | 0, hv => simp at hv; subst hv; exact ⟨_, _, rfl, rfl, rfl, rfl, rfl, nil_row _ _ _, nil_row _ _ _⟩
  | 1, hv => simp at hv; subst hv; exact ⟨_, _, rfl, rfl, rfl, rfl, rfl, nil_row _ _ _, nil_row _ _ _⟩
  | i + 2, hv => simp at hv
set_option maxRecDepth 100000 in
set_option maxHeartbeats 1000000 in
theorem wireRound_walk (a0 : Option Addr) (len0 cap0 : Nat) (z0 : List Int) (a1 : Int) (a2 : Int) (w : World) (w0 : IsRow .i64 w a0 len0 cap0 z0) (w1 : (Lit.int .u64 a1).wf = true) (w2 : (Lit.int .i64 a2).wf = true) :
    Calls Try.prog 5 #[.slice a0 len0 cap0, .int .u64 a1, .int .i64 a2] w fun e w' => e = .returned (.bool true) ∧ Below w.heap.size w w' := by
  obtain ⟨hr, hw⟩ := w0.row
  obtain ⟨i0, hi, hz0, hz1, hz2⟩ := info_parts info_val
  have hu : 0 ≤ a1 ∧ a1 < 18446744073709551616 := by
    simp [Lit.wf, IntKind.min, IntKind.max, IntKind.signed, IntKind.bits] at w1; omega
  obtain ⟨hu0, hu1⟩ := hu
  clear w0 w1
  go_enter Try.func5, Try.ntmps5
  go_wp2_with fail
  refine (vals_any a0 len0 cap0 _ _ hr hw).mono ?_
  rintro e W1 ⟨x, vs, xs, rfl, hV, hvo, hvl, hb1⟩
  dsimp only
  have hown := hV.1
  have hV2 := hV.below (laidB (Below.refl W1.heap.size W1) (.cells #[.int .i64 0, .int .u64 a1, .int .i64 0, .slice none 0 0, .slice none 0 0, .int .i64 1, .int .u64 0, .int .i64 a2, .slice none 0 0, .slice none 0 0] 28))
  go_wp2_with (at_builtin; refine wpList_append_own_at _ rfl _ _ 25 rfl w.heap.size 28 i0 _ 5 72 Try.underlying25 hi hz0 hz1 hz2 rfl (by decide) _ _ _ rfl (hown.alloc _) ⟨W1.heap.size, 0, none⟩ 2 2 [.int .i64 0, .int .u64 a1, .int .i64 0, .slice none 0 0, .slice none 0 0, .int .i64 1, .int .u64 0, .int .i64 a2, .slice none 0 0, .slice none 0 0] rfl rfl (news5' W1 #[.int .i64 0, .int .u64 a1, .int .i64 0, .slice none 0 0, .slice none 0 0, .int .i64 1, .int .u64 0, .int .i64 a2, .slice none 0 0, .slice none 0 0]) (by simp [Value.oneCell']) (by unfold maxLen; omega) (by omega) (by have := hb1.size; simp; omega) ?_; intro v' W2 hown4 hgrow4 _ hat4)
  have hV4 := VOut.pushes (m := [⟨0, a1, 0, [], []⟩, ⟨1, 0, a2, [], []⟩]) hV2 hown4 hgrow4 hat4 (two_vals a1 a2)
  have hvo4 : ∀ v ∈ vs ++ [⟨0, a1, 0, [], []⟩, ⟨1, 0, a2, [], []⟩], VM.ok v := by
    intro v hv
    rcases List.mem_append.1 hv with h1 | h1
    · exact hvo v h1
    · simp at h1
      rcases h1 with rfl | rfl
      · exact ⟨hu0, hu1, i64_wf (by simp) (by simp), by simp, by simp, by simp, by simp, .inl ⟨rfl, rfl, rfl, rfl⟩⟩
      · exact ⟨by simp, by simp, w2, by simp, by simp, by simp, by simp, .inr (.inl ⟨rfl, rfl, rfl, rfl⟩)⟩
  have hb2 : Below w.heap.size W1 W2 := ((Below.refl w.heap.size W1).alloc hb1.size _).grown hgrow4 (by have := hb1.size; simp; omega) (fun g e => (hown.lt g e).1)
  have hvl4 : (vs ++ [VM.mk 0 a1 0 [] [], VM.mk 1 0 a2 [] []]).length ≤ 10 := by simp; omega
  have b2 := hb1.trans hb2
  generalize vs ++ [VM.mk 0 a1 0 [] [], VM.mk 1 0 a2 [] []] = all at hV4 hvo4 hvl4
  clear hV2 hown4 hgrow4 hat4 hown hV hvo hvl hr hw hb1 hb2
  have hR := hV4.vrow
  refine (encode_any v' all _ hR hvo4 (by omega)).mono ?_
  rintro e W3 ⟨ae, ce, rfl, hoE, hrE, hb⟩
  have hR3 := hR.below hb
  have hs3 := hb.size
  have b3 := stepB b2 hb
  have hlE := vsbytes_len all hvo4
  have hrg := vsbytes_rng all hvo4
  dsimp only
  go_wp2_with fail
  refine (read_any _ (vsbytes all) _ hrE (by omega)).mono ?_
  rintro e W4 ⟨r, d, rfl, hr1, hd1, hRd, hb4⟩
  have hR4 := (hR3.more hs3).below hb4
  have hs4 := hb4.size
  have b4 := stepB b3 hb4
  have HRG := Lib.hid hrg
  have hw3 := b3.size
  clear hV4 hb hb4 b3 b2 hrE hoE hR hR3 hrg
  obtain ⟨av, cv, rfl, hlc, hcm, hcells⟩ := hR4
  unfold maxLen at hcm
  dsimp only
  go_wp2_with fail
  go_loopw [9] (fun i wr => ∃ k : Nat, k ≤ all.length ∧ i = .int .i64 (k : Int) ∧ Rd wr r d (vsbytes (all.drop k)) 0 ∧ Below W3.heap.size W4 wr) (fun i _ => all.length - (intOf i).toNat)
  case atStart => exact ⟨0, Nat.zero_le _, rfl, hRd, Below.refl _ _⟩
  case round =>
    clear hRd
    obtain ⟨k, hk, rfl, hRd, hB⟩ := hrel
    by_cases hlt : k < all.length
    · obtain ⟨b, off, rfl, hbn, hc⟩ := hcells.resolve_left (by rintro rfl; simp at hlt)
      have hgk : all[k]? = some all[k] := List.getElem?_eq_getElem hlt
      obtain ⟨sb, sl, r1, r2, c0, c1, c2, c3, c4⟩ := hc k _ hgk
      have hok := hvo4 _ (List.mem_of_getElem? hgk)
      have ht := vsbytes_drop all k _ hgk
      have hdr : ∀ x ∈ vsbytes (all.drop k), 0 ≤ x ∧ x < 256 := vsbytes_rng _ (fun v hv => hvo4 v (List.mem_of_mem_drop hv))
      have hdl := vsbytes_len (all.drop k) (fun v hv => hvo4 v (List.mem_of_mem_drop hv))
      have hdl2 : (all.drop k).length ≤ 10 := by rw [List.length_drop]; omega
      generalize all[k] = v at *
      replace r1 := RowP.below hB r1
      replace r2 := RowP.below hB r2
      replace c0 := (hB.cell (p := ⟨b, _, none⟩) hbn).trans c0
      replace c1 := (hB.cell (p := ⟨b, _, none⟩) hbn).trans c1
      replace c2 := (hB.cell (p := ⟨b, _, none⟩) hbn).trans c2
      replace c3 := (hB.cell (p := ⟨b, _, none⟩) hbn).trans c3
      replace c4 := (hB.cell (p := ⟨b, _, none⟩) hbn).trans c4
      have hM := readM_vbytes v (vsbytes (all.drop (k + 1))) hok
      have hkk := hok.canon
      have hk6 : 0 ≤ v.kind ∧ v.kind < 6 := by unfold VM.canon at hkk; omega
      have HM := Lib.hid hM
      have HT := Lib.hid ht
      have HG := Lib.hid hgk
      have HD := Lib.hid hdr
      have hi1 : (k : Int) < all.length := by omega
      have hi0 : (0 : Int) ≤ (k : Int) := by omega
      clear hgk ht hc hcells hM hdr hkk
      have hsr := hB.size
      have hRd' : Rd wr.drew r d (vsbytes (all.drop k)) 0 := hRd
      have Hcall : Calls Try.prog 22 #[.pointer (some ⟨r, 0, none⟩), .int .i64 v.kind] wr.drew fun e W' => ∃ sb' sl', e = .returned (.agg #[.int .i64 v.kind, .int .u64 v.u, .int .i64 v.n, sb', sl']) ∧ Row .u8 W'.heap.size W' sb' v.B ∧ Row .i64 W'.heap.size W' sl' v.L ∧ Rd W' r d (vsbytes (all.drop (k + 1))) 0 ∧ Below W3.heap.size wr.drew W' ∧ wr.heap.size ≤ W'.heap.size := by
        refine (lread_any r d v.kind _ 0 wr.drew hRd' HD.out (by omega) hk6).mono ?_
        rw [HT.out, HM.out]
        rintro e W' ⟨x', rfl, ⟨sb', sl', rfl, q1, q2⟩, q3, q4⟩
        exact ⟨sb', sl', rfl, q1, q2, q3, only_below q4 (by omega) hRd.lt, q4.size⟩
      have HC := Lib.hid Hcall
      clear Hcall
      go_wp2_with fail
      go_region_held3 (fun w' => w'.cell? ⟨b, off + k * 5, none⟩ = some (.int .i64 v.kind) ∧ w'.cell? ⟨b, off + k * 5 + 1, none⟩ = some (.int .u64 v.u) ∧ w'.cell? ⟨b, off + k * 5 + 2, none⟩ = some (.int .i64 v.n) ∧ w'.cell? ⟨b, off + k * 5 + 3, none⟩ = some sb ∧ w'.cell? ⟨b, off + k * 5 + 4, none⟩ = some sl)
        (first | go_keep) (first
          | (go_at_call 22; refine HC.out.mono ?_; rintro e W5 ⟨sb', sl', rfl, q1, q2, q3, q4, q5⟩; dsimp only; have d0 := (q4.cell (p := ⟨b, off + k * 5, none⟩) hbn).trans c0; have d1 := (q4.cell (p := ⟨b, off + k * 5 + 1, none⟩) hbn).trans c1; have d2 := (q4.cell (p := ⟨b, off + k * 5 + 2, none⟩) hbn).trans c2; have d3 := (q4.cell (p := ⟨b, off + k * 5 + 3, none⟩) hbn).trans c3; have d4 := (q4.cell (p := ⟨b, off + k * 5 + 4, none⟩) hbn).trans c4)
          | (go_at_call 21; refine (same_self v.kind v.u v.n sb' sl' sb sl v.B v.L _ q1 q2 (RowP.mono (fun g hg => by omega) (RowP.below q4 r1)) (RowP.mono (fun g hg => by omega) (RowP.below q4 r2))).mono ?_; rintro e W6 ⟨rfl, hb6⟩; dsimp only; have e0 := cellB d0 hb6; have e1 := cellB d1 hb6; have e2 := cellB d2 hb6; have e3 := cellB d3 hb6; have e4 := cellB d4 hb6))
      have hR6 := q3.below q3.lt q3.dlt hb6
      have hB6 : Below W3.heap.size W4 W6 := (hB.drew.trans q4).trans (hb6.mono (by omega))
      clear d0 d1 d2 d3 d4 e0 e1 e2 e3 e4 c0 c1 c2 c3 c4
      go_wp2_with fail
      go_roundw
      case rel => exact ⟨k + 1, by omega, by go_num, hR6, hB6⟩
      case measure => simp [intOf]; omega
    · have hkl : k = all.length := by omega
      have hd : vsbytes (all.drop k) = [] := by rw [List.drop_eq_nil_of_le (by omega)]; rfl
      rw [hd] at hRd
      have b5 := b4.trans (hB.mono hw3)
      clear hd hkl hcells
      go_wp2_with fail
      refine (end_any r d [] 0 _ hRd).mono ?_
      rintro e W5 ⟨rfl, rfl⟩
      rw [show rEnd [] 0 = 0 from by decide]
      dsimp only
      go_wp2_with fail
      refine (lives2_any _).mono ?_
      rintro e W6 ⟨rfl, hb⟩
      dsimp only
      go_wp2_with fail
      go_ret
      exact ⟨rfl, stepB b5 hb⟩
end Go.Proofs.Ytpoldhblddlcpaa
