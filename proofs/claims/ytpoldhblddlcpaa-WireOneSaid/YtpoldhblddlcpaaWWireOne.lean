/- WireOne: the walk. -/
import Derived.Test.YtpoldhblddlcpaaVals
import Derived.Test.YtpoldhblddlcpaaVBack
import Derived.Test.YtpoldhblddlcpaaRefVal
import Derived.Test.YtpoldhblddlcpaaWireLives
import Derived.Deep.DeepCutAuto
namespace Go.Proofs.Ytpoldhblddlcpaa
open Go.RowKit Go.Shelf
set_option linter.unusedVariables false

/-- Values read, collected: their cells are the call's own. -/
theorem rd_d' {W : World} {b d : Nat} {zs : List Int} {e : Int} (h : Rd W b d zs e) : ∃ d', Rd W b d' zs e ∧ d' < W.heap.size ∧ (d' = b ∨ d' = d) := by
  rcases h.dlt with rfl | hd
  · obtain ⟨_, v, hv, hr⟩ := h
    refine ⟨b, ⟨.inl rfl, v, hv, ?_⟩, (Array.getElem?_eq_some_iff.1 hv).1, .inl rfl⟩
    rcases hr with e | ⟨q, off, cap, e, h1, h2, _, _⟩
    · exact .inl e
    · exact .inl ⟨_, cap, e, h2, (fun h => by cases h), rfl⟩
  · exact ⟨d, h, hd, .inr rfl⟩
theorem rowP_slice {k : IntKind} {p : Nat → Prop} {W : World} {v : Value} {zs : List Int} (h : RowP k p W v zs) : ∃ a cap, v = .slice a zs.length cap := by
  rcases h with ⟨a, cap, rfl, _, _, rfl⟩ | ⟨b, off, cap, rfl, _⟩
  · exact ⟨_, _, rfl⟩
  · exact ⟨_, _, rfl⟩
theorem VOut.only {base r : Nat} {W W' : World} {x : Value} {l : List VM} {xs : List Value} (h : VOut base W x l xs) (ho : Only r W W') (hr : r < base) : VOut base W' x l xs := by
  obtain ⟨h1, hc⟩ := h
  have hs := ho.size
  refine ⟨h1.kept ho (.inr fun e => by have := (h1.lt _ e).1; omega), fun i v hv => ?_⟩
  obtain ⟨sb, sl, c0, c1, c2, c3, c4, r1, r2⟩ := hc i v hv
  have kp : KeepP (fun g => base ≤ g ∧ g < W.heap.size ∧ x.ownBlock ≠ some g) W W' := ⟨fun g hg => ho.block g hg.2.1 (by simp; omega)⟩
  exact ⟨sb, sl, c0, c1, c2, c3, c4, (r1.keep kp).mono (fun g hg => ⟨hg.1, by omega, hg.2.2⟩), (r2.keep kp).mono (fun g hg => ⟨hg.1, by omega, hg.2.2⟩)⟩

set_option maxRecDepth 100000 in
set_option maxHeartbeats 4000000 in
theorem wireOne_walk (a0 : Option Addr) (len0 cap0 : Nat) (z0 : List Int) (a1 : Option Addr) (len1 cap1 : Nat) (z1 : List Int) (a2 : Int) (a3 : Int) (a4 : Option Addr) (len4 cap4 : Nat) (z4 : List Int) (w : World) (w0 : IsRow .u8 w a0 len0 cap0 z0) (w1 : IsRow .i64 w a1 len1 cap1 z1) (w2 : (Lit.int .i64 a2).wf = true) (w3 : (Lit.int .u8 a3).wf = true) (w4 : IsRow .i64 w a4 len4 cap4 z4) :
    Calls Try.prog 6 #[.slice a0 len0 cap0, .slice a1 len1 cap1, .int .i64 a2, .int .u8 a3, .slice a4 len4 cap4] w fun e w' => e = .returned (.bool true) ∧ Below w.heap.size w w' := by
  obtain ⟨hr0, hw0⟩ := w0.row
  obtain ⟨hr1, hw1⟩ := w1.row
  obtain ⟨hr4, hw4⟩ := w4.row
  generalize z4.take len4 = K4 at hr4 hw4
  have hl4 := hr4.len
  subst hl4
  obtain ⟨i0, hi, hz0, hz1, hz2⟩ := info_parts info_val
  have hc3 : 0 ≤ a3 ∧ a3 < 256 := by have := u8_rng1 w3; omega
  have HC3 := Lib.hid hc3
  have W2f := Lib.hid w2
  clear w0 w1 w2 w3 w4 hc3
  go_enter Try.func6, Try.ntmps6
  go_wp2_with fail
  refine (vals_any a1 len1 cap1 _ _ hr1 hw1).mono ?_
  rintro e W1 ⟨x, all, xs, rfl, hV, hvo, hvl, hb1⟩
  dsimp only
  go_wp2_with fail
  have hR := hV.vrow
  refine (encode_any x all _ hR hvo (by omega)).mono ?_
  rintro e W3 ⟨ae, ce, rfl, hoE, hrE, hb⟩
  have hR3 := hR.below hb
  have b3 := stepB hb1 hb
  have hlE := vsbytes_len all hvo
  have hrg := vsbytes_rng all hvo
  have hce := hrE.lencap
  unfold maxLen at hce
  have HRG := Lib.hid hrg
  have hs13 := hb.size
  clear hV hb hr1 hw1 hrg hrE
  dsimp only
  go_upto_if 24 with (fail)
  go_cut [] (fun wx => ∃ Z : List Int, Z.length = (vsbytes all).length ∧ (∀ x ∈ Z, 0 ≤ x ∧ x < 256) ∧ wx.ownsRow W1.heap.size 5 1 (.slice ae (vsbytes all).length ce) (vsbytes all).length (Z.map (Value.int .u8)) ∧ Below W1.heap.size W3 wx)
  case first =>
    by_cases hz : (vsbytes all).length = 0
    · have hzb : ¬ 0 < (vsbytes all).length := by omega
      have HZ := Lib.hid hz; clear hz
      go_wp2_with fail
      go_meet
      exact ⟨vsbytes all, rfl, HRG.out, hoE, Below.refl _ _⟩
    · have hzp : 0 < (vsbytes all).length := by omega
      have hzb : decide (0 < (vsbytes all).length) = true := decide_eq_true (by omega)
      obtain ⟨ge, rfl, hge, _⟩ := owns_at hoE hzp
      have HZ := Lib.hid hz; clear hz
      go_wp2_with fail
      refine (around_any a2 (vsbytes all).length _ W2f.out (by omega) (by omega)).mono ?_
      rintro e W4 ⟨rfl, rfl⟩
      have hj0 := aroundI_lo a2 (vsbytes all).length (by omega)
      have hj1 := aroundI_hi a2 (vsbytes all).length (by omega)
      generalize aroundI a2 (vsbytes all).length = jj at *
      obtain ⟨j, rfl⟩ := Int.eq_ofNat_of_zero_le hj0
      clear hj0
      have hjl : j < (vsbytes all).length := by omega
      have hcell := owns_cell hoE j hjl
      have hfz := hoE.frozenAt j
      have hset := owns_set hoE j a3
      have HS := Lib.hid hset; clear hset
      dsimp only
      go_wp2_with fail
      go_meet
      refine ⟨(vsbytes all).set j a3, by simp, ?_, HS.out, (Below.refl _ _).setCell hge _⟩
      intro x hx
      rcases List.mem_or_eq_of_mem_set hx with h1 | h1
      · exact HRG.out x h1
      · subst h1; exact HC3.out
  case rest =>
    obtain ⟨Z, hZl, hZr, hoT, hbT⟩ := hcut
    have hRT := hR3.below hbT
    have bT := b3.trans (hbT.mono (by have := hb1.size; omega))
    have hsT := hbT.size
    have HZR := Lib.hid hZr
    rw [← hZl] at hoT hlE hce
    have hrT := (row_of_owns hoT).1
    have hs1 := hb1.size
    generalize (vsbytes all).length = LZ at *
    subst hZl
    clear hR3 hbT hoE hZr hR HRG
    obtain ⟨av, cv, rfl, hlc, hcm, hcells⟩ := hRT
    unfold maxLen at hcm
    go_wp2_with fail
    refine (read_any _ Z _ hrT (by omega)).mono ?_
    rintro e W5 ⟨r, d, rfl, hr1, hd1, hRd, hb5⟩
    obtain ⟨d, hRd, hdl, _⟩ := rd_d' hRd
    have hrl := hRd.lt
    have hs5 := hb5.size
    have HB5 := Lib.hid hb5
    have b5 := stepB bT hb5
    have HcT : Hid (Below W1.heap.size wc W5) := Lib.hid (hb5.mono (by omega))
    dsimp only
    clear hrT
    have hGot0 : Got Z [] Z 0 := fun _ => ⟨by simp, by simp [vsbytes]⟩
    go_wp2_with fail
    go_loopw [14, 15] (fun v i wr => ∃ (k : Nat) (gs : List VM) (xs : List Value) (zs : List Int) (e : Int), k ≤ all.length ∧ i = .int .i64 (k : Int) ∧ gs.length ≤ k ∧ VOut W5.heap.size wr v gs xs ∧ Rd wr r d zs e ∧ Got Z gs zs e ∧ (∀ x ∈ zs, 0 ≤ x ∧ x < 256) ∧ zs.length ≤ 24000 ∧ Below wc.heap.size W5 wr) (fun _ i _ => all.length - (intOf i).toNat)
    case atStart => exact ⟨0, [], [], Z, 0, Nat.zero_le _, rfl, by simp, VOut.nil _ _, hRd, hGot0, HZR.out, by omega, Below.refl _ _⟩
    case round =>
      clear hRd hGot0
      obtain ⟨k, gs, xs2, zs, er, hk, rfl, hgl, hV, hR1, hG, hzs, hzl, hB⟩ := hrel
      have hsr := hB.size
      by_cases hlt : k < all.length
      · obtain ⟨b, off, rfl, hbn, hc⟩ := hcells.resolve_left (by rintro rfl; simp at hlt)
        have hgk : all[k]? = some all[k] := List.getElem?_eq_getElem hlt
        obtain ⟨sb, sl, _, _, c0, _, _, _, _⟩ := hc k _ hgk
        have hok := hvo _ (List.mem_of_getElem? hgk)
        generalize all[k] = v at *
        have hkk := hok.canon
        have hk6 : 0 ≤ v.kind ∧ v.kind < 6 := by unfold VM.canon at hkk; omega
        have c0' := (hB.cell (p := ⟨b, off + k * 5, none⟩) (by show b < wc.heap.size; omega)).trans (((HcT.out).cell (p := ⟨b, off + k * 5, none⟩) hbn).trans c0)
        have hG2 := hG.step v.kind hk6 hzs (by omega)
        have hzs2 := readM_left v.kind zs er (fun x => 0 ≤ x ∧ x < 256) hzs
        have hzl2 := readM_len v.kind zs er
        have hi1 : (k : Int) < all.length := by omega
        have HG2 := Lib.hid hG2
        have HZS := Lib.hid hzs
        have HZS2 := Lib.hid hzs2
        have HGK := Lib.hid hgk
        clear hgk hc hcells hkk hzs hzs2 hG hG2 c0
        go_wp2_with fail
        refine (lread_new r d v.kind zs er _ hR1 HZS.out (by omega) hk6).mono ?_
        generalize readM v.kind zs er = RM at *
        rintro e W9 ⟨sb9, sl9, rfl, q1, q2, hR9, ho9⟩
        obtain ⟨asb, csb, rfl⟩ := rowP_slice q1
        obtain ⟨asl, csl, rfl⟩ := rowP_slice q2
        have hV9 := hV.only ho9 hrl
        have hown9 := hV9.1
        have hB9 := hB.trans (only_below ho9 (by omega) hR1.lt)
        have hs9 := ho9.size
        have hxw : ∀ g, wr.heap.size ≤ g → u14.ownBlock ≠ some g := fun g hg e => by have := (hV.1.lt _ e).2; omega
        have HX := Lib.hid hxw
        clear c0' hR1 hxw
        dsimp only
        go_wp2_with (at_builtin; refine wpList_append_own_at _ rfl _ _ 25 rfl W5.heap.size 28 i0 _ 5 72 Try.underlying25 hi hz0 hz1 hz2 rfl (by decide) _ _ _ rfl (hown9.alloc _) ⟨W9.heap.size, 0, none⟩ 1 1 [.int .i64 RM.1.kind, .int .u64 RM.1.u, .int .i64 RM.1.n, .slice asb RM.1.B.length csb, .slice asl RM.1.L.length csl] rfl rfl (news5' W9 #[.int .i64 RM.1.kind, .int .u64 RM.1.u, .int .i64 RM.1.n, .slice asb RM.1.B.length csb, .slice asl RM.1.L.length csl]) (by simp [Value.oneCell']) (by unfold maxLen; omega) (by omega) (by simp; omega) ?_; intro v' w4 hown4 hgrow4 _ hat4)
        have hk' : k + 1 ≤ all.length := hlt
        have hs59 : W5.heap.size ≤ W9.heap.size := by omega
        have hb4 : Below W5.heap.size W9 w4 := ((Below.refl W5.heap.size W9).alloc hs59 _).grown hgrow4 (by simp; omega) (fun g e => (hown9.lt g e).1)
        have hR4 := hR9.below hrl (.inr hdl) hb4
        go_roundw
        case rel => exact ⟨k + 1, gs ++ [RM.1], xs2 ++ [.int .i64 RM.1.kind, .int .u64 RM.1.u, .int .i64 RM.1.n, .slice asb RM.1.B.length csb, .slice asl RM.1.L.length csl], RM.2.1, RM.2.2, by omega, by go_num, by simp; omega, VOut.push (v := RM.1) (hV9.below (laidB (Below.refl W9.heap.size W9) _)) hown4 hgrow4 hat4 (row_own3 q1 (by omega) HX.out) (row_own3 q2 (by omega) HX.out), hR4, HG2.out, HZS2.out, by omega, hB9.trans (hb4.mono (by omega))⟩
        case measure => simp [intOf]; omega
      · have b9 := b5.trans (hB.mono (by have := bT.size; omega))
        have hrT9 := (row_of_owns (owns_kept_below hoT (HB5.out.trans hB))).1
        have hVr := hV.vrow
        clear hcells hoT hgl hV
        obtain ⟨wo, ewo⟩ : ∃ X : World, X = wr := ⟨wr, rfl⟩
        subst ewo
        go_upto_region 13 with (fail)
        go_cut [61] (fun s wx => s = .bool false ∧ Below w.heap.size w wx)
        case first =>
          by_cases he : rEnd zs er = 0
          · obtain ⟨hok, hZ⟩ := hG.fin he
            have hbt : (rEnd zs er == 0) = true := by simp [he]
            have HE := Lib.hid he
            have HOK := Lib.hid hok
            have HZ := Lib.hid hZ
            clear he hok hZ
            go_wp2_with fail
            refine (end_any r d zs er _ hR1).mono ?_
            rintro e W10 ⟨rfl, rfl⟩
            rw [HE.out]
            dsimp only
            go_wp2_with fail
            refine (encodeL_any u14 gs _ hVr HOK.out (by rw [← HZ.out]; omega)).mono ?_
            rw [← HZ.out]
            rintro e W11 ⟨ag, cg, rfl, _, hrg, hb11⟩
            have b11 := stepB b9 hb11
            dsimp only
            go_wp2_with fail
            refine (sameBytes_any ag Z.length cg Z ae Z.length ce Z _ hrg (rowB hrT9 hb11)).mono ?_
            rintro e W12 ⟨rfl, hb12⟩
            rw [show (Z == Z) = true from beq_self_eq_true _]
            dsimp only
            go_wp2_with fail
            go_meet
            exact ⟨rfl, stepB b11 hb12⟩
          · have hbf : (rEnd zs er == 0) = false := by simpa using he
            have HE := Lib.hid he
            clear he
            go_wp2_with fail
            refine (end_any r d zs er _ hR1).mono ?_
            rintro e W10 ⟨rfl, rfl⟩
            dsimp only
            go_wp2_with fail
            go_meet
            exact ⟨rfl, b9⟩
        case rest =>
          obtain ⟨rfl, hbc⟩ := hcut
          clear hVr hrT9 hR1 hG hzs hB b9
          have hr0' := rowB hr0 hbc
          have hr4' := rowB hr4 hbc
          go_wp2_with fail
          refine (few_int _ (z0.take len0) 60 _ hr0' (by omega) (by omega)).mono ?_
          rintro e V1 ⟨aF, cF, rfl, _, hrF, hbF⟩
          have hFl : ((z0.take len0).take (60 : Int).toNat).length ≤ 60 := by rw [List.length_take]; exact Nat.min_le_left _ _
          have hFw := take_wf hw0 (60 : Int).toNat
          generalize (z0.take len0).take (60 : Int).toNat = F at hrF hFl hFw ⊢
          have hFr : ∀ x ∈ F, 0 ≤ x ∧ x < 256 := fun x hx => by have := u8_rng1 (hFw x hx); omega
          have b1 := stepB hbc hbF
          have hr4F := rowB hr4' hbF
          have HFR := Lib.hid hFr
          clear hr0' hr4' hbc hbF hFw hFr hr0 hr4
          dsimp only
          go_wp2_with fail
          refine (read_any _ F _ hrF (by omega)).mono ?_
          rintro e W5 ⟨r, d, rfl, hr1, hd1, hRd, hb5⟩
          obtain ⟨d, hRd, hdl, _⟩ := rd_d' hRd
          have hrl := hRd.lt
          have hs5 := hb5.size
          have b5 := stepB b1 hb5
          have hrF5 := RowP.below hb5 hrF
          have hr45 := RowP.below hb5 hr4F
          have hlc4 := hr4F.lencap
          unfold maxLen at hlc4
          have hGot0 : Got F [] F 0 := fun _ => ⟨by simp, by simp [vsbytes]⟩
          have hb1s := b1.size
          clear hrF hr4F hb5 b1 hd1
          dsimp only
          go_wp2_with fail
          go_loopw [14, 17] (fun v i wr => ∃ (k : Nat) (gs : List VM) (xs : List Value) (zs : List Int) (e : Int), k ≤ K4.length ∧ k ≤ 10 ∧ i = .int .i64 (k : Int) ∧ gs.length ≤ k ∧ VOut W5.heap.size wr v gs xs ∧ Rd wr r d zs e ∧ Got F gs zs e ∧ (∀ x ∈ zs, 0 ≤ x ∧ x < 256) ∧ zs.length ≤ 60 ∧ Below V1.heap.size W5 wr) (fun _ i _ => 10 - (intOf i).toNat)
          case atStart => exact ⟨0, [], [], F, 0, Nat.zero_le _, by omega, rfl, by simp, VOut.nil _ _, hRd, hGot0, HFR.out, by omega, Below.refl _ _⟩
          case round =>
            clear hRd hGot0
            obtain ⟨k, gs, xs2, zs, er, hk, hk10, rfl, hgl, hV, hR1, hG, hzs, hzl, hB⟩ := hrel
            have hsr := hB.size
            have b9 := b5.trans (hB.mono hb1s)
            have hrF9 := RowP.mono (q := fun g => g < wr.heap.size) (fun g hg => by omega) (RowP.keep (KeepP.of_below hB (n := V1.heap.size) (p := fun g => g < V1.heap.size) (fun g hg => hg)) hrF5)
            have hVr := hV.vrow
            by_cases hlt : k < K4.length
            · by_cases hlt8 : k < 10
              · have hk10' : (k : Int) < 10 := by omega
                by_cases he : rEnd zs er = 0
                · obtain ⟨hok, hZ⟩ := hG.fin he
                  have hbt : (rEnd zs er == 0) = true := by simp [he]
                  have hbt2 : (rEnd zs er != 0) = false := by simp [he]
                  have HE := Lib.hid he
                  have HOK := Lib.hid hok
                  have HZ := Lib.hid hZ
                  clear he hok hZ
                  go_wp2_with fail
                  refine (end_any r d zs er _ hR1).mono ?_
                  rintro e W20 ⟨rfl, rfl⟩
                  rw [HE.out]
                  dsimp only
                  go_wp2_with fail
                  refine (end_any r d zs er _ hR1).mono ?_
                  rintro e W10 ⟨rfl, rfl⟩
                  rw [HE.out]
                  dsimp only
                  go_wp2_with fail
                  refine (encodeL_any _ gs _ hVr HOK.out (by rw [← HZ.out]; omega)).mono ?_
                  rw [← HZ.out]
                  rintro e W11 ⟨ag, cg, rfl, _, hrg, hb11⟩
                  have b11 := stepB b9 hb11
                  dsimp only
                  go_wp2_with fail
                  refine (sameBytes_any ag F.length cg F aF F.length cF F _ hrg (rowB hrF9 hb11)).mono ?_
                  rintro e W12 ⟨rfl, hb12⟩
                  rw [show (F == F) = true from beq_self_eq_true _]
                  have b12 := stepB b11 hb12
                  dsimp only
                  go_wp2_with fail
                  refine (lives2_any _).mono ?_
                  rintro e W13 ⟨rfl, hb13⟩
                  dsimp only
                  go_wp2_with fail
                  go_ret
                  exact ⟨rfl, stepB b12 hb13⟩
                · have hbf : (rEnd zs er == 0) = false := by simpa using he
                  have hbf2 : (rEnd zs er != 0) = true := by simpa using he
                  have HE := Lib.hid he
                  clear he
                  obtain ⟨b, off, rfl, hbn, hc⟩ := hr45.at (by omega)
                  have c0 : wr.cell? ⟨b, off + k, none⟩ = some (.int .i64 (K4[k]?.getD 0)) := (hB.cell (p := ⟨b, off + k, none⟩) hbn).trans (hc k hlt)
                  have hx : (Lit.int .i64 (K4[k]?.getD 0)).wf = true := by
                    rw [List.getElem?_eq_getElem hlt]; exact hw4 _ (List.getElem_mem hlt)
                  generalize K4[k]?.getD 0 = x4 at c0 hx
                  have hi1 : (k : Int) < K4.length := by omega
                  clear hc hr45
                  go_wp2_with fail
                  refine (end_any r d zs er _ hR1).mono ?_
                  rintro e W20 ⟨rfl, rfl⟩
                  dsimp only
                  go_wp2_with fail
                  refine (around_any x4 6 _ hx (by omega) (by omega)).mono ?_
                  rintro e W21 ⟨rfl, rfl⟩
                  have hK0 := aroundI_lo x4 6 (by omega)
                  have hK1 := aroundI_hi x4 6 (by omega)
                  generalize aroundI x4 6 = KK at *
                  have hG2 := hG.step KK ⟨hK0, hK1⟩ hzs (by omega)
                  have hzs2 := readM_left KK zs er (fun x => 0 ≤ x ∧ x < 256) hzs
                  have hzl2 := readM_len KK zs er
                  have HG2 := Lib.hid hG2
                  have HZS := Lib.hid hzs
                  have HZS2 := Lib.hid hzs2
                  clear hzs hzs2 hG hG2
                  dsimp only
                  go_wp2_with fail
                  refine (lread_new r d KK zs er _ hR1 HZS.out (by omega) ⟨hK0, hK1⟩).mono ?_
                  generalize readM KK zs er = RM at *
                  rintro e W9 ⟨sb9, sl9, rfl, q1, q2, hR9, ho9⟩
                  obtain ⟨asb, csb, rfl⟩ := rowP_slice q1
                  obtain ⟨asl, csl, rfl⟩ := rowP_slice q2
                  have hV9 := hV.only ho9 hrl
                  have hown9 := hV9.1
                  have hB9 := hB.trans (only_below ho9 (by omega) hR1.lt)
                  have hs9 := ho9.size
                  have hxw : ∀ g, W21.heap.size ≤ g → u14.ownBlock ≠ some g := fun g hg e => by have := (hV.1.lt _ e).2; omega
                  have HX := Lib.hid hxw
                  clear hR1 hxw c0
                  dsimp only
                  go_wp2_with (at_builtin; refine wpList_append_own_at _ rfl _ _ 25 rfl W5.heap.size 28 i0 _ 5 72 Try.underlying25 hi hz0 hz1 hz2 rfl (by decide) _ _ _ rfl (hown9.alloc _) ⟨W9.heap.size, 0, none⟩ 1 1 [.int .i64 RM.1.kind, .int .u64 RM.1.u, .int .i64 RM.1.n, .slice asb RM.1.B.length csb, .slice asl RM.1.L.length csl] rfl rfl (news5' W9 #[.int .i64 RM.1.kind, .int .u64 RM.1.u, .int .i64 RM.1.n, .slice asb RM.1.B.length csb, .slice asl RM.1.L.length csl]) (by simp [Value.oneCell']) (by unfold maxLen; omega) (by omega) (by simp; omega) ?_; intro v' w4 hown4 hgrow4 _ hat4)
                  have hk' : k + 1 ≤ K4.length := hlt
                  have hs59 : W5.heap.size ≤ W9.heap.size := by omega
                  have hb4 : Below W5.heap.size W9 w4 := ((Below.refl W5.heap.size W9).alloc hs59 _).grown hgrow4 (by simp; omega) (fun g e => (hown9.lt g e).1)
                  have hR4 := hR9.below hrl (.inr hdl) hb4
                  go_roundw
                  case rel => exact ⟨k + 1, gs ++ [RM.1], xs2 ++ [.int .i64 RM.1.kind, .int .u64 RM.1.u, .int .i64 RM.1.n, .slice asb RM.1.B.length csb, .slice asl RM.1.L.length csl], RM.2.1, RM.2.2, by omega, by omega, by go_num, by simp; omega, VOut.push (v := RM.1) (hV9.below (laidB (Below.refl W9.heap.size W9) _)) hown4 hgrow4 hat4 (row_own3 q1 (by omega) HX.out) (row_own3 q2 (by omega) HX.out), hR4, HG2.out, HZS2.out, by omega, hB9.trans (hb4.mono (by omega))⟩
                  case measure => simp [intOf]; omega
              · have hk10' : ¬ (k : Int) < 10 := by omega
                by_cases he : rEnd zs er = 0
                · obtain ⟨hok, hZ⟩ := hG.fin he
                  have hbt : (rEnd zs er == 0) = true := by simp [he]
                  have hbt2 : (rEnd zs er != 0) = false := by simp [he]
                  have HE := Lib.hid he
                  have HOK := Lib.hid hok
                  have HZ := Lib.hid hZ
                  clear he hok hZ
                  go_wp2_with fail
                  refine (end_any r d zs er _ hR1).mono ?_
                  rintro e W10 ⟨rfl, rfl⟩
                  rw [HE.out]
                  dsimp only
                  go_wp2_with fail
                  refine (encodeL_any _ gs _ hVr HOK.out (by rw [← HZ.out]; omega)).mono ?_
                  rw [← HZ.out]
                  rintro e W11 ⟨ag, cg, rfl, _, hrg, hb11⟩
                  have b11 := stepB b9 hb11
                  dsimp only
                  go_wp2_with fail
                  refine (sameBytes_any ag F.length cg F aF F.length cF F _ hrg (rowB hrF9 hb11)).mono ?_
                  rintro e W12 ⟨rfl, hb12⟩
                  rw [show (F == F) = true from beq_self_eq_true _]
                  have b12 := stepB b11 hb12
                  dsimp only
                  go_wp2_with fail
                  refine (lives2_any _).mono ?_
                  rintro e W13 ⟨rfl, hb13⟩
                  dsimp only
                  go_wp2_with fail
                  go_ret
                  exact ⟨rfl, stepB b12 hb13⟩
                · have hbf : (rEnd zs er == 0) = false := by simpa using he
                  have hbf2 : (rEnd zs er != 0) = true := by simpa using he
                  have HE := Lib.hid he
                  clear he
                  go_wp2_with fail
                  refine (end_any r d zs er _ hR1).mono ?_
                  rintro e W10 ⟨rfl, rfl⟩
                  dsimp only
                  go_wp2_with fail
                  refine (lives2_any _).mono ?_
                  rintro e W13 ⟨rfl, hb13⟩
                  dsimp only
                  go_wp2_with fail
                  go_ret
                  exact ⟨rfl, stepB b9 hb13⟩
            · by_cases he : rEnd zs er = 0
              · obtain ⟨hok, hZ⟩ := hG.fin he
                have hbt : (rEnd zs er == 0) = true := by simp [he]
                have hbt2 : (rEnd zs er != 0) = false := by simp [he]
                have HE := Lib.hid he
                have HOK := Lib.hid hok
                have HZ := Lib.hid hZ
                clear he hok hZ
                go_wp2_with fail
                refine (end_any r d zs er _ hR1).mono ?_
                rintro e W10 ⟨rfl, rfl⟩
                rw [HE.out]
                dsimp only
                go_wp2_with fail
                refine (encodeL_any _ gs _ hVr HOK.out (by rw [← HZ.out]; omega)).mono ?_
                rw [← HZ.out]
                rintro e W11 ⟨ag, cg, rfl, _, hrg, hb11⟩
                have b11 := stepB b9 hb11
                dsimp only
                go_wp2_with fail
                refine (sameBytes_any ag F.length cg F aF F.length cF F _ hrg (rowB hrF9 hb11)).mono ?_
                rintro e W12 ⟨rfl, hb12⟩
                rw [show (F == F) = true from beq_self_eq_true _]
                have b12 := stepB b11 hb12
                dsimp only
                go_wp2_with fail
                refine (lives2_any _).mono ?_
                rintro e W13 ⟨rfl, hb13⟩
                dsimp only
                go_wp2_with fail
                go_ret
                exact ⟨rfl, stepB b12 hb13⟩
              · have hbf : (rEnd zs er == 0) = false := by simpa using he
                have hbf2 : (rEnd zs er != 0) = true := by simpa using he
                have HE := Lib.hid he
                clear he
                go_wp2_with fail
                refine (end_any r d zs er _ hR1).mono ?_
                rintro e W10 ⟨rfl, rfl⟩
                dsimp only
                go_wp2_with fail
                refine (lives2_any _).mono ?_
                rintro e W13 ⟨rfl, hb13⟩
                dsimp only
                go_wp2_with fail
                go_ret
                exact ⟨rfl, stepB b9 hb13⟩
end Go.Proofs.Ytpoldhblddlcpaa
