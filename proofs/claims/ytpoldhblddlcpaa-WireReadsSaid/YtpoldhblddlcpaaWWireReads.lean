/- WireReads: the walk. -/
import Derived.Test.YtpoldhblddlcpaaRefRd3
import Derived.Test.YtpoldhblddlcpaaRefEnc
import Derived.Test.YtpoldhblddlcpaaVals
import Derived.Test.YtpoldhblddlcpaaRefVal
import Derived.Test.YtpoldhblddlcpaaWireLives
import Derived.Deep.DeepCutAuto
namespace Go.Proofs.Ytpoldhblddlcpaa
open Go.RowKit Go.Shelf
set_option linter.unusedVariables false

theorem rdD {W : World} {b d : Nat} {zs : List Int} {e : Int} (h : Rd W b d zs e) : ∃ d', Rd W b d' zs e ∧ d' < W.heap.size ∧ (d' = b ∨ d' = d) := by
  rcases h.dlt with rfl | hd
  · obtain ⟨_, v, hv, hr⟩ := h
    refine ⟨b, ⟨.inl rfl, v, hv, ?_⟩, (Array.getElem?_eq_some_iff.1 hv).1, .inl rfl⟩
    rcases hr with e | ⟨q, off, cap, e, h1, h2, _, _⟩
    · exact .inl e
    · exact .inl ⟨_, cap, e, h2, (fun h => by cases h), rfl⟩
  · exact ⟨d, h, hd, .inr rfl⟩
theorem read_same (K : Int) (zs zs' : List Int) (e : Int) (hK : 0 ≤ K ∧ K < 6) (h : e = 0 → zs' = zs) :
    (readM K zs' e).1 = (readM K zs e).1 ∧ (readM K zs' e).2.2 = (readM K zs e).2.2 ∧ ((readM K zs e).2.2 = 0 → (readM K zs' e).2.1 = (readM K zs e).2.1) := by
  by_cases he : e = 0
  · rw [h he]
    exact ⟨rfl, rfl, fun _ => rfl⟩
  · rw [readM_err K zs e he hK, readM_err K zs' e he hK]
    exact ⟨rfl, rfl, fun e0 => absurd e0 he⟩
theorem end_same (zs zs' : List Int) (e : Int) (h : e = 0 → zs' = zs) : rEnd zs' e = rEnd zs e := by
  by_cases he : e = 0
  · rw [h he]
  · unfold rEnd
    rw [if_neg (fun h => he h.1), if_neg (fun h => he h.1)]

set_option maxRecDepth 100000 in
set_option maxHeartbeats 2000000 in
theorem wireReads_walk (a0 : Option Addr) (len0 cap0 : Nat) (z0 : List Int) (a1 : Option Addr) (len1 cap1 : Nat) (z1 : List Int) (a2 : Int) (a3 : Int) (a4 : Option Addr) (len4 cap4 : Nat) (z4 : List Int) (w : World) (w0 : IsRow .u8 w a0 len0 cap0 z0) (w1 : IsRow .i64 w a1 len1 cap1 z1) (w2 : (Lit.int .i64 a2).wf = true) (w3 : (Lit.int .u8 a3).wf = true) (w4 : IsRow .i64 w a4 len4 cap4 z4) :
    Calls Try.prog 4 #[.slice a0 len0 cap0, .slice a1 len1 cap1, .int .i64 a2, .int .u8 a3, .slice a4 len4 cap4] w fun e w' => e = .returned (.bool true) ∧ Below w.heap.size w w' := by
  obtain ⟨hr0, hw0⟩ := w0.row
  obtain ⟨hr1, hw1⟩ := w1.row
  obtain ⟨hr4, hw4⟩ := w4.row
  generalize z4.take len4 = K4 at hr4 hw4
  have hl4 := hr4.len
  have hlc4 := hr4.lencap
  unfold maxLen at hlc4
  subst hl4
  have hc3 : 0 ≤ a3 ∧ a3 < 256 := by have := u8_rng1 w3; omega
  have HC3 := Lib.hid hc3
  have W2f := Lib.hid w2
  clear w0 w1 w2 w3 w4 hc3
  go_enter Try.func4, Try.ntmps4
  go_wp2_with fail
  refine (vals_any a1 len1 cap1 _ _ hr1 hw1).mono ?_
  rintro e W1 ⟨x, all, xs, rfl, hV, hvo, hvl, hb1⟩
  have hR := hV.vrow
  have hlE := vsbytes_len all hvo
  dsimp only
  go_wp2_with fail
  refine (refEncode_any x all _ hR (fun v hv => (hvo v hv).big) (by omega)).mono ?_
  rintro e W3 ⟨ve, rfl, hoE, hb⟩
  obtain ⟨ae, le, ce, rfl⟩ := owns_slice hoE
  obtain rfl := (row_of_owns hoE).1.len
  have hce := (row_of_owns hoE).1.lencap
  unfold maxLen at hce
  have b3 := stepB hb1 hb
  have hrg := vsbytes_rng all hvo
  have HRG := Lib.hid hrg
  have hs13 := hb.size
  have hs01 := hb1.size
  clear hV hb hr1 hw1 hrg hR hb1
  dsimp only
  go_upto_if 23 with (fail)
  go_cut [] (fun wx => ∃ Z : List Int, Z.length = (vsbytes all).length ∧ (∀ x ∈ Z, 0 ≤ x ∧ x < 256) ∧ wx.ownsRow W1.heap.size 5 1 (.slice ae (vsbytes all).length ce) (vsbytes all).length (Z.map (Value.int .u8)) ∧ Below W1.heap.size W3 wx)
  case first =>
    by_cases hz : (vsbytes all).length = 0
    · have hzb : ¬ 0 < (vsbytes all).length := by omega
      have HZ := Lib.hid hz; clear hz
      go_wp2_with fail
      go_meet
      exact ⟨vsbytes all, rfl, HRG.out, hoE, Below.refl _ _⟩
    · have hzp : 0 < (vsbytes all).length := by omega
      obtain ⟨ge, rfl, hge, _⟩ := owns_at hoE hzp
      have HZ := Lib.hid hz; clear hz
      go_wp2_with fail
      refine (around_any a2 (vsbytes all).length _ W2f.out (by omega) (by omega)).mono ?_
      rintro e W4 ⟨rfl, rfl⟩
      have hj0 := aroundI_lo a2 (vsbytes all).length (by omega)
      have hj1 := aroundI_hi a2 (vsbytes all).length (by omega)
      generalize aroundI a2 (vsbytes all).length = jj at *
      obtain ⟨j, rfl⟩ := Int.eq_ofNat_of_zero_le hj0
      clear hj0
      have hjl : j < (vsbytes all).length := by omega
      have hcell := owns_cell hoE j hjl
      have hfz := hoE.frozenAt j
      have hset := owns_set hoE j a3
      have HS := Lib.hid hset; clear hset
      dsimp only
      go_wp2_with fail
      go_meet
      refine ⟨(vsbytes all).set j a3, by simp, ?_, HS.out, (Below.refl _ _).setCell hge _⟩
      intro x hx
      rcases List.mem_or_eq_of_mem_set hx with h1 | h1
      · exact HRG.out x h1
      · subst h1; exact HC3.out
  case rest =>
    obtain ⟨Z, hZl, hZr, hoT, hbT⟩ := hcut
    have bT := b3.trans (hbT.mono hs01)
    have HZR := Lib.hid hZr
    rw [← hZl] at hoT hlE hce
    have hrT := (row_of_owns hoT).1
    generalize (vsbytes all).length = LZ at *
    subst hZl
    have hr0' := rowB hr0 bT
    clear hoE hZr HRG hoT hbT hr0
    go_wp2_with fail
    refine (few_int _ (z0.take len0) 60 _ hr0' (by omega) (by omega)).mono ?_
    rintro e V1 ⟨aF, cF, rfl, _, hrF, hbF⟩
    have hFl : ((z0.take len0).take (60 : Int).toNat).length ≤ 60 := by rw [List.length_take]; exact Nat.min_le_left _ _
    have hFw := take_wf hw0 (60 : Int).toNat
    generalize (z0.take len0).take (60 : Int).toNat = F at hrF hFl hFw ⊢
    have hFr : ∀ x ∈ F, 0 ≤ x ∧ x < 256 := fun x hx => by have := u8_rng1 (hFw x hx); omega
    have HFR := Lib.hid hFr
    have hrZ := rowB hrT hbF
    have b1 := stepB bT hbF
    have bA := laidB (Below.refl V1.heap.size V1) (.cells #[.slice aF F.length cF, .slice ae Z.length ce] 24)
    have hrF2 := rowB hrF bA
    have hrZ2 := rowB hrZ bA
    have b2 := stepB b1 bA
    have CA := Cel.new V1 24 #[.slice aF F.length cF, .slice ae Z.length ce]
    have hr42 := rowB hr4 b2
    clear hr0' hFr hFw hrT hrF hrZ hbF b1 bA bT b3 hw0
    dsimp only
    go_wp2_with fail
    generalize hWA : V1.alloc (.cells #[.slice aF F.length cF, .slice ae Z.length ce] 24) = WA at *
    have HWA := Lib.hid hWA
    clear hWA
    have hrow : ∀ k : Nat, k < 2 → ∃ (sa : Option Addr) (sc : Nat) (Y : List Int), WA.cell? ⟨V1.heap.size, k, none⟩ = some (.slice sa Y.length sc) ∧ Row .u8 WA.heap.size WA (.slice sa Y.length sc) Y ∧ (∀ x ∈ Y, 0 ≤ x ∧ x < 256) ∧ Y.length ≤ 24000 := by
      intro k hk
      have hk2 : k = 0 ∨ k = 1 := by omega
      rcases hk2 with rfl | rfl
      · exact ⟨aF, cF, F, CA.cell 0, hrF2, HFR.out, by omega⟩
      · exact ⟨ae, ce, Z, CA.cell 1, hrZ2, HZR.out, by omega⟩
    have HROW := Lib.hid hrow
    have hVlt := CA.lt
    clear hrow hrF2 hrZ2 CA
    go_loopw [13] (fun i wr => ∃ k : Nat, k ≤ 2 ∧ i = .int .i64 (k : Int) ∧ Below WA.heap.size WA wr) (fun i _ => 2 - (intOf i).toNat)
    case atStart => exact ⟨0, Nat.zero_le _, rfl, Below.refl _ _⟩
    case round =>
      obtain ⟨k, hk, rfl, hB⟩ := hrel
      by_cases hlt : k < 2
      · have hi1 : (k : Int) < 2 := by omega
        have hi0 : (0 : Int) ≤ (k : Int) := by omega
        obtain ⟨sa, sc, Y, hcY, hrY, hYr, hYl⟩ := HROW.out k hlt
        have cY := (hB.cell (p := ⟨V1.heap.size, k, none⟩) hVlt).trans hcY
        have hrYr := RowP.below hB hrY
        have hsr := hB.size
        have hrYm : Row .u8 wr.heap.size wr (.slice sa Y.length sc) Y := RowP.mono (fun g hg => by omega) hrYr
        have HYR := Lib.hid hYr
        clear hcY hrY hYr
        obtain ⟨wo, ewo⟩ : ∃ X : World, X = wr := ⟨wr, rfl⟩
        subst ewo
        go_wp2_with fail
        refine (read_any _ Y _ hrYm (by omega)).mono ?_
        rintro e W5 ⟨r, d, rfl, hr1, hd1, hRd, hb5⟩
        obtain ⟨d, hRd, hdl, hdd⟩ := rdD hRd
        have hrl := hRd.lt
        have hs5 := hb5.size
        have cY5 := (hb5.cell (p := ⟨V1.heap.size, k, none⟩) (by show V1.heap.size < wo.heap.size; omega)).trans cY
        have hrY5 := RowP.below (hb5.mono hsr) hrYr
        have hB5 := hB.trans (hb5.mono hsr)
        clear hrYm hrYr cY hb5
        dsimp only
        go_wp2_with fail
        have bC := laidB (Below.refl W5.heap.size W5) (.cells #[.slice sa Y.length sc, .int .i64 0] 47)
        have hRR : RR (W5.alloc (.cells #[.slice sa Y.length sc, .int .i64 0] 47)) WA.heap.size W5.heap.size Y 0 := ⟨by omega, _, Cel.new W5 47 #[.slice sa Y.length sc, .int .i64 0], RowP.below (bC.mono (by omega)) hrY5⟩
        have hRd2 := hRd.below hrl (.inr hdl) bC
        have hB6 := hB5.trans (bC.mono (by omega))
        clear hRd hrY5 bC
        go_loopw [16] (fun i wr => ∃ (j : Nat) (zs zs' : List Int) (e : Int), j ≤ K4.length ∧ j ≤ 10 ∧ i = .int .i64 (j : Int) ∧ Rd wr r d zs e ∧ RR wr WA.heap.size W5.heap.size zs' e ∧ Hid (e = 0 → zs' = zs) ∧ (∀ x ∈ zs, 0 ≤ x ∧ x < 256) ∧ (∀ x ∈ zs', 0 ≤ x ∧ x < 256) ∧ zs.length ≤ 24000 ∧ zs'.length ≤ 24000 ∧ Below WA.heap.size WA wr) (fun i _ => 10 - (intOf i).toNat)
        case atStart => exact ⟨0, Y, Y, 0, Nat.zero_le _, by omega, rfl, hRd2, hRR, Lib.hid (fun _ => rfl), HYR.out, HYR.out, hYl, hYl, hB6⟩
        case round =>
          clear hRd2 hRR hB6
          obtain ⟨j, zs, zs', er, hj, hj10, rfl, hR1, hR2, hE, hzs, hzs', hzl, hzl', hBj⟩ := hrel
          by_cases hlt4 : j < K4.length
          · by_cases hlt10 : j < 10
            · have hj10' : (j : Int) < 10 := by omega
              obtain ⟨b, off, rfl, hbn, hc⟩ := hr42.at (by omega)
              have hsj := hBj.size
              have c0 : wr.cell? ⟨b, off + j, none⟩ = some (.int .i64 (K4[j]?.getD 0)) := (hBj.cell (p := ⟨b, off + j, none⟩) (by show b < WA.heap.size; omega)).trans (hc j hlt4)
              have hx : (Lit.int .i64 (K4[j]?.getD 0)).wf = true := by
                rw [List.getElem?_eq_getElem hlt4]; exact hw4 _ (List.getElem_mem hlt4)
              generalize K4[j]?.getD 0 = x4 at c0 hx
              have hi1' : (j : Int) < K4.length := by omega
              have HZS := Lib.hid hzs
              have HZS' := Lib.hid hzs'
              clear hc hr42 hzs hzs' cY5 hB5
              go_wp2_with fail
              refine (around_any x4 6 _ hx (by omega) (by omega)).mono ?_
              rintro e W21 ⟨rfl, rfl⟩
              have hK0 := aroundI_lo x4 6 (by omega)
              have hK1 := aroundI_hi x4 6 (by omega)
              generalize aroundI x4 6 = KK at *
              have hsame := read_same KK zs zs' er ⟨hK0, hK1⟩ hE.out
              have hzs2 := readM_left KK zs er (fun x => 0 ≤ x ∧ x < 256) HZS.out
              have hzl2 := readM_len KK zs er
              have HSAME := Lib.hid hsame
              have HZS2 := Lib.hid hzs2
              clear hsame hzs2 c0
              dsimp only
              go_wp2_with fail
              have hblt := hR2.lt
              refine (lread_new r d KK zs er _ hR1 HZS.out (by omega) ⟨hK0, hK1⟩).mono ?_
              rintro e W9 ⟨sb9, sl9, rfl, p1, p2, hR9, ho9⟩
              have hR29 := hR2.keep ho9 (by omega) (by omega)
              have hB9 := hBj.trans (only_below ho9 (by omega) hR1.lt)
              clear hR1 hR2
              dsimp only
              go_wp2_with fail
              refine (rread_any WA.heap.size W5.heap.size KK zs' er _ hR29 HZS'.out (by omega) ⟨hK0, hK1⟩).mono ?_
              generalize readM KK zs' er = RM' at *
              generalize readM KK zs er = RM at *
              obtain ⟨v', l', e'⟩ := RM'
              obtain ⟨hv', he', hl'⟩ := HSAME.out
              dsimp only at hv' he' hl'
              subst hv' he'
              clear HSAME
              rintro e W10 ⟨sb, sl, rfl, q1, q2, zs2, hR210, hleft, hl2, hm2, ho10⟩
              have hE2 : Hid (RM.2.2 = 0 → zs2 = RM.2.1) := Lib.hid (fun e0 => (hleft e0).trans (hl' e0))
              have hZ2 : Hid (∀ x ∈ zs2, 0 ≤ x ∧ x < 256) := Lib.hid (fun x hx => HZS'.out x (hm2 x hx))
              have hR10 := hR9.keep ho10 (by omega) (by omega)
              have hB10 := hB9.trans (only_below ho10 (by omega) hR29.lt)
              have hs10 := ho10.size
              have kp : KeepP (fun g => W21.heap.size ≤ g ∧ g < W9.heap.size) W9 W10 := ⟨fun g hg => ho10.block g hg.2 (by simp; omega)⟩
              have p1' : Row .u8 W10.heap.size W10 sb9 RM.1.B := RowP.mono (fun g hg => by omega) (p1.keep kp)
              have p2' : Row .i64 W10.heap.size W10 sl9 RM.1.L := RowP.mono (fun g hg => by omega) (p2.keep kp)
              clear hR9 hR29 hleft hm2 p1 p2 hl'
              dsimp only
              go_wp2_with fail
              refine (same_self RM.1.kind RM.1.u RM.1.n sb9 sl9 sb sl RM.1.B RM.1.L _ p1' p2' q1 q2).mono ?_
              rintro e W11 ⟨rfl, hb11⟩
              have hR11 := hR10.below hR10.lt hR10.dlt hb11
              have hR211 := hR210.below hR210.lt hb11
              have hB11 := hB10.trans (hb11.mono hB10.size)
              have hes := end_same RM.2.1 zs2 RM.2.2 hE2.out
              have HES := Lib.hid hes
              clear hR10 hR210 q1 q2 p1' p2' hb11 hes
              dsimp only
              go_wp2_with fail
              refine (end_any r d RM.2.1 RM.2.2 _ hR11).mono ?_
              rintro e W12 ⟨rfl, rfl⟩
              dsimp only
              go_wp2_with fail
              refine (rend_any WA.heap.size W5.heap.size zs2 RM.2.2 _ hR211).mono ?_
              rw [HES.out]
              rintro e W13 ⟨rfl, rfl⟩
              dsimp only
              generalize rEnd RM.2.1 RM.2.2 = eN at *
              have hnee : (eN != eN) = false := by simp
              go_wp2_with fail
              go_roundw
              case rel => exact ⟨j + 1, RM.2.1, zs2, RM.2.2, by omega, by omega, by go_num, hR11, hR211, hE2, HZS2.out, hZ2.out, by omega, by omega, hB11⟩
              case measure => simp [intOf]; omega
            · have hj10' : ¬ (j : Int) < 10 := by omega
              go_wp2_with fail
              go_roundw
              case rel => exact ⟨k + 1, by omega, by go_num, hBj⟩
              case measure => simp [intOf]; omega
          · go_wp2_with fail
            go_roundw
            case rel => exact ⟨k + 1, by omega, by go_num, hBj⟩
            case measure => simp [intOf]; omega
      · have hi1 : ¬ (k : Int) < 2 := by omega
        have b9 := b2.trans (hB.mono (by have := b2.size; omega))
        go_wp2_with fail
        refine (lives2_any _).mono ?_
        rintro e W8 ⟨rfl, hb⟩
        dsimp only
        go_wp2_with fail
        go_ret
        exact ⟨rfl, stepB b9 hb⟩
end Go.Proofs.Ytpoldhblddlcpaa
