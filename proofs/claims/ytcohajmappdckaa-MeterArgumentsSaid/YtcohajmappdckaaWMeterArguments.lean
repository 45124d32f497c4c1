/- MeterArguments: the walk. -/
import Derived.Test.YtcohajmappdckaaWMeterRuns
namespace Go.Proofs.Ytcohajmappdckaa
open Go.RowKit Go.Shelf
set_option linter.unusedVariables false

theorem ops_of_cel {W : World} {g : Nat} {t : TypeId} {l : List OpM} {cs : Array Value} (h : Cel W g t cs) (hcs : cs = (opsCells l).toArray) (c : Nat) : OpsRow (fun b => g ≤ b ∧ b < g + 1) W (.slice (some ⟨g, 0, none⟩) l.length c) l := by
  subst hcs
  refine ⟨_, c, rfl, .inr ⟨g, rfl, ⟨Nat.le_refl _, Nat.lt_succ_self _⟩, fun i o hv => ?_⟩⟩
  obtain ⟨c0, c1, c2, c3⟩ := opsCells_at l i o hv
  have hcell : ∀ q u, (opsCells l)[q]? = some u → W.cell? ⟨g, q, none⟩ = some u := by
    intro q u hu
    rw [h.cell q]
    simpa using hu
  exact ⟨hcell _ _ c0, hcell _ _ c1, hcell _ _ c2, hcell _ _ c3⟩
def argOps (r n T : Int) : List OpM := [⟨0, 0, 3, 4⟩, ⟨0, r, n, 0⟩, ⟨1, r, n, 0⟩, ⟨2, r, 0, 0⟩, ⟨1, 0, 3, T⟩, ⟨2, 0, 0, T⟩, ⟨0, 0, n, T⟩]
set_option maxRecDepth 100000 in
set_option maxHeartbeats 8000000 in
theorem meterArguments_walk (a0 : Int) (a1 : Int) (a2 : Int) (a3 : Int) (a4 : Int) (a5 : Int) (w0 : (Lit.int .i64 a0).wf = true) (w1 : (Lit.int .i64 a1).wf = true) (w2 : (Lit.int .i64 a2).wf = true) (w3 : (Lit.int .i64 a3).wf = true) (w4 : (Lit.int .i64 a4).wf = true) (w5 : (Lit.int .i64 a5).wf = true) (w : World) :
    Calls Try.prog 4 #[.int .i64 a0, .int .i64 a1, .int .i64 a2, .int .i64 a3, .int .i64 a4, .int .i64 a5] w fun e w' => e = .returned (.bool true) ∧ Below w.heap.size w w' := by
  have HLV := Lib.hid lives33_any
  clear w0 w1 w2 w3 w4 w5
  by_cases hbad : newBad a0 a1 a2
  · have hn := new_bad a0 a1 a2 w hbad
    have hr := rnew_bad a0 a1 a2 w hbad
    have HN := Lib.hid hn
    have HR := Lib.hid hr
    clear hn hr hbad
    go_enter Try.func4, Try.ntmps4
    go_wp2_with fail
    refine HN.out.mono ?_
    rintro e q1 ⟨rfl, hq1⟩
    subst hq1
    dsimp only
    go_wp2_with fail
    refine HR.out.mono ?_
    rintro e q2 ⟨rfl, hq2⟩
    subst hq2
    dsimp only
    go_wp2_with fail
    obtain ⟨wz, hwz⟩ : ∃ Y, Y = q2 := ⟨_, rfl⟩
    subst hwz
    have BZ : Hid (Below wz.heap.size wz wz) := Lib.hid (Below.refl _ _)
    clear HN HR
    refine (new_ok 2 2 rfl 7 5 _ (by decide) (by decide) (by decide) (by decide) (by decide) (by decide)).mono ?_
    rintro e y1 ⟨p, u, rfl, hp, hu, hM, b3⟩
    have HM3 := Lib.hid hM
    have HB3 := Lib.hid b3
    clear hM b3
    dsimp only
    go_wp2_with fail
    refine (rnew_ok 2 2 rfl 7 5 _ (by decide) (by decide) (by decide) (by decide) (by decide) (by decide)).mono ?_
    rintro e y2 ⟨rfl, hR, b6⟩
    have hpl := HM3.out.box.lt
    have hul := HM3.out.row.lt
    have hpr : Pair y2 p u y1.heap.size (.slice none 0 0) (MS.new 2 7 5) 0 := ⟨HM3.out.step b6, hR, by omega, by omega, by simp [Value.ownBlock], by simp [Value.ownBlock]⟩
    have hql := hR.box.lt
    have hqs := HB3.out.size
    have HPR := Lib.hid hpr
    have HB7 := Lib.hid (stepB HB3.out b6)
    have hp2 := hpr.m.box.lt
    have hu2 := hpr.m.row.lt
    clear hR b6 hpr HM3 HB3
    dsimp only
    go_wp2_with fail
    have hC := Cel.new y2 34 (opsCells (argOps a3 a4 (wrap64 (a5 - 4)))).toArray
    have hbX := laidB (Below.refl y2.heap.size y2) (.cells (opsCells (argOps a3 a4 (wrap64 (a5 - 4)))).toArray 34)
    have hL : RunL wz (y2.alloc (.cells (opsCells (argOps a3 a4 (wrap64 (a5 - 4)))).toArray 34)) p u y1.heap.size y2.heap.size (y2.heap.size + 1) (.slice none 0 0) (MS.new 2 7 5) 0 (.slice (some ⟨y2.heap.size, 0, none⟩) (argOps a3 a4 (wrap64 (a5 - 4))).length 7) (argOps a3 a4 (wrap64 (a5 - 4))) :=
      ⟨HPR.out.step hbX, ops_of_cel hC rfl 7, by simp [Value.ownBlock], stepB HB7.out hbX, ⟨hp, by omega⟩, ⟨hu, by omega⟩, ⟨hqs, hql⟩, Nat.le_succ _, by simp⟩
    have hL7 : (argOps a3 a4 (wrap64 (a5 - 4))).length = 7 := rfl
    rw [hL7] at hL
    simp only [show (opsCells (argOps a3 a4 (wrap64 (a5 - 4)))).toArray = #[.int .i64 0, .int .i64 0, .int .i64 3, .int .i64 4, .int .i64 0, .int .i64 a3, .int .i64 a4, .int .i64 0, .int .i64 1, .int .i64 a3, .int .i64 a4, .int .i64 0, .int .i64 2, .int .i64 a3, .int .i64 0, .int .i64 0, .int .i64 1, .int .i64 0, .int .i64 3, .int .i64 (wrap64 (a5 - 4)), .int .i64 2, .int .i64 0, .int .i64 0, .int .i64 (wrap64 (a5 - 4)), .int .i64 0, .int .i64 0, .int .i64 a4, .int .i64 (wrap64 (a5 - 4))] from rfl] at hL
    have HL := Lib.hid hL
    have HL7 := Lib.hid hL7
    clear hL hC hbX HPR HB7 hql hqs hp2 hu2 hp hu hpl hul hL7
    generalize argOps a3 a4 (wrap64 (a5 - 4)) = ops at *
    go_loopw [23] (fun iv wr => ∃ (k : Nat) (x : Value) (s : MS), k ≤ 7 ∧ iv = .int .i64 (k : Int) ∧ Hid (RunL wz wr p u y1.heap.size y2.heap.size (y2.heap.size + 1) x s k (.slice (some ⟨y2.heap.size, 0, none⟩) 7 7) ops)) (fun i _ => 7 - (intOf i).toNat)
    case atStart => exact ⟨0, _, _, Nat.zero_le _, rfl, HL⟩
    case round =>
      clear HL
      obtain ⟨k, x, s, hk, rfl, HL⟩ := hrel
      by_cases hlt : k < 7
      · obtain ⟨b, K, R, N, Wt, hav, -, c0, c1, c2, c3⟩ := ops_at (l := ops) (by rw [HL7.out]; exact HL.out.ops) k (by rw [HL7.out]; exact hlt)
        obtain rfl : y2.heap.size = b := by simpa using hav
        clear hav
        have hi1 : (k : Int) < 7 := by omega
        have hi0 : (0 : Int) ≤ (k : Int) := by omega
        have hst := step_any p u y1.heap.size x s k K R N Wt wr HL.out.pr (by omega)
        have HST := Lib.hid hst
        clear hst
        go_wp2_with fail
        refine HST.out.mono ?_
        rintro e wa ⟨rfl, ha⟩
        obtain ⟨x', s', hL2⟩ := HL.out.next ha
        have HL2 := Lib.hid hL2
        clear hL2 ha HST HL c0 c1 c2 c3
        dsimp only
        go_wp2_with fail
        go_roundw
        case rel => exact ⟨k + 1, x', s', by omega, by go_num, HL2⟩
        case measure => simp [intOf]; omega
      · have hi1 : ¬ (k : Int) < 7 := by omega
        have hus := used_any p u s wr HL.out.pr.m
        have hn5 := HL.out.pr.m.ok.n1
        have HUS := Lib.hid hus
        clear hus
        go_wp2_with fail
        refine HUS.out.mono ?_
        rintro e wb ⟨rfl, hcel, bb⟩
        have hL3 := HL.out.step bb
        have hru := rused_any _ _ _ _ wb hL3.pr.r (by omega)
        have HRU := Lib.hid hru
        have HBL := Lib.hid hL3.bel
        have HRW := Lib.hid (row_celI hcel hn5)
        clear hru hL3 hcel bb HUS HL
        dsimp only
        go_wp2_with fail
        refine HRU.out.mono ?_
        rintro e wd ⟨a9, c9, rfl, hr3, bd⟩
        have hsm := same_us _ _ _ _ s.us wd (rowB HRW.out bd) hr3
        have HSM := Lib.hid hsm
        have HBL2 := Lib.hid (stepB HBL.out bd)
        clear hsm hr3 bd HBL HRW HRU
        dsimp only
        go_wp2_with fail
        refine HSM.out.mono ?_
        rintro e we ⟨rfl, be⟩
        have HBL3 := Lib.hid (stepB HBL2.out be)
        clear be HBL2 HSM
        dsimp only
        go_wp2_with fail
        refine (HLV.out we).mono ?_
        rintro e wh ⟨rfl, bh⟩
        have hb2 := stepB BZ.out (stepB HBL3.out bh)
        dsimp only
        go_wp2_with fail
        go_ret
        exact ⟨rfl, hb2⟩
  · have hg : 1 ≤ a0 ∧ a0 ≤ 500 ∧ 0 ≤ a1 ∧ a1 ≤ 1099511627776 ∧ 1 ≤ a2 ∧ a2 ≤ 1099511627776 := by unfold newBad at hbad; omega
    obtain ⟨g0, g1, g2, g3, g4, g5⟩ := hg
    obtain ⟨n, rfl⟩ := Int.eq_ofNat_of_zero_le (show 0 ≤ a0 by omega)
    clear hbad
    go_enter Try.func4, Try.ntmps4
    go_wp2_with fail
    refine (new_ok n _ rfl a1 a2 w (by omega) (by omega) g2 g3 g4 g5).mono ?_
    rintro e x1 ⟨p0, u0, rfl, hp0, hu0, hM0, b0⟩
    have HM0 := Lib.hid hM0
    have HB0 := Lib.hid b0
    clear hM0 b0
    dsimp only
    go_wp2_with fail
    refine (rnew_ok n _ rfl a1 a2 x1 (by omega) (by omega) g2 g3 g4 g5).mono ?_
    rintro e x2 ⟨rfl, hR0, b1⟩
    have hpl0 := HM0.out.box.lt
    have hul0 := HM0.out.row.lt
    have hs1 := HB0.out.size
    have hpr0 : Pair x2 p0 u0 x1.heap.size (.slice none 0 0) (MS.new n a1 a2) 0 := ⟨HM0.out.step b1, hR0, by omega, by omega, by simp [Value.ownBlock], by simp [Value.ownBlock]⟩
    have HB1 := Lib.hid (stepB HB0.out b1)
    have hln : (MS.new n a1 a2).us.length = n := by simp [MS.new]
    have htk := take_any p0 u0 (MS.new n a1 a2) a3 a4 a5 x2 hpr0.m
    have hrt := fun W (h : Mr W x1.heap.size (.slice none 0 0) (MS.new n a1 a2) 0) => rtake_any x1.heap.size (.slice none 0 0) (MS.new n a1 a2) 0 a3 a4 a5 W h (by decide)
    have hlen : ((MS.new n a1 a2).take a3 a4 a5).2.2.us.length = n := by
      unfold MS.take
      split
      · show ((MS.usAt _ _).set _ _).length = n
        rw [List.length_set, MS.usAt_len, hln]
      · exact hln
    generalize (MS.new n a1 a2).take a3 a4 a5 = TT at *
    obtain ⟨A, E, s'⟩ := TT
    dsimp only at htk hrt hlen
    have HTK := Lib.hid htk
    have HRT := Lib.hid hrt
    have HPR0 := Lib.hid hpr0
    have HLN := Lib.hid hlen
    clear htk hrt hpr0 hlen hln hR0 b1 HM0
    dsimp only
    go_wp2_with fail
    refine HTK.out.mono ?_
    rintro e x3 ⟨rfl, hm3, ho3⟩
    have HR3 := Lib.hid (HPR0.out.rOnly ho3)
    have HM3' := Lib.hid hm3
    have HO3 := Lib.hid ho3
    clear hm3 ho3 HTK
    dsimp only
    go_wp2_with fail
    refine (HRT.out _ HR3.out).mono ?_
    rintro e x4 ⟨rfl, hr4⟩
    have hsa := stepAfter_of (Below.refl x2.heap.size x2) HPR0.out HM3'.out HO3.out hr4
    obtain ⟨s4, x4', hp4, ho4, -⟩ := hsa
    have hb4 : Below w.heap.size w x4 := HB1.out.trans (ho4.below HB1.out.size (by
      rintro k ((e | e) | (e | e))
      · omega
      · omega
      · omega
      · simp [Value.ownBlock] at e))
    have hm4 : Mt x4 p0 u0 s' := by
      obtain ⟨x5, -, h5, -⟩ := hr4
      refine HM3'.out.only h5 ?_ ?_
      · rintro (e | e)
        · omega
        · simp [Value.ownBlock] at e
      · rintro (e | e)
        · omega
        · simp [Value.ownBlock] at e
    have hus := used_any p0 u0 s' x4 hm4
    rw [HLN.out] at hus
    have HUS0 := Lib.hid hus
    have HB4 := Lib.hid hb4
    clear hus hb4 hm4 hp4 ho4 hr4 HRT HR3 HM3' HO3 HPR0 HB1 HB0
    dsimp only
    go_wp2_with fail
    refine HUS0.out.mono ?_
    rintro e wz ⟨rfl, -, b5⟩
    have BZ := Lib.hid (stepB HB4.out b5)
    clear b5 HUS0 HB4
    dsimp only
    go_wp2_with fail
    refine (new_ok 2 2 rfl 7 5 _ (by decide) (by decide) (by decide) (by decide) (by decide) (by decide)).mono ?_
    rintro e y1 ⟨p, u, rfl, hp, hu, hM, b3⟩
    have HM3 := Lib.hid hM
    have HB3 := Lib.hid b3
    clear hM b3
    dsimp only
    go_wp2_with fail
    refine (rnew_ok 2 2 rfl 7 5 _ (by decide) (by decide) (by decide) (by decide) (by decide) (by decide)).mono ?_
    rintro e y2 ⟨rfl, hR, b6⟩
    have hpl := HM3.out.box.lt
    have hul := HM3.out.row.lt
    have hpr : Pair y2 p u y1.heap.size (.slice none 0 0) (MS.new 2 7 5) 0 := ⟨HM3.out.step b6, hR, by omega, by omega, by simp [Value.ownBlock], by simp [Value.ownBlock]⟩
    have hql := hR.box.lt
    have hqs := HB3.out.size
    have HPR := Lib.hid hpr
    have HB7 := Lib.hid (stepB HB3.out b6)
    have hp2 := hpr.m.box.lt
    have hu2 := hpr.m.row.lt
    clear hR b6 hpr HM3 HB3
    dsimp only
    go_wp2_with fail
    have hC := Cel.new y2 34 (opsCells (argOps a3 a4 (wrap64 (a5 - 4)))).toArray
    have hbX := laidB (Below.refl y2.heap.size y2) (.cells (opsCells (argOps a3 a4 (wrap64 (a5 - 4)))).toArray 34)
    have hL : RunL wz (y2.alloc (.cells (opsCells (argOps a3 a4 (wrap64 (a5 - 4)))).toArray 34)) p u y1.heap.size y2.heap.size (y2.heap.size + 1) (.slice none 0 0) (MS.new 2 7 5) 0 (.slice (some ⟨y2.heap.size, 0, none⟩) (argOps a3 a4 (wrap64 (a5 - 4))).length 7) (argOps a3 a4 (wrap64 (a5 - 4))) :=
      ⟨HPR.out.step hbX, ops_of_cel hC rfl 7, by simp [Value.ownBlock], stepB HB7.out hbX, ⟨hp, by omega⟩, ⟨hu, by omega⟩, ⟨hqs, hql⟩, Nat.le_succ _, by simp⟩
    have hL7 : (argOps a3 a4 (wrap64 (a5 - 4))).length = 7 := rfl
    rw [hL7] at hL
    simp only [show (opsCells (argOps a3 a4 (wrap64 (a5 - 4)))).toArray = #[.int .i64 0, .int .i64 0, .int .i64 3, .int .i64 4, .int .i64 0, .int .i64 a3, .int .i64 a4, .int .i64 0, .int .i64 1, .int .i64 a3, .int .i64 a4, .int .i64 0, .int .i64 2, .int .i64 a3, .int .i64 0, .int .i64 0, .int .i64 1, .int .i64 0, .int .i64 3, .int .i64 (wrap64 (a5 - 4)), .int .i64 2, .int .i64 0, .int .i64 0, .int .i64 (wrap64 (a5 - 4)), .int .i64 0, .int .i64 0, .int .i64 a4, .int .i64 (wrap64 (a5 - 4))] from rfl] at hL
    have HL := Lib.hid hL
    have HL7 := Lib.hid hL7
    clear hL hC hbX HPR HB7 hql hqs hp2 hu2 hp hu hpl hul hL7
    generalize argOps a3 a4 (wrap64 (a5 - 4)) = ops at *
    go_loopw [23] (fun iv wr => ∃ (k : Nat) (x : Value) (s : MS), k ≤ 7 ∧ iv = .int .i64 (k : Int) ∧ Hid (RunL wz wr p u y1.heap.size y2.heap.size (y2.heap.size + 1) x s k (.slice (some ⟨y2.heap.size, 0, none⟩) 7 7) ops)) (fun i _ => 7 - (intOf i).toNat)
    case atStart => exact ⟨0, _, _, Nat.zero_le _, rfl, HL⟩
    case round =>
      clear HL
      obtain ⟨k, x, s, hk, rfl, HL⟩ := hrel
      by_cases hlt : k < 7
      · obtain ⟨b, K, R, N, Wt, hav, -, c0, c1, c2, c3⟩ := ops_at (l := ops) (by rw [HL7.out]; exact HL.out.ops) k (by rw [HL7.out]; exact hlt)
        obtain rfl : y2.heap.size = b := by simpa using hav
        clear hav
        have hi1 : (k : Int) < 7 := by omega
        have hi0 : (0 : Int) ≤ (k : Int) := by omega
        have hst := step_any p u y1.heap.size x s k K R N Wt wr HL.out.pr (by omega)
        have HST := Lib.hid hst
        clear hst
        go_wp2_with fail
        refine HST.out.mono ?_
        rintro e wa ⟨rfl, ha⟩
        obtain ⟨x', s', hL2⟩ := HL.out.next ha
        have HL2 := Lib.hid hL2
        clear hL2 ha HST HL c0 c1 c2 c3
        dsimp only
        go_wp2_with fail
        go_roundw
        case rel => exact ⟨k + 1, x', s', by omega, by go_num, HL2⟩
        case measure => simp [intOf]; omega
      · have hi1 : ¬ (k : Int) < 7 := by omega
        have hus := used_any p u s wr HL.out.pr.m
        have hn5 := HL.out.pr.m.ok.n1
        have HUS := Lib.hid hus
        clear hus
        go_wp2_with fail
        refine HUS.out.mono ?_
        rintro e wb ⟨rfl, hcel, bb⟩
        have hL3 := HL.out.step bb
        have hru := rused_any _ _ _ _ wb hL3.pr.r (by omega)
        have HRU := Lib.hid hru
        have HBL := Lib.hid hL3.bel
        have HRW := Lib.hid (row_celI hcel hn5)
        clear hru hL3 hcel bb HUS HL
        dsimp only
        go_wp2_with fail
        refine HRU.out.mono ?_
        rintro e wd ⟨a9, c9, rfl, hr3, bd⟩
        have hsm := same_us _ _ _ _ s.us wd (rowB HRW.out bd) hr3
        have HSM := Lib.hid hsm
        have HBL2 := Lib.hid (stepB HBL.out bd)
        clear hsm hr3 bd HBL HRW HRU
        dsimp only
        go_wp2_with fail
        refine HSM.out.mono ?_
        rintro e we ⟨rfl, be⟩
        have HBL3 := Lib.hid (stepB HBL2.out be)
        clear be HBL2 HSM
        dsimp only
        go_wp2_with fail
        refine (HLV.out we).mono ?_
        rintro e wh ⟨rfl, bh⟩
        have hb2 := stepB BZ.out (stepB HBL3.out bh)
        dsimp only
        go_wp2_with fail
        go_ret
        exact ⟨rfl, hb2⟩
end Go.Proofs.Ytcohajmappdckaa
