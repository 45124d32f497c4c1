/- MeterApart: the walk. -/
import Derived.Test.YtcohajmappdckaaMtM
import Derived.Deep.DeepCutAuto
namespace Go.Proofs.Ytcohajmappdckaa
open Go.RowKit Go.Shelf
set_option linter.unusedVariables false

set_option maxRecDepth 100000 in
set_option maxHeartbeats 16000000 in
theorem meterApart_walk (a0 : Option Addr) (len0 cap0 : Nat) (z0 : List Int) (a1 : Int) (a2 : Int) (w : World) (w0 : IsRow .i64 w a0 len0 cap0 z0) (w1 : (Lit.int .i64 a1).wf = true) (w2 : (Lit.int .i64 a2).wf = true) :
    Calls Try.prog 6 #[.slice a0 len0 cap0, .int .i64 a1, .int .i64 a2] w fun e w' => e = .returned (.bool true) ∧ Below w.heap.size w w' := by
  obtain ⟨i0, hi, hz0, hz1, hz2⟩ := info_parts info_im
  obtain ⟨hr0, hw0⟩ := w0.row
  have hl0 := hr0.len
  clear w0
  generalize z0.take len0 = l0 at *
  subst hl0
  have s0 := aroundI_lo a1 21 (by decide)
  have s1 := aroundI_hi a1 21 (by decide)
  have p0 := aroundI_lo a2 12 (by decide)
  have p1 := aroundI_hi a2 12 (by decide)
  have hA1 := around_any a1 21 w w1 (by decide) (by decide)
  have hA2 := around_any a2 12 w w2 (by decide) (by decide)
  generalize aroundI a1 21 = sh at *
  generalize aroundI a2 12 = pe at *
  have HA1 := Lib.hid hA1
  have HA2 := Lib.hid hA2
  have HR0 := Lib.hid hr0
  have HW0 := Lib.hid hw0
  have HLV := Lib.hid lives33_any
  clear hA1 hA2 hr0 hw0 w1 w2
  go_enter Try.func6, Try.ntmps6
  go_wp2_with fail
  refine HA1.out.mono ?_
  rintro e q1 ⟨rfl, hq1⟩
  subst hq1
  dsimp only
  go_wp2_with fail
  refine HA2.out.mono ?_
  rintro e q2 ⟨rfl, hq2⟩
  subst hq2
  dsimp only
  go_wp2_with fail
  refine (new_ok 4 4 rfl sh (1 + pe) _ (by decide) (by decide) s0 (by omega) (by omega) (by omega)).mono ?_
  rintro e q3 ⟨p, u, rfl, hp, hu, hM, b3⟩
  dsimp only
  go_wp2_with fail
  refine (new_ok 1 1 rfl sh (1 + pe) q3 (by decide) (by decide) s0 (by omega) (by omega) (by omega)).mono ?_
  rintro e q4 ⟨p', u', rfl, hp', hu', hO, b4⟩
  have hM4 := hM.step b4
  have b5 := stepB b3 b4
  have hpl := hM.box.lt
  have hul := hM.row.lt
  have hrow4 := rowB HR0.out b5
  have HM4 := Lib.hid hM4
  have HO4 := Lib.hid hO
  have HB5 := Lib.hid b5
  have HR4 := Lib.hid hrow4
  clear hM hO b3 b4 b5 hM4 hrow4 HR0 HA1 HA2
  dsimp only
  go_wp2_with fail
  refine (script_any a0 cap0 l0 40 40 rfl q4 HR4.out HW0.out (by decide)).mono ?_
  intro e q5 hps
  unfold ScriptPost at hps
  obtain ⟨v, ops, rfl, hol, hok, hop, b5⟩ := hps
  have hopl : ∃ a c, v = .slice a ops.length c := by
    obtain ⟨a, c, rfl, _⟩ := hop
    exact ⟨a, c, rfl⟩
  obtain ⟨av, cv, hv⟩ := hopl
  subst hv
  have hM5 := HM4.out.step b5
  have hO5 := HO4.out.step b5
  have hB5 := stepB HB5.out b5
  have hp4 := HO4.out.box.lt
  have hu4 := HO4.out.row.lt
  have hs5 := HB5.out.size
  have hm4 := HM4.out.box.lt
  have hm5 := HM4.out.row.lt
  have D : ApD q2.heap.size p u p' u' q4.heap.size q5.heap.size := ⟨hp, hu, by omega, by omega, hm4, hm5, hp4, hu4, by omega, by omega, by omega, by omega, b5.size⟩
  have HOK := Lib.hid hok
  have HD := Lib.hid D
  clear HM4 HO4 HB5 HR4 HW0 D hok
  have hol2 : (ops.length : Int) ≤ 40 := by omega
  dsimp only
  go_wp2_with (at_make; refine wpList_make_full _ rfl _ _ 22 rfl q5.heap.size 3 i0 (.int .i64 0) 1 Try.underlying22 hi hz0 hz1 .i64 .i64 _ _ 4 rfl rfl rfl rfl (by rw [hz2]; omega) (by unfold maxLen; omega) (Nat.le_refl _) ?_; intro q6 hown6 hgrow6; rw [made_zeros] at hown6)
  have b6 : Below q5.heap.size q5 q6 := (Below.refl _ q5).grown hgrow6 (Nat.le_refl _) (fun k e => by cases e)
  have hA6 : ApW q6 p u p' u' q4.heap.size q5.heap.size q5.heap.size (zerosI 4) (MS.new 4 sh (1 + pe)) (MS.new 1 sh (1 + pe)) (.slice av ops.length cv) ops := ⟨hM5.step b6, hO5.step b6, cel_of_owns hown6, hop.step b6, Nat.le_refl _⟩
  have hRM : RelM sh (1 + pe) 0 (zerosI 4) (MS.new 4 sh (1 + pe)) := ⟨rfl, rfl, rfl, Int.le_refl _, rfl, fun i hi => by
    unfold MS.at MS.fresh MS.new zerosI
    dsimp only
    simp⟩
  have hRO : RelO sh (1 + pe) 0 ((zerosI 4)[0]?.getD 0) (MS.new 1 sh (1 + pe)) := ⟨rfl, rfl, rfl, Int.le_refl _, by
    unfold MS.at MS.fresh MS.new zerosI
    dsimp only
    simp⟩
  have HA6 := Lib.hid hA6
  have HRM := Lib.hid hRM
  have HRO := Lib.hid hRO
  have HB6 := Lib.hid (stepB hB5 b6)
  clear hA6 hRM hRO b6 hown6 hgrow6 hM5 hO5 hop hB5 hp hu hp' hu' hpl hul hp4 hu4 hs5 hm4 hm5 b5
  go_loopw [14, 15, 16] (fun tv sv iv wr => ∃ (k : Nat) (t : Int) (g : Nat) (S : List Int) (M O : MS), k ≤ ops.length ∧ iv = .int .i64 (k : Int) ∧ tv = .int .i64 t ∧ sv = .slice (some ⟨g, 0, none⟩) 4 4 ∧ 0 ≤ t ∧ t ≤ 4 * k ∧ Hid (ApW wr p u p' u' q4.heap.size q5.heap.size g S M O (.slice av ops.length cv) ops) ∧ Hid (RelM sh (1 + pe) t S M) ∧ Hid (RelO sh (1 + pe) t (S[0]?.getD 0) O) ∧ Hid (Below q2.heap.size q2 wr)) (fun _ _ i _ => ops.length - (intOf i).toNat)
  case atStart => exact ⟨0, 0, _, _, _, _, Nat.zero_le _, rfl, rfl, rfl, by omega, by omega, HA6, HRM, HRO, HB6⟩
  case round =>
    clear HA6 HRM HRO HB6
    obtain ⟨k, t, g, S, M, O, hk, rfl, rfl, rfl, t0, t1, HA, HM, HO, HB⟩ := hrel
    by_cases hlt : k < ops.length
    · obtain ⟨o, ho⟩ : ∃ o, ops[k]? = some o := ⟨ops[k], List.getElem?_eq_getElem hlt⟩
      obtain ⟨ok0, ok1, or0, or1, on0, on1, ow0, ow1⟩ := HOK.out o (List.mem_of_getElem? ho)
      obtain ⟨b, hav, hoc⟩ : ∃ b, av = some ⟨b, 0, none⟩ ∧ _ := by
        obtain ⟨a, c, e, h⟩ := HA.out.ops
        rcases h with h | ⟨b, hb, _, hc⟩
        · rw [h] at hlt; simp at hlt
        · injection e with e1 e2 e3
          exact ⟨b, e1.trans hb, hc k o ho⟩
      obtain ⟨c0, c1, c2, c3⟩ := hoc
      obtain ⟨K, R, N, Wt⟩ := o
      dsimp only at ok0 ok1 or0 or1 on0 on1 ow0 ow1 c0 c1 c2 c3
      have hi1 : (k : Int) < (ops.length : Int) := by omega
      have hi0 : (0 : Int) ≤ (k : Int) := by omega
      have HAV := Lib.hid hav
      have HOO := Lib.hid ho
      clear hav ho
      obtain rfl : av = some ⟨b, 0, none⟩ := HAV.out
      go_upto_region 14 with (fail)
      have hL : ApL q2 (wr.alloc (.cells #[.int .i64 K, .int .i64 R, .int .i64 N, .int .i64 Wt] 34)) p u p' u' q4.heap.size q5.heap.size g wr.heap.size (OpM.mk K R N Wt) S M O (.slice (some ⟨b, 0, none⟩) ops.length cv) ops :=
        ⟨HA.out.step (laidB (Below.refl wr.heap.size wr) _), Cel.new wr 34 #[.int .i64 K, .int .i64 R, .int .i64 N, .int .i64 Wt], laidB HB.out _, by have := HA.out.g; have := HA.out.s.lt; omega, by have := HA.out.s.lt; omega⟩
      have hq5 : q2.heap.size ≤ q5.heap.size := by have := HD.out.lh; have := HD.out.pl; have := HD.out.bp; omega
      clear c0 c1 c2 c3 HA HB
      generalize wr.alloc (.cells #[.int .i64 K, .int .i64 R, .int .i64 N, .int .i64 Wt] 34) = X at *
      have k3 := hL.c.cell 3
      generalize wr.heap.size = bo at *
      have HL := Lib.hid hL
      clear hL
      have t160 : t ≤ 160 := by omega
      have hp1 : 0 < 1 + pe := by omega
      go_cut [18] (fun nx wx => ∃ t' : Int, nx = .int .i64 t' ∧ t ≤ t' ∧ t' ≤ t + 4 ∧ Hid (ApL q2 wx p u p' u' q4.heap.size q5.heap.size g bo (OpM.mk K R N Wt) S M O (.slice (some ⟨b, 0, none⟩) ops.length cv) ops))
      case first =>
        as_aux_lemma =>
          by_cases hw : Wt < 0
          all_goals
            go_wp2_with fail
            go_meet
            exact ⟨_, rfl, by omega, by omega, HL⟩
      case rest =>
        clear HL k3
        obtain ⟨t', rfl, h0, h1, HL⟩ := hcut
        obtain ⟨wa, hwa⟩ : ∃ Y, Y = wc := ⟨_, rfl⟩
        subst hwa
        have t0' : 0 ≤ t' := by omega
        have t164 : t' ≤ 164 := by omega
        go_upto_region 15 with (fail)
        go_cut [83] (fun bv wx => bv = .bool (t' / (1 + pe) != t / (1 + pe)) ∧ Hid (ApL q2 wx p u p' u' q4.heap.size q5.heap.size g bo (OpM.mk K R N Wt) S M O (.slice (some ⟨b, 0, none⟩) ops.length cv) ops))
        case first =>
          as_aux_lemma =>
            go_quiet (fail)
            go_wp2_with fail
            go_meet
            exact ⟨by first | rfl | trivial, Lib.hid (HL.out.step (below_drewN (Below.refl _ _) _))⟩
        case rest =>
          clear HL
          obtain ⟨rfl, HL⟩ := hcut
          obtain ⟨wb, hwb⟩ : ∃ Y, Y = wc := ⟨_, rfl⟩
          subst hwb
          go_upto_if 83 with (fail)
          go_cut [15] (fun sv wx => ∃ (g : Nat) (S : List Int), sv = .slice (some ⟨g, 0, none⟩) 4 4 ∧ Hid (ApL q2 wx p u p' u' q4.heap.size q5.heap.size g bo (OpM.mk K R N Wt) S M O (.slice (some ⟨b, 0, none⟩) ops.length cv) ops) ∧ Hid (RelM sh (1 + pe) t' S M) ∧ Hid (RelO sh (1 + pe) t' (S[0]?.getD 0) O))
          case first =>
            as_aux_lemma =>
              by_cases hper : t' / (1 + pe) = t / (1 + pe)
              · have hb : (t' / (1 + pe) != t / (1 + pe)) = false := by simp [hper]
                have HM2 := Lib.hid (HM.out.same hp1 h0 hper)
                have HO2 := Lib.hid (HO.out.same hp1 h0 hper)
                clear hper HM HO
                go_wp2_with fail
                go_meet
                exact ⟨_, _, rfl, HL, HM2, HO2⟩
              · have hb : (t' / (1 + pe) != t / (1 + pe)) = true := by simpa using hper
                have HM2 := Lib.hid (HM.out.anew hp1 h0 hper)
                have HO2 := Lib.hid (HO.out.anew hp1 h0 hper)
                clear hper HM HO
                go_wp2_with (at_make; refine wpList_make_full _ rfl _ _ 22 rfl wb.heap.size 3 i0 (.int .i64 0) 1 Try.underlying22 hi hz0 hz1 .i64 .i64 _ _ 4 rfl rfl rfl rfl (by rw [hz2]; omega) (by unfold maxLen; omega) (Nat.le_refl _) ?_; intro q6 hown6 hgrow6; rw [made_zeros] at hown6)
                go_meet
                have b6 : Below wb.heap.size wb q6 := (Below.refl _ wb).grown hgrow6 (Nat.le_refl _) (fun k e => by cases e)
                have hL := HL.out.step b6
                have hg1 := HL.out.ap.s.lt
                have hg2 := HL.out.ap.g
                have hg3 := HL.out.c.lt
                refine ⟨_, _, rfl, Lib.hid ⟨⟨hL.ap.m, hL.ap.o, cel_of_owns hown6, hL.ap.ops, by omega⟩, hL.c, hL.b, hL.bl, by omega⟩, HM2, HO2⟩
          case rest =>
            clear HL HM HO
            obtain ⟨g, S, rfl, HL, HM, HO⟩ := hcut
            obtain ⟨wd, hwd⟩ : ∃ Y, Y = wc := ⟨_, rfl⟩
            subst hwd
            have wfR : (Lit.int .i64 R).wf = true := by simp [Lit.wf, IntKind.min, IntKind.max, IntKind.signed, IntKind.bits]; omega
            have wfN : (Lit.int .i64 N).wf = true := by simp [Lit.wf, IntKind.min, IntKind.max, IntKind.signed, IntKind.bits]; omega
            have r0 := aroundI_lo R 4 (by decide)
            have r1 := aroundI_hi R 4 (by decide)
            have n0 := aroundI_lo N 9 (by decide)
            have n1 := aroundI_hi N 9 (by decide)
            have har := around_any R 4 wd wfR (by decide) (by decide)
            have han := around_any N 9 wd wfN (by decide) (by decide)
            generalize aroundI R 4 = ri at *
            generalize aroundI N 9 = n at *
            obtain ⟨r, rfl⟩ := Int.eq_ofNat_of_zero_le r0
            have hr4 : r < 4 := by omega
            have HAR := Lib.hid har
            have HAN := Lib.hid han
            clear har han wfR wfN on0 on1 or0 or1 ow0 ow1
            have k0 : wd.cell? ⟨bo, 0, none⟩ = some (.int .i64 K) := HL.out.c.cell 0
            have k1 : wd.cell? ⟨bo, 1, none⟩ = some (.int .i64 R) := HL.out.c.cell 1
            have k2 : wd.cell? ⟨bo, 2, none⟩ = some (.int .i64 N) := HL.out.c.cell 2
            go_wp2_with fail
            refine HAR.out.mono ?_
            rintro e we ⟨rfl, hwe⟩
            subst hwe
            dsimp only
            go_wp2_with fail
            refine HAN.out.mono ?_
            rintro e wf ⟨rfl, hwf⟩
            subst hwf
            dsimp only
            go_upto_if 94 with (fail)
            clear HAR HAN k0 k1 k2
            go_cut [] (fun wx => ∃ (S : List Int) (M O : MS), Hid (ApL q2 wx p u p' u' q4.heap.size q5.heap.size g bo (OpM.mk K R N Wt) S M O (.slice (some ⟨b, 0, none⟩) ops.length cv) ops) ∧ Hid (RelM sh (1 + pe) t' S M) ∧ Hid (RelO sh (1 + pe) t' (S[0]?.getD 0) O))
            case first =>
              have hx := HL.out.ap.m.ok.at r t'
              rw [HM.out.sh, ← HM.out.at_ r hr4] at hx
              have hlS : r < S.length := by rw [HM.out.len]; exact hr4
              have hr4i : (r : Int) < 4 := by omega
              have hr0i : (0 : Int) ≤ (r : Int) := by omega
              have t1t : t' ≤ 1099511627776 := by omega
              have n1t : n ≤ 1099511627776 := by omega
              obtain ⟨x, hxe⟩ : ∃ x, S[r]?.getD 0 = x := ⟨_, rfl⟩
              have HXE := Lib.hid hxe
              rw [hxe] at hx
              clear hxe h0 h1 hp1 t160 t164 t0 t1
              have HRB := Lib.hid (show ((r : Int) == 0) = true ∧ S[0]?.getD 0 = x ∨ ((r : Int) == 0) = false ∧ ∀ v, (S.set r v)[0]?.getD 0 = S[0]?.getD 0 from by
                by_cases h : r = 0
                · exact .inl ⟨by simp [h], by rw [← HXE.out, h]⟩
                · exact .inr ⟨by simpa using h, fun v => by rw [List.getElem?_set, if_neg h]⟩)
              by_cases hK : K = 1
              · have hKb : (K == 1) = true := by simp [hK]
                clear hK
                have hbk := back_any p u M (r : Int) n t' wf HL.out.ap.m
                rw [HM.out.back r hr4 n n0 n1t t0' t1t, HXE.out] at hbk
                have hbo := fun W (h : Mt W p' u' O) => back_any p' u' O 0 n t' W h
                rw [HO.out.back n n0 n1t t0' t1t] at hbo
                by_cases hq : x < n
                · as_aux_lemma =>
                    rw [if_pos hq] at hbk
                    have HBK := Lib.hid hbk
                    have HBO := Lib.hid hbo
                    clear hbk hbo
                    have hqb : decide (n ≤ x) = false := decide_eq_false (by omega)
                    go_wp2_with fail
                    refine HBK.out.mono ?_
                    rintro e w1 ⟨rfl, hm1, ho1⟩
                    have hL1 := HL.out.turnM HD.out hm1 ho1
                    have cs : w1.cell? ⟨g, r, none⟩ = some (.int .i64 x) := by rw [cel_at hL1.ap.s r hlS, HXE.out]
                    have HL1 := Lib.hid hL1
                    clear hm1 ho1 hL1 HL HBK
                    dsimp only
                    rcases HRB.out with ⟨hrb, hs0⟩ | ⟨hrb, hs0⟩
                    · have hbo2 := HBO.out
                      rw [hs0, if_pos hq] at hbo2
                      have HBO2 := Lib.hid hbo2
                      clear hbo2 hs0 HBO HRB
                      go_wp2_with fail
                      refine (HBO2.out _ HL1.out.ap.o).mono ?_
                      rintro e w2 ⟨rfl, hm2, ho2⟩
                      have HL2 := Lib.hid (HL1.out.turnO HD.out hm2 ho2)
                      clear hm2 ho2 HBO2 HL1
                      dsimp only
                      go_wp2_with fail
                      go_meet
                      exact ⟨_, _, _, HL2, HM, HO⟩
                    · clear hs0 HBO HRB
                      go_wp2_with fail
                      go_meet
                      exact ⟨_, _, _, HL1, HM, HO⟩
                · as_aux_lemma =>
                    rw [if_neg hq] at hbk
                    have HBK := Lib.hid hbk
                    have HBO := Lib.hid hbo
                    clear hbk hbo
                    have hqb : decide (n ≤ x) = true := decide_eq_true (by omega)
                    go_wp2_with fail
                    refine HBK.out.mono ?_
                    rintro e w1 ⟨rfl, hm1, ho1⟩
                    have hL1 := HL.out.turnM HD.out hm1 ho1
                    have cs : w1.cell? ⟨g, r, none⟩ = some (.int .i64 x) := by rw [cel_at hL1.ap.s r hlS, HXE.out]
                    have fs := hL1.ap.s.free r
                    have HL2 := Lib.hid (hL1.store HD.out hq5 r (x - n))
                    have HM2 := Lib.hid (HM.out.put r hr4 (x - n))
                    clear hm1 ho1 hL1 HL HBK
                    dsimp only
                    rcases HRB.out with ⟨hrb, hs0⟩ | ⟨hrb, hs0⟩
                    · have hbo2 := HBO.out
                      rw [hs0, if_neg (by omega)] at hbo2
                      have HBO2 := Lib.hid hbo2
                      have HO2 : Hid (RelO sh (1 + pe) t' ((S.set r (x - n))[0]?.getD 0) (O.put 0 t' (x - n))) := Lib.hid (by
                        have hr0 : r = 0 := by simpa using hrb
                        have := HO.out.put (x - n)
                        rw [List.getElem?_set, if_pos hr0, if_pos (by rw [HM.out.len]; exact hr4)]
                        exact this)
                      clear hbo2 hs0 HBO HRB
                      go_wp2_with fail
                      refine (HBO2.out _ HL2.out.ap.o).mono ?_
                      rintro e w2 ⟨rfl, hm2, ho2⟩
                      have HL3 := Lib.hid (HL2.out.turnO HD.out hm2 ho2)
                      clear hm2 ho2 HBO2 HL2
                      dsimp only
                      go_wp2_with fail
                      go_meet
                      exact ⟨_, _, _, HL3, HM2, HO2⟩
                    · have HO2 : Hid (RelO sh (1 + pe) t' ((S.set r (x - n))[0]?.getD 0) O) := Lib.hid (by rw [hs0]; exact HO.out)
                      clear hs0 HBO HRB
                      go_wp2_with fail
                      go_meet
                      exact ⟨_, _, _, HL2, HM2, HO2⟩
              · have hKb : (K == 1) = false := by simpa using hK
                clear hK
                have hbk := take_any p u M (r : Int) n t' wf HL.out.ap.m
                rw [HM.out.take r hr4 n n0 n1t t0' t1t, HXE.out] at hbk
                have hbo := fun W (h : Mt W p' u' O) => take_any p' u' O 0 n t' W h
                rw [HO.out.take n n0 n1t t0' t1t] at hbo
                obtain ⟨a, hae⟩ : ∃ a, min n (sh - x) = a := ⟨_, rfl⟩
                have ha0 : 0 ≤ a := by omega
                have ha1 : a ≤ n := by omega
                have ha2 : x + a ≤ sh := by omega
                have hcase : a < n ∧ (x + a != sh) = false ∨ ¬ a < n ∧ True := by
                  by_cases h : a < n
                  · exact .inl ⟨h, by rw [bne_eq_false_iff_eq]; omega⟩
                  · exact .inr ⟨h, trivial⟩
                rw [hae] at hbk
                have HBK := Lib.hid hbk
                have HBO := Lib.hid hbo
                have HAE := Lib.hid hae
                clear hbk hbo hae
                go_wp2_with fail
                refine HBK.out.mono ?_
                rintro e w1 ⟨rfl, hm1, ho1⟩
                have hL1 := HL.out.turnM HD.out hm1 ho1
                have cs : w1.cell? ⟨g, r, none⟩ = some (.int .i64 x) := by rw [cel_at hL1.ap.s r hlS, HXE.out]
                have fs := hL1.ap.s.free r
                have hL2 := hL1.store HD.out hq5 r (x + a)
                have cs2 : (w1.setCell ⟨g, r, none⟩ (.int .i64 (x + a))).cell? ⟨g, r, none⟩ = some (.int .i64 (x + a)) := by
                  rw [cel_at hL2.ap.s r (by rw [List.length_set]; exact hlS), List.getElem?_set, if_pos rfl, if_pos hlS]
                  rfl
                have HL2 := Lib.hid hL2
                have HM2 := Lib.hid (HM.out.put r hr4 (x + a))
                clear hm1 ho1 hL1 hL2 HL HBK
                dsimp only
                rcases hcase with ⟨hc, hcb⟩ | ⟨hc, hcb⟩
                all_goals
                  as_aux_lemma =>
                    rcases HRB.out with ⟨hrb, hs0⟩ | ⟨hrb, hs0⟩
                    · have hbo2 := HBO.out
                      rw [hs0, HAE.out] at hbo2
                      have HBO2 := Lib.hid hbo2
                      have HO2 : Hid (RelO sh (1 + pe) t' ((S.set r (x + a))[0]?.getD 0) (O.put 0 t' (x + a))) := Lib.hid (by
                        have hr0 : r = 0 := by simpa using hrb
                        have := HO.out.put (x + a)
                        rw [List.getElem?_set, if_pos hr0, if_pos (by rw [HM.out.len]; exact hr4)]
                        exact this)
                      clear hbo2 hs0 HBO HRB
                      go_wp2_with fail
                      refine (HBO2.out _ HL2.out.ap.o).mono ?_
                      rintro e w2 ⟨rfl, hm2, ho2⟩
                      have HL3 := Lib.hid (HL2.out.turnO HD.out hm2 ho2)
                      clear hm2 ho2 HBO2 HL2
                      dsimp only
                      go_wp2_with fail
                      go_meet
                      exact ⟨_, _, _, HL3, HM2, HO2⟩
                    · have HO2 : Hid (RelO sh (1 + pe) t' ((S.set r (x + a))[0]?.getD 0) O) := Lib.hid (by rw [hs0]; exact HO.out)
                      clear hs0 HBO HRB
                      go_wp2_with fail
                      go_meet
                      exact ⟨_, _, _, HL2, HM2, HO2⟩
            case rest =>
              as_aux_lemma =>
                clear HL HM HO
                obtain ⟨S, M, O, HL, HM, HO⟩ := hcut
                obtain ⟨wg, hwg⟩ : ∃ Y, Y = wc := ⟨_, rfl⟩
                subst hwg
                have hlf := left_any p u M (r : Int) t' wg HL.out.ap.m
                have hx := HL.out.ap.m.ok.at r t'
                rw [HM.out.left r hr4 t0' (by omega)] at hlf
                rw [HM.out.sh, ← HM.out.at_ r hr4] at hx
                have hcs : ∀ W, Below wg.heap.size wg W → W.cell? ⟨g, r, none⟩ = some (.int .i64 (S[r]?.getD 0)) := fun W hW => cellB (cel_at HL.out.ap.s r (by rw [HM.out.len]; exact hr4)) hW
                have HLF := Lib.hid hlf
                have HCS := Lib.hid hcs
                clear hlf hcs
                generalize S[r]?.getD 0 = x at *
                go_wp2_with fail
                refine HLF.out.mono ?_
                rintro e wh ⟨rfl, bh⟩
                have cs := HCS.out wh bh
                have HL2 := HL.out.step bh
                have HA3 := Lib.hid HL2.ap
                have HB3 := Lib.hid HL2.b
                have hr4i : (r : Int) < 4 := by omega
                have hr0i : (0 : Int) ≤ (r : Int) := by omega
                clear HL2 HLF HCS bh
                dsimp only
                go_wp2_with fail
                go_roundw
                case rel => exact ⟨k + 1, t', g, S, M, O, by omega, by go_num, rfl, rfl, t0', by omega, HA3, HM, HO, HB3⟩
                case measure => simp [intOf]; omega
    · have HLV2 := Lib.hid (HLV.out wr)
      have hi1 : ¬ (k : Int) < (ops.length : Int) := by omega
      go_wp2_with fail
      refine HLV2.out.mono ?_
      rintro e wh ⟨rfl, bh⟩
      have hb2 := stepB HB.out bh
      dsimp only
      go_wp2_with fail
      go_ret
      exact ⟨rfl, hb2⟩
end Go.Proofs.Ytcohajmappdckaa
