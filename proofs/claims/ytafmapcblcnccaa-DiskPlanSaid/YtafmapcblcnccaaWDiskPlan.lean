/- DiskPlan: the walk. -/
import Derived.Test.YtafmapcblcnccaaDkT
import Derived.Test.YtafmapcblcnccaaRefA
namespace Go.Proofs.Ytafmapcblcnccaa
open Go.RowKit Go.Shelf
set_option linter.unusedVariables false

theorem PlanSt.under {w w1 : World} {n0 p m M k sz : Nat} (h : PlanSt w n0 p m M k sz w1) : Below n0 w w1 := by
  obtain ⟨s, v, _, _, h⟩ := h
  exact h
theorem planUsed' {w w1 : World} {n0 p m M k sz : Nat} (x : Int) (hx : (sz : Int) = x) (h : PlanSt w n0 p m M k sz w1) : Calls Try.prog 24 #[.pointer (some ⟨p, 0, none⟩)] w1 fun e w' => e = .returned (.int .i64 x) ∧ PlanSt w n0 p m M k sz w' := by
  subst hx
  exact planUsed h
set_option maxRecDepth 100000 in
set_option maxHeartbeats 16000000 in
theorem diskPlan_walk (a0 : Int) (a1 : Option Addr) (len1 cap1 : Nat) (z1 : List Int) (w : World) (w0 : (Lit.int .i64 a0).wf = true) (w1 : IsRow .i64 w a1 len1 cap1 z1) :
    Calls Try.prog 7 #[.int .i64 a0, .slice a1 len1 cap1] w fun e w' => e = .returned (.bool true) ∧ Below w.heap.size w w' := by
  have HLV := Lib.hid lives30_any
  obtain ⟨hr, hw⟩ := w1.row
  have hll := hr.len
  have hlc := hr.lencap
  have hlen : len1 ≤ 9223372036854775807 := by unfold maxLen at hlc; omega
  have HN := Lib.hid (newD_ok 1000 (by decide) (by decide) w)
  obtain ⟨l, hl⟩ : ∃ l, l = z1.take len1 := ⟨_, rfl⟩
  rw [← hl] at hr hw hll
  have HR := Lib.hid hr
  have HW := Lib.hid hw
  have HLL := Lib.hid hll
  have hm0 := aroundI_lo a0 8 (by decide)
  have hm1 := aroundI_hi a0 8 (by decide)
  have HAR := Lib.hid (fun W => around_any a0 8 W w0 (by decide) (by decide))
  clear hr hw w0 w1 hl hll hlc
  obtain ⟨M, hM⟩ := Int.eq_ofNat_of_zero_le hm0
  have hM' : aroundI a0 8 = (M : Int) := hM
  have HM := Lib.hid hM'
  have hM8 : M < 8 := by omega
  clear hm0 hm1 hM hM'
  go_enter Try.func7, Try.ntmps7
  go_wp2_with fail
  refine HN.out.mono ?_
  rintro e q1 ⟨rfl, hD1, b1⟩
  dsimp only
  have HD1 := Lib.hid hD1
  have HB1 := Lib.hid b1
  clear hD1 b1 HN
  obtain ⟨p, hp⟩ : ∃ p, p = w.heap.size + 1 := ⟨_, rfl⟩
  rw [← hp] at HD1 ⊢
  clear hp
  go_wp2_with fail
  refine (HAR.out q1).mono ?_
  rintro e q2 ⟨rfl, hq2⟩
  subst hq2
  rw [HM.out]
  dsimp only
  go_wp2_with fail
  refine (planNew HD1.out HB1.out (by omega)).mono ?_
  rintro e q3 ⟨rfl, hS⟩
  dsimp only
  have HS0 := Lib.hid hS
  clear hS HD1 HB1 HAR
  go_wp2_with fail
  go_loopw [8, 9] (fun sv i wr => ∃ (k c : Nat) (C : Int), sv = .int .i64 C ∧ i = .int .i64 (k : Int) ∧ Hid ((c : Int) = C) ∧ k ≤ 12 ∧ c ≤ k ∧ 0 ≤ C ∧ C ≤ 12 ∧ Hid (PlanSt w w.heap.size p w.heap.size M k c wr)) (fun _ i _ => 13 - (intOf i).toNat)
  case atStart => exact ⟨0, 0, 0, rfl, rfl, Lib.hid rfl, by omega, by omega, by omega, by omega, HS0⟩
  case round =>
    obtain ⟨k, c, C, rfl, rfl, hC, hk12, hck, hC0, hC12, HS⟩ := hrel
    by_cases hlt : k < len1 ∧ k < 12
    · obtain ⟨hlt, hk⟩ := hlt
      obtain ⟨b, off, ha, _, hcc⟩ := (RowP.below HS.out.under HR.out).at (by rw [← HLL.out]; omega)
      have c0 := hcc k (by rw [← HLL.out]; omega)
      have HA := Lib.hid ha
      subst ha
      have i0 : (0 : Int) ≤ (k : Int) := by omega
      have i1 : (k : Int) < (len1 : Int) := by omega
      have i2 : (k : Int) < 12 := by omega
      have hX : (Lit.int .i64 (l[k]?.getD 0)).wf = true := by
        rw [List.getElem?_eq_getElem (by rw [← HLL.out]; omega)]
        exact HW.out _ (List.getElem_mem _)
      generalize l[k]?.getD 0 = X at *
      have hA0 := aroundI_lo X 3 (by decide)
      have hA1 := aroundI_hi X 3 (by decide)
      have HAX := Lib.hid (around_any X 3 wr hX (by decide) (by decide))
      clear hcc hX
      obtain ⟨A, hA⟩ : ∃ A, A = aroundI X 3 := ⟨_, rfl⟩
      rw [← hA] at hA0 hA1
      have HAE := Lib.hid hA
      clear hA
      have hw1 : IntKind.i64.wrap (C + 1) = C + 1 := IntWalk.i64_in _ (by omega)
      have hw2 : IntKind.i64.wrap (C - 1) = C - 1 := IntWalk.i64_in _ (by omega)
      have hwk : IntKind.i64.wrap ((k : Int) + 1) = (k : Int) + 1 := IntWalk.i64_in _ (by omega)
      obtain h9 | h9 | h9 : A = 0 ∨ A = 1 ∨ A = 2 := by omega
      · obtain ⟨g1, g2, g3⟩ | ⟨g1, g2, g3⟩ | ⟨g1, g2, g3⟩ : ((k : Int) < (M : Int) ∧ ¬ (M : Int) ≤ (k : Int) ∧ (k : Int) ≤ (M : Int)) ∨ (¬ (k : Int) < (M : Int) ∧ (M : Int) ≤ (k : Int) ∧ (k : Int) ≤ (M : Int)) ∨ (¬ (k : Int) < (M : Int) ∧ (M : Int) ≤ (k : Int) ∧ ¬ (k : Int) ≤ (M : Int)) := by omega
        all_goals
          go_wp2_with fail
          refine HAX.out.mono ?_
          rintro e q4 ⟨rfl, hq4⟩
          subst hq4
          rw [← HAE.out, h9]
          dsimp only
          clear HAX HAE hA0 hA1 h9
          have b5 := laidB (Below.refl q4.heap.size q4) (.cells #[.int .u8 5] 5)
          have HS1 := Lib.hid (HS.out.below b5)
          have hr5 := Lib.hid (litB q4 [5] (by decide) 1 rfl #[.int .u8 5] rfl)
          clear b5
          go_wp2_with fail
          first
            | refine (planApp 0 (c + 1) (if_pos (by omega)) (if_pos (by omega)) HS1.out (by omega) _ _ hr5.out).mono ?_
            | refine (planApp 19 (c + 1) (if_neg (by omega)) (if_pos (by omega)) HS1.out (by omega) _ _ hr5.out).mono ?_
            | refine (planApp 19 c (if_neg (by omega)) (if_neg (by omega)) HS1.out (by omega) _ _ hr5.out).mono ?_
          rintro e q5 ⟨rfl, hS⟩
          dsimp only
          have HS2 := Lib.hid hS
          clear hS HS
          go_wp2_with fail
          first
            | refine (planOn true (decide_eq_true (by omega)) HS2.out).mono ?_
            | refine (planOn false (decide_eq_false (by omega)) HS2.out).mono ?_
          rintro e q6 ⟨rfl, hq6⟩
          subst hq6
          dsimp only
          go_wp2_with fail
          first
            | refine (planUsed' (C + 1) (by have := hC.out; omega) HS2.out).mono ?_
            | refine (planUsed' (C) (by have := hC.out; omega) HS2.out).mono ?_
          rintro e q7 ⟨rfl, hS⟩
          dsimp only
          have HS3 := Lib.hid hS
          clear hS HS2
          go_wp2_with fail
          go_roundw
          case rel =>
            have hC' := hC.out
            first
              | exact ⟨k + 1, c + 1, C + 1, rfl, by go_num, Lib.hid (by omega), by omega, by omega, by omega, by omega, HS3⟩
              | exact ⟨k + 1, c, C, rfl, by go_num, Lib.hid (by omega), by omega, by omega, by omega, by omega, HS3⟩
          case measure => simp [intOf]; omega
      · obtain ⟨g1, g2, g3⟩ | ⟨g1, g2, g3⟩ | ⟨g1, g2, g3⟩ : ((k : Int) < (M : Int) ∧ ¬ (M : Int) ≤ (k : Int) ∧ (k : Int) ≤ (M : Int)) ∨ (¬ (k : Int) < (M : Int) ∧ (M : Int) ≤ (k : Int) ∧ (k : Int) ≤ (M : Int)) ∨ (¬ (k : Int) < (M : Int) ∧ (M : Int) ≤ (k : Int) ∧ ¬ (k : Int) ≤ (M : Int)) := by omega
        all_goals
          go_wp2_with fail
          refine HAX.out.mono ?_
          rintro e q4 ⟨rfl, hq4⟩
          subst hq4
          rw [← HAE.out, h9]
          dsimp only
          clear HAX HAE hA0 hA1 h9
          go_wp2_with fail
          first
            | refine (planSync 0 (if_pos (by omega)) HS.out).mono ?_
            | refine (planSync 19 (if_neg (by omega)) HS.out).mono ?_
          rintro e q5 ⟨rfl, hS⟩
          dsimp only
          have HS2 := Lib.hid hS
          clear hS HS
          go_wp2_with fail
          first
            | refine (planOn true (decide_eq_true (by omega)) HS2.out).mono ?_
            | refine (planOn false (decide_eq_false (by omega)) HS2.out).mono ?_
          rintro e q6 ⟨rfl, hq6⟩
          subst hq6
          dsimp only
          go_wp2_with fail
          first
            | refine (planUsed' (C) (by have := hC.out; omega) HS2.out).mono ?_
          rintro e q7 ⟨rfl, hS⟩
          dsimp only
          have HS3 := Lib.hid hS
          clear hS HS2
          go_wp2_with fail
          go_roundw
          case rel =>
            have hC' := hC.out
            first
              | exact ⟨k + 1, c, C, rfl, by go_num, Lib.hid (by omega), by omega, by omega, by omega, by omega, HS3⟩
          case measure => simp [intOf]; omega
      · by_cases h0 : 0 < c
        · obtain ⟨g1, g2, g3⟩ | ⟨g1, g2, g3⟩ | ⟨g1, g2, g3⟩ : ((k : Int) < (M : Int) ∧ ¬ (M : Int) ≤ (k : Int) ∧ (k : Int) ≤ (M : Int)) ∨ (¬ (k : Int) < (M : Int) ∧ (M : Int) ≤ (k : Int) ∧ (k : Int) ≤ (M : Int)) ∨ (¬ (k : Int) < (M : Int) ∧ (M : Int) ≤ (k : Int) ∧ ¬ (k : Int) ≤ (M : Int)) := by omega
          all_goals
            go_wp2_with fail
            refine HAX.out.mono ?_
            rintro e q4 ⟨rfl, hq4⟩
            subst hq4
            rw [← HAE.out, h9]
            dsimp only
            clear HAX HAE hA0 hA1 h9
            have hcp : 0 < C := by have := hC.out; omega
            go_wp2_with fail
            first
              | refine (planTr 0 (c - 1) (if_pos (by omega)) (if_pos (by omega)) HS.out h0 (C - 1) (by have := hC.out; omega)).mono ?_
              | refine (planTr 19 c (if_neg (by omega)) (if_neg (by omega)) HS.out h0 (C - 1) (by have := hC.out; omega)).mono ?_
            rintro e q5 ⟨rfl, hS⟩
            dsimp only
            have HS2 := Lib.hid hS
            clear hS HS
            go_wp2_with fail
            first
              | refine (planOn true (decide_eq_true (by omega)) HS2.out).mono ?_
              | refine (planOn false (decide_eq_false (by omega)) HS2.out).mono ?_
            rintro e q6 ⟨rfl, hq6⟩
            subst hq6
            dsimp only
            go_wp2_with fail
            first
              | refine (planUsed' (C - 1) (by have := hC.out; omega) HS2.out).mono ?_
              | refine (planUsed' (C) (by have := hC.out; omega) HS2.out).mono ?_
            rintro e q7 ⟨rfl, hS⟩
            dsimp only
            have HS3 := Lib.hid hS
            clear hS HS2
            go_wp2_with fail
            go_roundw
            case rel =>
              have hC' := hC.out
              first
                | exact ⟨k + 1, c - 1, C - 1, rfl, by go_num, Lib.hid (by omega), by omega, by omega, by omega, by omega, HS3⟩
                | exact ⟨k + 1, c, C, rfl, by go_num, Lib.hid (by omega), by omega, by omega, by omega, by omega, HS3⟩
            case measure => simp [intOf]; omega
        · have hcz : ¬ 0 < C := by have := hC.out; omega
          obtain ⟨g1, g2, g3⟩ | ⟨g1, g2, g3⟩ | ⟨g1, g2, g3⟩ : ((k : Int) < (M : Int) ∧ ¬ (M : Int) ≤ (k : Int) ∧ (k : Int) ≤ (M : Int)) ∨ (¬ (k : Int) < (M : Int) ∧ (M : Int) ≤ (k : Int) ∧ (k : Int) ≤ (M : Int)) ∨ (¬ (k : Int) < (M : Int) ∧ (M : Int) ≤ (k : Int) ∧ ¬ (k : Int) ≤ (M : Int)) := by omega
          all_goals
            go_wp2_with fail
            refine HAX.out.mono ?_
            rintro e q4 ⟨rfl, hq4⟩
            subst hq4
            rw [← HAE.out, h9]
            dsimp only
            clear HAX HAE hA0 hA1 h9
            go_wp2_with fail
            first
              | refine (planSync 0 (if_pos (by omega)) HS.out).mono ?_
              | refine (planSync 19 (if_neg (by omega)) HS.out).mono ?_
            rintro e q5 ⟨rfl, hS⟩
            dsimp only
            have HS2 := Lib.hid hS
            clear hS HS
            go_wp2_with fail
            first
              | refine (planOn true (decide_eq_true (by omega)) HS2.out).mono ?_
              | refine (planOn false (decide_eq_false (by omega)) HS2.out).mono ?_
            rintro e q6 ⟨rfl, hq6⟩
            subst hq6
            dsimp only
            go_wp2_with fail
            first
              | refine (planUsed' (C) (by have := hC.out; omega) HS2.out).mono ?_
            rintro e q7 ⟨rfl, hS⟩
            dsimp only
            have HS3 := Lib.hid hS
            clear hS HS2
            go_wp2_with fail
            go_roundw
            case rel =>
              have hC' := hC.out
              first
                | exact ⟨k + 1, c, C, rfl, by go_num, Lib.hid (by omega), by omega, by omega, by omega, by omega, HS3⟩
            case measure => simp [intOf]; omega
    · have hC' := hC.out
      subst hC'
      have HSX := Lib.hid (HS.out.below (laidB (Below.refl wr.heap.size wr) (.cells #[.int .i64 1000] 3)))
      have hr5 := Lib.hid (litI wr [1000] (by decide) 1 rfl #[.int .i64 1000] rfl)
      obtain ⟨h8, h9⟩ | ⟨h8, h9⟩ : ((k : Int) < (len1 : Int) ∧ decide ((k : Int) < 12) = false) ∨ (¬ (k : Int) < (len1 : Int) ∧ True) := by
        by_cases h7 : k < len1
        · exact .inl ⟨by omega, decide_eq_false (by omega)⟩
        · exact .inr ⟨by omega, trivial⟩
      all_goals
        clear hlt
        go_wp2_with fail
        refine (planCrash HSX.out (by omega) _ _ hr5.out).mono ?_
        rintro e q4 ⟨rfl, s, v, ⟨e1, e2, e3, e4, e5⟩, hD, hb⟩
        dsimp only
        have HD4 := Lib.hid hD
        have HB4 := Lib.hid hb
        obtain ⟨zs, hzs⟩ : ∃ zs, bytesAt s.f 1 = zs := ⟨_, rfl⟩
        rw [hzs] at e3
        have H1 := Lib.hid e1
        have H2 := Lib.hid e2
        have H3 := Lib.hid e3
        have H4 := Lib.hid e4
        have HZ := Lib.hid hzs
        clear hD hb e1 e2 e3 e4 e5 hzs HSX hr5 HS
        go_wp2_with fail
        refine (readD_own _ HD4.out 1 (by decide) (by decide) H1.out zs HZ.out c H3.out (by rw [H3.out]; omega)).mono ?_
        rintro e q5 ⟨a5, c5, rfl, -, b5⟩
        dsimp only
        have HD5 := Lib.hid (HD4.out.step b5)
        have HB5 := Lib.hid (HB4.out.trans (b5.mono HB4.out.size))
        clear b5 HD4 HB4
        go_wp2_with fail
        have hon := on_any q5 HD5.out
        rw [H1.out] at hon
        refine hon.mono ?_
        rintro e q6 ⟨rfl, hq6⟩
        subst hq6
        dsimp only [Bool.not_false]
        clear hon
        go_wp2_with fail
        have hsy : s.sync = (0, { s.step with f := settleF s.f }) := by
          unfold DS.sync
          rw [if_neg (by rw [H1.out]; decide), if_neg]
          unfold DS.stepOk
          rw [H2.out]
          decide
        refine (sync_is (s' := { s.step with f := settleF s.f }) q6 HD5.out H4.out 0 hsy).mono ?_
        rintro e q7 ⟨rfl, v7, h7, o7, -⟩
        dsimp only
        have HB7 := Lib.hid (HB5.out.trans (HD5.out.below o7 (Nat.le_refl _)))
        clear h7 o7 hsy HD5 HB5
        go_wp2_with fail
        refine (HLV.out _).mono ?_
        rintro e q8 ⟨rfl, b8⟩
        dsimp only
        go_wp2_with fail
        go_ret
        exact ⟨rfl, stepB HB7.out b8⟩
end Go.Proofs.Ytafmapcblcnccaa
