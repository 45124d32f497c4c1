/- Contracts of the reference: Assert. -/
import Derived.Test.YtnfelphemdchpaaTxtA
namespace Go.Proofs.Ytnfelphemdchpaa
open Go.RowKit Go.Shelf
set_option linter.unusedVariables false

def selB (n : Int) (x0 x1 x2 x3 x4 x5 : Bool) : Bool := if n = 0 then x0 else if n = 1 then x1 else if n = 2 then x2 else if n = 3 then x3 else if n = 4 then x4 else if n = 5 then x5 else false
theorem selB_all {n : Int} {x0 x1 x2 x3 x4 x5 B : Bool} (h : selB n x0 x1 x2 x3 x4 x5 = B) :
    ((n == 0) = true → B = x0) ∧ ((n == 0) = false → (n == 1) = true → B = x1) ∧ ((n == 0) = false → (n == 1) = false → (n == 2) = true → B = x2) ∧ ((n == 0) = false → (n == 1) = false → (n == 2) = false → (n == 3) = true → B = x3) ∧
    ((n == 0) = false → (n == 1) = false → (n == 2) = false → (n == 3) = false → (n == 4) = true → B = x4) ∧ ((n == 0) = false → (n == 1) = false → (n == 2) = false → (n == 3) = false → (n == 4) = false → (n == 5) = true → B = x5) ∧
    ((n == 0) = false → (n == 1) = false → (n == 2) = false → (n == 3) = false → (n == 4) = false → (n == 5) = false → B = false) := by
  subst h
  unfold selB
  simp only [beq_iff_eq, beq_eq_false_iff_ne, ne_eq]
  refine ⟨fun h0 => by rw [if_pos h0], fun h0 h1 => by rw [if_neg h0, if_pos h1], fun h0 h1 h2 => by rw [if_neg h0, if_neg h1, if_pos h2], fun h0 h1 h2 h3 => by rw [if_neg h0, if_neg h1, if_neg h2, if_pos h3], fun h0 h1 h2 h3 h4 => by rw [if_neg h0, if_neg h1, if_neg h2, if_neg h3, if_pos h4], fun h0 h1 h2 h3 h4 h5 => by rw [if_neg h0, if_neg h1, if_neg h2, if_neg h3, if_neg h4, if_pos h5], fun h0 h1 h2 h3 h4 h5 => by rw [if_neg h0, if_neg h1, if_neg h2, if_neg h3, if_neg h4, if_neg h5]⟩
set_option maxRecDepth 100000 in
set_option maxHeartbeats 4000000 in
theorem refAssert_any (n : Int) (a : Option Addr) (cap : Nat) (l : List Int) (p : Int) (w : World) (hr : Row .i64 w.heap.size w (.slice a l.length cap) l) :
    Calls Try.prog 27 #[.int .i64 n, .slice a l.length cap, .int .i64 p] w fun e w' => e = .returned (.bool (assertB n l p)) ∧ w' = w := by
  have hlc := hr.lencap
  unfold maxLen at hlc
  by_cases hp : p < 0 ∨ (l.length : Int) < p
  · have hB : assertB n l p = false := by unfold assertB; rw [if_pos hp]
    rw [hB]
    clear hB
    by_cases hp0 : p < 0
    · clear hp
      go_enter Try.func27, Try.ntmps27
      go_wp2_with fail
      go_ret
      exact ⟨rfl, rfl⟩
    · have hp1 : (l.length : Int) < p := by omega
      clear hp
      go_enter Try.func27, Try.ntmps27
      go_wp2_with fail
      go_ret
      exact ⟨rfl, rfl⟩
  · have hB : assertB n l p = selB n (p == 0) (p == (l.length : Int)) (p == 0 || l[(p - 1).toNat]?.getD 0 == 10) (p == (l.length : Int) || l[p.toNat]?.getD 0 == 10) (befB l p != aftB l p) (befB l p == aftB l p) := by unfold assertB; rw [if_neg hp]; rfl
    rw [hB]
    clear hB
    obtain ⟨q, rfl⟩ := Int.eq_ofNat_of_zero_le (show 0 ≤ p by omega)
    have hq : q ≤ l.length := by omega
    rw [Int.toNat_natCast]
    generalize hB : selB n _ _ _ _ _ _ = B
    unfold befB aftB at hB
    rw [Int.toNat_natCast] at hB
    have hp0 : (0 : Int) ≤ (q : Int) := by omega
    have hp1 : (q : Int) ≤ (l.length : Int) := by omega
    clear hp
    by_cases h0 : q = 0
    · subst h0
      rw [show decide ((0 : Int) < ((0 : Nat) : Int)) = false from by decide, Bool.false_and] at hB
      by_cases h1 : 0 < l.length
      · obtain ⟨b, off, rfl, c0⟩ := row_cell hr 0 h1
        have h1i : (0 : Int) < (l.length : Int) := by omega
        have h1b : ((0 : Int) == (l.length : Int)) = false := by rw [beq_eq_false_iff_ne]; omega
        rw [show decide (((0 : Nat) : Int) < (l.length : Int)) = true from decide_eq_true (by omega), Bool.true_and] at hB
        simp only [Nat.add_zero] at c0
        generalize l[0]?.getD 0 = x at *
        have HS := Lib.hid (selB_all hB)
        clear hB
        go_enter Try.func27, Try.ntmps27
        go_wp2_with fail
        refine (refWord_any _ _).mono ?_
        rintro e W ⟨rfl, rfl⟩
        dsimp only
        go_wp2_with fail
        all_goals
          go_ret
          refine ⟨ret_bool ?_, rfl⟩
          first
            | rw [HS.out.1 (by assumption)]
            | rw [HS.out.2.1 (by assumption) (by assumption)]
            | rw [HS.out.2.2.1 (by assumption) (by assumption) (by assumption)]
            | rw [HS.out.2.2.2.1 (by assumption) (by assumption) (by assumption) (by assumption)]
            | rw [HS.out.2.2.2.2.1 (by assumption) (by assumption) (by assumption) (by assumption) (by assumption)]
            | rw [HS.out.2.2.2.2.2.1 (by assumption) (by assumption) (by assumption) (by assumption) (by assumption) (by assumption)]
            | rw [HS.out.2.2.2.2.2.2 (by assumption) (by assumption) (by assumption) (by assumption) (by assumption) (by assumption)]
          try (first | rfl | (simp; done) | (simp; omega) | (simp_all; done))
      · have h1i : ¬ (0 : Int) < (l.length : Int) := by omega
        have h1b : ((0 : Int) == (l.length : Int)) = true := by rw [beq_iff_eq]; omega
        rw [show decide (((0 : Nat) : Int) < (l.length : Int)) = false from decide_eq_false (by omega), Bool.false_and] at hB
        have HS := Lib.hid (selB_all hB)
        clear hB
        go_enter Try.func27, Try.ntmps27
        go_wp2_with fail
        all_goals
          go_ret
          refine ⟨ret_bool ?_, rfl⟩
          first
            | rw [HS.out.1 (by assumption)]
            | rw [HS.out.2.1 (by assumption) (by assumption)]
            | rw [HS.out.2.2.1 (by assumption) (by assumption) (by assumption)]
            | rw [HS.out.2.2.2.1 (by assumption) (by assumption) (by assumption) (by assumption)]
            | rw [HS.out.2.2.2.2.1 (by assumption) (by assumption) (by assumption) (by assumption) (by assumption)]
            | rw [HS.out.2.2.2.2.2.1 (by assumption) (by assumption) (by assumption) (by assumption) (by assumption) (by assumption)]
            | rw [HS.out.2.2.2.2.2.2 (by assumption) (by assumption) (by assumption) (by assumption) (by assumption) (by assumption)]
          try (first | rfl | (simp; done) | (simp; omega) | (simp_all; done))
    · have hp2 : (0 : Int) < (q : Int) := by omega
      have hpb : ((q : Int) == 0) = false := by rw [beq_eq_false_iff_ne]; omega
      have e1 : (((q : Int) - 1)).toNat = q - 1 := by omega
      have hw1 : IntKind.i64.wrap ((q : Int) - 1) = (q : Int) - 1 := IntWalk.i64_in _ (by omega)
      have hq0 : (0 : Int) ≤ (q : Int) - 1 := by omega
      have hq1 : (q : Int) - 1 < (l.length : Int) := by omega
      rw [show decide ((0 : Int) < (q : Int)) = true from decide_eq_true (by omega), Bool.true_and, e1] at hB
      obtain ⟨b, off, rfl, c0⟩ := row_cell hr (q - 1) (by omega)
      by_cases h1 : q < l.length
      · obtain ⟨b', off', eqa, c1⟩ := row_cell hr q h1
        simp only [Option.some.injEq, Addr.mk.injEq, and_true] at eqa
        obtain ⟨rfl, rfl⟩ := eqa
        have h1i : (q : Int) < (l.length : Int) := by omega
        have h1b : ((q : Int) == (l.length : Int)) = false := by rw [beq_eq_false_iff_ne]; omega
        rw [show decide ((q : Int) < (l.length : Int)) = true from decide_eq_true (by omega), Bool.true_and] at hB
        generalize l[q - 1]?.getD 0 = x at *
        generalize l[q]?.getD 0 = y at *
        have HS := Lib.hid (selB_all hB)
        clear hB
        go_enter Try.func27, Try.ntmps27
        go_wp2_with fail
        refine (refWord_any _ _).mono ?_
        rintro e W ⟨rfl, rfl⟩
        dsimp only
        go_wp2_with fail
        refine (refWord_any _ _).mono ?_
        rintro e W ⟨rfl, rfl⟩
        dsimp only
        go_wp2_with fail
        all_goals
          go_ret
          refine ⟨ret_bool ?_, rfl⟩
          first
            | rw [HS.out.1 (by assumption)]
            | rw [HS.out.2.1 (by assumption) (by assumption)]
            | rw [HS.out.2.2.1 (by assumption) (by assumption) (by assumption)]
            | rw [HS.out.2.2.2.1 (by assumption) (by assumption) (by assumption) (by assumption)]
            | rw [HS.out.2.2.2.2.1 (by assumption) (by assumption) (by assumption) (by assumption) (by assumption)]
            | rw [HS.out.2.2.2.2.2.1 (by assumption) (by assumption) (by assumption) (by assumption) (by assumption) (by assumption)]
            | rw [HS.out.2.2.2.2.2.2 (by assumption) (by assumption) (by assumption) (by assumption) (by assumption) (by assumption)]
          try (first | rfl | (simp; done) | (simp; omega) | (simp_all; done))
      · have h1i : ¬ (q : Int) < (l.length : Int) := by omega
        have h1b : ((q : Int) == (l.length : Int)) = true := by rw [beq_iff_eq]; omega
        rw [show decide ((q : Int) < (l.length : Int)) = false from decide_eq_false (by omega), Bool.false_and] at hB
        generalize l[q - 1]?.getD 0 = x at *
        have HS := Lib.hid (selB_all hB)
        clear hB
        go_enter Try.func27, Try.ntmps27
        go_wp2_with fail
        refine (refWord_any _ _).mono ?_
        rintro e W ⟨rfl, rfl⟩
        dsimp only
        go_wp2_with fail
        all_goals
          go_ret
          refine ⟨ret_bool ?_, rfl⟩
          first
            | rw [HS.out.1 (by assumption)]
            | rw [HS.out.2.1 (by assumption) (by assumption)]
            | rw [HS.out.2.2.1 (by assumption) (by assumption) (by assumption)]
            | rw [HS.out.2.2.2.1 (by assumption) (by assumption) (by assumption) (by assumption)]
            | rw [HS.out.2.2.2.2.1 (by assumption) (by assumption) (by assumption) (by assumption) (by assumption)]
            | rw [HS.out.2.2.2.2.2.1 (by assumption) (by assumption) (by assumption) (by assumption) (by assumption) (by assumption)]
            | rw [HS.out.2.2.2.2.2.2 (by assumption) (by assumption) (by assumption) (by assumption) (by assumption) (by assumption)]
          try (first | rfl | (simp; done) | (simp; omega) | (simp_all; done))
end Go.Proofs.Ytnfelphemdchpaa
