/- Plain facts on assertions and lines. -/
import Derived.Test.YtnfelphemdchpaaTxtV
namespace Go.Proofs.Ytnfelphemdchpaa
open Go.RowKit Go.Shelf
set_option linter.unusedVariables false

def insideB (l : List Int) (p : Int) : Bool := decide (0 ≤ p) && decide (p ≤ (l.length : Int))
theorem assert45 (l : List Int) (p : Int) : (assertB 4 l p != assertB 5 l p) = insideB l p := by
  unfold assertB insideB
  by_cases h : p < 0 ∨ (l.length : Int) < p
  · rw [if_pos h, if_pos h]
    rcases h with h | h
    · rw [show decide (0 ≤ p) = false from decide_eq_false (by omega)]; rfl
    · rw [show decide (p ≤ (l.length : Int)) = false from decide_eq_false (by omega)]; simp
  · rw [if_neg h, if_neg h, show decide (0 ≤ p) = true from decide_eq_true (by omega), show decide (p ≤ (l.length : Int)) = true from decide_eq_true (by omega)]
    simp only [show (4 : Int) = 0 ↔ False from by decide, show (4 : Int) = 1 ↔ False from by decide, show (4 : Int) = 2 ↔ False from by decide, show (4 : Int) = 3 ↔ False from by decide, show (5 : Int) = 0 ↔ False from by decide, show (5 : Int) = 1 ↔ False from by decide, show (5 : Int) = 2 ↔ False from by decide, show (5 : Int) = 3 ↔ False from by decide, show (5 : Int) = 4 ↔ False from by decide, if_false, if_true]
    cases befB l p <;> cases aftB l p <;> rfl
theorem assert2 (l : List Int) (p : Int) : assertB 2 l p = (linesL l l.length).any (fun y => y == p) := by
  unfold assertB linesL
  by_cases h : p < 0 ∨ (l.length : Int) < p
  · rw [if_pos h]
    symm
    rw [List.any_eq_false]
    intro y hy
    rw [List.mem_cons, List.mem_map] at hy
    rcases hy with rfl | ⟨i, hi, rfl⟩
    · simp; omega
    · have : i < l.length := by have := (List.mem_filter.1 hi).1; simpa using this
      simp; omega
  · rw [if_neg h]
    simp only [show (2 : Int) = 0 ↔ False from by decide, show (2 : Int) = 1 ↔ False from by decide, if_false, if_true]
    rw [List.any_cons]
    by_cases h0 : p = 0
    · subst h0; simp
    · rw [show (p == 0) = false from by simpa using h0, show ((0 : Int) == p) = false from by simp; omega, Bool.false_or, Bool.false_or]
      rw [Bool.eq_iff_iff, List.any_eq_true]
      constructor
      · intro hx
        refine ⟨p, List.mem_map.2 ⟨(p - 1).toNat, List.mem_filter.2 ⟨by simp; omega, hx⟩, by omega⟩, by simp⟩
      · rintro ⟨y, hy, he⟩
        obtain ⟨i, hi, rfl⟩ := List.mem_map.1 hy
        have hq := (List.mem_filter.1 hi).2
        have : (i : Int) + 1 = p := by simpa using he
        rw [show (p - 1).toNat = i from by omega]
        exact hq
end Go.Proofs.Ytnfelphemdchpaa
