/- Contracts: what is a symbol; the greatest symbol; the reference's Symbol. -/
import Derived.Test.YtnfelphemdchpaaTxtK
namespace Go.Proofs.Ytnfelphemdchpaa
open Go.RowKit Go.Shelf
set_option linter.unusedVariables false

/-- A number is a symbol. -/
def isSymB (n : Int) (runes : Bool) : Bool := if runes then decide (0 ≤ n ∧ n < 55296 ∨ 57343 < n ∧ n ≤ 1114111) else decide (0 ≤ n ∧ n ≤ 255)
theorem greatest_any (runes : Bool) (w : World) : Calls Try.prog 68 #[.bool runes] w fun e w' => e = .returned (.int .i64 (if runes then 1114111 else 255)) ∧ w' = w := by
  cases runes
  · go_enter Try.func68, Try.ntmps68
    go_wp2
    go_ret
    exact ⟨rfl, rfl⟩
  · go_enter Try.func68, Try.ntmps68
    go_wp2
    go_ret
    exact ⟨rfl, rfl⟩
theorem isSymbol_any (n : Int) (runes : Bool) (w : World) : Calls Try.prog 48 #[.int .i64 n, .bool runes] w fun e w' => e = .returned (.bool (isSymB n runes)) ∧ w' = w := by
  generalize hB : isSymB n runes = B
  unfold isSymB at hB
  have HB := Lib.hid hB
  clear hB
  by_cases h0 : n < 0
  · have hB2 : B = false := by rw [← HB.out]; cases runes <;> simp <;> omega
    subst hB2
    go_enter Try.func48, Try.ntmps48
    go_wp2_with fail
    go_ret
    exact ⟨rfl, rfl⟩
  · have h1 : (0 : Int) ≤ n := by omega
    go_enter Try.func48, Try.ntmps48
    go_wp2_with fail
    refine (greatest_any runes _).mono ?_
    rintro e W ⟨rfl, rfl⟩
    cases runes
    · dsimp only
      go_wp2_with fail
      all_goals
        go_ret
        exact ⟨ret_bool (by rw [← HB.out]; simp; omega), rfl⟩
    · dsimp only
      go_wp2_with fail
      all_goals
        go_ret
        exact ⟨ret_bool (by rw [← HB.out, Bool.eq_iff_iff]; simp; omega), rfl⟩
theorem refSymbol_any (n : Int) (runes : Bool) (w : World) : Calls Try.prog 52 #[.int .i64 n, .bool runes] w fun e w' => e = .returned (.bool (isSymB n runes)) ∧ w' = w := by
  generalize hB : isSymB n runes = B
  unfold isSymB at hB
  have HB := Lib.hid hB
  clear hB
  cases runes
  · go_enter Try.func52, Try.ntmps52
    go_wp2_with fail
    all_goals
      go_ret
      exact ⟨ret_bool (by rw [← HB.out, Bool.eq_iff_iff]; simp; try omega), rfl⟩
  · go_enter Try.func52, Try.ntmps52
    go_wp2_with fail
    all_goals
      go_ret
      exact ⟨ret_bool (by rw [← HB.out, Bool.eq_iff_iff]; simp; try omega), rfl⟩
end Go.Proofs.Ytnfelphemdchpaa
