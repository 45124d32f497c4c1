/- Contracts of package text and its reference model: words, assertions. -/
import Derived.Test.YtnfelphemdchpaaRefB
import Derived.Test.YtnfelphemdchpaaCel
import Derived.IntWalk
import Derived.Deep.QuietTactic
import Derived.BigQuiet
namespace Go.Proofs.Ytnfelphemdchpaa
open Go.RowKit Go.Shelf
set_option linter.unusedVariables false

theorem ret_bool {a b : Bool} (h : a = b) : Ending.returned (.bool a) = .returned (.bool b) := by rw [h]
/-- A letter, a digit or _. -/
def wordB (s : Int) : Bool := decide ((97 ≤ s ∧ s ≤ 122) ∨ (65 ≤ s ∧ s ≤ 90) ∨ (48 ≤ s ∧ s ≤ 57) ∨ s = 95)
set_option maxHeartbeats 1000000 in
theorem word_any (s : Int) (w : World) : Calls Try.prog 29 #[.int .i64 s] w fun e w' => e = .returned (.bool (wordB s)) ∧ w' = w := by
  generalize hB : wordB s = B
  unfold wordB at hB
  have HB := Lib.hid hB
  clear hB
  go_enter Try.func29, Try.ntmps29
  go_wp2
  all_goals
    go_ret
    refine ⟨ret_bool ?_, rfl⟩
    rw [← HB.out, Bool.eq_iff_iff]
    simp
    try omega
set_option maxHeartbeats 1000000 in
theorem refWord_any (s : Int) (w : World) : Calls Try.prog 30 #[.int .i64 s] w fun e w' => e = .returned (.bool (wordB s)) ∧ w' = w := by
  generalize hB : wordB s = B
  unfold wordB at hB
  have HB := Lib.hid hB
  clear hB
  go_enter Try.func30, Try.ntmps30
  go_wp2
  all_goals
    go_ret
    refine ⟨ret_bool ?_, rfl⟩
    rw [← HB.out, Bool.eq_iff_iff]
    simp
    try omega
/-- What Assert answers. -/
def befB (l : List Int) (p : Int) : Bool := decide (0 < p) && wordB (l[(p - 1).toNat]?.getD 0)
def aftB (l : List Int) (p : Int) : Bool := decide (p < l.length) && wordB (l[p.toNat]?.getD 0)
def assertB (n : Int) (l : List Int) (p : Int) : Bool :=
  if p < 0 ∨ (l.length : Int) < p then false
  else if n = 0 then p == 0 else if n = 1 then p == (l.length : Int) else if n = 2 then (p == 0 || l[(p - 1).toNat]?.getD 0 == 10)
  else if n = 3 then (p == (l.length : Int) || l[p.toNat]?.getD 0 == 10) else if n = 4 then (befB l p != aftB l p) else if n = 5 then (befB l p == aftB l p) else false
theorem row_cell {k : IntKind} {W : World} {a : Option Addr} {n cap : Nat} {zs : List Int} {m : Nat} (h : Row k m W (.slice a n cap) zs) (j : Nat) (hj : j < zs.length) : ∃ b off, a = some ⟨b, off, none⟩ ∧ W.cell? ⟨b, off + j, none⟩ = some (.int k (zs[j]?.getD 0)) := by
  obtain ⟨b, off, rfl, _, hc⟩ := h.at (by omega)
  exact ⟨b, off, rfl, hc j hj⟩
set_option maxHeartbeats 1000000 in
theorem edge_any (a : Option Addr) (cap : Nat) (l : List Int) (p : Nat) (w : World) (hr : Row .i64 w.heap.size w (.slice a l.length cap) l) (hp : p ≤ l.length) :
    Calls Try.prog 56 #[.slice a l.length cap, .int .i64 (p : Int)] w fun e w' => e = .returned (.bool (befB l p != aftB l p)) ∧ w' = w := by
  have hlc := hr.lencap
  unfold maxLen at hlc
  have hp0 : (0 : Int) ≤ (p : Int) := by omega
  generalize hB : (befB l p != aftB l p) = B
  unfold befB aftB at hB
  by_cases h0 : p = 0
  · subst h0
    rw [show decide ((0 : Int) < ((0 : Nat) : Int)) = false from by decide, Bool.false_and] at hB
    by_cases h1 : 0 < l.length
    · obtain ⟨b, off, rfl, c0⟩ := row_cell hr 0 h1
      have h1i : (0 : Int) < (l.length : Int) := by omega
      rw [show decide (((0 : Nat) : Int) < (l.length : Int)) = true from decide_eq_true (by omega), Bool.true_and, Int.toNat_natCast] at hB
      have HB := Lib.hid hB
      clear hB
      simp only [Nat.add_zero] at c0
      generalize l[0]?.getD 0 = x at *
      go_enter Try.func56, Try.ntmps56
      go_wp2_with fail
      refine (word_any _ _).mono ?_
      rintro e W ⟨rfl, rfl⟩
      dsimp only
      go_wp2_with fail
      go_ret
      exact ⟨ret_bool (by rw [← HB.out]; try (first | rfl | simp)), rfl⟩
    · have h1i : ¬ (0 : Int) < (l.length : Int) := by omega
      rw [show decide (((0 : Nat) : Int) < (l.length : Int)) = false from decide_eq_false (by omega), Bool.false_and] at hB
      have HB := Lib.hid hB
      clear hB
      go_enter Try.func56, Try.ntmps56
      go_wp2_with fail
      go_ret
      exact ⟨ret_bool (by rw [← HB.out]; try (first | rfl | simp)), rfl⟩
  · have hp1 : (0 : Int) < (p : Int) := by omega
    have e1 : (((p : Int) - 1)).toNat = p - 1 := by omega
    have hw1 : IntKind.i64.wrap ((p : Int) - 1) = (p : Int) - 1 := IntWalk.i64_in _ (by omega)
    have hq0 : (0 : Int) ≤ (p : Int) - 1 := by omega
    have hq1 : (p : Int) - 1 < (l.length : Int) := by omega
    rw [show decide ((0 : Int) < (p : Int)) = true from decide_eq_true (by omega), Bool.true_and, e1] at hB
    obtain ⟨b, off, rfl, c0⟩ := row_cell hr (p - 1) (by omega)
    by_cases h1 : p < l.length
    · obtain ⟨b', off', eqa, c1⟩ := row_cell hr p h1
      simp only [Option.some.injEq, Addr.mk.injEq, and_true] at eqa
      obtain ⟨rfl, rfl⟩ := eqa
      have h1i : (p : Int) < (l.length : Int) := by omega
      rw [show decide ((p : Int) < (l.length : Int)) = true from decide_eq_true (by omega), Bool.true_and, Int.toNat_natCast] at hB
      have HB := Lib.hid hB
      clear hB
      generalize l[p - 1]?.getD 0 = x at *
      generalize l[p]?.getD 0 = y at *
      go_enter Try.func56, Try.ntmps56
      go_wp2_with fail
      refine (word_any _ _).mono ?_
      rintro e W ⟨rfl, rfl⟩
      dsimp only
      go_wp2_with fail
      refine (word_any _ _).mono ?_
      rintro e W ⟨rfl, rfl⟩
      dsimp only
      go_wp2_with fail
      go_ret
      exact ⟨ret_bool (by rw [← HB.out]; try (first | rfl | simp)), rfl⟩
    · have h1i : ¬ (p : Int) < (l.length : Int) := by omega
      rw [show decide ((p : Int) < (l.length : Int)) = false from decide_eq_false (by omega), Bool.false_and] at hB
      have HB := Lib.hid hB
      clear hB
      generalize l[p - 1]?.getD 0 = x at *
      go_enter Try.func56, Try.ntmps56
      go_wp2_with fail
      refine (word_any _ _).mono ?_
      rintro e W ⟨rfl, rfl⟩
      dsimp only
      go_wp2_with fail
      go_ret
      exact ⟨ret_bool (by rw [← HB.out]; try (first | rfl | simp)), rfl⟩
set_option maxHeartbeats 2000000 in
theorem assert_any (n : Int) (a : Option Addr) (cap : Nat) (l : List Int) (p : Int) (w : World) (hr : Row .i64 w.heap.size w (.slice a l.length cap) l) :
    Calls Try.prog 26 #[.int .i64 n, .slice a l.length cap, .int .i64 p] w fun e w' => e = .returned (.bool (assertB n l p)) ∧ w' = w := by
  have hlc := hr.lencap
  unfold maxLen at hlc
  generalize hB : assertB n l p = B
  unfold assertB at hB
  by_cases hp : p < 0
  · rw [if_pos (.inl hp)] at hB
    subst hB
    go_enter Try.func26, Try.ntmps26
    go_wp2_with fail
    go_ret
    exact ⟨rfl, rfl⟩
  · obtain ⟨q, rfl⟩ := Int.eq_ofNat_of_zero_le (show 0 ≤ p by omega)
    have hq0 : (0 : Int) ≤ (q : Int) := by omega
    by_cases hp2 : (l.length : Int) < (q : Int)
    · rw [if_pos (.inr hp2)] at hB
      subst hB
      go_enter Try.func26, Try.ntmps26
      go_wp2_with fail
      go_ret
      exact ⟨rfl, rfl⟩
    · rw [if_neg (by omega)] at hB
      have hql : (q : Int) ≤ (l.length : Int) := by omega
      have hq9 : (q : Int) ≤ 9223372036854775807 := by omega
      rw [Int.toNat_natCast] at hB
      by_cases n0 : n = 0
      · subst n0
        rw [if_pos rfl] at hB
        have HB := Lib.hid hB
        clear hB
        go_enter Try.func26, Try.ntmps26
        go_wp2_with fail
        go_ret
        exact ⟨ret_bool (by rw [← HB.out]; try (first | rfl | simp)), rfl⟩
      · rw [if_neg n0] at hB
        by_cases n1 : n = 1
        · subst n1
          rw [if_pos rfl] at hB
          have HB := Lib.hid hB
          clear hB n0
          go_enter Try.func26, Try.ntmps26
          go_wp2_with fail
          go_ret
          exact ⟨ret_bool (by rw [← HB.out]; try (first | rfl | simp)), rfl⟩
        · rw [if_neg n1] at hB
          by_cases n2 : n = 2
          · subst n2
            rw [if_pos rfl] at hB
            clear n0 n1
            by_cases q0 : q = 0
            · subst q0
              have HB := Lib.hid hB
              clear hB
              go_enter Try.func26, Try.ntmps26
              go_wp2_with fail
              go_ret
              exact ⟨ret_bool (by rw [← HB.out]; try (first | rfl | simp)), rfl⟩
            · have e1 : (((q : Int) - 1)).toNat = q - 1 := by omega
              have hw1 : IntKind.i64.wrap ((q : Int) - 1) = (q : Int) - 1 := IntWalk.i64_in _ (by omega)
              have hz0 : (0 : Int) ≤ (q : Int) - 1 := by omega
              have hz1 : (q : Int) - 1 < (l.length : Int) := by omega
              have q0b : ((q : Int) == 0) = false := by simp; omega
              rw [e1, q0b] at hB
              obtain ⟨b, off, rfl, c0⟩ := row_cell hr (q - 1) (by omega)
              generalize l[q - 1]?.getD 0 = x at *
              have HB := Lib.hid hB
              have H0 := Lib.hid q0
              clear hB q0
              go_enter Try.func26, Try.ntmps26
              go_wp2_with fail
              go_ret
              exact ⟨ret_bool (by rw [← HB.out]; try (first | rfl | simp)), rfl⟩
          · rw [if_neg n2] at hB
            by_cases n3 : n = 3
            · subst n3
              rw [if_pos rfl] at hB
              clear n0 n1 n2
              by_cases ql : q = l.length
              · have qlb : ((q : Int) == (l.length : Int)) = true := by simp [ql]
                rw [qlb] at hB
                have HB := Lib.hid hB
                have H0 := Lib.hid ql
                clear hB ql
                go_enter Try.func26, Try.ntmps26
                go_wp2_with fail
                go_ret
                exact ⟨ret_bool (by rw [← HB.out]; try (first | rfl | simp)), rfl⟩
              · have qlb : ((q : Int) == (l.length : Int)) = false := by simp; omega
                have hz1 : (q : Int) < (l.length : Int) := by omega
                rw [qlb] at hB
                obtain ⟨b, off, rfl, c0⟩ := row_cell hr q (by omega)
                generalize l[q]?.getD 0 = x at *
                have HB := Lib.hid hB
                have H0 := Lib.hid ql
                clear hB ql
                go_enter Try.func26, Try.ntmps26
                go_wp2_with fail
                go_ret
                exact ⟨ret_bool (by rw [← HB.out]; try (first | rfl | simp)), rfl⟩
            · rw [if_neg n3] at hB
              by_cases n4 : n = 4
              · subst n4
                rw [if_pos rfl] at hB
                have HB := Lib.hid hB
                clear hB n0 n1 n2 n3
                go_enter Try.func26, Try.ntmps26
                go_wp2_with fail
                refine (edge_any a cap l q _ hr (by omega)).mono ?_
                rintro e W ⟨rfl, rfl⟩
                dsimp only
                go_wp2_with fail
                go_ret
                exact ⟨ret_bool HB.out, rfl⟩
              · rw [if_neg n4] at hB
                by_cases n5 : n = 5
                · subst n5
                  rw [if_pos rfl] at hB
                  have HB := Lib.hid hB
                  clear hB n0 n1 n2 n3 n4
                  go_enter Try.func26, Try.ntmps26
                  go_wp2_with fail
                  refine (edge_any a cap l q _ hr (by omega)).mono ?_
                  rintro e W ⟨rfl, rfl⟩
                  dsimp only
                  go_wp2_with fail
                  go_ret
                  exact ⟨ret_bool (by rw [← HB.out]; cases befB l (q : Int) <;> cases aftB l (q : Int) <;> rfl), rfl⟩
                · rw [if_neg n5] at hB
                  subst hB
                  have m0 : (n == 0) = false := by simpa using n0
                  have m1 : (n == 1) = false := by simpa using n1
                  have m2 : (n == 2) = false := by simpa using n2
                  have m3 : (n == 3) = false := by simpa using n3
                  have m4 : (n == 4) = false := by simpa using n4
                  have m5 : (n == 5) = false := by simpa using n5
                  clear n0 n1 n2 n3 n4 n5
                  go_enter Try.func26, Try.ntmps26
                  go_wp2_with fail
                  go_ret
                  exact ⟨rfl, rfl⟩
end Go.Proofs.Ytnfelphemdchpaa
