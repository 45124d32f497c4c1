/- Contracts of the reference: Has. -/
import Derived.Test.YtnfelphemdchpaaTxtJ
namespace Go.Proofs.Ytnfelphemdchpaa
open Go.RowKit Go.Shelf
set_option linter.unusedVariables false

set_option maxHeartbeats 1000000 in
theorem has_any (a : Option Addr) (cap : Nat) (l : List Int) (x : Int) (w : World) (hr : Row .i64 w.heap.size w (.slice a l.length cap) l) :
    Calls Try.prog 28 #[.slice a l.length cap, .int .i64 x] w fun e w' => e = .returned (.bool (l.any (fun y => y == x))) ∧ w' = w := by
  have hlc := hr.lencap
  unfold maxLen at hlc
  generalize hB : l.any (fun y => y == x) = B
  have HB := Lib.hid hB
  clear hB
  go_enter Try.func28, Try.ntmps28
  go_wp2_with fail
  go_loopw [5] (fun i wr => ∃ k : Nat, k ≤ l.length ∧ i = .int .i64 (k : Int) ∧ Hid ((l.take k).any (fun y => y == x) = false) ∧ wr = w) (fun i _ => l.length - (intOf i).toNat)
  case atStart => exact ⟨0, Nat.zero_le _, rfl, Lib.hid rfl, rfl⟩
  case round =>
    obtain ⟨k, hk, rfl, H, rfl⟩ := hrel
    by_cases hlt : k < l.length
    · obtain ⟨b, off, rfl, c0⟩ := row_cell hr k hlt
      have hn := anyB_false k (fun y => y == x) H.out hlt
      have hin : (l[k]?.getD 0 == x) = true → l.any (fun y => y == x) = true := by
        intro h
        rw [List.any_eq_true]
        exact ⟨l[k], List.getElem_mem hlt, by simpa [hlt] using h⟩
      have hi1 : (k : Int) < l.length := by omega
      have hi0 : (0 : Int) ≤ (k : Int) := by omega
      have HN := Lib.hid hn
      have HI := Lib.hid hin
      clear hn hin
      generalize l[k]?.getD 0 = y at *
      by_cases hy : y = x
      · have hB2 : B = true := by rw [← HB.out]; exact HI.out (by simp [hy])
        subst hB2
        subst hy
        go_wp2_with fail
        go_ret
        exact ⟨rfl, rfl⟩
      · have hyb : (y == x) = false := by simpa using hy
        have HY := Lib.hid hyb
        clear hyb
        go_wp2_with fail
        go_roundw
        case rel => exact ⟨k + 1, by omega, by go_num, Lib.hid (by rw [HN.out]; exact HY.out), by first | rfl | trivial⟩
        case measure => simp [intOf]; omega
    · have ht : l.take k = l := List.take_of_length_le (by omega)
      have hB2 : B = false := by rw [← HB.out, ← ht]; exact H.out
      subst hB2
      clear ht
      go_wp2_with fail
      go_ret
      exact ⟨rfl, rfl⟩
end Go.Proofs.Ytnfelphemdchpaa
