/- Contracts for package edits: Pick, the texts of the reference of layer 5, within. -/
import Derived.Test.YtmfekbljfnjkgaaTxtE
namespace Go.Proofs.Ytmfekbljfnjkgaa
open Go.RowKit Go.Shelf
set_option linter.unusedVariables false

def pickI (l : List Int) (i : Nat) (m : Int) : Int := if i < l.length then aroundI (l[i]?.getD 0) m else 0
theorem pickI_rng (l : List Int) (i : Nat) (m : Int) (hm : 1 ≤ m) : 0 ≤ pickI l i m ∧ pickI l i m < m := by
  unfold pickI
  split
  · exact ⟨aroundI_lo _ _ hm, aroundI_hi _ _ hm⟩
  · omega
set_option maxHeartbeats 2000000 in
theorem pick_any (a : Option Addr) (cap : Nat) (l : List Int) (i : Nat) (m : Int) (w : World) (hr : Row .i64 w.heap.size w (.slice a l.length cap) l) (hw : ∀ x ∈ l, (Lit.int .i64 x).wf = true) (hi : i ≤ 1000000) (hm : 1 ≤ m) (hm2 : m ≤ 9223372036854775807) :
    Calls Try.prog 12 #[.slice a l.length cap, .int .i64 (i : Int), .int .i64 m] w fun e w' => e = .returned (.int .i64 (pickI l i m)) ∧ w' = w := by
  have hlc := hr.lencap
  unfold maxLen at hlc
  have hi0 : (0 : Int) ≤ (i : Int) := by omega
  generalize hP : pickI l i m = R
  unfold pickI at hP
  by_cases h : i < l.length
  · rw [if_pos h] at hP
    obtain ⟨b, off, rfl, c0⟩ := row_cell hr i h
    have hwx : (Lit.int .i64 (l[i]?.getD 0)).wf = true := by rw [List.getElem?_eq_getElem h]; exact hw _ (List.getElem_mem h)
    have har := around_any (l[i]?.getD 0) m w hwx hm hm2
    rw [hP] at har
    have HAR := Lib.hid har
    have h1 : (i : Int) < l.length := by omega
    clear har hP hwx
    generalize l[i]?.getD 0 = x at *
    go_enter Try.func12, Try.ntmps12
    go_wp2_with fail
    refine HAR.out.mono ?_
    rintro e w' ⟨rfl, hw'⟩
    subst hw'
    dsimp only
    go_wp2_with fail
    go_ret
    exact ⟨rfl, rfl⟩
  · rw [if_neg h] at hP
    subst hP
    have h1 : ¬ (i : Int) < l.length := by omega
    go_enter Try.func12, Try.ntmps12
    go_wp2_with fail
    go_ret
    exact ⟨rfl, rfl⟩
theorem within_any (n m : Int) (w : World) : Calls Try.prog 51 #[.int .i64 n, .int .i64 m] w fun e w' => e = .returned (.bool (decide (0 ≤ n ∧ n ≤ m))) ∧ w' = w := by
  generalize hB : decide (0 ≤ n ∧ n ≤ m) = B
  by_cases h : 0 ≤ n
  · by_cases h2 : n ≤ m
    · obtain rfl : B = true := by rw [← hB]; exact decide_eq_true ⟨h, h2⟩
      clear hB
      go_enter Try.func51, Try.ntmps51
      go_wp2_with fail
      go_ret
      exact ⟨rfl, rfl⟩
    · obtain rfl : B = false := by rw [← hB]; exact decide_eq_false (by omega)
      clear hB
      go_enter Try.func51, Try.ntmps51
      go_wp2_with fail
      go_ret
      exact ⟨rfl, rfl⟩
  · obtain rfl : B = false := by rw [← hB]; exact decide_eq_false (by omega)
    clear hB
    go_enter Try.func51, Try.ntmps51
    go_wp2_with fail
    go_ret
    exact ⟨rfl, rfl⟩
end Go.Proofs.Ytmfekbljfnjkgaa
