/- Contracts of the reference: Valid. -/
import Derived.Test.YtnfelphemdchpaaTxtL
namespace Go.Proofs.Ytnfelphemdchpaa
open Go.RowKit Go.Shelf
set_option linter.unusedVariables false

/-- The error of a text. -/
def validI (l : List Int) (runes : Bool) : Int := if 65536 < l.length then 4 else if l.any (fun x => !isSymB x runes) = true then 5 else 0
set_option maxHeartbeats 1000000 in
theorem refValid_any (a : Option Addr) (cap : Nat) (l : List Int) (runes : Bool) (w : World) (hr : Row .i64 w.heap.size w (.slice a l.length cap) l) :
    Calls Try.prog 23 #[.slice a l.length cap, .bool runes] w fun e w' => e = .returned (.int .i64 (validI l runes)) ∧ w' = w := by
  have hlc := hr.lencap
  unfold maxLen at hlc
  generalize hB : validI l runes = B
  unfold validI at hB
  by_cases hbig : 65536 < l.length
  · rw [if_pos hbig] at hB
    subst hB
    have hbi : (65536 : Int) < l.length := by omega
    go_enter Try.func23, Try.ntmps23
    go_wp2_with fail
    go_ret
    exact ⟨rfl, rfl⟩
  · rw [if_neg hbig] at hB
    have HB := Lib.hid hB
    clear hB
    have hbi : ¬ (65536 : Int) < l.length := by omega
    go_enter Try.func23, Try.ntmps23
    go_wp2_with fail
    go_loopw [5] (fun i wr => ∃ k : Nat, k ≤ l.length ∧ i = .int .i64 (k : Int) ∧ Hid ((l.take k).any (fun x => !isSymB x runes) = false) ∧ wr = w) (fun i _ => l.length - (intOf i).toNat)
    case atStart => exact ⟨0, Nat.zero_le _, rfl, Lib.hid rfl, rfl⟩
    case round =>
      obtain ⟨k, hk, rfl, H, rfl⟩ := hrel
      by_cases hlt : k < l.length
      · obtain ⟨b, off, rfl, c0⟩ := row_cell hr k hlt
        have hn := anyB_false k (fun x => !isSymB x runes) H.out hlt
        have hin : (!isSymB (l[k]?.getD 0) runes) = true → l.any (fun x => !isSymB x runes) = true := by
          intro h
          rw [List.any_eq_true]
          exact ⟨l[k], List.getElem_mem hlt, by simpa [hlt] using h⟩
        have hi1 : (k : Int) < l.length := by omega
        have hi0 : (0 : Int) ≤ (k : Int) := by omega
        have hw1 : IntKind.i64.wrap ((k : Int) + 1) = (k : Int) + 1 := IntWalk.i64_in _ (by omega)
        have HN := Lib.hid hn
        have HI := Lib.hid hin
        clear hn hin
        generalize l[k]?.getD 0 = y at *
        go_wp2_with fail
        refine (refSymbol_any y runes _).mono ?_
        rintro e W ⟨rfl, rfl⟩
        cases hs : isSymB y runes
        · have hB2 : B = 5 := by rw [← HB.out, if_pos (HI.out (by rw [hs]; rfl))]
          have HS := Lib.hid hs
          clear hs
          subst hB2
          dsimp only
          go_wp2_with fail
          go_ret
          exact ⟨rfl, rfl⟩
        · have HS := Lib.hid hs
          clear hs
          dsimp only
          go_wp2_with fail
          go_roundw
          case rel => exact ⟨k + 1, by omega, by go_num, Lib.hid (by rw [HN.out, HS.out]; rfl), by first | rfl | trivial⟩
          case measure => simp [intOf]; omega
      · have ht : l.take k = l := List.take_of_length_le (by omega)
        have hf := H.out
        rw [ht] at hf
        have hB2 : B = 0 := by rw [← HB.out, if_neg (by rw [hf]; decide)]
        subst hB2
        clear ht hf
        go_wp2_with fail
        go_ret
        exact ⟨rfl, rfl⟩
end Go.Proofs.Ytnfelphemdchpaa
