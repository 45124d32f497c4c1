/- TextLimits: plain facts. -/
import Derived.Test.YtnfelphemdchpaaTxtZ
import Derived.Test.YtnfelphemdchpaaTxtV
namespace Go.Proofs.Ytnfelphemdchpaa
open Go.RowKit Go.Shelf
set_option linter.unusedVariables false

def zerosI (k : Nat) : List Int := List.replicate k 0
theorem zerosI_get (k i : Nat) : (zerosI k)[i]?.getD 0 = 0 := by
  unfold zerosI
  rw [List.getElem?_replicate]
  split <;> rfl
theorem zerosI_len (k : Nat) : (zerosI k).length = k := by simp [zerosI]
theorem nextI_zero (l : List Int) (h : 0 < l.length) (h0 : l[0]?.getD 0 = 0) : nextI l = (0, 1) := by
  have ht := tryA_yes l 0 (by rw [h0]; decide) (by rw [h0]; decide) h
  rw [h0] at ht
  unfold nextI
  rw [show (4 : Nat) = 4 - 0 from rfl, nextN_step l 0 (by decide), ht]
  rfl
theorem symsL_zeros (runes : Bool) (k : Nat) : symsL runes (zerosI k) = zerosI k := by
  induction k with
  | zero => rfl
  | succ k ih =>
    have hl : 0 < (zerosI (k + 1)).length := by rw [zerosI_len]; omega
    have ho : oneI runes (zerosI (k + 1)) = (0, 1) := by
      unfold oneI
      cases runes
      · show ((zerosI (k + 1))[0]?.getD 0, (1 : Int)) = (0, 1)
        rw [zerosI_get]
      · exact nextI_zero _ hl (zerosI_get _ _)
    rw [symsL_cons runes _ hl (by rw [ho]; decide), ho]
    show 0 :: symsL runes ((zerosI (k + 1)).drop 1) = _
    rw [show (zerosI (k + 1)).drop 1 = zerosI k from by unfold zerosI; rw [List.drop_replicate]; rfl, ih]
    rfl
theorem decodeM_zeros (runes : Bool) (k : Nat) : decodeM runes (zerosI k) = if 65536 < k then ([], 4) else (zerosI k, 0) := by
  unfold decodeM
  rw [symsL_zeros, zerosI_len, if_neg (by
    rw [Bool.not_eq_true, List.any_eq_false]
    intro x hx
    have : x = 0 := (List.mem_replicate.1 hx).2
    subst this
    decide)]
theorem checkI_zeros (k : Nat) (hk : 65530 ≤ k) : checkI (zerosI k) 3 1 (zerosI 4) = if 65536 < k + 3 then 4 else 0 := by
  unfold checkI
  rw [zerosI_len, zerosI_len, if_neg (by omega), if_neg (by decide)]
  split
  · rw [if_pos (by omega)]
  · rw [if_neg (by omega)]
theorem spliceL_zeros (k : Nat) (hk : 65530 ≤ k) : (spliceL (zerosI k) 3 1 (zerosI 4)).length = if 65536 < k + 3 then 0 else k + 3 := by
  unfold spliceL
  rw [checkI_zeros k hk]
  by_cases h : 65536 < k + 3
  · rw [if_pos h, if_pos h, if_neg (by decide)]
    rfl
  · rw [if_neg h, if_neg h, if_pos rfl]
    simp [zerosI]
    omega
theorem validI_long (l : List Int) (runes : Bool) : (validI l runes = 4) = (65536 < l.length) := by
  unfold validI
  apply propext
  split
  · simp_all
  · split <;> simp_all
end Go.Proofs.Ytnfelphemdchpaa
