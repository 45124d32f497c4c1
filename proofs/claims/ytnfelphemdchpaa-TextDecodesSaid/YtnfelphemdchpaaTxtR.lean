/- Plain facts: the symbols of bytes. -/
import Derived.Test.YtnfelphemdchpaaTxtP
namespace Go.Proofs.Ytnfelphemdchpaa
open Go.RowKit Go.Shelf
set_option linter.unusedVariables false

theorem outA_len (k : Nat) (o : Option Int) : (outA k o).2 = 0 ∨ (outA k o).2 = 1 + (k : Int) := by
  unfold outA
  cases o with
  | none => exact .inl rfl
  | some t =>
    dsimp only
    split
    · exact .inl rfl
    · exact .inr rfl
theorem tryA_len (b : List Int) (k : Nat) (p : Int × Int) (h : tryA b k = some p) : p.2 = 0 ∨ (p.2 = 1 + (k : Int) ∧ k < b.length) := by
  by_cases hc : leadA k ≤ b[0]?.getD 0 ∧ b[0]?.getD 0 - leadA k ≤ capA k ∧ k < b.length
  · rw [tryA_yes b k hc.1 hc.2.1 hc.2.2] at h
    cases h
    rcases outA_len k (contsI (b[0]?.getD 0 - leadA k) ((b.drop 1).take k)) with e | e
    · exact .inl e
    · exact .inr ⟨e, hc.2.2⟩
  · rw [tryA_no b k hc] at h
    cases h
theorem nextN_len (b : List Int) (n : Nat) : (nextN b n).2 = 0 ∨ (1 ≤ (nextN b n).2 ∧ (nextN b n).2 ≤ b.length) := by
  induction n with
  | zero => exact .inl rfl
  | succ n ih =>
    have e : nextN b (n + 1) = (tryA b (3 - n)).getD (nextN b n) := rfl
    rw [e]
    cases h : tryA b (3 - n) with
    | none => exact ih
    | some p =>
      rcases tryA_len b _ p h with e | ⟨e, hl⟩
      · exact .inl e
      · refine .inr ?_
        show 1 ≤ p.2 ∧ p.2 ≤ _
        omega
/-- The first symbol of bytes, and how many bytes it takes; none if these are 0. -/
def oneI (runes : Bool) (b : List Int) : Int × Int := if runes then nextI b else (b[0]?.getD 0, 1)
theorem oneI_len (runes : Bool) (b : List Int) (h : 0 < b.length) : (oneI runes b).2 = 0 ∨ (1 ≤ (oneI runes b).2 ∧ (oneI runes b).2 ≤ b.length) := by
  unfold oneI
  cases runes
  · refine .inr ?_
    show (1 : Int) ≤ 1 ∧ (1 : Int) ≤ _
    omega
  · exact nextN_len b 4
def symsF (runes : Bool) : Nat → List Int → List Int
  | 0, _ => []
  | f + 1, b => if b = [] then [] else if (oneI runes b).2 = 0 then [-1] else (oneI runes b).1 :: symsF runes f (b.drop (oneI runes b).2.toNat)
theorem symsF_fuel (runes : Bool) (f g : Nat) (b : List Int) (hf : b.length ≤ f) (hg : b.length ≤ g) : symsF runes f b = symsF runes g b := by
  induction f generalizing g b with
  | zero =>
    obtain rfl : b = [] := List.length_eq_zero_iff.1 (by omega)
    cases g with
    | zero => rfl
    | succ g => simp [symsF]
  | succ f ih =>
    cases g with
    | zero =>
      obtain rfl : b = [] := List.length_eq_zero_iff.1 (by omega)
      simp [symsF]
    | succ g =>
      unfold symsF
      by_cases hb : b = []
      · rw [if_pos hb, if_pos hb]
      · rw [if_neg hb, if_neg hb]
        by_cases h0 : (oneI runes b).2 = 0
        · rw [if_pos h0, if_pos h0]
        · rw [if_neg h0, if_neg h0]
          have hl : 0 < b.length := List.length_pos_iff.2 hb
          have := (oneI_len runes b hl).resolve_left h0
          congr 1
          exact ih g _ (by rw [List.length_drop]; omega) (by rw [List.length_drop]; omega)
/-- The symbols of bytes; -1 behind them if the bytes go on with none. -/
def symsL (runes : Bool) (b : List Int) : List Int := symsF runes b.length b
theorem symsL_nil (runes : Bool) : symsL runes [] = [] := rfl
theorem symsL_bad (runes : Bool) (b : List Int) (h : 0 < b.length) (h0 : (oneI runes b).2 = 0) : symsL runes b = [-1] := by
  unfold symsL
  rw [symsF_fuel runes b.length (b.length + 1) b (Nat.le_refl _) (Nat.le_succ _)]
  unfold symsF
  rw [if_neg (List.length_pos_iff.1 h), if_pos h0]
theorem symsL_cons (runes : Bool) (b : List Int) (h : 0 < b.length) (h0 : (oneI runes b).2 ≠ 0) : symsL runes b = (oneI runes b).1 :: symsL runes (b.drop (oneI runes b).2.toNat) := by
  unfold symsL
  rw [symsF_fuel runes b.length (b.length + 1) b (Nat.le_refl _) (Nat.le_succ _)]
  conv => lhs; unfold symsF
  rw [if_neg (List.length_pos_iff.1 h), if_neg h0, symsF_fuel runes b.length (b.drop (oneI runes b).2.toNat).length _ (by rw [List.length_drop]; omega) (Nat.le_refl _)]
theorem symsL_step (runes : Bool) (l pre : List Int) (m : Nat) (hm : m < l.length) (hp : pre ++ symsL runes (l.drop m) = symsL runes l) (h0 : (oneI runes (l.drop m)).2 ≠ 0) :
    (pre ++ [(oneI runes (l.drop m)).1]) ++ symsL runes (l.drop (m + (oneI runes (l.drop m)).2.toNat)) = symsL runes l ∧ 1 ≤ (oneI runes (l.drop m)).2 ∧ m + (oneI runes (l.drop m)).2.toNat ≤ l.length := by
  have hl : 0 < (l.drop m).length := by rw [List.length_drop]; omega
  have h1 := (oneI_len runes _ hl).resolve_left h0
  rw [List.length_drop] at h1
  refine ⟨?_, h1.1, by omega⟩
  rw [← hp, symsL_cons runes (l.drop m) hl h0, List.append_assoc, List.drop_drop]
  rfl
end Go.Proofs.Ytnfelphemdchpaa
