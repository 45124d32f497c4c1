/- Plain facts for TextRound. -/
import Derived.Test.YtnfelphemdchpaaTxtRt
import Derived.Test.YtnfelphemdchpaaTxtH
namespace Go.Proofs.Ytnfelphemdchpaa
open Go.RowKit Go.Shelf
set_option linter.unusedVariables false

theorem symT_ok (r : Bool) (x : Int) : isSymB (symT r x) r = true := by
  have hA : ∀ j : Nat, isSymB (symA[j % 14]?.getD 0) r = true := by
    intro j
    have : j % 14 < 14 := Nat.mod_lt _ (by decide)
    generalize j % 14 = i at this
    cases r <;> (match i, this with
      | 0, _ => decide | 1, _ => decide | 2, _ => decide | 3, _ => decide | 4, _ => decide | 5, _ => decide | 6, _ => decide
      | 7, _ => decide | 8, _ => decide | 9, _ => decide | 10, _ => decide | 11, _ => decide | 12, _ => decide | 13, _ => decide)
  have hB : ∀ j : Nat, isSymB (symB[j % 10]?.getD 0) true = true := by
    intro j
    have : j % 10 < 10 := Nat.mod_lt _ (by decide)
    generalize j % 10 = i at this
    match i, this with
    | 0, _ => decide | 1, _ => decide | 2, _ => decide | 3, _ => decide | 4, _ => decide
    | 5, _ => decide | 6, _ => decide | 7, _ => decide | 8, _ => decide | 9, _ => decide
  unfold symT
  split
  · rename_i h
    obtain ⟨hr, _⟩ := h
    subst hr
    exact hB _
  · exact hA _
theorem textT_ok (l : List Int) (most : Nat) (r : Bool) : ∀ x ∈ textT l most r, isSymB x r = true := by
  intro x hx
  obtain ⟨y, _, rfl⟩ := List.mem_map.1 hx
  exact symT_ok r y
theorem symsF_len (r : Bool) (f : Nat) (b : List Int) (hf : b.length ≤ f) : (symsF r f b).length ≤ b.length := by
  induction f generalizing b with
  | zero => simp [symsF]
  | succ f ih =>
    unfold symsF
    by_cases hb : b = []
    · rw [if_pos hb]; simp
    · rw [if_neg hb]
      have hl : 0 < b.length := List.length_pos_iff.2 hb
      by_cases h0 : (oneI r b).2 = 0
      · rw [if_pos h0]; simp; omega
      · rw [if_neg h0]
        have h1 := (oneI_len r b hl).resolve_left h0
        have := ih (b.drop (oneI r b).2.toNat) (by rw [List.length_drop]; omega)
        rw [List.length_drop] at this
        rw [List.length_cons]
        omega
theorem symsL_false (b : List Int) : symsL false b = b := by
  have : ∀ f (b : List Int), b.length ≤ f → symsF false f b = b := by
    intro f
    induction f with
    | zero => intro b hb; rw [List.length_eq_zero_iff.1 (show b.length = 0 by omega)]; rfl
    | succ f ih =>
      intro b hb
      cases b with
      | nil => rfl
      | cons x l =>
        have e : symsF false (f + 1) (x :: l) = x :: symsF false f l := rfl
        rw [e, ih l (by simp at hb; omega)]
  exact this _ b (Nat.le_refl _)
theorem decodeM_err (r : Bool) (b : List Int) (hz : ∀ i : Nat, 0 ≤ b[i]?.getD 0 ∧ b[i]?.getD 0 < 256) (hl : b.length ≤ 65536) (h : (decodeM r b).2 ≠ 0) : decodeM r b = ([], 9) ∧ r = true := by
  have hs := symsF_len r b.length b (Nat.le_refl _)
  have hs2 : (symsL r b).length ≤ b.length := hs
  unfold decodeM at h ⊢
  by_cases h1 : (symsL r b).any negB = true
  · rw [if_pos h1]
    refine ⟨rfl, ?_⟩
    cases r
    · exfalso
      rw [symsL_false] at h1
      obtain ⟨x, hx, hn⟩ := List.any_eq_true.1 h1
      obtain ⟨i, hi, rfl⟩ := List.mem_iff_getElem.1 hx
      have := hz i
      rw [List.getElem?_eq_getElem hi, Option.getD_some] at this
      unfold negB at hn
      simp at hn
      omega
    · rfl
  · rw [if_neg h1, if_neg (by omega)] at h
    exact absurd rfl h
theorem decodeM_pre (r : Bool) (A : List Int) (k : Nat) (hA : ∀ x ∈ A, isSymB x r = true) (hz : ∀ i : Nat, 0 ≤ ((encL r A).take k)[i]?.getD 0 ∧ ((encL r A).take k)[i]?.getD 0 < 256) (h : (decodeM r ((encL r A).take k)).2 = 0) :
    (decodeM r ((encL r A).take k)).1.length ≤ A.length ∧ A.take (decodeM r ((encL r A).take k)).1.length = (decodeM r ((encL r A).take k)).1 := by
  obtain ⟨h1, h2, h3, _⟩ := decodeM_back r _ hz h
  generalize (decodeM r ((encL r A).take k)).1 = D at *
  have e1 := symsL_enc r A [] hA
  rw [List.append_nil, symsL_nil, List.append_nil] at e1
  have e2 : encL r A = encL r D ++ (encL r A).drop k := by rw [h1, List.take_append_drop]
  have e3 := symsL_enc r D ((encL r A).drop k) h2
  rw [← e2, e1] at e3
  rw [e3]
  simp
theorem byte_rng (r : Bool) (A : List Int) (hA : ∀ x ∈ A, isSymB x r = true) : ∀ y ∈ encL r A, 0 ≤ y ∧ y < 256 := by
  intro y hy
  unfold encL at hy
  rw [List.mem_flatten] at hy
  obtain ⟨o, ho, hyo⟩ := hy
  obtain ⟨x, hx, rfl⟩ := List.mem_map.1 ho
  have hs := hA x hx
  cases r
  · have : y = x := by simpa [oneL] using hyo
    subst this
    unfold isSymB at hs
    simp at hs
    omega
  · obtain ⟨h0, h1⟩ := sym_rng x hs
    obtain ⟨hK4, hKl, _⟩ := kindA_lim x h1
    have hcap := cap_of x (kindA x) hK4 h0 hKl
    have htl : ∀ j, ∀ z ∈ tailL x j, 0 ≤ z ∧ z < 256 := by
      intro j
      induction j with
      | zero => intro z hz; simp [tailL] at hz
      | succ j ih =>
        intro z hz
        rcases List.mem_cons.1 hz with rfl | hz
        · omega
        · exact ih z hz
    have hyo' : y ∈ runeL x := hyo
    unfold runeL at hyo'
    rcases List.mem_cons.1 hyo' with rfl | hz
    · generalize kindA x = K at *
      match K, hK4 with
      | 0, _ => simp [leadA, capA] at hcap ⊢; omega
      | 1, _ => simp [leadA, capA] at hcap ⊢; omega
      | 2, _ => simp [leadA, capA] at hcap ⊢; omega
      | 3, _ => simp [leadA, capA] at hcap ⊢; omega
    · exact htl _ y hz
theorem get_rng {l : List Int} (h : ∀ y ∈ l, 0 ≤ y ∧ y < 256) (i : Nat) : 0 ≤ l[i]?.getD 0 ∧ l[i]?.getD 0 < 256 := by
  cases e : l[i]? with
  | none => simp
  | some x => exact h x (List.mem_of_getElem? e)
theorem encM_ok (r : Bool) (A : List Int) (hA : ∀ x ∈ A, isSymB x r = true) (hl : A.length ≤ 65536) : encM r A = encL r A ∧ validI A r = 0 := by
  have hv := validI_of r A hA hl
  unfold encM
  rw [if_pos hv]
  exact ⟨rfl, hv⟩
end Go.Proofs.Ytnfelphemdchpaa
