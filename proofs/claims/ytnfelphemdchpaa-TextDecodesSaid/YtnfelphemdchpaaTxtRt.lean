/- Plain facts: encoding and decoding lead back. -/
import Derived.Test.YtnfelphemdchpaaTxtZ
import Derived.Test.YtnfelphemdchpaaTxtT
namespace Go.Proofs.Ytnfelphemdchpaa
open Go.RowKit Go.Shelf
set_option linter.unusedVariables false

theorem div64 (s : Int) (j : Nat) : s / 64 ^ (j + 1) = s / 64 ^ j / 64 := by
  rw [Int.pow_succ, Int.ediv_ediv_of_nonneg (Int.le_of_lt (Int.pow_pos (by decide)))]
theorem contsI_tail (s : Int) (j : Nat) : contsI (s / 64 ^ j) (tailL s j) = some s := by
  induction j with
  | zero => simp [tailL, contsI]
  | succ j ih =>
    have h1 := div64 s j
    have h2 : contB (128 + s / 64 ^ j % 64) = true := by unfold contB; simp; omega
    unfold tailL contsI
    rw [if_pos h2, h1, show 64 * (s / 64 ^ j / 64) + (128 + s / 64 ^ j % 64 - 128) = s / 64 ^ j from by omega]
    exact ih
theorem contsI_back (s0 s : Int) (cs : List Int) (h : contsI s0 cs = some s) : s / 64 ^ cs.length = s0 ∧ cs = tailL s cs.length := by
  induction cs generalizing s0 with
  | nil =>
    have : s0 = s := by simpa [contsI] using h
    subst this
    exact ⟨by simp, rfl⟩
  | cons c cs ih =>
    unfold contsI at h
    by_cases hc : contB c = true
    · rw [if_pos hc] at h
      obtain ⟨h1, h2⟩ := ih _ h
      have hc' : 128 ≤ c ∧ c < 192 := by unfold contB at hc; simpa using hc
      rw [List.length_cons, div64, h1]
      refine ⟨by omega, ?_⟩
      unfold tailL
      rw [h1, ← h2]
      congr 1
      omega
    · rw [if_neg hc] at h
      cases h
theorem kindA_least (s : Int) (h : 0 ≤ s) : leastA (kindA s) ≤ s := by
  unfold kindA
  split
  · simp [leastA]; omega
  · split
    · simp [leastA]; omega
    · split
      · simp [leastA]; omega
      · simp [leastA]; omega
theorem kindA_is (s : Int) (k : Nat) (hk : k < 4) (h0 : leastA k ≤ s) (h1 : s < limA k) : kindA s = k := by
  unfold kindA
  match k, hk with
  | 0, _ => simp [leastA, limA] at h0 h1; rw [if_pos h1]
  | 1, _ => simp [leastA, limA] at h0 h1; rw [if_neg (by omega), if_pos h1]
  | 2, _ => simp [leastA, limA] at h0 h1; rw [if_neg (by omega), if_neg (by omega), if_pos h1]
  | 3, _ => simp [leastA, limA] at h0 h1; rw [if_neg (by omega), if_neg (by omega), if_neg (by omega)]
theorem cap_of (s : Int) (k : Nat) (hk : k < 4) (h0 : 0 ≤ s) (h1 : s < limA k) : 0 ≤ s / 64 ^ k ∧ s / 64 ^ k ≤ capA k := by
  match k, hk with
  | 0, _ => simp [limA, capA] at h1 ⊢; omega
  | 1, _ => simp [limA, capA] at h1 ⊢; omega
  | 2, _ => simp [limA, capA] at h1 ⊢; omega
  | 3, _ => simp [limA, capA] at h1 ⊢; omega
theorem lead_far (x : Int) (K k : Nat) (hK : K < 4) (hk : k < K) (h0 : 0 ≤ x) : ¬ leadA K + x - leadA k ≤ capA k := by
  match K, k, hK, hk with
  | 1, 0, _, _ => simp [leadA, capA]; omega
  | 2, 0, _, _ => simp [leadA, capA]; omega
  | 2, 1, _, _ => simp [leadA, capA]; omega
  | 3, 0, _, _ => simp [leadA, capA]; omega
  | 3, 1, _, _ => simp [leadA, capA]; omega
  | 3, 2, _, _ => simp [leadA, capA]; omega
theorem nextN_at (b : List Int) (K : Nat) (p : Int × Int) (hK : K < 4) (hn : ∀ k, k < K → tryA b k = none) (h : tryA b K = some p) : nextI b = p := by
  have step : ∀ j, j ≤ K → nextI b = nextN b (4 - j) := by
    intro j
    induction j with
    | zero => intro _; rfl
    | succ j ih => intro hj; rw [ih (by omega), nextN_step b j (by omega), hn j (by omega)]; rfl
  rw [step K (Nat.le_refl _), nextN_step b K hK, h]
  rfl
theorem sym_rng (s : Int) (h : isSymB s true = true) : 0 ≤ s ∧ s ≤ 1114111 := by unfold isSymB at h; simp at h; omega
theorem runeL_length (s : Int) : (runeL s).length = 1 + kindA s := by unfold runeL; rw [List.length_cons, tailL_len]; omega
/-- What was encoded is read. -/
theorem nextI_rune (s : Int) (rest : List Int) (h : isSymB s true = true) : nextI (runeL s ++ rest) = (s, ((runeL s).length : Int)) := by
  obtain ⟨h0, h1⟩ := sym_rng s h
  obtain ⟨hK4, hKl, _⟩ := kindA_lim s h1
  have hls := kindA_least s h0
  have hcap := cap_of s (kindA s) hK4 h0 hKl
  have hlen := runeL_length s
  have hb0 : (runeL s ++ rest)[0]?.getD 0 = leadA (kindA s) + s / 64 ^ kindA s := by unfold runeL; simp
  have hrng := limA_rng (kindA s) hK4
  rw [hlen]
  refine nextN_at _ (kindA s) _ hK4 (fun k hk => tryA_no _ k (fun hc => ?_)) ?_
  · rw [hb0] at hc
    exact lead_far _ _ k hK4 hk hcap.1 hc.2.1
  · rw [tryA_yes _ _ (by rw [hb0]; omega) (by rw [hb0]; omega) (by rw [List.length_append, hlen]; omega), hb0]
    congr 1
    have ht : ((runeL s ++ rest).drop 1).take (kindA s) = tailL s (kindA s) := by
      unfold runeL
      rw [List.cons_append, List.drop_succ_cons, List.drop_zero, List.take_append_of_le_length (by rw [tailL_len]; omega), List.take_of_length_le (by rw [tailL_len]; omega)]
    rw [ht, show leadA (kindA s) + s / 64 ^ kindA s - leadA (kindA s) = s / 64 ^ kindA s from by omega, contsI_tail]
    unfold outA
    dsimp only
    rw [if_neg (by rw [h]; rintro (h | h | h) <;> first | omega | cases h)]
    simp
/-- What is read was encoded. -/
theorem tryA_back (b : List Int) (k : Nat) (hk : k < 4) (p : Int × Int) (h : tryA b k = some p) (h0 : p.2 ≠ 0) : isSymB p.1 true = true ∧ b.take p.2.toNat = runeL p.1 ∧ kindA p.1 = k ∧ p.2 = 1 + (k : Int) := by
  by_cases hc : leadA k ≤ b[0]?.getD 0 ∧ b[0]?.getD 0 - leadA k ≤ capA k ∧ k < b.length
  · rw [tryA_yes b k hc.1 hc.2.1 hc.2.2] at h
    cases h
    cases hcs : contsI (b[0]?.getD 0 - leadA k) ((b.drop 1).take k) with
    | none => rw [hcs] at h0; exact absurd rfl h0
    | some t =>
      rw [hcs] at h0
      unfold outA at h0 ⊢
      dsimp only at h0 ⊢
      by_cases hbad : t < leastA k ∨ limA k ≤ t ∨ isSymB t true = false
      · rw [if_pos hbad] at h0
        exact absurd rfl h0
      · rw [if_neg hbad]
        have hsy : isSymB t true = true := by
          cases hx : isSymB t true
          · exact absurd (.inr (.inr hx)) hbad
          · rfl
        have hkd := kindA_is t k hk (by omega) (by omega)
        obtain ⟨h1, h2⟩ := contsI_back _ _ _ hcs
        have hl : ((b.drop 1).take k).length = k := by simp; omega
        rw [hl] at h1 h2
        refine ⟨hsy, ?_, hkd, rfl⟩
        show b.take (1 + (k : Int)).toNat = runeL t
        unfold runeL
        rw [hkd, h1, ← h2]
        have hb : b = b[0]?.getD 0 :: b.drop 1 := by
          cases b with
          | nil => simp at hc
          | cons x l => rfl
        rw [show (1 + (k : Int)).toNat = k + 1 from by omega]
        conv => lhs; rw [hb]
        rw [List.take_succ_cons]
        congr 1
        omega
  · rw [tryA_no b k hc] at h
    cases h
theorem nextN_back (b : List Int) (n : Nat) (hn : n ≤ 4) (h0 : (nextN b n).2 ≠ 0) : isSymB (nextN b n).1 true = true ∧ b.take (nextN b n).2.toNat = runeL (nextN b n).1 := by
  induction n with
  | zero => exact absurd rfl h0
  | succ n ih =>
    have e : nextN b (n + 1) = (tryA b (3 - n)).getD (nextN b n) := rfl
    rw [e] at h0 ⊢
    cases h : tryA b (3 - n) with
    | none => rw [h] at h0; exact ih (by omega) h0
    | some p =>
      rw [h] at h0
      have := tryA_back b (3 - n) (by omega) p h h0
      exact ⟨this.1, this.2.1⟩
theorem oneI_enc (runes : Bool) (s : Int) (rest : List Int) (h : isSymB s runes = true) : oneI runes (oneL runes s ++ rest) = (s, ((oneL runes s).length : Int)) := by
  cases runes
  · rfl
  · exact nextI_rune s rest h
theorem oneI_back (runes : Bool) (b : List Int) (hl : 0 < b.length) (hz : ∀ i : Nat, 0 ≤ b[i]?.getD 0 ∧ b[i]?.getD 0 < 256) (h0 : (oneI runes b).2 ≠ 0) : isSymB (oneI runes b).1 runes = true ∧ b.take (oneI runes b).2.toNat = oneL runes (oneI runes b).1 := by
  cases runes
  · have := hz 0
    refine ⟨?_, ?_⟩
    · show isSymB (b[0]?.getD 0) false = true
      unfold isSymB
      simp
      omega
    · show b.take 1 = [b[0]?.getD 0]
      cases b with
      | nil => simp at hl
      | cons x l => rfl
  · exact nextN_back b 4 (Nat.le_refl _) h0
theorem oneL_ne (runes : Bool) (s : Int) : 0 < (oneL runes s).length := (oneL_len runes s).1
theorem symsL_enc (runes : Bool) (a rest : List Int) (h : ∀ x ∈ a, isSymB x runes = true) : symsL runes (encL runes a ++ rest) = a ++ symsL runes rest := by
  induction a with
  | nil => rfl
  | cons x a ih =>
    have hx := h x (List.mem_cons_self ..)
    have e : encL runes (x :: a) ++ rest = oneL runes x ++ (encL runes a ++ rest) := by unfold encL; simp
    have ho := oneI_enc runes x (encL runes a ++ rest) hx
    have hn := oneL_ne runes x
    rw [e, symsL_cons runes _ (by rw [List.length_append]; omega) (by rw [ho]; simp; intro h; rw [h] at hn; simp at hn), ho]
    show x :: symsL runes ((oneL runes x ++ (encL runes a ++ rest)).drop ((oneL runes x).length : Int).toNat) = _
    rw [Int.toNat_natCast, List.drop_left, ih (fun y hy => h y (List.mem_cons_of_mem _ hy))]
    rfl
theorem sym_pos (runes : Bool) (x : Int) (h : isSymB x runes = true) : negB x = false := by
  unfold isSymB at h
  unfold negB
  cases runes <;> simp at h ⊢ <;> omega
/-- A text is what its bytes are read as. -/
theorem decodeM_enc (runes : Bool) (a : List Int) (h : ∀ x ∈ a, isSymB x runes = true) (hl : a.length ≤ 65536) : decodeM runes (encL runes a) = (a, 0) := by
  have e := symsL_enc runes a [] h
  rw [List.append_nil, symsL_nil, List.append_nil] at e
  unfold decodeM
  rw [e, if_neg (by
    rw [Bool.not_eq_true, List.any_eq_false]
    intro x hx
    rw [sym_pos runes x (h x hx)]
    decide), if_neg (by omega)]
theorem drop_rng {b : List Int} (hz : ∀ i : Nat, 0 ≤ b[i]?.getD 0 ∧ b[i]?.getD 0 < 256) (m i : Nat) : 0 ≤ (b.drop m)[i]?.getD 0 ∧ (b.drop m)[i]?.getD 0 < 256 := by rw [List.getElem?_drop]; exact hz _
/-- Bytes are what their text is encoded to. -/
theorem symsF_back (runes : Bool) (f : Nat) (b : List Int) (hf : b.length ≤ f) (hz : ∀ i : Nat, 0 ≤ b[i]?.getD 0 ∧ b[i]?.getD 0 < 256) (hn : (symsF runes f b).any negB = false) : encL runes (symsF runes f b) = b ∧ ∀ x ∈ symsF runes f b, isSymB x runes = true := by
  induction f generalizing b with
  | zero =>
    obtain rfl : b = [] := List.length_eq_zero_iff.1 (by omega)
    exact ⟨rfl, by simp [symsF]⟩
  | succ f ih =>
    by_cases hb : b = []
    · subst hb
      exact ⟨by simp [symsF, encL], by simp [symsF]⟩
    · have hl : 0 < b.length := List.length_pos_iff.2 hb
      by_cases h0 : (oneI runes b).2 = 0
      · have e : symsF runes (f + 1) b = [-1] := by unfold symsF; rw [if_neg hb, if_pos h0]
        rw [e] at hn
        exact absurd hn (by decide)
      · have e : symsF runes (f + 1) b = (oneI runes b).1 :: symsF runes f (b.drop (oneI runes b).2.toNat) := by
          conv => lhs; unfold symsF
          rw [if_neg hb, if_neg h0]
        have h1 := (oneI_len runes b hl).resolve_left h0
        obtain ⟨h2, h3⟩ := oneI_back runes b hl hz h0
        rw [e] at hn ⊢
        rw [List.any_cons, Bool.or_eq_false_iff] at hn
        obtain ⟨h4, h5⟩ := ih (b.drop (oneI runes b).2.toNat) (by rw [List.length_drop]; omega) (drop_rng hz _) hn.2
        constructor
        · have : encL runes ((oneI runes b).1 :: symsF runes f (b.drop (oneI runes b).2.toNat)) = oneL runes (oneI runes b).1 ++ encL runes (symsF runes f (b.drop (oneI runes b).2.toNat)) := by unfold encL; simp
          rw [this, h4, ← h3, List.take_append_drop]
        · intro x hx
          rcases List.mem_cons.1 hx with rfl | hx
          · exact h2
          · exact h5 x hx
theorem validI_of (runes : Bool) (a : List Int) (h : ∀ x ∈ a, isSymB x runes = true) (hl : a.length ≤ 65536) : validI a runes = 0 := by
  unfold validI
  rw [if_neg (by omega), if_neg (by
    rw [Bool.not_eq_true, List.any_eq_false]
    intro x hx
    rw [h x hx]
    decide)]
theorem decodeM_back (runes : Bool) (b : List Int) (hz : ∀ i : Nat, 0 ≤ b[i]?.getD 0 ∧ b[i]?.getD 0 < 256) (h : (decodeM runes b).2 = 0) : encL runes (decodeM runes b).1 = b ∧ (∀ x ∈ (decodeM runes b).1, isSymB x runes = true) ∧ (decodeM runes b).1.length ≤ 65536 ∧ (decodeM runes b).1 = symsL runes b := by
  unfold decodeM at h ⊢
  split at h
  · cases h
  · rename_i h1
    split at h
    · cases h
    · rename_i h2
      rw [if_neg h1, if_neg h2]
      have := symsF_back runes b.length b (Nat.le_refl _) hz (Bool.eq_false_iff.2 h1)
      exact ⟨this.1, this.2, by show (symsL runes b).length ≤ 65536; omega, rfl⟩
end Go.Proofs.Ytnfelphemdchpaa
