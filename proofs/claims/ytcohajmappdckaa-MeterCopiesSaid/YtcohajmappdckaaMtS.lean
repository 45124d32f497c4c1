/- Package meter: Shares, plainly. -/
import Derived.Test.YtcohajmappdckaaMtA
import Derived.Shelf.SlSortCmp.Insertion1
namespace Go.Proofs.Ytcohajmappdckaa
open Go.RowKit Go.Shelf
set_option linter.unusedVariables false

/-- The exact part, rounded down; the remainder. -/
def qM (T S w : Int) : Int := T * w / S
def rM (T S w : Int) : Int := T * w % S
def baseM (T S : Int) (ws : List Int) : List Int := ws.map (qM T S)
theorem qr (T S w : Int) : S * qM T S w + rM T S w = T * w := Int.mul_ediv_add_emod _ _
theorem rM_rng (T S w : Int) (hS : 0 < S) : 0 ≤ rM T S w ∧ rM T S w < S := ⟨Int.emod_nonneg _ (by omega), Int.emod_lt_of_pos _ hS⟩
theorem base_sum (T S : Int) (hS : 0 < S) : ∀ ws : List Int, S * (baseM T S ws).sum ≤ T * ws.sum ∧ T * ws.sum ≤ S * (baseM T S ws).sum + ws.length * (S - 1)
  | [] => by simp [baseM]
  | w :: ws => by
    have ih := base_sum T S hS ws
    have h1 := qr T S w
    have h2 := rM_rng T S w hS
    have e1 : (baseM T S (w :: ws)).sum = qM T S w + (baseM T S ws).sum := by simp [baseM]
    have e2 : (w :: ws).sum = w + ws.sum := by simp
    have e3 : (((w :: ws).length : Nat) : Int) = (ws.length : Int) + 1 := by simp
    rw [e1, e2, e3, Int.mul_add, Int.mul_add, Int.add_mul, Int.one_mul]
    generalize S * qM T S w = a at *
    generalize T * w = b at *
    generalize (ws.length : Int) * (S - 1) = c at *
    generalize S * (baseM T S ws).sum = d at *
    generalize T * ws.sum = f at *
    omega
theorem left_rng (T : Int) (ws : List Int) (hS : 0 < ws.sum) : 0 ≤ T - (baseM T ws.sum ws).sum ∧ T - (baseM T ws.sum ws).sum < ws.length := by
  obtain ⟨h1, h2⟩ := base_sum T ws.sum hS ws
  have hn : 0 < ws.length := by
    rcases ws with _ | ⟨w, ws⟩
    · simp at hS
    · simp
  generalize (baseM T ws.sum ws).sum = b at *
  generalize ws.sum = S at *
  generalize ws.length = n at *
  constructor
  · apply Int.not_lt.1
    intro h
    have h3 : S * (T - b) < S * 0 := Int.mul_lt_mul_of_pos_left h hS
    rw [Int.mul_sub, Int.mul_zero, Int.mul_comm S T] at h3
    omega
  · apply Int.not_le.1
    intro h
    have h3 : S * (n : Int) ≤ S * (T - b) := Int.mul_le_mul_of_nonneg_left h (by omega)
    rw [Int.mul_sub, Int.mul_comm S T] at h3
    rw [Int.mul_sub, Int.mul_one, Int.mul_comm (n : Int) S] at h2
    omega
/-- One more for each index. -/
def bump (l : List Int) (is : List Nat) : List Int := is.foldl (fun l i => l.set i (l[i]?.getD 0 + 1)) l
theorem bump_len (is : List Nat) : ∀ l : List Int, (bump l is).length = l.length := by
  induction is with
  | nil => intro l; rfl
  | cons i is ih => intro l; show (bump (l.set i (l[i]?.getD 0 + 1)) is).length = _; rw [ih]; simp
theorem set_sum : ∀ (l : List Int) (i : Nat) (x : Int), i < l.length → (l.set i x).sum = l.sum - l[i]?.getD 0 + x
  | [], i, x, h => by simp at h
  | a :: l, 0, x, h => by simp; omega
  | a :: l, i + 1, x, h => by
    have := set_sum l i x (by simpa using h)
    simp [this]
    omega
theorem bump_sum (is : List Nat) : ∀ l : List Int, (∀ i ∈ is, i < l.length) → (bump l is).sum = l.sum + is.length := by
  induction is with
  | nil => intro l _; simp [bump]
  | cons i is ih =>
    intro l h
    show (bump (l.set i (l[i]?.getD 0 + 1)) is).sum = _
    rw [ih _ (fun j hj => by rw [List.length_set]; exact h j (List.mem_cons_of_mem _ hj)), set_sum l i _ (h i (List.mem_cons_self ..))]
    simp
    omega
theorem bump_lo (is : List Nat) : ∀ l : List Int, (∀ i : Nat, 0 ≤ l[i]?.getD 0) → ∀ i : Nat, 0 ≤ (bump l is)[i]?.getD 0 := by
  induction is with
  | nil => intro l h; exact h
  | cons j is ih =>
    intro l h
    refine ih (l.set j (l[j]?.getD 0 + 1)) (fun i => ?_)
    rw [List.getElem?_set]
    have := h j
    split
    · split
      · simp; omega
      · simp
    · exact h i
theorem bump_snoc (l : List Int) (is : List Nat) (i : Nat) : bump l (is ++ [i]) = (bump l is).set i ((bump l is)[i]?.getD 0 + 1) := by
  unfold bump
  rw [List.foldl_append]
  rfl
theorem base_lo (T S : Int) (ws : List Int) (hT : 0 ≤ T) (hS : 0 < S) (hw : ∀ w ∈ ws, 0 ≤ w) (i : Nat) : 0 ≤ (baseM T S ws)[i]?.getD 0 := by
  unfold baseM
  rw [List.getElem?_map]
  cases e : ws[i]? with
  | none => simp
  | some w =>
    have := hw w (List.mem_of_getElem? e)
    exact Int.ediv_nonneg (Int.mul_nonneg hT this) (by omega)
/-- The order in which more is given. -/
def orderM (n : Nat) (f : Nat → Int) : Array (Fin (n + 1)) := Sort.insertionSort (ltOf fun a b : Fin (n + 1) => Lib.compareInt (f b.val) (f a.val)) (Array.ofFn id) 0 (n + 1)
/-- What Shares returns for up to twenty weights, some not 0. -/
def sharesM (T : Int) (ws : List Int) : List Int :=
  bump (baseM T ws.sum ws) (((orderM (ws.length - 1) fun i => rM T ws.sum (ws[i]?.getD 0)).toList.map Fin.val).take (T - (baseM T ws.sum ws).sum).toNat)
theorem sharesM_len (T : Int) (ws : List Int) : (sharesM T ws).length = ws.length := by unfold sharesM; rw [bump_len]; simp [baseM]
theorem ins_size {α : Type} [Inhabited α] (lt : α → α → Bool) (a : Nat) : ∀ (j : Nat) (d : Array α), (Sort.insInner lt a j d).size = d.size
  | 0, d => by rw [Sort.insInner]
  | j + 1, d => by
    rw [Sort.insInner]
    split
    · rw [ins_size lt a j]; simp [Sort.swp]
    · rfl
theorem ino_size {α : Type} [Inhabited α] (lt : α → α → Bool) (a b : Nat) : ∀ (k i : Nat) (d : Array α), b - i ≤ k → (Sort.insOuter lt a b i d).size = d.size
  | 0, i, d, h => by rw [insOuter_stop _ _ _ _ _ (by omega)]
  | k + 1, i, d, h => by
    by_cases hi : i < b
    · rw [insOuter_go _ _ _ _ _ hi, ino_size lt a b k _ _ (by omega), ins_size]
    · rw [insOuter_stop _ _ _ _ _ hi]
theorem order_size (n : Nat) (f : Nat → Int) : (orderM n f).size = n + 1 := by
  unfold orderM Sort.insertionSort
  rw [ino_size _ _ _ (n + 1) _ _ (by omega)]
  simp
theorem sharesM_sum (T : Int) (ws : List Int) (hS : 0 < ws.sum) : (sharesM T ws).sum = T := by
  obtain ⟨h1, h2⟩ := left_rng T ws hS
  have hn : 0 < ws.length := by
    rcases ws with _ | ⟨w, ws⟩
    · simp at hS
    · simp
  unfold sharesM
  rw [bump_sum]
  · rw [List.length_take, List.length_map, Array.length_toList, order_size]
    omega
  · intro i hi
    obtain ⟨x, _, rfl⟩ := List.mem_map.1 (List.mem_of_mem_take hi)
    have := x.isLt
    simp [baseM]
    omega
theorem sharesM_lo (T : Int) (ws : List Int) (hT : 0 ≤ T) (hS : 0 < ws.sum) (hw : ∀ w ∈ ws, 0 ≤ w) (i : Nat) : 0 ≤ (sharesM T ws)[i]?.getD 0 := bump_lo _ _ (base_lo T ws.sum ws hT hS hw) i
theorem shares_ex : sharesM 10 [1, 1, 1] = [4, 3, 3] := by
  have h : orderM 2 (fun i => rM 10 3 (([1, 1, 1] : List Int)[i]?.getD 0)) = #[0, 1, 2] := by
    unfold orderM Sort.insertionSort
    rw [insOuter_go _ _ _ _ _ (by decide), insOuter_go _ _ _ _ _ (by decide), insOuter_stop _ _ _ _ _ (by decide)]
    decide +kernel
  unfold sharesM
  rw [show ([1, 1, 1] : List Int).sum = 3 from rfl, show ([1, 1, 1] : List Int).length - 1 = 2 from rfl, h]
  decide +kernel
end Go.Proofs.Ytcohajmappdckaa
