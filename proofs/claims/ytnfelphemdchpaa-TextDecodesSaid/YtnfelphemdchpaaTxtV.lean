/- Contracts of package text, with rows at the end; plain facts on lines. -/
import Derived.Test.YtnfelphemdchpaaTxtU
import Derived.Test.YtnfelphemdchpaaTxtO
import Derived.Test.YtnfelphemdchpaaTxtK
namespace Go.Proofs.Ytnfelphemdchpaa
open Go.RowKit Go.Shelf
set_option linter.unusedVariables false

/-- What a call left that made itself a list. -/
def MadeRow (w : World) (l : List Int) (e : Ending) (w' : World) : Prop :=
  ∃ a cap, e = .returned (.slice a l.length cap) ∧ w'.ownsRow w.heap.size 3 1 (.slice a l.length cap) l.length (l.map (Value.int .i64)) ∧ Row .i64 w'.heap.size w' (.slice a l.length cap) l ∧ Below w.heap.size w w'
theorem madeRow {w : World} {l : List Int} {F : Nat} {args : Array Value} (h : Calls Try.prog F args w fun e w' => ∃ v, e = .returned v ∧ w'.ownsRow w.heap.size 3 1 v l.length (l.map (Value.int .i64)) ∧ Below w.heap.size w w') : Calls Try.prog F args w (MadeRow w l) :=
  h.mono fun e w' ⟨v, he, ho, hb⟩ => by
    subst he
    have hrow := (row_of_owns ho).1
    obtain ⟨a2, c2, rfl⟩ := row_slice hrow
    exact ⟨a2, c2, rfl, ho, hrow, hb⟩
theorem text_row (a : Option Addr) (cap : Nat) (l : List Int) (most : Nat) (runes : Bool) (w : World) (hr : Row .i64 w.heap.size w (.slice a l.length cap) l) (hm : most ≤ 1000) (hw : ∀ x ∈ l, (Lit.int .i64 x).wf = true) :
    Calls Try.prog 11 #[.slice a l.length cap, .int .i64 (most : Int), .bool runes] w (MadeRow w (textT l most runes)) := madeRow (text_any a cap l most runes w hr hm hw)
theorem lines_row (a : Option Addr) (cap : Nat) (l : List Int) (w : World) (hr : Row .i64 w.heap.size w (.slice a l.length cap) l) (hl : l.length ≤ 100000) :
    Calls Try.prog 25 #[.slice a l.length cap] w (MadeRow w (linesL l l.length)) := madeRow (lines_any a cap l w hr hl)
theorem linesL_pre (l : List Int) (i k : Nat) (h : i ≤ k) : ∃ t, linesL l k = linesL l i ++ t := by
  induction k with
  | zero => exact ⟨[], by rw [show i = 0 from by omega, List.append_nil]⟩
  | succ k ih =>
    rcases Nat.lt_or_ge k i with h1 | h1
    · exact ⟨[], by rw [show i = k + 1 from by omega, List.append_nil]⟩
    · obtain ⟨t, ht⟩ := ih h1
      by_cases hx : l[k]?.getD 0 = 10
      · exact ⟨t ++ [(k : Int) + 1], by rw [linesL_yes l k hx, ht, List.append_assoc]⟩
      · exact ⟨t, by rw [linesL_no l k hx, ht]⟩
theorem linesL_at (l : List Int) (i k : Nat) (h : i < k) (hx : l[i]?.getD 0 = 10) : (linesL l i).length < (linesL l k).length ∧ (linesL l k)[(linesL l i).length]?.getD 0 = (i : Int) + 1 := by
  obtain ⟨t, ht⟩ := linesL_pre l (i + 1) k h
  rw [linesL_yes l i hx] at ht
  rw [ht]
  constructor
  · simp
  · rw [List.append_assoc, List.getElem?_append_right (Nat.le_refl _)]
    simp
theorem linesL_pos (l : List Int) (k : Nat) : 0 < (linesL l k).length ∧ (linesL l k)[0]?.getD 0 = 0 := by unfold linesL; simp
theorem linesL_rng (l : List Int) (k i : Nat) : 0 ≤ (linesL l k)[i]?.getD 0 ∧ (linesL l k)[i]?.getD 0 ≤ (k : Int) := by
  induction k with
  | zero =>
    unfold linesL
    match i with
    | 0 => simp
    | i + 1 => simp
  | succ k ih =>
    by_cases hx : l[k]?.getD 0 = 10
    · rw [linesL_yes l k hx, List.getElem?_append]
      split
      · omega
      · rcases h : i - (linesL l k).length with _ | j
        · simp; omega
        · simp; omega
    · rw [linesL_no l k hx]; omega
theorem linesL_app (A B : List Int) (m : Nat) (hm : m ≤ B.length) : linesL (A ++ B) (A.length + m) = linesL A A.length ++ ((linesL B m).drop 1).map (fun x => x + (A.length : Int)) := by
  induction m with
  | zero =>
    have h1 : linesL (A ++ B) A.length = linesL A A.length := by
      unfold linesL
      congr 2
      apply List.filter_congr
      intro i hi
      have : i < A.length := by simpa using hi
      rw [List.getElem?_append_left this]
    rw [Nat.add_zero, h1]
    simp [linesL]
  | succ m ih =>
    have e : (A ++ B)[A.length + m]?.getD 0 = B[m]?.getD 0 := by rw [List.getElem?_append_right (by omega), show A.length + m - A.length = m from by omega]
    have hp := (linesL_pos B m).1
    rw [← Nat.add_assoc]
    by_cases hx : B[m]?.getD 0 = 10
    · rw [linesL_yes _ _ (by rw [e]; exact hx), linesL_yes B m hx, ih (by omega), List.drop_append_of_le_length (by omega), List.map_append, List.append_assoc]
      simp
      omega
    · rw [linesL_no _ _ (by rw [e]; exact hx), linesL_no B m hx, ih (by omega)]
theorem linesL_both (A B : List Int) : (linesL (A ++ B) (A ++ B).length).length + 1 = (linesL A A.length).length + (linesL B B.length).length ∧
    ∀ i, 1 ≤ i → i < (linesL B B.length).length → (linesL (A ++ B) (A ++ B).length)[(linesL A A.length).length + i - 1]?.getD 0 = (linesL B B.length)[i]?.getD 0 + (A.length : Int) := by
  have hp := (linesL_pos B B.length).1
  have h := linesL_app A B B.length (Nat.le_refl _)
  rw [List.length_append, h]
  constructor
  · simp; omega
  · intro i h1 h2
    rw [List.getElem?_append_right (by omega), show (linesL A A.length).length + i - 1 - (linesL A A.length).length = i - 1 from by omega, List.getElem?_map, List.getElem?_drop, show 1 + (i - 1) = i from by omega, List.getElem?_eq_getElem h2]
    simp
end Go.Proofs.Ytnfelphemdchpaa
