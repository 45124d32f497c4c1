/- Plain facts of edits that are moved, and Splice with its numbers. -/
import Derived.Test.YtmfekbljfnjkgaaEdI
import Derived.Test.YtmfekbljfnjkgaaEdG
namespace Go.Proofs.Ytmfekbljfnjkgaa
open Go.RowKit Go.Shelf
set_option linter.unusedVariables false

theorem moved_nat (x y p q n s : Nat) (h1 : x + y ≤ s) (h2 : p + q ≤ s) : ∃ A B : Nat, movAt x p q n = (A : Int) ∧ movDel x y p q n = (B : Int) ∧ A + B + q ≤ s + n ∧ (x + y < p → A = x ∧ B = y) ∧ (p + q < x → A + q = x + n ∧ B = y) := by
  refine ⟨(movAt x p q n).toNat, (movDel x y p q n).toNat, ?_, ?_, ?_, ?_, ?_⟩
  · unfold movAt; (repeat' split) <;> omega
  · unfold movDel movTo movAt; (repeat' split) <;> omega
  · unfold movDel movTo movAt; (repeat' split) <;> omega
  · intro h; unfold movDel movTo movAt; (repeat' split) <;> omega
  · intro h; unfold movDel movTo movAt; (repeat' split) <;> omega
theorem check_ok (l : List Int) (x y : Nat) (ins : List Int) (h : x + y ≤ l.length) (hl : l.length ≤ 1000) (hi : ins.length ≤ 1000) (hp : ins.any strangeB = false) : checkI l x y ins = 0 := by
  unfold checkI
  rw [if_neg (by omega), if_neg (by rw [hp]; decide), if_neg (by omega)]
theorem spliceL_ok (l : List Int) (x y : Nat) (ins : List Int) (hc : checkI l x y ins = 0) : spliceL l x y ins = l.take x ++ ins ++ l.drop (x + y) := by
  unfold spliceL
  rw [if_pos hc, Int.toNat_natCast, show ((x : Int) + (y : Int)).toNat = x + y from by omega]
/-- Edits that stand apart lead to one text in both orders. -/
theorem splices_apart (t : List Int) (x y p q A2 : Nat) (ins jns : List Int) (h : x + y ≤ p) (hp : p + q ≤ t.length) (hA : A2 + y = p + ins.length) :
    (t.take p ++ jns ++ t.drop (p + q)).take x ++ ins ++ (t.take p ++ jns ++ t.drop (p + q)).drop (x + y) = (t.take x ++ ins ++ t.drop (x + y)).take A2 ++ jns ++ (t.take x ++ ins ++ t.drop (x + y)).drop (A2 + q) := by
  obtain ⟨t1, t2, t3, t4, t5, rfl, l1, l2, l3, l4⟩ : ∃ t1 t2 t3 t4 t5 : List Int, t = t1 ++ (t2 ++ (t3 ++ (t4 ++ t5))) ∧ t1.length = x ∧ t2.length = y ∧ t3.length = p - x - y ∧ t4.length = q := by
    refine ⟨t.take x, (t.drop x).take y, (t.drop (x + y)).take (p - x - y), (t.drop p).take q, t.drop (p + q), ?_, by simp; omega, by simp; omega, by simp; omega, by simp; omega⟩
    have i1 : (t.drop p).take q ++ t.drop (p + q) = t.drop p := by rw [← List.drop_drop, List.take_append_drop]
    have i2 : (t.drop (x + y)).take (p - x - y) ++ t.drop p = t.drop (x + y) := by
      have e : t.drop p = (t.drop (x + y)).drop (p - x - y) := by rw [List.drop_drop]; congr 1; omega
      rw [e, List.take_append_drop]
    have i3 : (t.drop x).take y ++ t.drop (x + y) = t.drop x := by rw [← List.drop_drop, List.take_append_drop]
    rw [i1, i2, i3, List.take_append_drop]
  have e1 : (t1 ++ (t2 ++ (t3 ++ (t4 ++ t5)))).take p = t1 ++ (t2 ++ t3) := by
    rw [show t1 ++ (t2 ++ (t3 ++ (t4 ++ t5))) = (t1 ++ (t2 ++ t3)) ++ (t4 ++ t5) from by simp]
    exact List.take_left' (by simp; omega)
  have e2 : (t1 ++ (t2 ++ (t3 ++ (t4 ++ t5)))).drop (p + q) = t5 := by
    rw [show t1 ++ (t2 ++ (t3 ++ (t4 ++ t5))) = (t1 ++ (t2 ++ (t3 ++ t4))) ++ t5 from by simp]
    exact List.drop_left' (by simp; omega)
  have e3 : (t1 ++ (t2 ++ (t3 ++ (t4 ++ t5)))).take x = t1 := List.take_left' l1
  have e4 : (t1 ++ (t2 ++ (t3 ++ (t4 ++ t5)))).drop (x + y) = t3 ++ (t4 ++ t5) := by
    rw [show t1 ++ (t2 ++ (t3 ++ (t4 ++ t5))) = (t1 ++ t2) ++ (t3 ++ (t4 ++ t5)) from by simp]
    exact List.drop_left' (by simp; omega)
  rw [e1, e2, e3, e4]
  have f1 : (t1 ++ (t2 ++ t3) ++ jns ++ t5).take x = t1 := by
    rw [show t1 ++ (t2 ++ t3) ++ jns ++ t5 = t1 ++ ((t2 ++ t3) ++ jns ++ t5) from by simp]
    exact List.take_left' l1
  have f2 : (t1 ++ (t2 ++ t3) ++ jns ++ t5).drop (x + y) = t3 ++ jns ++ t5 := by
    rw [show t1 ++ (t2 ++ t3) ++ jns ++ t5 = (t1 ++ t2) ++ (t3 ++ jns ++ t5) from by simp]
    exact List.drop_left' (by simp; omega)
  have f3 : (t1 ++ ins ++ (t3 ++ (t4 ++ t5))).take A2 = t1 ++ ins ++ t3 := by
    rw [show t1 ++ ins ++ (t3 ++ (t4 ++ t5)) = (t1 ++ ins ++ t3) ++ (t4 ++ t5) from by simp]
    exact List.take_left' (by simp; omega)
  have f4 : (t1 ++ ins ++ (t3 ++ (t4 ++ t5))).drop (A2 + q) = t5 := by
    rw [show t1 ++ ins ++ (t3 ++ (t4 ++ t5)) = (t1 ++ ins ++ t3 ++ t4) ++ t5 from by simp]
    exact List.drop_left' (by simp; omega)
  rw [f1, f2, f3, f4]
  simp
theorem small_plain {ins : List Int} (h : ∀ z ∈ ins, 10 ≤ z ∧ z ≤ 200) : ins.any strangeB = false := by
  rw [List.any_eq_false]
  intro x hx
  have := h x hx
  rw [show strangeB x = false from by unfold strangeB; exact decide_eq_false (by omega)]
  decide
theorem wfE_small {x y : Nat} {ins : List Int} (hx : x ≤ 1000) (hy : y ≤ 1000) (hl : ins.length ≤ 1000) (hp : ins.any strangeB = false) : wfE x y ins = true := by
  unfold wfE
  rw [hp, decide_eq_true (show (0 : Int) ≤ (x : Int) ∧ (x : Int) ≤ 65536 by omega), decide_eq_true (show (0 : Int) ≤ (y : Int) ∧ (y : Int) ≤ 65536 by omega), decide_eq_true (show ins.length ≤ 65536 by omega)]
  rfl
theorem splice_ok (a : Option Addr) (cap : Nat) (l : List Int) (x y : Nat) (ai : Option Addr) (ci : Nat) (ins S : List Int) (w : World) (hr : Row .i64 w.heap.size w (.slice a l.length cap) l) (hri : Row .i64 w.heap.size w (.slice ai ins.length ci) ins)
    (hl : l.length ≤ 1000) (hil : ins.length ≤ 1000) (h : x + y ≤ l.length) (hp : ins.any strangeB = false) (hS : l.take x ++ ins ++ l.drop (x + y) = S) :
    Calls Try.prog 19 #[.slice a l.length cap, .agg #[.int .i64 (x : Int), .int .i64 (y : Int), .slice ai ins.length ci]] w fun e w' => ∃ a2 c2, e = .returned (.tuple #[.slice a2 S.length c2, .int .i64 0]) ∧ Row .i64 w'.heap.size w' (.slice a2 S.length c2) S ∧ Below w.heap.size w w' := by
  have hc := check_ok l x y ins h hl hil hp
  have hw1 : (Lit.int .i64 (x : Int)).wf = true := by simp [Lit.wf, IntKind.min, IntKind.max, IntKind.signed, IntKind.bits]; omega
  have hw2 : (Lit.int .i64 (y : Int)).wf = true := by simp [Lit.wf, IntKind.min, IntKind.max, IntKind.signed, IntKind.bits]; omega
  refine (splice_any a cap l x y ai ci ins w hr hri (by omega) (by omega) hw1 hw2).mono ?_
  rintro e w' ⟨v, rfl, ho, hb⟩
  rw [spliceL_ok l x y ins hc, hS] at ho
  rw [hc]
  have hrow := (row_of_owns ho).1
  obtain ⟨a2, c2, rfl⟩ := row_slice hrow
  exact ⟨a2, c2, rfl, hrow, hb⟩
end Go.Proofs.Ytmfekbljfnjkgaa
