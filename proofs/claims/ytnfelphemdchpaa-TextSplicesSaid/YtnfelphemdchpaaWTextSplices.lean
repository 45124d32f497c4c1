/- TextSplices: the walk. -/
import Derived.Test.YtnfelphemdchpaaTxtX
import Derived.Test.YtnfelphemdchpaaTxtV
import Derived.Test.YtnfelphemdchpaaTxtI
import Derived.Test.YtnfelphemdchpaaTxtJ
import Derived.Test.YtnfelphemdchpaaTxtF
import Derived.Test.YtnfelphemdchpaaTxtG
import Derived.Test.YtnfelphemdchpaaTxtRm
import Derived.Test.YtnfelphemdchpaaTxtUn
namespace Go.Proofs.Ytnfelphemdchpaa
open Go.RowKit Go.Shelf
set_option linter.unusedVariables false

theorem isSym_not_strange {x : Int} {r : Bool} (h : isSymB x r = true) : strangeB x = false := by
  unfold isSymB at h
  unfold strangeB
  cases r
  · rw [if_neg (by decide)] at h
    have := of_decide_eq_true h
    exact decide_eq_false (by omega)
  · rw [if_pos rfl] at h
    have := of_decide_eq_true h
    exact decide_eq_false (by omega)
theorem text_not_strange (l : List Int) (m : Nat) (r : Bool) : (textT l m r).any strangeB = false := by
  rw [List.any_eq_false]
  intro x hx
  rw [isSym_not_strange (textT_ok l m r x hx)]
  decide
theorem splice_back {l : List Int} {p q : Nat} {ins : List Int} (hc : checkI l p q ins = 0) (hs : l.any strangeB = false) (hl : l.length ≤ 1000) (hi : ins.length ≤ 1000) :
    p + q ≤ l.length ∧ spliceL l p q ins = l.take p ++ ins ++ l.drop (p + q) ∧ checkI (spliceL l p q ins) p (ins.length : Int) ((l.drop p).take q) = 0 ∧ spliceL (spliceL l p q ins) p (ins.length : Int) ((l.drop p).take q) = l ∧ undoM l p q ins = ((p : Int), (ins.length : Int), (l.drop p).take q) := by
  obtain ⟨h1, h2, h3, h4, h5, h6⟩ := checkI_0 hc
  have hpq : p + q ≤ l.length := by omega
  have hS : spliceL l p q ins = l.take p ++ ins ++ l.drop (p + q) := by
    unfold spliceL; rw [if_pos hc]; congr 1
  have hlen : (l.take p ++ ins ++ l.drop (p + q)).length = l.length - q + ins.length := by simp; omega
  have hz : ((l.drop p).take q).any strangeB = false := by
    rw [List.any_eq_false] at hs ⊢
    intro x hx
    exact hs x (List.mem_of_mem_drop (List.mem_of_mem_take hx))
  have hzl : ((l.drop p).take q).length = q := by simp; omega
  have hC : checkI (spliceL l p q ins) p (ins.length : Int) ((l.drop p).take q) = 0 := by
    unfold checkI
    rw [hS, hlen, hzl, if_neg (by omega), if_neg (by rw [hz]; decide), if_neg (by omega)]
  refine ⟨hpq, hS, hC, ?_, ?_⟩
  · have hA : spliceL (spliceL l p q ins) p (ins.length : Int) ((l.drop p).take q) = (spliceL l p q ins).take ((p : Int)).toNat ++ (l.drop p).take q ++ (spliceL l p q ins).drop ((p : Int) + (ins.length : Int)).toNat := by
      generalize spliceL l p q ins = A at *
      unfold spliceL
      rw [if_pos hC]
    rw [hA, hS]
    have e2 : ((p : Int) + (ins.length : Int)).toNat = p + ins.length := by omega
    have ht : (l.take p).length = p := by simp; omega
    have ha : (l.take p ++ ins ++ l.drop (p + q)).take p = l.take p := by
      rw [List.append_assoc, List.take_append_of_le_length (by omega), List.take_of_length_le (by omega)]
    have hb : (l.take p ++ ins ++ l.drop (p + q)).drop (p + ins.length) = l.drop (p + q) := List.drop_left' (by rw [List.length_append, ht])
    rw [e2, Int.toNat_natCast, ha, hb, List.append_assoc, ← List.drop_drop, List.take_append_drop, List.take_append_drop]
  · unfold undoM
    rw [if_pos hc, Int.toNat_natCast, Int.toNat_natCast]
theorem refSplice_row (a : Option Addr) (cap : Nat) (l : List Int) (p q : Nat) (ai : Option Addr) (ci : Nat) (ins S : List Int) (w : World) (hr : Row .i64 w.heap.size w (.slice a l.length cap) l) (hri : Row .i64 w.heap.size w (.slice ai ins.length ci) ins)
    (hl : l.length ≤ 100000) (hil : ins.length ≤ 100000) (hpq : p + q ≤ l.length) (hS : l.take p ++ ins ++ l.drop (p + q) = S) :
    Calls Try.prog 35 #[.slice a l.length cap, .agg #[.int .i64 (p : Int), .int .i64 (q : Int), .slice ai ins.length ci]] w (MadeRow w S) := by
  subst hS
  exact madeRow (refSplice_any a cap l p q ai ci ins w hr hri hl hil hpq)
theorem splice_row (a : Option Addr) (cap : Nat) (l : List Int) (at_ del : Int) (ai : Option Addr) (ci : Nat) (ins S : List Int) (C : Int) (w : World) (hr : Row .i64 w.heap.size w (.slice a l.length cap) l) (hri : Row .i64 w.heap.size w (.slice ai ins.length ci) ins)
    (hl : l.length ≤ 100000) (hil : ins.length ≤ 100000) (hwa : (Lit.int .i64 at_).wf = true) (hwd : (Lit.int .i64 del).wf = true) (hC : checkI l at_ del ins = C) (hS : spliceL l at_ del ins = S) :
    Calls Try.prog 24 #[.slice a l.length cap, .agg #[.int .i64 at_, .int .i64 del, .slice ai ins.length ci]] w fun e w' => ∃ a2 c2, e = .returned (.tuple #[.slice a2 S.length c2, .int .i64 C]) ∧ Row .i64 w'.heap.size w' (.slice a2 S.length c2) S ∧ Below w.heap.size w w' := by
  subst hS hC
  refine (splice_any a cap l at_ del ai ci ins w hr hri hl hil hwa hwd).mono ?_
  rintro e w' ⟨v, rfl, ho, hb⟩
  have hrow := (row_of_owns ho).1
  obtain ⟨a2, c2, rfl⟩ := row_slice hrow
  exact ⟨a2, c2, rfl, hrow, hb⟩
theorem undo_row (a : Option Addr) (cap : Nat) (l : List Int) (at_ del : Int) (ai : Option Addr) (ci : Nat) (ins : List Int) (x y : Int) (Z : List Int) (C : Int) (w : World) (hr : Row .i64 w.heap.size w (.slice a l.length cap) l) (hri : Row .i64 w.heap.size w (.slice ai ins.length ci) ins)
    (hl : l.length ≤ 100000) (hil : ins.length ≤ 100000) (hwa : (Lit.int .i64 at_).wf = true) (hwd : (Lit.int .i64 del).wf = true) (hC : checkI l at_ del ins = C) (hS : undoM l at_ del ins = (x, y, Z)) :
    Calls Try.prog 32 #[.slice a l.length cap, .agg #[.int .i64 at_, .int .i64 del, .slice ai ins.length ci]] w fun e w' => ∃ a2 c2, e = .returned (.tuple #[.agg #[.int .i64 x, .int .i64 y, .slice a2 Z.length c2], .int .i64 C]) ∧ Row .i64 w'.heap.size w' (.slice a2 Z.length c2) Z ∧ Below w.heap.size w w' := by
  have h := undo_any a cap l at_ del ai ci ins w hr hri hl hil hwa hwd
  rw [hC, hS] at h
  exact h
theorem refCheck_row (a : Option Addr) (cap : Nat) (l : List Int) (at_ del : Int) (ai : Option Addr) (ci : Nat) (ins : List Int) (C : Int) (w : World) (hr : Row .i64 w.heap.size w (.slice a l.length cap) l) (hri : Row .i64 w.heap.size w (.slice ai ins.length ci) ins)
    (hl : l.length ≤ 1000000) (hil : ins.length ≤ 1000000) (hwa : (Lit.int .i64 at_).wf = true) (hwd : (Lit.int .i64 del).wf = true) (hC : checkI l at_ del ins = C) :
    Calls Try.prog 33 #[.slice a l.length cap, .agg #[.int .i64 at_, .int .i64 del, .slice ai ins.length ci]] w fun e w' => e = .returned (.int .i64 C) ∧ Below w.heap.size w w' := by
  subst hC
  exact refCheck_any a cap l at_ del ai ci ins w hr hri hl hil hwa hwd
theorem refUndo_row (a : Option Addr) (cap : Nat) (l : List Int) (p q : Nat) (ai : Option Addr) (ci : Nat) (ins Z : List Int) (w : World) (hr : Row .i64 w.heap.size w (.slice a l.length cap) l) (hri : Row .i64 w.heap.size w (.slice ai ins.length ci) ins)
    (hl : l.length ≤ 100000) (hil : ins.length ≤ 100000) (hpq : p + q ≤ l.length) (hZ : (l.drop p).take q = Z) :
    Calls Try.prog 36 #[.slice a l.length cap, .agg #[.int .i64 (p : Int), .int .i64 (q : Int), .slice ai ins.length ci]] w fun e w' => ∃ a2 c2, e = .returned (.agg #[.int .i64 (p : Int), .int .i64 (ins.length : Int), .slice a2 Z.length c2]) ∧ Row .i64 w'.heap.size w' (.slice a2 Z.length c2) Z ∧ Below w.heap.size w w' :=
  refUndo_aux Z a cap l p q ai ci ins w hr hri hl hil hpq hZ
theorem same_rows (a : Option Addr) (ca : Nat) (z : List Int) (b : Option Addr) (cb : Nat) (w : World) (hra : Row .i64 w.heap.size w (.slice a z.length ca) z) (hrb : Row .i64 w.heap.size w (.slice b z.length cb) z) :
    Calls Try.prog 22 #[.slice a z.length ca, .slice b z.length cb] w fun e w' => e = .returned (.bool true) ∧ Below w.heap.size w w' := by
  have h := sameInts_any a z.length ca z b z.length cb z w hra hrb
  simpa using h
theorem splice_row0 (a : Option Addr) (cap : Nat) (l : List Int) (at_ del : Int) (ai : Option Addr) (ci : Nat) (ins : List Int) (C : Int) (w : World) (hr : Row .i64 w.heap.size w (.slice a l.length cap) l) (hri : Row .i64 w.heap.size w (.slice ai ins.length ci) ins)
    (hl : l.length ≤ 100000) (hil : ins.length ≤ 100000) (hwa : (Lit.int .i64 at_).wf = true) (hwd : (Lit.int .i64 del).wf = true) (hC : checkI l at_ del ins = C) (hS : spliceL l at_ del ins = []) :
    Calls Try.prog 24 #[.slice a l.length cap, .agg #[.int .i64 at_, .int .i64 del, .slice ai ins.length ci]] w fun e w' => ∃ a2 c2, e = .returned (.tuple #[.slice a2 0 c2, .int .i64 C]) ∧ Below w.heap.size w w' :=
  (splice_row a cap l at_ del ai ci ins [] C w hr hri hl hil hwa hwd hC hS).mono fun e w' ⟨a2, c2, h, _, hb⟩ => ⟨a2, c2, h, hb⟩
theorem undo_row0 (a : Option Addr) (cap : Nat) (l : List Int) (at_ del : Int) (ai : Option Addr) (ci : Nat) (ins : List Int) (C : Int) (w : World) (hr : Row .i64 w.heap.size w (.slice a l.length cap) l) (hri : Row .i64 w.heap.size w (.slice ai ins.length ci) ins)
    (hl : l.length ≤ 100000) (hil : ins.length ≤ 100000) (hwa : (Lit.int .i64 at_).wf = true) (hwd : (Lit.int .i64 del).wf = true) (hC : checkI l at_ del ins = C) (hS : undoM l at_ del ins = (0, 0, [])) :
    Calls Try.prog 32 #[.slice a l.length cap, .agg #[.int .i64 at_, .int .i64 del, .slice ai ins.length ci]] w fun e w' => ∃ a2 c2, e = .returned (.tuple #[.agg #[.int .i64 0, .int .i64 0, .slice a2 0 c2], .int .i64 C]) ∧ Row .i64 w'.heap.size w' (.slice a2 0 c2) [] ∧ Below w.heap.size w w' :=
  (undo_row a cap l at_ del ai ci ins 0 0 [] C w hr hri hl hil hwa hwd hC hS).mono fun e w' h => h
theorem same_zero (a : Option Addr) (ca : Nat) (w : World) (hra : Row .i64 w.heap.size w (.slice a 0 ca) []) :
    Calls Try.prog 34 #[.agg #[.int .i64 0, .int .i64 0, .slice a 0 ca], .agg #[.int .i64 0, .int .i64 0, .slice none 0 0]] w fun e w' => e = .returned (.bool true) ∧ Below w.heap.size w w' :=
  sameEdit_self 0 0 a ca none 0 [] w hra (.inl ⟨none, 0, rfl, by decide, by decide, rfl⟩)

set_option maxRecDepth 100000 in
set_option maxHeartbeats 4000000 in
theorem textSplices_walk (a0 : Option Addr) (len0 cap0 : Nat) (z0 : List Int) (a1 : Int) (a2 : Option Addr) (len2 cap2 : Nat) (z2 : List Int) (a3 : Int) (a4 : Int) (w : World) (w0 : IsRow .i64 w a0 len0 cap0 z0) (w1 : (Lit.int .i64 a1).wf = true) (w2 : IsRow .i64 w a2 len2 cap2 z2) (w3 : (Lit.int .i64 a3).wf = true) (w4 : (Lit.int .i64 a4).wf = true) :
    Calls Try.prog 7 #[.slice a0 len0 cap0, .int .i64 a1, .slice a2 len2 cap2, .int .i64 a3, .int .i64 a4] w fun e w' => e = .returned (.bool true) ∧ Below w.heap.size w w' := by
  obtain ⟨hr0, hw0⟩ := w0.row
  obtain ⟨hr2, hw2⟩ := w2.row
  have hl0 := hr0.len
  have hl2 := hr2.len
  clear w0 w2
  generalize z0.take len0 = l0 at *
  generalize z2.take len2 = l2 at *
  subst hl0 hl2
  go_enter Try.func7, Try.ntmps7
  go_wp2_with fail
  refine (text_row a0 cap0 l0 30 true w hr0 (by decide) hw0).mono ?_
  rintro e q1 ⟨at1, ct1, rfl, -, hT, b1⟩
  have hTl := textT_len l0 30 true
  have hTs := Lib.hid (text_not_strange l0 30 true)
  have hr0' := rowB hr0 b1
  have hr2' := rowB hr2 b1
  dsimp only
  go_wp2_with fail
  refine (text_row a0 cap0 l0 30 true q1 hr0' (by decide) hw0).mono ?_
  rintro e q2 ⟨at2, ct2, rfl, -, hO, b2⟩
  generalize textT l0 30 true = T at *
  clear hr0 hr0' hw0 hr2
  replace hT := rowB hT b2
  replace hr2' := rowB hr2' b2
  replace b1 := stepB b1 b2
  clear b2
  dsimp only
  go_wp2_with fail
  refine (text_row a2 cap2 l2 6 true q2 hr2' (by decide) hw2).mono ?_
  rintro e q3 ⟨ai1, ci1, rfl, -, hI1, b2⟩
  have hI1l := textT_len l2 6 true
  generalize textT l2 6 true = I1 at *
  replace hT := rowB hT b2
  replace hO := rowB hO b2
  replace hr2' := rowB hr2' b2
  replace b1 := stepB b1 b2
  clear b2
  dsimp only
  go_wp2_with fail
  refine (refEdit_any at1 ct1 T a1 ai1 I1.length ci1 q3 hT (by omega) w1).mono ?_
  rintro e q4 ⟨x1, y1, rfl, hx1, hy1, b2⟩
  replace hT := rowB hT b2
  replace hO := rowB hO b2
  replace hr2' := rowB hr2' b2
  replace hI1 := rowB hI1 b2
  replace b1 := stepB b1 b2
  clear b2
  dsimp only
  go_wp2_with fail
  refine (ints_int (.slice a2 l2.length cap2) l2 4 q4 hr2' (by decide) (by decide)).mono ?_
  rintro e q5 ⟨ai2, ci2, rfl, -, hI2, b2⟩
  have hI2l : (l2.take (Int.toNat 4)).length ≤ 4 := by simp; omega
  generalize l2.take (Int.toNat 4) = I2 at *
  replace hT := rowB hT b2
  replace hO := rowB hO b2
  replace hr2' := rowB hr2' b2
  replace hI1 := rowB hI1 b2
  replace b1 := stepB b1 b2
  clear b2
  dsimp only
  go_wp2_with fail
  refine (text_row a2 cap2 l2 3 true q5 hr2' (by decide) hw2).mono ?_
  rintro e q6 ⟨ai3, ci3, rfl, -, hI3, b2⟩
  have hI3l := textT_len l2 3 true
  generalize textT l2 3 true = I3 at *
  replace hT := rowB hT b2
  replace hO := rowB hO b2
  replace hI1 := rowB hI1 b2
  replace hI2 := rowB hI2 b2
  replace b1 := stepB b1 b2
  clear b2 hr2' hw2
  dsimp only
  go_wp2_with fail
  have CA := Cel.new q6 43 #[.int .i64 x1, .int .i64 y1, .slice ai1 I1.length ci1, .int .i64 a3, .int .i64 a4, .slice ai2 I2.length ci2, .int .i64 (T.length : Int), .int .i64 0, .slice ai3 I3.length ci3]
  have b2 := laidB (Below.refl q6.heap.size q6) (.cells #[.int .i64 x1, .int .i64 y1, .slice ai1 I1.length ci1, .int .i64 a3, .int .i64 a4, .slice ai2 I2.length ci2, .int .i64 (T.length : Int), .int .i64 0, .slice ai3 I3.length ci3] 43)
  generalize hq : q6.alloc (.cells #[.int .i64 x1, .int .i64 y1, .slice ai1 I1.length ci1, .int .i64 a3, .int .i64 a4, .slice ai2 I2.length ci2, .int .i64 (T.length : Int), .int .i64 0, .slice ai3 I3.length ci3] 43) = q7 at *
  clear hq
  replace hT := rowB hT b2
  replace hO := rowB hO b2
  replace hI1 := rowB hI1 b2
  replace hI2 := rowB hI2 b2
  replace hI3 := rowB hI3 b2
  replace b1 := stepB b1 b2
  have hE : Hid (∀ k : Nat, k < 3 → ∃ (x y : Int) (ai : Option Addr) (ci : Nat) (I : List Int), q7.cell? ⟨q6.heap.size, k * 3, none⟩ = some (.int .i64 x) ∧ q7.cell? ⟨q6.heap.size, k * 3 + 1, none⟩ = some (.int .i64 y) ∧ q7.cell? ⟨q6.heap.size, k * 3 + 2, none⟩ = some (.slice ai I.length ci) ∧ (Lit.int .i64 x).wf = true ∧ (Lit.int .i64 y).wf = true ∧ Row .i64 q7.heap.size q7 (.slice ai I.length ci) I ∧ I.length ≤ 6) := by
    refine Lib.hid fun k hk => ?_
    match k, hk with
    | 0, _ => exact ⟨x1, y1, ai1, ci1, I1, CA.cell 0, CA.cell 1, CA.cell 2, hx1, hy1, hI1, hI1l⟩
    | 1, _ => exact ⟨a3, a4, ai2, ci2, I2, CA.cell 3, CA.cell 4, CA.cell 5, w3, w4, hI2, by omega⟩
    | 2, _ => exact ⟨_, 0, ai3, ci3, I3, CA.cell 6, CA.cell 7, CA.cell 8, wf_small _ (by omega) (by omega), by decide, hI3, by omega⟩
  generalize q6.heap.size = B at *
  have hBq : B < q7.heap.size := CA.lt
  clear CA b2 hI1 hI2 hI3 hI1l hI2l hI3l hx1 hy1 w1 w3 w4
  go_loopw [14] (fun i wr => ∃ k : Nat, k ≤ 3 ∧ i = .int .i64 (k : Int) ∧ Below q7.heap.size q7 wr) (fun i _ => 3 - (intOf i).toNat)
  case atStart => exact ⟨0, by omega, rfl, Below.refl _ _⟩
  case round =>
    obtain ⟨k, hk, rfl, hB⟩ := hrel
    by_cases hlt : k < 3
    · obtain ⟨x, y, ai, ci, I, c0, c1, c2, hx, hy, hI, hIl⟩ := hE.out k hlt
      replace c0 := cellB c0 hB
      replace c1 := cellB c1 hB
      replace c2 := cellB c2 hB
      replace hT := rowB hT hB
      replace hO := rowB hO hB
      replace hI := rowB hI hB
      generalize hC : checkI T x y I = C
      have HC := Lib.hid hC
      clear hC
      have hk3 : (k : Int) < 3 := by omega
      have hk0 : (0 : Int) ≤ (k : Int) := by omega
      by_cases hC0 : C = 0
      · subst hC0
        obtain ⟨h1, h2, -, -, -, -⟩ := checkI_0 HC.out
        obtain ⟨p, rfl⟩ := Int.eq_ofNat_of_zero_le h1
        obtain ⟨q, rfl⟩ := Int.eq_ofNat_of_zero_le h2
        obtain ⟨hpq, hS, hC2, hS2, hU⟩ := splice_back HC.out hTs.out (by omega) (by omega)
        have hZl : ((T.drop p).take q).length ≤ 30 := by simp; omega
        have hSl : (spliceL T p q I).length ≤ 100 := by rw [hS]; simp; omega
        generalize hZ : (T.drop p).take q = Z at *
        generalize hSS : spliceL T p q I = S at *
        have HS := Lib.hid hS
        have HC2 := Lib.hid hC2
        have HS2 := Lib.hid hS2
        have HU := Lib.hid hU
        have HZ := Lib.hid hZ
        have HSS := Lib.hid hSS
        clear hS hC2 hS2 hU hZ hSS h1 h2
        go_wp2_with fail
        refine (splice_row at1 ct1 T p q ai ci I S 0 wr hT hI (by omega) (by omega) hx hy HC.out HSS.out).mono ?_
        rintro e v1 ⟨aa, ca, rfl, hA, bb⟩
        replace hT := rowB hT bb
        replace hO := rowB hO bb
        replace hI := rowB hI bb
        replace c0 := cellB c0 bb
        replace c1 := cellB c1 bb
        replace c2 := cellB c2 bb
        replace hB := stepB hB bb
        clear bb
        dsimp only
        go_wp2_with fail
        refine (undo_row at1 ct1 T p q ai ci I p I.length Z 0 v1 hT hI (by omega) (by omega) hx hy HC.out HU.out).mono ?_
        rintro e v2 ⟨au, cu, rfl, hUr, bb⟩
        replace hT := rowB hT bb
        replace hO := rowB hO bb
        replace hI := rowB hI bb
        replace hA := rowB hA bb
        replace c0 := cellB c0 bb
        replace c1 := cellB c1 bb
        replace c2 := cellB c2 bb
        replace hB := stepB hB bb
        clear bb
        dsimp only
        have CU := Cel.new v2 43 #[.int .i64 (p : Int), .int .i64 (I.length : Int), .slice au Z.length cu]
        have bb := laidB (Below.refl v2.heap.size v2) (.cells #[.int .i64 (p : Int), .int .i64 (I.length : Int), .slice au Z.length cu] 43)
        replace hT := rowB hT bb
        replace hO := rowB hO bb
        replace hI := rowB hI bb
        replace hA := rowB hA bb
        replace hUr := rowB hUr bb
        replace c0 := cellB c0 bb
        replace c1 := cellB c1 bb
        replace c2 := cellB c2 bb
        replace hB := stepB hB bb
        clear bb
        go_wp2_with fail
        refine (refCheck_row at1 ct1 T p q ai ci I 0 _ hT hI (by omega) (by omega) hx hy HC.out).mono ?_
        rintro e v3 ⟨rfl, bb⟩
        replace hT := rowB hT bb
        replace hO := rowB hO bb
        replace hI := rowB hI bb
        replace hA := rowB hA bb
        replace hUr := rowB hUr bb
        replace c0 := cellB c0 bb
        replace c1 := cellB c1 bb
        replace c2 := cellB c2 bb
        replace hB := stepB hB bb
        replace CU := CU.step bb
        clear bb
        generalize v2.heap.size = U at *
        have u0 := CU.cell 0
        have u1 := CU.cell 1
        have u2 := CU.cell 2
        dsimp only
        go_wp2_with fail
        refine (splice_row aa ca S p I.length au cu Z T 0 _ hA hUr (by omega) (by omega) hx (wf_small _ (by omega) (by omega)) HC2.out HS2.out).mono ?_
        rintro e v4 ⟨ab, cb, rfl, hBk, bb⟩
        replace hT := rowB hT bb
        replace hO := rowB hO bb
        replace hI := rowB hI bb
        replace hA := rowB hA bb
        replace hUr := rowB hUr bb
        replace c0 := cellB c0 bb
        replace c1 := cellB c1 bb
        replace c2 := cellB c2 bb
        replace hB := stepB hB bb
        replace CU := CU.step bb
        clear bb u0 u1 u2
        have u0 : v4.cell? ⟨U, 0, none⟩ = some (.int .i64 (p : Int)) := CU.cell 0
        have u1 : v4.cell? ⟨U, 1, none⟩ = some (.int .i64 (I.length : Int)) := CU.cell 1
        have u2 : v4.cell? ⟨U, 2, none⟩ = some (.slice au Z.length cu) := CU.cell 2
        have n1 : T.length ≤ 100000 := by omega
        have n2 : I.length ≤ 100000 := by omega
        have hTd : Row .i64 v4.drew.heap.size v4.drew (.slice at1 T.length ct1) T := hT
        have hId : Row .i64 v4.drew.heap.size v4.drew (.slice ai I.length ci) I := hI
        have k0 : Below v4.heap.size v4 v4.drew := (Below.refl v4.heap.size v4).drew
        dsimp only
        go_wp2_with fail
        go_region_held3 (fun w' => w'.cell? ⟨B, k * 3, none⟩ = some (.int .i64 (p : Int)) ∧ w'.cell? ⟨B, k * 3 + 1, none⟩ = some (.int .i64 (q : Int)) ∧ w'.cell? ⟨B, k * 3 + 2, none⟩ = some (.slice ai I.length ci) ∧ w'.cell? ⟨U, 0, none⟩ = some (.int .i64 (p : Int)) ∧ w'.cell? ⟨U, 1, none⟩ = some (.int .i64 (I.length : Int)) ∧ w'.cell? ⟨U, 2, none⟩ = some (.slice au Z.length cu)) (first | go_keep) (first
          | (go_at_call 22; refine (same_rows at1 ct1 T at2 ct2 _ (rowB hT k5) (rowB hO k5)).mono ?_; rintro e r6 ⟨rfl, bb6⟩; dsimp only; have k6 := stepB k5 bb6; have x6c0 := cellB c0 k6; have x6c1 := cellB c1 k6; have x6c2 := cellB c2 k6; have x6u0 := cellB u0 k6; have x6u1 := cellB u1 k6; have x6u2 := cellB u2 k6)
          | (go_at_call 22; refine (same_rows ab cb T at2 ct2 _ (rowB hBk k4) (rowB hO k4)).mono ?_; rintro e r5 ⟨rfl, bb5⟩; dsimp only; have k5 := stepB k4 bb5; have x5c0 := cellB c0 k5; have x5c1 := cellB c1 k5; have x5c2 := cellB c2 k5; have x5u0 := cellB u0 k5; have x5u1 := cellB u1 k5; have x5u2 := cellB u2 k5)
          | (go_at_call 34; refine (sameEdit_self (p : Int) (I.length : Int) au cu d3 e3 Z _ (rowB hUr k3) hD3).mono ?_; rintro e r4 ⟨rfl, bb4⟩; dsimp only; have k4 := stepB k3 bb4; have x4c0 := cellB c0 k4; have x4c1 := cellB c1 k4; have x4c2 := cellB c2 k4; have x4u0 := cellB u0 k4; have x4u1 := cellB u1 k4; have x4u2 := cellB u2 k4)
          | (go_at_call 36; refine (refUndo_row at1 ct1 T p q ai ci I Z _ (rowB hT k2) (rowB hI k2) n1 n2 hpq HZ.out).mono ?_; rintro e r3 ⟨d3, e3, rfl, hD3, bb3⟩; dsimp only; have k3 := stepB k2 bb3; have x3c0 := cellB c0 k3; have x3c1 := cellB c1 k3; have x3c2 := cellB c2 k3; have x3u0 := cellB u0 k3; have x3u1 := cellB u1 k3; have x3u2 := cellB u2 k3)
          | (go_at_call 22; refine (same_rows aa ca S d1 e1 _ (rowB hA k1) hD1).mono ?_; rintro e r2 ⟨rfl, bb2⟩; dsimp only; have k2 := stepB k1 bb2; have x2c0 := cellB c0 k2; have x2c1 := cellB c1 k2; have x2c2 := cellB c2 k2; have x2u0 := cellB u0 k2; have x2u1 := cellB u1 k2; have x2u2 := cellB u2 k2)
          | (go_at_call 35; refine (refSplice_row at1 ct1 T p q ai ci I S _ hTd hId n1 n2 hpq HS.out.symm).mono ?_; rintro e r1 ⟨d1, e1, rfl, -, hD1, bb1⟩; dsimp only; have k1 := stepB k0 bb1; have x1c0 := cellB c0 k1; have x1c1 := cellB c1 k1; have x1c2 := cellB c2 k1; have x1u0 := cellB u0 k1; have x1u1 := cellB u1 k1; have x1u2 := cellB u2 k1))
        replace hB := stepB hB k6
        clear k0 k1 k2 k3 k4 k5 k6 CU c0 c1 c2 u0 u1 u2 hTd hId
        go_wp2_with fail
        go_roundw
        case rel => exact ⟨k + 1, by omega, by go_num, hB⟩
        case measure => simp [intOf]; omega
      · have hS : spliceL T x y I = [] := by unfold spliceL; rw [HC.out, if_neg hC0]
        have hU : undoM T x y I = (0, 0, []) := by unfold undoM; rw [HC.out, if_neg hC0]
        have HS := Lib.hid hS
        have HU := Lib.hid hU
        clear hS hU
        go_wp2_with fail
        refine (splice_row0 at1 ct1 T x y ai ci I C wr hT hI (by omega) (by omega) hx hy HC.out HS.out).mono ?_
        rintro e v1 ⟨aa, ca, rfl, bb⟩
        replace hT := rowB hT bb
        replace hI := rowB hI bb
        replace c0 := cellB c0 bb
        replace c1 := cellB c1 bb
        replace c2 := cellB c2 bb
        replace hB := stepB hB bb
        clear bb
        dsimp only
        go_wp2_with fail
        refine (undo_row0 at1 ct1 T x y ai ci I C v1 hT hI (by omega) (by omega) hx hy HC.out HU.out).mono ?_
        rintro e v2 ⟨au, cu, rfl, hUr, bb⟩
        replace hT := rowB hT bb
        replace hI := rowB hI bb
        replace c0 := cellB c0 bb
        replace c1 := cellB c1 bb
        replace c2 := cellB c2 bb
        replace hB := stepB hB bb
        clear bb
        dsimp only
        have CU := Cel.new v2 43 #[.int .i64 0, .int .i64 0, .slice au 0 cu]
        have bb := laidB (Below.refl v2.heap.size v2) (.cells #[.int .i64 0, .int .i64 0, .slice au 0 cu] 43)
        replace hT := rowB hT bb
        replace hI := rowB hI bb
        replace hUr := rowB hUr bb
        replace c0 := cellB c0 bb
        replace c1 := cellB c1 bb
        replace c2 := cellB c2 bb
        replace hB := stepB hB bb
        clear bb
        go_wp2_with fail
        refine (refCheck_row at1 ct1 T x y ai ci I C _ hT hI (by omega) (by omega) hx hy HC.out).mono ?_
        rintro e v3 ⟨rfl, bb⟩
        replace hUr := rowB hUr bb
        replace hB := stepB hB bb
        replace CU := CU.step bb
        clear bb hT hI c0 c1 c2
        generalize v2.heap.size = U at *
        have u0 : v3.cell? ⟨U, 0, none⟩ = some (.int .i64 0) := CU.cell 0
        have u1 : v3.cell? ⟨U, 1, none⟩ = some (.int .i64 0) := CU.cell 1
        have u2 : v3.cell? ⟨U, 2, none⟩ = some (.slice au 0 cu) := CU.cell 2
        dsimp only
        go_wp2_with fail
        refine (same_zero au cu v3 hUr).mono ?_
        rintro e v4 ⟨rfl, bb⟩
        replace hB := stepB hB bb
        clear bb u0 u1 u2 CU hUr
        dsimp only
        go_wp2_with fail
        go_roundw
        case rel => exact ⟨k + 1, by omega, by go_num, hB⟩
        case measure => simp [intOf]; omega
    · go_wp2_with fail
      refine (lives4_any _).mono ?_
      rintro e W ⟨rfl, hb⟩
      have b2 := stepB (stepB b1 hB) hb
      dsimp only
      go_wp2_with fail
      go_ret
      exact ⟨rfl, b2⟩
end Go.Proofs.Ytnfelphemdchpaa
