/- Join's contract of all three ways, and plain facts of the joined edit. -/
import Derived.Test.YtmfekbljfnjkgaaEdO
namespace Go.Proofs.Ytmfekbljfnjkgaa
open Go.RowKit Go.Shelf
set_option linter.unusedVariables false

/-- What Join answers. -/
def joinM (l : List Int) (x y : Int) (ins : List Int) (p q : Int) (jns : List Int) : Int × Int × List Int × Int :=
  if checkI l x y ins = 0 then
    if checkI (spliceL l x y ins) p q jns = 0 then
      (min x p, (l.length : Int) - min ((l.length : Int) - x - y) (((spliceL l x y ins).length : Int) - p - q) - min x p,
        ((spliceL (spliceL l x y ins) p q jns).drop (min x p).toNat).take ((spliceL (spliceL l x y ins) p q jns).length - (min ((l.length : Int) - x - y) (((spliceL l x y ins).length : Int) - p - q)).toNat - (min x p).toNat), 0)
    else (0, 0, [], checkI (spliceL l x y ins) p q jns)
  else (0, 0, [], checkI l x y ins)
theorem joinM_no1 {l : List Int} {x y : Int} {ins : List Int} {p q : Int} {jns : List Int} (h : checkI l x y ins ≠ 0) : joinM l x y ins p q jns = (0, 0, [], checkI l x y ins) := by
  unfold joinM; rw [if_neg h]
theorem joinM_no2 {l : List Int} {x y : Int} {ins : List Int} {p q : Int} {jns : List Int} (h : checkI l x y ins = 0) (h2 : checkI (spliceL l x y ins) p q jns ≠ 0) : joinM l x y ins p q jns = (0, 0, [], checkI (spliceL l x y ins) p q jns) := by
  unfold joinM; rw [if_pos h, if_neg h2]
theorem joinM_yes {l : List Int} {x y : Nat} {ins : List Int} {p q : Nat} {jns S L : List Int} (h : checkI l x y ins = 0) (hS : spliceL l x y ins = S) (h2 : checkI S p q jns = 0) (hL : spliceL S p q jns = L) {t st D : Nat} (ht : t = min x p) (hst : st = min (l.length - x - y) (S.length - p - q)) (hD : D + st + t = l.length) (hxy : x + y ≤ l.length) (hpq : p + q ≤ S.length) :
    joinM l x y ins p q jns = ((t : Int), (D : Int), (L.drop t).take (L.length - st - t), 0) := by
  unfold joinM
  rw [if_pos h, hS, if_pos h2, hL]
  have e1 : min (x : Int) (p : Int) = (t : Int) := by omega
  have e2 : min ((l.length : Int) - (x : Int) - (y : Int)) ((S.length : Int) - (p : Int) - (q : Int)) = (st : Int) := by omega
  rw [e1, e2, Int.toNat_natCast, Int.toNat_natCast, show (l.length : Int) - (st : Int) - (t : Int) = (D : Int) from by omega]
theorem drop_tail {A B : List Int} {n k : Nat} (hk : A.length = k) (h : k ≤ n) : (A ++ B).drop n = B.drop (n - k) := by
  subst hk
  rw [List.drop_append, List.drop_of_length_le h, List.nil_append]
/-- The joined edit leads from the first text to the last. -/
theorem join_leads (l ins jns S L : List Int) (x y p q t st D : Nat) (hxy : x + y ≤ l.length) (hS : l.take x ++ ins ++ l.drop (x + y) = S) (hpq : p + q ≤ S.length) (hL : S.take p ++ jns ++ S.drop (p + q) = L) (ht : t = min x p) (hst : st = min (l.length - x - y) (S.length - p - q)) (hD : D + st + t = l.length) :
    l.take t ++ (L.drop t).take (L.length - st - t) ++ l.drop (t + D) = L ∧ t + D ≤ l.length := by
  have hSl : S.length = x + ins.length + (l.length - (x + y)) := by rw [← hS, List.length_append, List.length_append, List.length_take, List.length_drop]; omega
  have hLl : L.length = p + jns.length + (S.length - (p + q)) := by rw [← hL, List.length_append, List.length_append, List.length_take, List.length_drop]; omega
  have h1 : L.take t = l.take t := by
    have e1 : L.take t = S.take t := by
      rw [← hL, List.append_assoc, List.take_append_of_le_length (by rw [List.length_take]; omega), List.take_take, Nat.min_eq_left (by omega)]
    have e2 : S.take t = l.take t := by
      rw [← hS, List.append_assoc, List.take_append_of_le_length (by rw [List.length_take]; omega), List.take_take, Nat.min_eq_left (by omega)]
    rw [e1, e2]
  have h2 : L.drop (L.length - st) = l.drop (l.length - st) := by
    have e1 : L.drop (L.length - st) = S.drop (S.length - st) := by
      have : ∀ n, p + jns.length ≤ n → L.drop n = (S.drop (p + q)).drop (n - (p + jns.length)) := by
        intro n hn
        rw [← hL]
        exact drop_tail (by rw [List.length_append, List.length_take]; omega) hn
      rw [this _ (by omega), List.drop_drop]
      congr 1
      omega
    have e2 : S.drop (S.length - st) = l.drop (l.length - st) := by
      have : ∀ n, x + ins.length ≤ n → S.drop n = (l.drop (x + y)).drop (n - (x + ins.length)) := by
        intro n hn
        rw [← hS]
        exact drop_tail (by rw [List.length_append, List.length_take]; omega) hn
      rw [this _ (by omega), List.drop_drop]
      congr 1
      omega
    rw [e1, e2]
  refine ⟨?_, by omega⟩
  rw [← h1, show t + D = l.length - st from by omega, ← h2]
  have e : L.drop (L.length - st) = (L.drop t).drop (L.length - st - t) := by rw [List.drop_drop]; congr 1; omega
  rw [e, List.append_assoc, List.take_append_drop, List.take_append_drop]
theorem joinM_any (a : Option Addr) (cap : Nat) (l : List Int) (x y : Int) (ai : Option Addr) (ci : Nat) (ins : List Int) (p q : Int) (bi : Option Addr) (di : Nat) (jns : List Int) (w : World) (hr : Row .i64 w.heap.size w (.slice a l.length cap) l) (hri : Row .i64 w.heap.size w (.slice ai ins.length ci) ins) (hrj : Row .i64 w.heap.size w (.slice bi jns.length di) jns)
    (hl : l.length ≤ 100) (hil : ins.length ≤ 10) (hjl : jns.length ≤ 10) (hwx : (Lit.int .i64 x).wf = true) (hwy : (Lit.int .i64 y).wf = true) (hwp : (Lit.int .i64 p).wf = true) (hwq : (Lit.int .i64 q).wf = true) :
    Calls Try.prog 21 #[.slice a l.length cap, .agg #[.int .i64 x, .int .i64 y, .slice ai ins.length ci], .agg #[.int .i64 p, .int .i64 q, .slice bi jns.length di]] w fun e w' => ∃ a2 c2, e = .returned (.tuple #[.agg #[.int .i64 (joinM l x y ins p q jns).1, .int .i64 (joinM l x y ins p q jns).2.1, .slice a2 (joinM l x y ins p q jns).2.2.1.length c2], .int .i64 (joinM l x y ins p q jns).2.2.2]) ∧ RowP .i64 (fun g => w.heap.size ≤ g ∧ g < w'.heap.size) w' (.slice a2 (joinM l x y ins p q jns).2.2.1.length c2) (joinM l x y ins p q jns).2.2.1 ∧ Below w.heap.size w w' := by
  by_cases h1 : checkI l x y ins = 0
  · obtain ⟨k0, k1, k2, k3, k4, k5⟩ := checkI_0 h1
    obtain ⟨x, rfl⟩ := Int.eq_ofNat_of_zero_le k0
    obtain ⟨y, rfl⟩ := Int.eq_ofNat_of_zero_le k1
    have hS := spliceL_ok l x y ins h1
    have hSl : (spliceL l x y ins).length ≤ 200 := by rw [hS, List.length_append, List.length_append, List.length_take, List.length_drop]; omega
    by_cases h2 : checkI (spliceL l x y ins) p q jns = 0
    · obtain ⟨m0, m1, m2, m3, m4, m5⟩ := checkI_0 h2
      obtain ⟨p, rfl⟩ := Int.eq_ofNat_of_zero_le m0
      obtain ⟨q, rfl⟩ := Int.eq_ofNat_of_zero_le m1
      have hL := spliceL_ok _ p q jns h2
      refine (join_ok a cap l x y ai ci ins p q bi di jns _ _ w hr hri hrj (by omega) (by omega) (by omega) (by omega) k5 hS.symm (by omega) (by omega) m5 hL.symm).mono ?_
      rintro e w' ⟨t, st, D, a2, c2, ht, hst, hD, rfl, hrow, hb⟩
      rw [joinM_yes h1 rfl h2 rfl ht hst hD (by omega) (by omega)]
      exact ⟨a2, c2, rfl, hrow, hb⟩
    · refine (join_bad2 a cap l x y ai ci ins p q bi di jns _ _ w hr hri hrj (by omega) (by omega) (by omega) hwx hwy hwp hwq h1 rfl (by omega) rfl h2).mono ?_
      rintro e w' ⟨rfl, hb⟩
      rw [joinM_no2 h1 h2]
      exact ⟨none, 0, rfl, nil_row .i64 _ _, hb⟩
  · refine (join_bad1 a cap l x y ai ci ins p q bi di jns _ w hr hri (by omega) (by omega) hwx hwy rfl h1).mono ?_
    rintro e w' ⟨rfl, hb⟩
    rw [joinM_no1 h1]
    exact ⟨none, 0, rfl, nil_row .i64 _ _, hb⟩
end Go.Proofs.Ytmfekbljfnjkgaa
