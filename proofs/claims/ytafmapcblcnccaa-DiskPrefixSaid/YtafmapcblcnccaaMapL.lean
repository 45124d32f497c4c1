/- Maps with whole numbers as keys, plainly: a list of pairs. -/
import Derived.Test.YtafmapcblcnccaaCel
import Derived.Maps.RangeRun
import Derived.Maps.Own
namespace Go.Proofs.Ytafmapcblcnccaa
open Go.RowKit Go.Shelf
open Go.ChangeMaps (setBlock heap_setBlock_same heap_setBlock_other)
set_option linter.unusedVariables false

/-- What stands at a key. -/
def lkL : List (Int × Value) → Int → Option Value
  | [], _ => none
  | p :: l, n => if n = p.1 then some p.2 else lkL l n
/-- The list with a key put. -/
def putL : List (Int × Value) → Int → Value → List (Int × Value)
  | [], n, v => [(n, v)]
  | p :: l, n, v => if n = p.1 then (n, v) :: l else p :: putL l n v
/-- The list with a key struck. -/
def delL : List (Int × Value) → Int → List (Int × Value)
  | [], _ => []
  | p :: l, n => if n = p.1 then l else p :: delL l n
def entL (e : MapEntry) (p : Int × Value) : Prop := e.key = .int .i64 p.1 ∧ e.val = p.2
/-- The entries are these pairs, in this order. -/
def EntsL : List MapEntry → List (Int × Value) → Prop
  | [], [] => True
  | e :: es, p :: l => (e.key = .int .i64 p.1 ∧ e.val = p.2) ∧ EntsL es l
  | _, _ => False
/-- Block m is a map with these entries. -/
def MapL (W : World) (m : Nat) (l : List (Int × Value)) : Prop :=
  ∃ es clock, W.heap[m]? = some (.map es clock) ∧ EntsL es.toList l ∧ (es.toList.map (·.born)).Nodup ∧ ∀ e ∈ es.toList, e.born < clock
theorem ents_len : ∀ {es : List MapEntry} {l : List (Int × Value)}, EntsL es l → es.length = l.length
  | [], [], _ => rfl
  | _ :: es, _ :: l, h => by simp [ents_len h.2]
  | [], _ :: _, h => h.elim
  | _ :: _, [], h => h.elim
theorem find_some : ∀ {es : List MapEntry} {l : List (Int × Value)} (n : Int) (i : Nat) (v : Value), EntsL es l → lkL l n = some v → ∃ j, Instr.findNow (.int .i64) (.int .i64 n) es i = some (some (i + j, v)) ∧ (∃ e, es[j]? = some e ∧ e.key = .int .i64 n) ∧
    (∀ u, EntsL (es.modify j fun e => { e with key := .int .i64 n, val := u }) (putL l n u)) ∧ EntsL (es.eraseIdx j) (delL l n)
  | [], [], n, i, v, _, h => by simp [lkL] at h
  | e :: es, p :: l, n, i, v, hE, h => by
    obtain ⟨⟨h1, h2⟩, h3⟩ := hE
    by_cases hn : n = p.1
    · subst hn
      refine ⟨0, ?_, ⟨e, rfl, h1⟩, fun u => ?_, ?_⟩
      · simp [lkL] at h
        simp [Instr.findNow, Instr.sameNow, h1, h2, h]
      · simp [putL, EntsL, h3]
      · simpa [delL] using h3
    · simp [lkL, hn] at h
      obtain ⟨j, g1, g2, g3, g4⟩ := find_some n (i + 1) v h3 h
      refine ⟨j + 1, ?_, by simpa using g2, fun u => ?_, ?_⟩
      · have hb : (n == p.1) = false := by simpa using hn
        simp only [Instr.findNow, Instr.sameNow, h1, if_true, hb, g1]
        simp; omega
      · simp only [putL, hn, if_false, List.modify_succ_cons, EntsL]
        exact ⟨⟨h1, h2⟩, g3 u⟩
      · simp only [delL, hn, if_false, List.eraseIdx_cons_succ, EntsL]
        exact ⟨⟨h1, h2⟩, g4⟩
  | [], _ :: _, _, _, _, h, _ => h.elim
  | _ :: _, [], _, _, _, h, _ => h.elim
theorem find_none : ∀ {es : List MapEntry} {l : List (Int × Value)} (n : Int) (i : Nat), EntsL es l → lkL l n = none → Instr.findNow (.int .i64) (.int .i64 n) es i = some none ∧ (∀ e u, e.key = .int .i64 n → e.val = u → EntsL (es ++ [e]) (putL l n u)) ∧ delL l n = l
  | [], [], n, i, _, h => ⟨rfl, fun e u h1 h2 => ⟨⟨h1, h2⟩, trivial⟩, rfl⟩
  | e :: es, p :: l, n, i, hE, h => by
    obtain ⟨⟨h1, h2⟩, h3⟩ := hE
    by_cases hn : n = p.1
    · simp [lkL, hn] at h
    · simp [lkL, hn] at h
      obtain ⟨g1, g2, g3⟩ := find_none n (i + 1) h3 h
      have hb : (n == p.1) = false := by simpa using hn
      refine ⟨?_, fun e' u k1 k2 => ?_, ?_⟩
      · simp only [Instr.findNow, Instr.sameNow, h1, if_true, hb, g1]
      · simp only [putL, hn, if_false, List.cons_append, EntsL]
        exact ⟨⟨h1, h2⟩, g2 e' u k1 k2⟩
      · simp only [delL, hn, if_false, g3]
  | [], _ :: _, _, _, h, _ => h.elim
  | _ :: _, [], _, _, h, _ => h.elim
section
variable {P : Program} {t k e : TypeId} {W W' : World} {m : Nat} {l : List (Int × Value)}
theorem MapL.lt (h : MapL W m l) : m < W.heap.size := by
  obtain ⟨es, clock, hb, _⟩ := h
  exact (Array.getElem?_eq_some_iff.1 hb).1
theorem MapL.step (h : MapL W m l) (hb : Below W.heap.size W W') : MapL W' m l := by
  have hl := h.lt
  obtain ⟨es, clock, h1, h2⟩ := h
  exact ⟨es, clock, (hb.block m hl).trans h1, h2⟩
theorem MapL.grown {row : Option Nat} (h : MapL W m l) (hg : W.grownBy W' row) (hr : row ≠ some m) : MapL W' m l := by
  have hl := h.lt
  obtain ⟨es, clock, h1, h2⟩ := h
  exact ⟨es, clock, (hg.block m hl (Ne.symm hr)).trans h1, h2⟩
theorem MapL.new (W : World) : MapL (W.alloc (.map #[] 0)) W.heap.size [] :=
  ⟨#[], 0, by show (W.heap.push _)[W.heap.size]? = _; simp, trivial, by simp, by simp⟩
theorem check_int (hk : P.underlying k = some (.int .i64)) (b : Bool) (n : Int) (w : World) : (Instr.checkKey b 10000 k (.int .i64 n)).run P w = .ok () w :=
  MapKept.run_checkKey hk (by simp [MapKept.IsKey]) b 9999
theorem findKey_int (hk : P.underlying k = some (.int .i64)) (n : Int) (es : List MapEntry) (r : Option (Nat × Value)) (h : Instr.findNow (.int .i64) (.int .i64 n) es 0 = some r) (w : World) : (Instr.findKey k (.int .i64 n) es).run P w = .ok r w := by
  simp [Instr.findKey, run_underlying hk, h, Result.andThen]
/-- m[n]. -/
theorem MapL.look (h : MapL W m l) (ht : P.underlying t = some (.map k e)) (hk : P.underlying k = some (.int .i64)) (z : Value) (hz : (zeroValue e).run P W = .ok z W) (n : Int) (c : Bool) :
    (Instr.lookup t (.map (some m)) (.int .i64 n) c).run P W = .ok (if c then .tuple #[(lkL l n).getD z, .bool (lkL l n).isSome] else (lkL l n).getD z) W := by
  obtain ⟨es, clock, hb, hE, _, _⟩ := h
  cases hl : lkL l n with
  | none =>
    obtain ⟨h1, _, _⟩ := find_none n 0 hE hl
    simp [Instr.lookup, run_underlying ht, MapKept.run_getObj_map hb, check_int hk, findKey_int hk n _ _ h1, hz, Result.andThen]
  | some v =>
    obtain ⟨j, h1, _⟩ := find_some n 0 v hE hl
    simp [Instr.lookup, run_underlying ht, MapKept.run_getObj_map hb, check_int hk, findKey_int hk n _ _ h1, Result.andThen]
/-- m[n] = v. -/
theorem MapL.put (h : MapL W m l) (ht : P.underlying t = some (.map k e)) (hk : P.underlying k = some (.int .i64)) (n : Int) (v : Value) :
    ∃ W', (Instr.mapUpdate t (.map (some m)) (.int .i64 n) v).run P W = .ok () W' ∧ MapL W' m (putL l n v) ∧ W.grownBy W' (some m) := by
  obtain ⟨es, clock, hb, hE, hn, hc⟩ := h
  have hg : ∀ o, W.grownBy (setBlock W m o) (some m) := fun o => ⟨rfl, rfl, rfl, by simp [setBlock], fun i _ hi => heap_setBlock_other hb _ (fun e => hi (by rw [e]))⟩
  cases hl : lkL l n with
  | none =>
    obtain ⟨h1, h2, _⟩ := find_none n 0 hE hl
    refine ⟨setBlock W m (.map (es.push { key := .int .i64 n, val := v, born := clock }) (clock + 1)), ?_, ⟨_, _, heap_setBlock_same hb _, ?_, ?_, ?_⟩, hg _⟩
    · simp [Instr.mapUpdate, run_underlying ht, MapKept.run_getObj_map hb, check_int hk, findKey_int hk n _ _ h1, setObj, Sem.run, hb, Result.andThen, setBlock]
    · rw [Array.toList_push]; exact h2 _ v rfl rfl
    · rw [Array.toList_push, List.map_append, List.nodup_append]
      refine ⟨hn, by simp, ?_⟩
      intro a ha b hb2
      obtain ⟨e0, he0, rfl⟩ := List.mem_map.1 ha
      have := hc e0 he0
      simp at hb2
      omega
    · intro e0 he0
      rw [Array.toList_push] at he0
      rcases List.mem_append.1 he0 with he0 | he0
      · have := hc e0 he0; omega
      · simp at he0; subst he0; simp
  | some u =>
    obtain ⟨j, h1, ⟨e0, h2, h2'⟩, h3, _⟩ := find_some n 0 u hE hl
    rw [Nat.zero_add] at h1
    have h2'' : es[j]? = some e0 := by simpa using h2
    refine ⟨setBlock W m (.map (es.modify j fun e => { e with key := .int .i64 n, val := v }) clock), ?_, ⟨_, _, heap_setBlock_same hb _, ?_, ?_, ?_⟩, hg _⟩
    · simp [Instr.mapUpdate, run_underlying ht, MapKept.run_getObj_map hb, check_int hk, findKey_int hk n _ _ h1, setObj, Sem.run, hb, Result.andThen, setBlock, Instr.keyThatStays, Instr.sameBits, h2'', h2']
    · rw [Array.toList_modify]; exact h3 v
    · have : ((es.modify j fun e => { e with key := .int .i64 n, val := v }).toList.map (·.born)) = es.toList.map (·.born) := by
        apply List.ext_getElem?
        intro i
        rw [Array.toList_modify]
        simp only [List.getElem?_map, List.getElem?_modify]
        cases es.toList[i]? with
        | none => simp
        | some x => by_cases hij : j = i <;> simp [hij]
      rw [this]; exact hn
    · intro x hx
      rw [Array.toList_modify] at hx
      obtain ⟨i, hi⟩ := List.getElem?_of_mem hx
      rw [List.getElem?_modify] at hi
      cases hx0 : es.toList[i]? with
      | none => simp [hx0] at hi
      | some y =>
        have hy := hc y (List.mem_of_getElem? hx0)
        rw [hx0] at hi
        by_cases hij : j = i
        · simp [hij] at hi; subst hi; exact hy
        · simp [hij] at hi; subst hi; exact hy
/-- delete(m, n). -/
theorem MapL.del (h : MapL W m l) (ht : P.underlying t = some (.map k e)) (hk : P.underlying k = some (.int .i64)) (n : Int) (ty : TypeId) :
    ∃ W', (Builtin.delete_ #[t, k] ty #[.map (some m), .int .i64 n]).run P W = .ok (.tuple #[]) W' ∧ MapL W' m (delL l n) ∧ W.grownBy W' (some m) := by
  obtain ⟨es, clock, hb, hE, hn, hc⟩ := h
  have hg : ∀ o, W.grownBy (setBlock W m o) (some m) := fun o => ⟨rfl, rfl, rfl, by simp [setBlock], fun i _ hi => heap_setBlock_other hb _ (fun e => hi (by rw [e]))⟩
  cases hl : lkL l n with
  | none =>
    obtain ⟨h1, _, h3⟩ := find_none n 0 hE hl
    refine ⟨setBlock W m (.map es clock), ?_, ⟨_, _, heap_setBlock_same hb _, by rw [h3]; exact hE, hn, hc⟩, hg _⟩
    simp [Builtin.delete_, run_underlying ht, MapKept.run_getObj_map hb, check_int hk, findKey_int hk n _ _ h1, setObj, Sem.run, hb, Result.andThen, setBlock]
  | some u =>
    obtain ⟨j, h1, ⟨e0, h2, _⟩, _, h3⟩ := find_some n 0 u hE hl
    rw [Nat.zero_add] at h1
    have hj : j < es.size := by have := (List.getElem?_eq_some_iff.1 h2).1; simpa using this
    have ht' : (es.eraseIdxIfInBounds j).toList = es.toList.eraseIdx j := by
      rw [Array.eraseIdxIfInBounds, dif_pos hj, Array.toList_eraseIdx]
    refine ⟨setBlock W m (.map (es.eraseIdxIfInBounds j) clock), ?_, ⟨_, _, heap_setBlock_same hb _, by rw [ht']; exact h3, ?_, ?_⟩, hg _⟩
    · simp [Builtin.delete_, run_underlying ht, MapKept.run_getObj_map hb, check_int hk, findKey_int hk n _ _ h1, setObj, Sem.run, hb, Result.andThen, setBlock]
    · rw [ht', Go.ChangeMaps.map_eraseIdx]
      exact hn.sublist (List.eraseIdx_sublist _ _)
    · intro x hx
      rw [ht'] at hx
      exact hc x ((List.eraseIdx_sublist _ _).subset hx)
end
end Go.Proofs.Ytafmapcblcnccaa
