/- A range over a map with whole numbers as keys, plainly: what is left is a list of pairs, of which any comes next. -/
import Derived.Test.YtafmapcblcnccaaMapL
namespace Go.Proofs.Ytafmapcblcnccaa
open Go.RowKit Go.Shelf
open Go.ChangeMaps (setBlock heap_setBlock_same heap_setBlock_other)
set_option linter.unusedVariables false

theorem ents_at : ∀ {es : List MapEntry} {l : List (Int × Value)} (j : Nat) (e : MapEntry), EntsL es l → es[j]? = some e → ∃ p, l[j]? = some p ∧ e.key = .int .i64 p.1 ∧ e.val = p.2
  | [], [], j, e, _, h => by simp at h
  | x :: es, p :: l, 0, e, hE, h => by
    simp at h
    subst h
    exact ⟨p, rfl, hE.1⟩
  | x :: es, p :: l, j + 1, e, hE, h => ents_at j e hE.2 (by simpa using h)
  | [], _ :: _, _, _, h, _ => h.elim
  | _ :: _, [], _, _, h, _ => h.elim
theorem ents_erase : ∀ {es : List MapEntry} {l : List (Int × Value)} (j : Nat), EntsL es l → EntsL (es.eraseIdx j) (l.eraseIdx j)
  | [], [], j, _ => trivial
  | x :: es, p :: l, 0, hE => hE.2
  | x :: es, p :: l, j + 1, hE => ⟨hE.1, ents_erase j hE.2⟩
  | [], _ :: _, _, h => h.elim
  | _ :: _, [], _, h => h.elim
theorem filter_at : ∀ (es : List MapEntry) (j : Nat) (e : MapEntry), (es.map (·.born)).Nodup → es[j]? = some e → es.filter (fun x => !(x.born == e.born)) = es.eraseIdx j
  | [], j, e, _, h => by simp at h
  | x :: es, 0, e, hn, h => by
    simp at h
    subst h
    rw [List.map_cons, List.nodup_cons] at hn
    simp only [List.filter_cons, beq_self_eq_true, Bool.not_true, Bool.false_eq_true, if_false, List.eraseIdx_cons_zero]
    rw [List.filter_eq_self]
    intro y hy
    have : y.born ≠ x.born := fun he => hn.1 (List.mem_map.2 ⟨y, hy, he⟩)
    simpa using this
  | x :: es, j + 1, e, hn, h => by
    rw [List.map_cons, List.nodup_cons] at hn
    have h' : es[j]? = some e := by simpa using h
    have hx : x.born ≠ e.born := fun he => hn.1 (List.mem_map.2 ⟨e, List.mem_of_getElem? h', he.symm⟩)
    have hb : (x.born == e.born) = false := by simpa using hx
    simp only [List.filter_cons, hb, Bool.not_false, if_true, List.eraseIdx_cons_succ, filter_at es j e hn.2 h']
theorem left_push (es : Array MapEntry) (seen : Array Nat) (j : Nat) (e : MapEntry) (hn : (es.toList.map (·.born)).Nodup) (h : (leftOf es seen).toList[j]? = some e) : (leftOf es (seen.push e.born)).toList = (leftOf es seen).toList.eraseIdx j := by
  have hn2 : ((leftOf es seen).toList.map (·.born)).Nodup := by
    unfold leftOf
    rw [Array.toList_filter]
    exact hn.sublist (List.filter_sublist.map _)
  rw [← filter_at _ j e hn2 h]
  unfold leftOf
  rw [Array.toList_filter, Array.toList_filter, List.filter_filter]
  congr 1
  funext x
  rw [contains_push]
  cases seen.contains x.born <;> cases x.born == e.born <;> rfl
/-- The iterator at block r goes over the map at block m; left is what has not come yet. -/
structure RangeL (W : World) (r m : Nat) (l left : List (Int × Value)) : Prop where
  ex : ∃ es clock since seen c0, W.heap[r]? = some (.mapIter (some m) since seen c0) ∧ W.heap[m]? = some (.map es clock) ∧ EntsL es.toList l ∧ (es.toList.map (·.born)).Nodup ∧ (∀ e ∈ es.toList, e.born < clock) ∧ (∀ e ∈ es.toList, e.born < since) ∧ since ≤ c0 ∧ since ≤ clock ∧ EntsL (leftOf es seen).toList left
section
variable {P : Program} {t k e : TypeId} {W W' : World} {m r : Nat} {l left : List (Int × Value)}
theorem RangeL.map (h : RangeL W r m l left) : MapL W m l := by
  obtain ⟨es, clock, since, seen, c0, h1, h2, h3, h4, h5, _⟩ := h.ex
  exact ⟨es, clock, h2, h3, h4, h5⟩
theorem RangeL.lt (h : RangeL W r m l left) : r < W.heap.size := by
  obtain ⟨es, clock, since, seen, c0, h1, _⟩ := h.ex
  exact (Array.getElem?_eq_some_iff.1 h1).1
theorem RangeL.ne (h : RangeL W r m l left) : r ≠ m := by
  obtain ⟨es, clock, since, seen, c0, h1, h2, _⟩ := h.ex
  intro e
  rw [e, h2] at h1
  cases h1
theorem RangeL.step (h : RangeL W r m l left) (hb : Below W.heap.size W W') : RangeL W' r m l left := by
  have h1 := h.lt
  have h2 := h.map.lt
  obtain ⟨es, clock, since, seen, c0, g1, g2, g⟩ := h.ex
  exact ⟨es, clock, since, seen, c0, (hb.block r h1).trans g1, (hb.block m h2).trans g2, g⟩
theorem RangeL.grown {row : Option Nat} (h : RangeL W r m l left) (hg : W.grownBy W' row) (hr : row ≠ some r) (hm : row ≠ some m) : RangeL W' r m l left := by
  have h1 := h.lt
  have h2 := h.map.lt
  obtain ⟨es, clock, since, seen, c0, g1, g2, g⟩ := h.ex
  exact ⟨es, clock, since, seen, c0, (hg.block r h1 (Ne.symm hr)).trans g1, (hg.block m h2 (Ne.symm hm)).trans g2, g⟩
/-- range m. -/
theorem MapL.range (h : MapL W m l) (ht : P.underlying t = some (.map k e)) :
    ∃ o, (Instr.range t (.map (some m))).run P W = .ok (.pointer (some ⟨W.heap.size, 0, none⟩)) (W.alloc o) ∧ RangeL (W.alloc o) W.heap.size m l l := by
  have hl := h.lt
  obtain ⟨es, clock, hb, hE, hn, hc⟩ := h
  refine ⟨.mapIter (some m) clock #[] clock, run_range_map W t k e m es clock ht hb, ⟨es, clock, clock, #[], clock, heap_alloc_new _ _, ((laidB (Below.refl _ _) _).block m hl).trans hb, hE, hn, hc, hc, Nat.le_refl _, Nat.le_refl _, ?_⟩⟩
  have : leftOf es #[] = es := by unfold leftOf; rw [Array.filter_eq_self]; intro x _; simp
  rw [this]
  exact hE
/-- The next one: whichever of those that are left. -/
theorem RangeL.next (h : RangeL W r m l left) (ty : TypeId) :
    (left = [] ∧ (Instr.next (.pointer (some ⟨r, 0, none⟩)) false ty).run P W = .ok (.tuple #[.bool false]) W) ∨
    ∃ j p W', left[j]? = some p ∧ (Instr.next (.pointer (some ⟨r, 0, none⟩)) false ty).run P W = .ok (.tuple #[.bool true, .int .i64 p.1, p.2]) W' ∧ RangeL W' r m l (left.eraseIdx j) ∧ W.grownBy W' (some r) ∧ W'.heap.size = W.heap.size ∧ (Instr.entry (.pointer (some ⟨r, 0, none⟩))).run P W' = .ok (.tuple #[.int .i64 p.1, p.2]) W' := by
  have hne := h.ne
  obtain ⟨es, clock, since, seen, c0, g1, g2, g3, g4, g5, g6, g7, g7', g8⟩ := h.ex
  rcases run_next_at (P := P) W ty r m since c0 seen es clock g1 g2 g6 g7 with ⟨h0, hrun⟩ | ⟨e, he, w1, hw1, hrun⟩
  · left
    refine ⟨?_, hrun⟩
    have := ents_len g8
    rw [Array.length_toList, h0] at this
    exact List.length_eq_zero_iff.1 this.symm
  · right
    obtain ⟨j, hj⟩ := List.getElem?_of_mem he
    obtain ⟨p, hp, hk, hv⟩ := ents_at j e g8 hj
    have hes := (mem_left he).1
    have q1 : w1.heap = W.heap := by rcases hw1 with rfl | rfl <;> rfl
    have k1 : w1.heap[r]? = some (.mapIter (some m) since seen c0) := by rw [q1]; exact g1
    have k2 : (setBlock w1 r (.mapIter (some m) since (seen.push e.born) clock)).heap[r]? = some (.mapIter (some m) since (seen.push e.born) clock) := by
      have hlt := (Array.getElem?_eq_some_iff.1 k1).1
      simp [setBlock, hlt]
    have k3 : ∀ i, i ≠ r → (setBlock w1 r (.mapIter (some m) since (seen.push e.born) clock)).heap[i]? = W.heap[i]? := by
      intro i hi
      simp only [setBlock, q1]
      rw [Array.getElem?_setIfInBounds_ne (Ne.symm hi)]
    have k4 := (k3 m (Ne.symm hne)).trans g2
    have hgr : W.grownBy (setBlock w1 r (.mapIter (some m) since (seen.push e.born) clock)) (some r) := by
      rcases hw1 with rfl | rfl
      · exact ⟨rfl, rfl, rfl, by simp [setBlock], fun i _ hi => k3 i (fun e => hi (by rw [e]))⟩
      · exact ⟨rfl, rfl, rfl, by show W.heap.size ≤ (W.heap.setIfInBounds r _).size; simp, fun i _ hi => k3 i (fun e => hi (by rw [e]))⟩
    have hsz : (setBlock w1 r (.mapIter (some m) since (seen.push e.born) clock)).heap.size = W.heap.size := by simp [setBlock, q1]
    refine ⟨j, p, _, hp, by rw [hrun, hk, hv], ⟨es, clock, since, seen.push e.born, clock, k2, k4, g3, g4, g5, g6, g7', g7', ?_⟩, hgr, hsz, ?_⟩
    · rw [left_push es seen j e g4 hj]
      exact ents_erase j g8
    · rw [run_entry_at _ r m since seen es clock e k2 k4 hes g4, hk, hv]
end
end Go.Proofs.Ytafmapcblcnccaa
