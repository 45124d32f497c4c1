/- From plain maps to the kit's own maps: what its contracts of maps.Keys and slices.Sorted ask. -/
import Derived.Test.YtafmapcblcnccaaMapR
import Derived.Maps.Own
import Derived.Lib.SlKeysI
namespace Go.Proofs.Ytafmapcblcnccaa
open Go.RowKit Go.Shelf
open Go.WideElems (Fit rd rg)
set_option linter.unusedVariables false

/-- Every value reads as nothing: for who asks for the keys alone. -/
def noR (v : Value) : Option (DataW Unit × List MemPlace) := some (.nil, [])
section
variable {P : Program} {k : TypeId}
theorem rd_ent (hk : P.underlying k = some (.int .i64)) {e : MapEntry} {n : Int} (h : e.key = .int .i64 n) (hw : (Lit.int .i64 n).wf = true) : rd P k noR e = some (.int .i64 n, .nil) := by
  unfold rd
  rw [h, Maps.keyOf_int_mk hk hw]
  rfl
theorem ents_rg (hk : P.underlying k = some (.int .i64)) : ∀ {es : List MapEntry} {l : List (Int × Value)}, EntsL es l → (∀ p ∈ l, (Lit.int .i64 p.1).wf = true) → es.map (rg P k noR) = l.map (fun p => (Lit.int .i64 p.1, DataW.nil)) ∧ (∀ e ∈ es, ∃ y, rd P k noR e = some y) ∧ es.map (·.key) = l.map (fun p => Value.int .i64 p.1)
  | [], [], _, _ => ⟨rfl, fun e he => (by cases he), rfl⟩
  | e :: es, p :: l, h, hw => by
    have h1 := rd_ent hk h.1.1 (hw p List.mem_cons_self)
    obtain ⟨g1, g2, g3⟩ := ents_rg hk h.2 (fun q hq => hw q (List.mem_cons_of_mem _ hq))
    refine ⟨?_, ?_, ?_⟩
    · rw [List.map_cons, List.map_cons, g1]
      congr 1
      unfold rg
      rw [h1]
      rfl
    · intro e' he'
      rcases List.mem_cons.1 he' with rfl | he'
      · exact ⟨_, h1⟩
      · exact g2 e' he'
    · rw [List.map_cons, List.map_cons, g3, h.1.1]
  | [], _ :: _, h, _ => h.elim
  | _ :: _, [], h, _ => h.elim
theorem MapL.owns {W : World} {m : Nat} {l : List (Int × Value)} (h : MapL W m l) (hk : P.underlying k = some (.int .i64)) (hn : (l.map (·.1)).Nodup) (hw : ∀ p ∈ l, (Lit.int .i64 p.1).wf = true) (hm : l.length ≤ maxLen) :
    ∃ D0 : DataW Unit, W.ownsMap P k noR m l.length D0 ∧ (intKeys D0).Perm (l.map (·.1)) ∧ Maps.size D0 = l.length := by
  obtain ⟨es, clock, hb, hE, hbn, hc⟩ := h
  obtain ⟨g1, g2, g3⟩ := ents_rg hk hE hw
  have hlen := ents_len hE
  rw [Array.length_toList] at hlen
  refine ⟨.map ((es.toList.map (rg P k noR)).foldr DataW.insert []), ⟨es, clock, hb, ⟨by omega, ⟨hc, hbn, ?_⟩, g2⟩, by omega, rfl⟩, ?_, ?_⟩
  · rw [g3]
    have : (l.map (fun p => Value.int .i64 p.1)) = (l.map (·.1)).map (Value.int .i64) := by rw [List.map_map]; rfl
    rw [this]
    exact List.Pairwise.map _ (fun a b hab he => hab (by injection he)) hn
  · rw [g1]
    have hp := Go.WideShapes.sorted_perm (l.map (fun p => (Lit.int .i64 p.1, (DataW.nil : DataW Unit))))
    refine (hp.map _).trans ?_
    rw [List.map_map]
    exact List.Perm.refl _
  · show ((es.toList.map (rg P k noR)).foldr DataW.insert []).length = l.length
    rw [length_sorted, List.length_map, Array.length_toList]
    exact hlen
end
end Go.Proofs.Ytafmapcblcnccaa
