/- append onto a row of the call's own, the source any row (nil, empty or not). -/
import Derived.Test.YtafmapcblcnccaaRows3
import Derived.Laws.AppendOwnNone
import Derived.Laws.OwnMore
namespace Go.Proofs.Ytafmapcblcnccaa
open Go.RowKit Go.Shelf

/-- Cells that a row leads to. -/
theorem row_cells {k : IntKind} {p : Nat → Prop} {W : World} {b off n cap : Nat} {zs : List Int} (h : RowP k p W (.slice (some ⟨b, off, none⟩) n cap) zs) : ∀ j u, (zs.map (Value.int k))[j]? = some u → W.cell? (Addr.add ⟨b, off, none⟩ j) = some u := by
  intro j u hu
  have hj : j < zs.length := by have := (List.getElem?_eq_some_iff.1 hu).1; simpa using this
  obtain ⟨b', off', e, _, hc⟩ := h.at (by omega)
  simp at e
  obtain ⟨rfl, rfl⟩ := e
  have := hc j hj
  rw [addr_add, this]
  rw [List.getElem?_map, List.getElem?_eq_getElem hj] at hu
  rw [List.getElem?_eq_getElem hj]
  exact hu
theorem wpList_append_row {P : Program} {w : World} {ops : Array Oper} {rest : List Oper} {o : Oper} {a : Act} {Q : Exit → Act → World → Prop} (hgd : o.guard = none) (s x : Operand) (t : TypeId)
    (ho : o.op = .call { callee := .builtin .append, args := #[s, x], argTypes := #[t, t] })
    (base : Nat) (e : TypeId) (i : TypeInfo) (k : IntKind) (z : Value) (bytes : Nat) (ht : P.underlying t = some (.slice e)) (hi : P.info? e = some i) (hz : i.zero = some z)
    (hsize : i.size = 1) (hby : i.bytes = bytes) (hzs : z.cells.size = 1)
    (v : Value) (n : Nat) (zs : List Int) (hs : a.eval s = v) (hown : w.ownsRow base e 1 v n (zs.map (Value.int k)))
    (sv : Value) (ys : List Int) (p : Nat → Prop) (hx : a.eval x = sv) (hr : RowP k p w sv ys)
    (h63 : n + ys.length ≤ maxLen) (hbytes : (n + ys.length) * bytes ≤ 140737488355328) (hbase : base ≤ w.heap.size)
    (h : ∀ v' w', w'.ownsRow base e 1 v' (zs ++ ys).length ((zs ++ ys).map (Value.int k)) → w.grownBy w' v.ownBlock → Below base w w' → wpList P ops Q rest (a.put o.dst v') w') : wpList P ops Q (o :: rest) a w := by
  have hn : n = zs.length := by have := hown.1; simpa using this.symm
  subst hn
  have hB : ∀ w', w.grownBy w' v.ownBlock → Below base w w' := fun w' hg => (Below.refl base w).grown hg hbase (fun j ej => own_base hown ej)
  rcases hr with ⟨ad, cap, rfl, hm, hcap, rfl⟩ | ⟨b, off, cap, rfl, h1, h2, hp, hc⟩
  · cases ad with
    | none =>
      obtain rfl := hcap rfl
      refine wpList_append_own_none hgd s x t ho base e i 1 ht hi v _ _ hs hown hx (h v w (by simpa using hown) (World.grownBy.refl w _) (Below.refl _ _))
    | some y =>
      refine wpList_append_own w hgd s x t ho base e i z 1 bytes ht hi hz hsize hby hzs (by decide) v _ _ hs hown y 0 cap [] hx rfl (by simp) (by simp) (by simpa using h63) (by simpa using hbytes) hbase (fun v' w' h1 h2 _ => h v' w' (by simpa using h1) h2 (hB w' h2))
  · have hr' : RowP k p w (.slice (some ⟨b, off, none⟩) ys.length cap) ys := .inr ⟨b, off, cap, rfl, h1, h2, hp, hc⟩
    exact wpList_append_own w hgd s x t ho base e i z 1 bytes ht hi hz hsize hby hzs (by decide) v _ _ hs hown ⟨b, off, none⟩ ys.length cap (ys.map (Value.int k)) hx (by simp) (row_cells hr') (ints_one _ _) h63 hbytes hbase (fun v' w' h1 h2 _ => h v' w' (by rw [List.map_append, List.length_append]; exact h1) h2 (hB w' h2))
end Go.Proofs.Ytafmapcblcnccaa
