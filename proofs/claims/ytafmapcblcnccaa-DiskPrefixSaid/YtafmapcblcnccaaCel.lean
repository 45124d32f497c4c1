/- Blocks that are known whole. -/
import Derived.Test.YtafmapcblcnccaaRows3
import Derived.Outline
namespace Go.Proofs.Ytafmapcblcnccaa
open Go.RowKit Go.Shelf
set_option linter.unusedVariables false

/-- Block b is these cells, all free. -/
def Cel (W : World) (b : Nat) (t : TypeId) (cs : Array Value) : Prop := W.heap[b]? = some (.cells cs t (0, 0))
section
variable {W W' : World} {b : Nat} {t : TypeId} {cs : Array Value}
theorem Cel.lt (h : Cel W b t cs) : b < W.heap.size := (Array.getElem?_eq_some_iff.1 h).1
theorem Cel.cell (h : Cel W b t cs) (o : Nat) : W.cell? ⟨b, o, none⟩ = cs[o]? := by
  unfold Cel at h
  unfold World.cell?
  rw [h]
  rfl
theorem Cel.free (h : Cel W b t cs) (o : Nat) : W.frozen? ⟨b, o, none⟩ = false := by
  unfold Cel at h
  unfold World.frozen?
  rw [h]
  simp
theorem Cel.new (W : World) (t : TypeId) (cs : Array Value) : Cel (W.alloc (.cells cs t)) W.heap.size t cs := by
  show (W.heap.push _)[W.heap.size]? = _
  simp
theorem Cel.keep {n : Nat} (h : Cel W b t cs) (hb : Below n W W') (hn : b < n) : Cel W' b t cs := (hb.block b hn).trans h
theorem Cel.step (h : Cel W b t cs) (hb : Below W.heap.size W W') : Cel W' b t cs := h.keep hb h.lt
theorem Cel.alloc (h : Cel W b t cs) (o : Obj) : Cel (W.alloc o) b t cs := h.step (laidB (Below.refl _ _) o)
theorem Cel.grown {row : Option Nat} (h : Cel W b t cs) (hg : W.grownBy W' row) (hr : row ≠ some b) : Cel W' b t cs := (hg.block b h.lt (fun e => hr e.symm)).trans h
theorem Cel.set (h : Cel W b t cs) (i : Nat) (u : Value) : Cel (W.setCell ⟨b, i, none⟩ u) b t (cs.setIfInBounds i u) := by
  obtain ⟨hlt, hk⟩ := Array.getElem?_eq_some_iff.1 h
  show (W.heap.modify b _)[b]? = _
  rw [Array.getElem?_eq_getElem (by rw [Array.size_modify]; exact hlt), Array.getElem_modify_self, hk]
  rfl
theorem Cel.far (h : Cel W b t cs) {p : Addr} (hp : b ≠ p.block) (u : Value) : Cel (W.setCell p u) b t cs := (Below.heap_setCell W p u b hp).trans h
end
theorem row_slice {k : IntKind} {n₀ : Nat} {W : World} {v : Value} {zs : List Int} (h : Row k n₀ W v zs) : ∃ a cap, v = .slice a zs.length cap := by
  rcases h with ⟨a, cap, rfl, _, _, rfl⟩ | ⟨b, off, cap, rfl, _⟩
  · exact ⟨_, _, rfl⟩
  · exact ⟨_, _, rfl⟩
end Go.Proofs.Ytafmapcblcnccaa
