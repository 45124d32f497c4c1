/- From 'owns' to 'holds': a slice that a call made for itself, read by another. -/
import Derived.Test.YtjgeefnackhnpaaKeep
import Derived.Maps.AppendAt
namespace Go.Proofs.Ytjgeefnackhnpaa
open Go.RowKit Go.Shelf

theorem row_of_owns {k : IntKind} {w : World} {base : Nat} {e : TypeId} {v : Value} {n : Nat} {zs : List Int} (h : w.ownsRow base e 1 v n (zs.map (Value.int k))) : Row k w.heap.size w v zs ∧ n = zs.length := by
  obtain ⟨hl, h⟩ := h
  have hn : n = zs.length := by simpa using hl.symm
  subst hn
  refine ⟨?_, rfl⟩
  rcases h with ⟨rfl, h0⟩ | ⟨g, cap, cur, rfl, hb, hg, hc, hm, hs, ht⟩
  · exact .inl ⟨rfl, by simpa using h0⟩
  · refine .inr ⟨g, 0, cap, rfl, hc, hm, (Array.getElem?_eq_some_iff.1 hg).1, fun j hj => ?_⟩
    have hcell : w.cell? ⟨g, 0 + j, none⟩ = cur[0 + j]? := by unfold World.cell?; rw [hg]; rfl
    rw [hcell, Nat.zero_add]
    have h1 : (cur.toList.take (zs.length * 1))[j]? = some (.int k (zs[j]?.getD 0)) := by rw [ht]; simp [hj]
    rw [List.getElem?_take] at h1
    simpa [hj] using h1

theorem row_new {k : IntKind} (w : World) (e : TypeId) (zs : List Int) (hm : zs.length ≤ maxLen) (n : Nat) (hn : n = zs.length) (c : Array Value) (hc : c = (zs.map (Value.int k)).toArray) : Row k (w.heap.size + 1) (w.alloc (.cells c e)) (.slice (some ⟨w.heap.size, 0, none⟩) n n) zs := by
  subst hn hc
  refine .inr ⟨w.heap.size, 0, zs.length, rfl, Nat.le_refl _, hm, Nat.lt_succ_self _, fun j hj => ?_⟩
  rw [World.cell?_alloc_new, Nat.zero_add]
  simp [hj]
end Go.Proofs.Ytjgeefnackhnpaa
