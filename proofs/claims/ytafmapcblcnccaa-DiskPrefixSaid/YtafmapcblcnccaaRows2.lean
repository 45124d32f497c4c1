/- From 'owns' to 'holds': a slice that a call made for itself, read by another. -/
import Derived.Test.YtafmapcblcnccaaKeep
import Derived.Maps.AppendAt
namespace Go.Proofs.Ytafmapcblcnccaa
open Go.RowKit Go.Shelf

/-- The row that a slice owns begins at the base. -/
theorem own_base {w : World} {base : Nat} {e : TypeId} {size : Nat} {v : Value} {n : Nat} {xs : List Value} (h : w.ownsRow base e size v n xs) {k : Nat} (hk : v.ownBlock = some k) : base ≤ k := by
  rcases h.2 with ⟨rfl, _⟩ | ⟨g, cp, cur, rfl, hb, _⟩
  · simp [Value.ownBlock] at hk
  · obtain rfl : g = k := by simpa [Value.ownBlock] using hk
    exact hb
theorem owns_slice {w : World} {base : Nat} {e : TypeId} {size : Nat} {v : Value} {n : Nat} {xs : List Value} (h : w.ownsRow base e size v n xs) : ∃ a len cap, v = .slice a len cap := by
  rcases h.2 with ⟨rfl, _⟩ | ⟨g, cp, cur, rfl, _⟩
  · exact ⟨_, _, _, rfl⟩
  · exact ⟨_, _, _, rfl⟩
theorem nil_row (k : IntKind) (p : Nat → Prop) (w : World) : RowP k p w (.slice none 0 0) [] := .inl ⟨none, 0, rfl, Nat.zero_le _, fun _ => rfl, rfl⟩
/-- What a slice holds it holds behind a call that leaves old memory as it was. -/
theorem rowB {k : IntKind} {w w' : World} {sv : Value} {zs : List Int} (h : Row k w.heap.size w sv zs) (hb : Below w.heap.size w w') : Row k w'.heap.size w' sv zs :=
  (RowP.below hb h).mono (fun _ h => Nat.lt_of_lt_of_le h hb.size)
theorem cellB {w w' : World} {p : Addr} {v : Value} (h : w.cell? p = some v) (hb : Below w.heap.size w w') : w'.cell? p = some v :=
  (hb.cell (World.block_lt_of_cell? w p h)).trans h
/-- One element of an owned row is stored anew. -/
theorem owns_set {k : IntKind} {w : World} {base : Nat} {e : TypeId} {g n cap : Nat} {zs : List Int} (h : w.ownsRow base e 1 (.slice (some ⟨g, 0, none⟩) n cap) n (zs.map (Value.int k))) (j : Nat) (x : Int) :
    (w.setCell ⟨g, j, none⟩ (.int k x)).ownsRow base e 1 (.slice (some ⟨g, 0, none⟩) n cap) n ((zs.set j x).map (Value.int k)) := by
  rw [List.map_set]
  exact (h.stored j (.int k x)).1
theorem owns_cell {k : IntKind} {w : World} {base : Nat} {e : TypeId} {g n cap : Nat} {zs : List Int} (h : w.ownsRow base e 1 (.slice (some ⟨g, 0, none⟩) n cap) n (zs.map (Value.int k))) (j : Nat) (hj : j < n) : w.cell? ⟨g, j, none⟩ = some (.int k (zs[j]?.getD 0)) := by
  have hn : zs.length = n := by have := h.1; simpa using this
  rw [h.cellAt j (by omega)]
  simp [show j < zs.length from by omega]
theorem owns_at {w : World} {base : Nat} {e : TypeId} {size : Nat} {a : Option Addr} {len cap n : Nat} {xs : List Value} (h : w.ownsRow base e size (.slice a len cap) n xs) (h0 : 0 < n) : ∃ g, a = some ⟨g, 0, none⟩ ∧ base ≤ g ∧ len = n := by
  rcases h.2 with ⟨e1, h1⟩ | ⟨g, cp, cur, e1, hb, _⟩
  · omega
  · simp at e1; obtain ⟨rfl, rfl, rfl⟩ := e1; exact ⟨g, rfl, hb, rfl⟩
theorem addr_add (b off j : Nat) : Addr.add ⟨b, off, none⟩ j = ⟨b, off + j, none⟩ := by
  cases j <;> simp [Addr.add]
theorem ints_one (k : IntKind) (l : List Int) : ∀ u ∈ l.map (Value.int k), u.oneCell' = true := by
  intro u hu
  obtain ⟨x, _, rfl⟩ := List.mem_map.1 hu
  rfl
theorem row_of_owns {k : IntKind} {w : World} {base : Nat} {e : TypeId} {v : Value} {n : Nat} {zs : List Int} (h : w.ownsRow base e 1 v n (zs.map (Value.int k))) : Row k w.heap.size w v zs ∧ n = zs.length := by
  obtain ⟨hl, h⟩ := h
  have hn : n = zs.length := by simpa using hl.symm
  subst hn
  refine ⟨?_, rfl⟩
  rcases h with ⟨rfl, h0⟩ | ⟨g, cap, cur, rfl, hb, hg, hc, hm, hs, ht⟩
  · exact .inl ⟨none, 0, rfl, Nat.zero_le _, fun _ => rfl, by simpa using h0⟩
  · refine .inr ⟨g, 0, cap, rfl, hc, hm, (Array.getElem?_eq_some_iff.1 hg).1, fun j hj => ?_⟩
    have hcell : w.cell? ⟨g, 0 + j, none⟩ = cur[0 + j]? := by unfold World.cell?; rw [hg]; rfl
    rw [hcell, Nat.zero_add]
    have h1 : (cur.toList.take (zs.length * 1))[j]? = some (.int k (zs[j]?.getD 0)) := by rw [ht]; simp [hj]
    rw [List.getElem?_take] at h1
    simpa [hj] using h1

theorem row_new {k : IntKind} (w : World) (e : TypeId) (zs : List Int) (hm : zs.length ≤ maxLen) (n : Nat) (hn : n = zs.length) (c : Array Value) (hc : c = (zs.map (Value.int k)).toArray) : Row k (w.heap.size + 1) (w.alloc (.cells c e)) (.slice (some ⟨w.heap.size, 0, none⟩) n n) zs := by
  subst hn hc
  refine .inr ⟨w.heap.size, 0, zs.length, rfl, Nat.le_refl _, hm, Nat.lt_succ_self _, fun j hj => ?_⟩
  rw [World.cell?_alloc_new, Nat.zero_add]
  simp [hj]
end Go.Proofs.Ytafmapcblcnccaa
