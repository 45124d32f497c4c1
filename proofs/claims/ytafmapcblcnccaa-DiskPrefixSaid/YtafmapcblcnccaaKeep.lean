/- Words on worlds that my contracts use: named blocks are kept; a slice value holds numbers. No function of the program is named here. -/
import Derived.Test.YtafmapcblcnccaaRows
import Derived.RangeFuncNested
import Derived.RangeFuncBound
import Derived.RangeFuncCalls
import Derived.RangeFuncLeaves
import Derived.RangeFuncBox
import Derived.Shelf.Abstract
import Derived.Shelf.RegionOpen
import Derived.WalkKit
import Derived.OwnWalkIn
import Derived.TacticsInMore
import Derived.LoopNIn
import Derived.LoopIn
import Derived.Laws.Bits64
import Derived.Laws.IdiomStrings
import Derived.Lib.Hide
namespace Go.Proofs.Ytafmapcblcnccaa
open Go.RowKit Go.Shelf

theorem stepB {w0 w1 w2 : World} (h : Below w0.heap.size w0 w1) (k : Below w1.heap.size w1 w2) : Below w0.heap.size w0 w2 := h.trans (k.mono h.size)
theorem laidB {w0 w1 : World} (h : Below w0.heap.size w0 w1) (o : Obj) : Below w0.heap.size w0 (w1.alloc o) := h.alloc h.size o
/-- The blocks of which p speaks lie as they lay. -/
structure KeepP (p : Nat → Prop) (W W' : World) : Prop where
  same : ∀ k, p k → W'.heap[k]? = W.heap[k]?
theorem KeepP.refl (p : Nat → Prop) (W : World) : KeepP p W W := ⟨fun _ _ => rfl⟩
theorem KeepP.trans {p : Nat → Prop} {A B C : World} (h : KeepP p A B) (k : KeepP p B C) : KeepP p A C := ⟨fun i hi => (k.same i hi).trans (h.same i hi)⟩
theorem KeepP.of_below {p : Nat → Prop} {n : Nat} {A B : World} (h : Below n A B) (hp : ∀ k, p k → k < n) : KeepP p A B := ⟨fun i hi => h.block i (hp i hi)⟩
theorem KeepP.setCell (p : Nat → Prop) (W : World) (a : Addr) (v : Value) (hp : ¬ p a.block) : KeepP p W (W.setCell a v) :=
  ⟨fun i hi => Below.heap_setCell _ _ _ i (fun e => hp (e ▸ hi))⟩
theorem KeepP.grown {p : Nat → Prop} {A B : World} {row : Option Nat} (hg : A.grownBy B row) (hp : ∀ k, p k → k < A.heap.size) (hr : ∀ k, row = some k → ¬ p k) : KeepP p A B :=
  ⟨fun i hi => hg.block i (hp i hi) (fun e => hr i e.symm hi)⟩
theorem KeepP.cell {p : Nat → Prop} {W W' : World} (h : KeepP p W W') {b o : Nat} (hb : p b) : W'.cell? ⟨b, o, none⟩ = W.cell? ⟨b, o, none⟩ := by
  simp only [World.cell?, h.same b hb]
theorem keepP_t {p : Nat → Prop} {A B C : World} (h : KeepP p A B) (k : KeepP p B C) : KeepP p A C := h.trans k
theorem keepP_b {p : Nat → Prop} {w : World} (hp : ∀ k, p k → k < w.heap.size) (W : World) (l : Nat) (o o' : Obj) (hl : w.heap.size ≤ l) (_ : W.heap[l]? = some o) (_ : o.isCells = false) (_ : o.isWalk = false) : KeepP p W (W.putObj l o') :=
  ⟨fun i hi => World.putObj_heap_other (by have := hp i hi; omega)⟩

/-- THE SLICE VALUE sv HOLDS THE NUMBERS zs (of a kind), in a block of which p speaks; or it is empty (nil, perhaps) and there are none. -/
def RowP (k : IntKind) (p : Nat → Prop) (W : World) (sv : Value) (zs : List Int) : Prop :=
  (∃ a cap, sv = .slice a 0 cap ∧ cap ≤ maxLen ∧ (a = none → cap = 0) ∧ zs = []) ∨ ∃ b off cap, sv = .slice (some ⟨b, off, none⟩) zs.length cap ∧ zs.length ≤ cap ∧ cap ≤ maxLen ∧ p b ∧ ∀ j, j < zs.length → W.cell? ⟨b, off + j, none⟩ = some (.int k (zs[j]?.getD 0))
theorem RowP.keep {k : IntKind} {p : Nat → Prop} {A B : World} (h : KeepP p A B) {sv : Value} {zs : List Int} : RowP k p A sv zs → RowP k p B sv zs
  | .inl e => .inl e
  | .inr ⟨b, off, cap, e, h1, h2, hb, hc⟩ => .inr ⟨b, off, cap, e, h1, h2, hb, fun j hj => (h.cell hb).trans (hc j hj)⟩
theorem RowP.mono {k : IntKind} {p q : Nat → Prop} {A : World} (h : ∀ b, p b → q b) {sv : Value} {zs : List Int} : RowP k p A sv zs → RowP k q A sv zs
  | .inl e => .inl e
  | .inr ⟨b, off, cap, e, h1, h2, hb, hc⟩ => .inr ⟨b, off, cap, e, h1, h2, h _ hb, hc⟩
theorem RowP.len {k : IntKind} {p : Nat → Prop} {W : World} {a : Option Addr} {len cap : Nat} {zs : List Int} (h : RowP k p W (.slice a len cap) zs) : len = zs.length := by
  rcases h with ⟨a', cap', e, _, _, rfl⟩ | ⟨b, off, cap', e, _⟩
  · simp at e; simp [e]
  · simp at e; simp [e]
theorem RowP.lencap {k : IntKind} {p : Nat → Prop} {W : World} {a : Option Addr} {len cap : Nat} {zs : List Int} (h : RowP k p W (.slice a len cap) zs) : len ≤ cap ∧ cap ≤ maxLen := by
  rcases h with ⟨a', cap', e, h2, _, rfl⟩ | ⟨b, off, cap', e, h1, h2, _⟩
  · simp at e; obtain ⟨_, rfl, rfl⟩ := e; exact ⟨Nat.zero_le _, h2⟩
  · simp at e; obtain ⟨_, rfl, rfl⟩ := e; exact ⟨h1, h2⟩
/-- Some element is there: the slice leads to its cells. -/
theorem RowP.at {k : IntKind} {p : Nat → Prop} {W : World} {a : Option Addr} {len cap : Nat} {zs : List Int} (h : RowP k p W (.slice a len cap) zs) (h0 : 0 < zs.length) : ∃ b off, a = some ⟨b, off, none⟩ ∧ p b ∧ ∀ j, j < zs.length → W.cell? ⟨b, off + j, none⟩ = some (.int k (zs[j]?.getD 0)) := by
  rcases h with ⟨a', cap', e, h2, _, rfl⟩ | ⟨b, off, cap', e, h1, h2, hb, hc⟩
  · simp at h0
  · simp at e; obtain ⟨rfl, _, rfl⟩ := e; exact ⟨b, off, rfl, hb, hc⟩
/-- Below a number of a block. -/
abbrev Row (k : IntKind) (n₀ : Nat) (W : World) (sv : Value) (zs : List Int) : Prop := RowP k (fun b => b < n₀) W sv zs
theorem RowP.below {k : IntKind} {n₀ : Nat} {A B : World} (h : Below n₀ A B) {sv : Value} {zs : List Int} : Row k n₀ A sv zs → Row k n₀ B sv zs := RowP.keep (KeepP.of_below h fun _ h => h)

/-- What a law's walk is told of a slice of integers that came in (the kit's proof-skeleton says it so). -/
def IsRow (k : IntKind) (w : World) (a : Option Addr) (len cap : Nat) (zs : List Int) : Prop :=
  (a = none ∧ len = 0 ∧ cap = 0 ∧ zs = []) ∨
  ∃ x, a = some x ∧ len ≤ cap ∧ cap ≤ maxLen ∧ zs.length = cap ∧ (∀ i, i < zs.length → w.cell? (x.add i) = some (.int k (zs.getD i 0))) ∧ ∀ n ∈ zs, (Lit.int k n).wf = true
theorem IsRow.row {k : IntKind} {w : World} {a : Option Addr} {len cap : Nat} {zs : List Int} (h : IsRow k w a len cap zs) : Row k w.heap.size w (.slice a len cap) (zs.take len) ∧ (∀ n ∈ zs.take len, (Lit.int k n).wf = true) := by
  rcases h with ⟨rfl, rfl, rfl, rfl⟩ | ⟨x, rfl, hl, hm, hz, hc, hw⟩
  · exact ⟨.inl ⟨_, _, rfl, Nat.zero_le _, fun _ => rfl, rfl⟩, by simp⟩
  · refine ⟨?_, fun n hn => hw n (List.mem_of_mem_take hn)⟩
    rcases Nat.eq_zero_or_pos len with rfl | hp
    · exact .inl ⟨_, _, rfl, hm, (fun h => by cases h), by simp⟩
    · obtain ⟨b, off, spot⟩ := x
      have h0 := hc 0 (by omega)
      have hs : spot = none := by simpa [Addr.add] using World.cell?_spot h0
      subst hs
      have hb : b < w.heap.size := by
        have := World.block_lt_of_cell? w _ h0
        simpa [Addr.add] using this
      refine .inr ⟨b, off, cap, by simp; omega, by simp; omega, hm, hb, fun j hj => ?_⟩
      have hj2 : j < len := by simp at hj; omega
      have := hc j (by omega)
      have e : Addr.add ⟨b, off, none⟩ j = ⟨b, off + j, none⟩ := by cases j <;> simp [Addr.add]
      rw [e] at this
      rw [this, List.getElem?_take]
      simp [hj2]
theorem u8_rng {zs : List Int} (h : ∀ n ∈ zs, (Lit.int .u8 n).wf = true) (i : Nat) : 0 ≤ zs[i]?.getD 0 ∧ zs[i]?.getD 0 < 256 := by
  cases e : zs[i]? with
  | none => simp
  | some x =>
    have := h x (List.mem_of_getElem? e)
    simp [Lit.wf, IntKind.min, IntKind.max, IntKind.signed, IntKind.bits] at this
    simp
    omega
theorem take_rng {zs : List Int} (h : ∀ i : Nat, 0 ≤ zs[i]?.getD 0 ∧ zs[i]?.getD 0 < 256) (m i : Nat) : 0 ≤ (zs.take m)[i]?.getD 0 ∧ (zs.take m)[i]?.getD 0 < 256 := by
  rw [List.getElem?_take]
  split
  · exact h i
  · simp
theorem take_wf {k : IntKind} {zs : List Int} (h : ∀ n ∈ zs, (Lit.int k n).wf = true) (m : Nat) : ∀ n ∈ zs.take m, (Lit.int k n).wf = true := fun n hn => h n (List.mem_of_mem_take hn)
end Go.Proofs.Ytafmapcblcnccaa
