/- A frame by blocks: nothing turned but blocks of which q speaks. -/
import Derived.Test.YtafmapcblcnccaaCel
namespace Go.Proofs.Ytafmapcblcnccaa
open Go.RowKit Go.Shelf
set_option linter.unusedVariables false

/-- Nothing that was there has turned but blocks of which q speaks. -/
structure OnlyP (q : Nat → Prop) (W W' : World) : Prop where
  os : W'.os = W.os
  tape : W'.tape = W.tape
  output : W'.output = W.output
  size : W.heap.size ≤ W'.heap.size
  block : ∀ k, k < W.heap.size → ¬ q k → W'.heap[k]? = W.heap[k]?
theorem OnlyP.refl (q : Nat → Prop) (W : World) : OnlyP q W W := ⟨rfl, rfl, rfl, Nat.le_refl _, fun _ _ _ => rfl⟩
theorem OnlyP.trans {q : Nat → Prop} {A B C : World} (h : OnlyP q A B) (k : OnlyP q B C) : OnlyP q A C :=
  ⟨k.os.trans h.os, k.tape.trans h.tape, k.output.trans h.output, Nat.le_trans h.size k.size, fun i hi hn => (k.block i (Nat.lt_of_lt_of_le hi h.size) hn).trans (h.block i hi hn)⟩
/-- .. where the second may also turn what is new since the first. -/
theorem OnlyP.trans' {q r : Nat → Prop} {A B C : World} (h : OnlyP q A B) (k : OnlyP r B C) (hr : ∀ i, r i → q i ∨ A.heap.size ≤ i) : OnlyP q A C :=
  ⟨k.os.trans h.os, k.tape.trans h.tape, k.output.trans h.output, Nat.le_trans h.size k.size, fun i hi hn => (k.block i (Nat.lt_of_lt_of_le hi h.size) (fun e => (hr i e).elim hn (fun g => by omega))).trans (h.block i hi hn)⟩
theorem OnlyP.set (q : Nat → Prop) (W : World) (a : Addr) (v : Value) (h : q a.block) : OnlyP q W (W.setCell a v) :=
  ⟨rfl, rfl, rfl, by simp [World.setCell], fun k _ hk => Below.heap_setCell _ _ _ k (fun e => hk (e ▸ h))⟩
theorem OnlyP.of_below {q : Nat → Prop} {A B : World} (h : Below A.heap.size A B) : OnlyP q A B := ⟨h.os, h.tape, h.output, h.size, fun k hk _ => h.block k hk⟩
theorem OnlyP.of_grown {q : Nat → Prop} {A B : World} {row : Option Nat} (h : A.grownBy B row) (hq : ∀ k, row = some k → q k) : OnlyP q A B := ⟨h.os, h.tape, h.output, h.size, fun k hk hn => h.block k hk (fun e => hn (hq k e.symm))⟩
theorem OnlyP.below {q : Nat → Prop} {A B : World} {n : Nat} (h : OnlyP q A B) (hn : n ≤ A.heap.size) (hq : ∀ k, q k → n ≤ k) : Below n A B :=
  ⟨h.os, h.tape, h.output, h.size, fun k hk => h.block k (Nat.lt_of_lt_of_le hk hn) (fun e => by have := hq k e; omega)⟩
theorem OnlyP.mono {q r : Nat → Prop} {A B : World} (h : OnlyP q A B) (hr : ∀ k, q k → r k) : OnlyP r A B := ⟨h.os, h.tape, h.output, h.size, fun k hk hn => h.block k hk (fun e => hn (hr k e))⟩
theorem Cel.only {q : Nat → Prop} {A B : World} {b : Nat} {t : TypeId} {cs : Array Value} (h : Cel A b t cs) (ho : OnlyP q A B) (hn : ¬ q b) : Cel B b t cs := (ho.block b h.lt hn).trans h
end Go.Proofs.Ytafmapcblcnccaa
