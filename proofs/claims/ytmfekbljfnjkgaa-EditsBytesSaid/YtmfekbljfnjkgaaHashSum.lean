/- The contract of hash.Sum. -/
import Derived.Test.YtmfekbljfnjkgaaHash
namespace Go.Proofs.Ytmfekbljfnjkgaa
open Go.RowKit Go.Shelf
attribute [local go_sem] Oper.semAt_some
set_option linter.unusedVariables false

theorem keepP_alloc {p : Nat → Prop} (W : World) (o : Obj) (hp : ∀ k, p k → k < W.heap.size) : KeepP p W (W.alloc o) := ⟨fun i hi => Below.heap_alloc _ _ _ (hp i hi)⟩
theorem bytesRow_get (s : ByteArray) (cap i : Nat) (h : i < s.size) : (bytesRow s cap)[i]? = some (.int .u8 ((s.data.toList.map fun b => (b.toNat : Int))[i]?.getD 0)) := by
  have h' : i < s.data.size := h
  unfold bytesRow
  rw [Array.getElem?_append_left (by simpa using h')]
  simp [Array.getElem?_eq_getElem h']
/-- A cell of a block that has just been laid, whatever marks it bears. -/
theorem cell_alloc_marked (W : World) (c : Array Value) (t : TypeId) (f : Nat × Nat) (i : Nat) : (W.alloc (.cells c t f)).cell? ⟨W.heap.size, i, none⟩ = c[i]? := by
  have h : (W.alloc (.cells c t f)).heap[W.heap.size]? = some (.cells c t f) := World.alloc_heap_new W _
  unfold World.cell?
  rw [h]
  rfl
theorem boxed_other {W : World} {B k : Nat} {o : Obj} (v : Value) (h : W.heap[k]? = some o) (hne : k ≠ B) : (W.setCell ⟨B, 0, none⟩ v).heap[k]? = some o := (Below.heap_setCell _ _ _ _ hne).trans h
/-- What the words of a list do to a state. -/
def sumTail (st : Int) (ws : List Int) : Int := ws.foldl (fun s x => mixI s (IntKind.u64.wrap x)) st
theorem sumTail_take (st : Int) (ws : List Int) (k : Nat) (h : k < ws.length) : sumTail st (ws.take (k + 1)) = mixI (sumTail st (ws.take k)) (IntKind.u64.wrap (ws[k]?.getD 0)) := by
  unfold sumTail
  rw [List.take_succ_eq_append_getElem h, List.foldl_append]
  simp [h]
theorem sumTail_all (st : Int) (ws : List Int) (k : Nat) (h : ws.length ≤ k) : sumTail st (ws.take k) = sumTail st ws := by rw [List.take_of_length_le h]
theorem sumTail_zero (st : Int) (ws : List Int) : sumTail st (ws.take 0) = st := rfl
/-- The hash of a label, whose bytes are l, and words. -/
def sumI (l ws : List Int) : Int := mixI (sumTail (mixI (mixI ((wordsOf l).foldl mixI 0) (l.length : Int)) (ws.length : Int)) ws) 0
/-- The bytes of a string, as numbers. -/
def bytesI (s : ByteArray) : List Int := s.data.toList.map fun b => (b.toNat : Int)
theorem bytesI_length (s : ByteArray) : (bytesI s).length = s.size := by simp [bytesI]
theorem Boxed.drew' {W : World} {B : Nat} {t : TypeId} {v : Value} (h : Boxed W B t v) : Boxed W.drew B t v := h

end Go.Proofs.Ytmfekbljfnjkgaa
