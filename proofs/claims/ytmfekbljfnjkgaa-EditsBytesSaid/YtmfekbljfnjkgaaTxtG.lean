/- Contracts: Lines, and the reference's SameEdit on equal edits. -/
import Derived.Test.YtmfekbljfnjkgaaTxtF
namespace Go.Proofs.Ytmfekbljfnjkgaa
open Go.RowKit Go.Shelf
set_option linter.unusedVariables false

set_option maxHeartbeats 1000000 in
theorem sameEdit_self (x y : Int) (a : Option Addr) (ca : Nat) (b : Option Addr) (cb : Nat) (z : List Int) (w : World) (hra : Row .i64 w.heap.size w (.slice a z.length ca) z) (hrb : Row .i64 w.heap.size w (.slice b z.length cb) z) :
    Calls Try.prog 15 #[.agg #[.int .i64 x, .int .i64 y, .slice a z.length ca], .agg #[.int .i64 x, .int .i64 y, .slice b z.length cb]] w fun e w' => e = .returned (.bool true) ∧ Below w.heap.size w w' := by
  have b0 := laidB (laidB (Below.refl w.heap.size w) (.cells #[.int .i64 x, .int .i64 y, .slice a z.length ca] 25)) (.cells #[.int .i64 x, .int .i64 y, .slice b z.length cb] 25)
  have hra' := rowB hra b0
  have hrb' := rowB hrb b0
  go_enter Try.func15, Try.ntmps15
  go_wp2_with fail
  refine (sameInts_any a z.length ca z b z.length cb z _ hra' hrb').mono ?_
  rintro e w1 ⟨rfl, hb⟩
  rw [show (z == z) = true from beq_self_eq_true _]
  dsimp only
  go_wp2_with fail
  go_ret
  exact ⟨rfl, stepB b0 hb⟩
/-- Where lines begin, up to a place. -/
def linesL (l : List Int) (k : Nat) : List Int := 0 :: ((List.range k).filter (fun i : Nat => l[i]?.getD 0 == 10)).map (fun i : Nat => (i : Int) + 1)
theorem linesL_yes (l : List Int) (k : Nat) (h : l[k]?.getD 0 = 10) : linesL l (k + 1) = linesL l k ++ [(k : Int) + 1] := by
  unfold linesL
  rw [List.range_succ, List.filter_append, List.map_append]
  simp [h]
theorem linesL_no (l : List Int) (k : Nat) (h : l[k]?.getD 0 ≠ 10) : linesL l (k + 1) = linesL l k := by
  unfold linesL
  rw [List.range_succ, List.filter_append, List.map_append]
  simp [h]
theorem linesL_len (l : List Int) (k : Nat) : (linesL l k).length ≤ k + 1 := by
  unfold linesL
  have := List.length_filter_le (fun i : Nat => l[i]?.getD 0 == 10) (List.range k)
  simp at this ⊢
  omega
theorem owned_new (w : World) (base : Nat) (e : TypeId) (xs : List Value) (n : Nat) (hn : n = xs.length) (c : Array Value) (hc : c = xs.toArray) (hb : base ≤ w.heap.size) (hm : n ≤ maxLen) :
    (w.alloc (.cells c e)).ownsRow base e 1 (.slice (some ⟨w.heap.size, 0, none⟩) n n) n xs := by
  subst hn hc
  exact ⟨by simp, .inr ⟨w.heap.size, xs.length, xs.toArray, rfl, hb, heap_alloc_new w _, Nat.le_refl _, hm, by simp, by simp⟩⟩
end Go.Proofs.Ytmfekbljfnjkgaa
