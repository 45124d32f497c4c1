/- Contracts: Lines, and the reference's SameEdit on equal edits. -/
import Derived.Test.YtnfelphemdchpaaTxtF
namespace Go.Proofs.Ytnfelphemdchpaa
open Go.RowKit Go.Shelf
set_option linter.unusedVariables false

set_option maxHeartbeats 1000000 in
theorem sameEdit_self (x y : Int) (a : Option Addr) (ca : Nat) (b : Option Addr) (cb : Nat) (z : List Int) (w : World) (hra : Row .i64 w.heap.size w (.slice a z.length ca) z) (hrb : Row .i64 w.heap.size w (.slice b z.length cb) z) :
    Calls Try.prog 34 #[.agg #[.int .i64 x, .int .i64 y, .slice a z.length ca], .agg #[.int .i64 x, .int .i64 y, .slice b z.length cb]] w fun e w' => e = .returned (.bool true) ∧ Below w.heap.size w w' := by
  have b0 := laidB (laidB (Below.refl w.heap.size w) (.cells #[.int .i64 x, .int .i64 y, .slice a z.length ca] 43)) (.cells #[.int .i64 x, .int .i64 y, .slice b z.length cb] 43)
  have hra' := rowB hra b0
  have hrb' := rowB hrb b0
  go_enter Try.func34, Try.ntmps34
  go_wp2_with fail
  refine (sameInts_any a z.length ca z b z.length cb z _ hra' hrb').mono ?_
  rintro e w1 ⟨rfl, hb⟩
  rw [show (z == z) = true from beq_self_eq_true _]
  dsimp only
  go_wp2_with fail
  go_ret
  exact ⟨rfl, stepB b0 hb⟩
/-- Where lines begin, up to a place. -/
def linesL (l : List Int) (k : Nat) : List Int := 0 :: ((List.range k).filter (fun i : Nat => l[i]?.getD 0 == 10)).map (fun i : Nat => (i : Int) + 1)
theorem linesL_yes (l : List Int) (k : Nat) (h : l[k]?.getD 0 = 10) : linesL l (k + 1) = linesL l k ++ [(k : Int) + 1] := by
  unfold linesL
  rw [List.range_succ, List.filter_append, List.map_append]
  simp [h]
theorem linesL_no (l : List Int) (k : Nat) (h : l[k]?.getD 0 ≠ 10) : linesL l (k + 1) = linesL l k := by
  unfold linesL
  rw [List.range_succ, List.filter_append, List.map_append]
  simp [h]
theorem linesL_len (l : List Int) (k : Nat) : (linesL l k).length ≤ k + 1 := by
  unfold linesL
  have := List.length_filter_le (fun i : Nat => l[i]?.getD 0 == 10) (List.range k)
  simp at this ⊢
  omega
theorem owned_new (w : World) (base : Nat) (e : TypeId) (xs : List Value) (n : Nat) (hn : n = xs.length) (c : Array Value) (hc : c = xs.toArray) (hb : base ≤ w.heap.size) (hm : n ≤ maxLen) :
    (w.alloc (.cells c e)).ownsRow base e 1 (.slice (some ⟨w.heap.size, 0, none⟩) n n) n xs := by
  subst hn hc
  exact ⟨by simp, .inr ⟨w.heap.size, xs.length, xs.toArray, rfl, hb, heap_alloc_new w _, Nat.le_refl _, hm, by simp, by simp⟩⟩
set_option maxRecDepth 100000 in
set_option maxHeartbeats 2000000 in
theorem lines_any (a : Option Addr) (cap : Nat) (l : List Int) (w : World) (hr : Row .i64 w.heap.size w (.slice a l.length cap) l) (hl : l.length ≤ 100000) :
    Calls Try.prog 25 #[.slice a l.length cap] w fun e w' => ∃ v, e = .returned v ∧ w'.ownsRow w.heap.size 3 1 v (linesL l l.length).length ((linesL l l.length).map (Value.int .i64)) ∧ Below w.heap.size w w' := by
  obtain ⟨i0, hi, hz0, hz1, hz2⟩ := info_parts info_int
  have b0 := laidB (Below.refl w.heap.size w) (.cells #[.int .i64 0] 3)
  have ho0 : (w.alloc (.cells #[.int .i64 0] 3)).ownsRow w.heap.size 3 1 (.slice (some ⟨w.heap.size, 0, none⟩) 1 1) (linesL l 0).length ((linesL l 0).map (Value.int .i64)) :=
    owned_new w _ _ [.int .i64 0] 1 rfl _ rfl (Nat.le_refl _) (by decide)
  go_enter Try.func25, Try.ntmps25
  go_wp2_with fail
  go_loopw [3, 9] (fun v i wr => ∃ k : Nat, k ≤ l.length ∧ i = .int .i64 (k : Int) ∧ wr.ownsRow w.heap.size 3 1 v (linesL l k).length ((linesL l k).map (Value.int .i64)) ∧ Below w.heap.size w wr) (fun _ i _ => l.length - (intOf i).toNat)
  case atStart => exact ⟨0, Nat.zero_le _, rfl, ho0, b0⟩
  case round =>
    clear ho0 b0
    obtain ⟨k, hk, rfl, hown, hb⟩ := hrel
    have hsr := hb.size
    have hkl := linesL_len l k
    by_cases hlt : k < l.length
    · have hr1 := RowP.below hb hr
      obtain ⟨b, off, rfl, c0⟩ := row_cell (rowB hr hb) k hlt
      have hi1 : (k : Int) < l.length := by omega
      have hi0 : (0 : Int) ≤ (k : Int) := by omega
      have hw1 : IntKind.i64.wrap ((k : Int) + 1) = (k : Int) + 1 := IntWalk.i64_in _ (by omega)
      by_cases h10 : l[k]?.getD 0 = 10
      · have hy := linesL_yes l k h10
        rw [h10] at c0
        have HY := Lib.hid hy
        clear hy h10 hr1
        generalize hA : linesL l k = A at *
        have HA := Lib.hid hA
        clear hA
        go_wp2_with (first
          | (at_builtin; refine wpList_append_own _ rfl _ _ 22 rfl w.heap.size 3 i0 (.int .i64 0) 1 8 Try.underlying22 hi hz0 hz1 hz2 rfl (by decide) _ _ _ rfl (hown.alloc _) ⟨wr.heap.size, 0, none⟩ 1 1 [.int .i64 ((k : Int) + 1)] rfl rfl (cell_one_new _ _ _) (by simp [Value.oneCell']) (by unfold maxLen; omega) (by omega) (by simp; omega) ?_; intro v3 w3 hown3 hgrow3 _))
        have hb3 : Below w.heap.size w w3 := (laidB hb _).grown hgrow3 (by simp; omega) (fun j ej => own_base hown ej)
        go_roundw
        case rel => exact ⟨k + 1, by omega, by go_num, by rw [HY.out, List.length_append, List.map_append]; exact hown3, hb3⟩
        case measure => simp [intOf]; omega
      · have hy := linesL_no l k h10
        have HY := Lib.hid hy
        generalize l[k]?.getD 0 = x at *
        clear hy hr1
        go_wp2_with fail
        go_roundw
        case rel => exact ⟨k + 1, by omega, by go_num, by rw [HY.out]; exact hown, hb⟩
        case measure => simp [intOf]; omega
    · obtain rfl : k = l.length := by omega
      go_wp2_with fail
      go_ret
      exact ⟨_, rfl, hown, hb⟩
end Go.Proofs.Ytnfelphemdchpaa
