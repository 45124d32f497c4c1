/- The documented examples of package hash; Pair is injective. -/
import Derived.Test.YtjgeefnackhnpaaHashBytes
namespace Go.Proofs.Ytjgeefnackhnpaa
open Go.RowKit Go.Shelf
set_option linter.unusedVariables false

theorem lives1 : (sumI (bytesI ⟨#[97]⟩) [5] != sumI (bytesI ⟨#[97]⟩) [6]) = true := by decide +kernel
theorem lives2 : (sumI (bytesI ⟨#[97]⟩) ((wordsOf [1, 2]).map wrap64 ++ [(([1, 2] : List Int).length : Int)]) == sumI (bytesI ⟨#[97]⟩) [513, 2]) = true := by decide +kernel
theorem lives3 : (pairI 1 2 != pairI 1 3) = true := by decide +kernel


theorem one_int (w : World) (x : Int) : Row .i64 (w.alloc (.cells #[.int .i64 x] 3)).heap.size (w.alloc (.cells #[.int .i64 x] 3)) (.slice (some ⟨w.heap.size, 0, none⟩) 1 1) [x] := by
  simpa using row_new (k := .i64) w 3 [x] (by simp [maxLen]) 1 rfl _ rfl
theorem two_ints (w : World) (x y : Int) : Row .i64 (w.alloc (.cells #[.int .i64 x, .int .i64 y] 3)).heap.size (w.alloc (.cells #[.int .i64 x, .int .i64 y] 3)) (.slice (some ⟨w.heap.size, 0, none⟩) 2 2) [x, y] := by
  simpa using row_new (k := .i64) w 3 [x, y] (by simp [maxLen]) 2 rfl _ rfl
theorem two_bytes (w : World) (x y : Int) : Row .u8 (w.alloc (.cells #[.int .u8 x, .int .u8 y] 5)).heap.size (w.alloc (.cells #[.int .u8 x, .int .u8 y] 5)) (.slice (some ⟨w.heap.size, 0, none⟩) 2 2) [x, y] := by
  simpa using row_new (k := .u8) w 5 [x, y] (by simp [maxLen]) 2 rfl _ rfl

set_option maxHeartbeats 1000000 in
theorem lives_any (w : World) : Calls Try.prog 15 #[] w fun e W' => e = .returned (.bool true) ∧ Below w.heap.size w W' := by
  have H1 := lives1
  have H2 := lives2
  have H3 := lives3
  go_enter Try.func15, Try.ntmps15
  go_wp2_with fail
  have b0 := laidB (Below.refl w.heap.size w) (.cells #[.int .i64 5] 3)
  refine (sum_any _ _ _ _ [5] (by decide) _ (one_int w 5) rfl (by simp [maxLen])).mono ?_
  rintro e w1 ⟨rfl, hb1⟩
  replace b0 := stepB b0 hb1; clear hb1
  generalize sumI (bytesI ⟨#[97]⟩) [5] = A at H1 ⊢
  dsimp only
  go_wp2_with fail
  replace b0 := laidB b0 (.cells #[.int .i64 6] 3)
  refine (sum_any _ _ _ _ [6] (by decide) _ (one_int w1 6) rfl (by simp [maxLen])).mono ?_
  rintro e w2 ⟨rfl, hb1⟩
  replace b0 := stepB b0 hb1; clear hb1
  generalize sumI (bytesI ⟨#[97]⟩) [6] = B at H1 ⊢
  dsimp only
  go_wp2_with fail
  replace b0 := laidB b0 (.cells #[.int .u8 1, .int .u8 2] 5)
  refine (bytes_any _ _ _ _ [1, 2] (by decide) _ (two_bytes w2 1 2) rfl (by simp)).mono ?_
  rintro e w3 ⟨rfl, hb1⟩
  replace b0 := stepB b0 hb1; clear hb1
  generalize sumI (bytesI ⟨#[97]⟩) ((wordsOf [1, 2]).map wrap64 ++ [(([1, 2] : List Int).length : Int)]) = C at H2 ⊢
  dsimp only
  go_wp2_with fail
  replace b0 := laidB b0 (.cells #[.int .i64 513, .int .i64 2] 3)
  refine (sum_any _ _ _ _ [513, 2] (by decide) _ (two_ints w3 513 2) rfl (by simp [maxLen])).mono ?_
  rintro e w4 ⟨rfl, hb1⟩
  replace b0 := stepB b0 hb1; clear hb1
  generalize sumI (bytesI ⟨#[97]⟩) [513, 2] = D at H2 ⊢
  dsimp only
  go_wp2_with fail
  refine (pair_any 1 2 _).mono ?_
  rintro e w5 ⟨rfl, hb1⟩
  replace b0 := stepB b0 hb1; clear hb1
  generalize pairI 1 2 = E at H3 ⊢
  dsimp only
  go_wp2_with fail
  refine (pair_any 1 3 _).mono ?_
  rintro e w6 ⟨rfl, hb1⟩
  replace b0 := stepB b0 hb1; clear hb1
  generalize pairI 1 3 = G at H3 ⊢
  dsimp only
  go_wp2_with fail
  go_ret
  exact ⟨rfl, b0⟩
end Go.Proofs.Ytjgeefnackhnpaa
