/- HashArguments: the walk. -/
import Derived.Test.YtjgeefnackhnpaaRefSum
import Derived.Test.YtjgeefnackhnpaaRows3
namespace Go.Proofs.Ytjgeefnackhnpaa
open Go.RowKit Go.Shelf
set_option linter.unusedVariables false

set_option maxHeartbeats 2000000 in
theorem hashArguments_walk (a0 : Option Addr) (len0 cap0 : Nat) (z0 : List Int) (a1 : Option Addr) (len1 cap1 : Nat) (z1 : List Int) (w : World) (w0 : IsRow .i64 w a0 len0 cap0 z0) (w1 : IsRow .u8 w a1 len1 cap1 z1) :
    Calls Try.prog 10 #[.slice a0 len0 cap0, .slice a1 len1 cap1] w fun e w' => e = .returned (.bool true) ∧ Below w.heap.size w w' := by
  obtain ⟨hr0, _⟩ := w0.row
  obtain ⟨hr1, _⟩ := w1.row
  clear w0 w1
  have hl0 := hr0.len
  generalize z0.take len0 = y0 at hr0 hl0
  generalize z1.take len1 = y1 at hr1
  subst hl0
  have hl1 := hr1.len
  subst hl1
  go_enter Try.func10, Try.ntmps10
  go_wp2_with fail
  refine (ints_int _ _ 10 _ hr0 (by decide) (by decide)).mono ?_
  rintro e W1 ⟨a, cap, rfl, _, hra, b0⟩
  dsimp only
  have hr0 := rowB hr0 b0
  have hr1 := rowB hr1 b0
  have hla : (y0.take (10 : Int).toNat).length ≤ 10 := by rw [List.length_take]; exact Nat.min_le_left _ _
  obtain ⟨za, hza⟩ : ∃ za, y0.take (10 : Int).toNat = za := ⟨_, rfl⟩
  rw [hza] at hra hla ⊢
  have Hza := Lib.hid hza; clear hza
  go_wp2_with fail
  refine (few_int _ _ 30 _ hr1 (by decide) (by decide)).mono ?_
  rintro e W2 ⟨b, capb, rfl, _, hrb, hb⟩
  dsimp only
  have hr0 := rowB hr0 hb
  have hr1 := rowB hr1 hb
  have hra := rowB hra hb
  have hlb : (y1.take (30 : Int).toNat).length ≤ 30 := by rw [List.length_take]; exact Nat.min_le_left _ _
  obtain ⟨zb, hzb⟩ : ∃ zb, y1.take (30 : Int).toNat = zb := ⟨_, rfl⟩
  rw [hzb] at hrb hlb ⊢
  have Hzb := Lib.hid hzb; clear hzb
  replace b0 := stepB b0 hb; clear hb
  have hml : za.length ≤ maxLen := by unfold maxLen; omega
  go_wp2_with fail
  refine (sum_any _ a _ cap za (by decide) _ hra rfl hml).mono ?_
  rintro e W3 ⟨rfl, hb⟩
  dsimp only
  have hr0 := rowB hr0 hb
  have hr1 := rowB hr1 hb
  have hra := rowB hra hb
  have hrb := rowB hrb hb
  replace b0 := stepB b0 hb; clear hb
  go_wp2_with fail
  refine (bytes_any _ b _ capb zb (by decide) _ hrb rfl (by omega)).mono ?_
  rintro e W4 ⟨rfl, hb⟩
  dsimp only
  have hr0 := rowB hr0 hb
  have hr1 := rowB hr1 hb
  have hra := rowB hra hb
  have hrb := rowB hrb hb
  replace b0 := stepB b0 hb; clear hb
  go_wp2_with fail
  refine (ints_int _ _ 10 _ hr0 (by decide) (by decide)).mono ?_
  rintro e W5 ⟨a', cap', rfl, _, hra', hb⟩
  dsimp only
  have hr1 := rowB hr1 hb
  have hra := rowB hra hb
  have hrb := rowB hrb hb
  replace b0 := stepB b0 hb; clear hb
  rw [Hza.out] at hra' ⊢
  go_wp2_with fail
  refine (sameInts_any _ _ _ za _ _ _ za _ hra hra').mono ?_
  rintro e W6 ⟨rfl, hb⟩
  dsimp only
  have hr1 := rowB hr1 hb
  have hra := rowB hra hb
  have hrb := rowB hrb hb
  replace b0 := stepB b0 hb; clear hb
  rw [beq_self_eq_true]
  go_wp2_with fail
  refine (few_int _ _ 30 _ hr1 (by decide) (by decide)).mono ?_
  rintro e W7 ⟨b', capb', rfl, _, hrb', hb⟩
  dsimp only
  have hra := rowB hra hb
  have hrb := rowB hrb hb
  replace b0 := stepB b0 hb; clear hb
  rw [Hzb.out] at hrb' ⊢
  go_wp2_with fail
  refine (sameBytes_any _ _ _ zb _ _ _ zb _ hrb hrb').mono ?_
  rintro e W8 ⟨rfl, hb⟩
  dsimp only
  have hra := rowB hra hb
  have hrb := rowB hrb hb
  replace b0 := stepB b0 hb; clear hb
  rw [beq_self_eq_true]
  go_wp2_with fail
  refine (sum_any _ a _ cap za (by decide) _ hra rfl hml).mono ?_
  rintro e W9 ⟨rfl, hb⟩
  dsimp only
  have hrb := rowB hrb hb
  replace b0 := stepB b0 hb; clear hb
  generalize sumI _ za = X
  go_wp2_with fail
  refine (bytes_any _ b _ capb zb (by decide) _ hrb rfl (by omega)).mono ?_
  rintro e W10 ⟨rfl, hb⟩
  dsimp only
  replace b0 := stepB b0 hb; clear hb
  generalize sumI _ ((wordsOf zb).map wrap64 ++ [(zb.length : Int)]) = Y
  go_wp2_with fail
  refine (lives_any _).mono ?_
  rintro e W11 ⟨rfl, hb⟩
  dsimp only
  replace b0 := stepB b0 hb; clear hb
  go_wp2_with fail
  go_ret
  exact ⟨rfl, b0⟩
end Go.Proofs.Ytjgeefnackhnpaa
