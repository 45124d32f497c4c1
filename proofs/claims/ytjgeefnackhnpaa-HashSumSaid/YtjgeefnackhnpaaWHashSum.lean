/- HashSum: the walk. -/
import Derived.Test.YtjgeefnackhnpaaRefSum
namespace Go.Proofs.Ytjgeefnackhnpaa
open Go.RowKit Go.Shelf
set_option linter.unusedVariables false

set_option maxHeartbeats 1000000 in
theorem hashSum_walk (a0 : ByteArray) (a1 : Option Addr) (len1 cap1 : Nat) (z1 : List Int) (w : World) (w0 : a0.size ≤ maxLen) (w1 : IsRow .i64 w a1 len1 cap1 z1) :
    Calls Try.prog 3 #[.string a0, .slice a1 len1 cap1] w fun e w' => e = .returned (.bool true) ∧ Below w.heap.size w w' := by
  obtain ⟨hr, hw⟩ := w1.row
  clear w1
  go_enter Try.func3, Try.ntmps3
  go_wp2_with fail
  refine (short_int a0 40 _ w0 (by decide) (by decide)).mono ?_
  rintro e W1 ⟨rfl, rfl⟩
  dsimp only
  have hs := short_size a0 40 (by decide)
  generalize a0.extract 0 (40 : Int).toNat = s at hs
  have hs1 : s.size ≤ 40 := by omega
  go_wp2_with fail
  refine (ints_int _ _ 12 _ hr (by decide) (by decide)).mono ?_
  rintro e W2 ⟨a, cap, rfl, hown, hr2, b0⟩
  dsimp only
  generalize (z1.take len1).take (12 : Int).toNat = zs at hown hr2 ⊢
  have hlc := hr2.lencap
  have hlm : zs.length ≤ maxLen := by omega
  go_wp2_with fail
  refine (sum_any s a _ cap zs (by omega) _ hr2 rfl hlm).mono ?_
  rintro e W3 ⟨rfl, hb⟩
  dsimp only
  have hr3 := (hr2.below hb).mono (fun b h => Nat.lt_of_lt_of_le h hb.size)
  replace b0 := stepB b0 hb; clear hb
  go_wp2_with fail
  refine (rsum_any s a _ cap zs (by omega) _ hr3).mono ?_
  rintro e W4 ⟨rfl, hb⟩
  dsimp only
  replace b0 := stepB b0 hb; clear hb
  generalize sumI (bytesI s) zs = A
  go_wp2_with fail
  refine (sum_any s none 0 0 [] (by omega) _ (nil_row _ _ _) rfl (by simp)).mono ?_
  rintro e W5 ⟨rfl, hb⟩
  dsimp only
  replace b0 := stepB b0 hb; clear hb
  go_wp2_with fail
  refine (rsum_any s none 0 0 [] (by omega) _ (nil_row _ _ _)).mono ?_
  rintro e W6 ⟨rfl, hb⟩
  dsimp only
  replace b0 := stepB b0 hb; clear hb
  generalize sumI (bytesI s) [] = B
  go_wp2_with fail
  refine (lives_any _).mono ?_
  rintro e W7 ⟨rfl, hb⟩
  dsimp only
  replace b0 := stepB b0 hb; clear hb
  go_wp2_with fail
  go_ret
  exact ⟨rfl, b0⟩
end Go.Proofs.Ytjgeefnackhnpaa
