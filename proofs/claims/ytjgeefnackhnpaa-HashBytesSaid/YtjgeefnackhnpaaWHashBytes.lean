/- HashBytes: the walk. -/
import Derived.Test.YtjgeefnackhnpaaRefSum
namespace Go.Proofs.Ytjgeefnackhnpaa
open Go.RowKit Go.Shelf
set_option linter.unusedVariables false

set_option maxHeartbeats 1000000 in
theorem hashBytes_walk (a0 : ByteArray) (a1 : Option Addr) (len1 cap1 : Nat) (z1 : List Int) (a2 : Int) (a3 : Int) (w : World) (w0 : a0.size ≤ maxLen) (w1 : IsRow .u8 w a1 len1 cap1 z1) (w2 : (Lit.int .u64 a2).wf = true) (w3 : (Lit.int .u64 a3).wf = true) :
    Calls Try.prog 4 #[.string a0, .slice a1 len1 cap1, .int .u64 a2, .int .u64 a3] w fun e w' => e = .returned (.bool true) ∧ Below w.heap.size w w' := by
  obtain ⟨hr, hw⟩ := w1.row
  have hz := take_rng (u8_rng hw) 60
  clear w1
  go_enter Try.func4, Try.ntmps4
  go_wp2_with fail
  refine (short_int a0 20 _ w0 (by decide) (by decide)).mono ?_
  rintro e W1 ⟨rfl, rfl⟩
  dsimp only
  have hs := short_size a0 20 (by decide)
  generalize a0.extract 0 (20 : Int).toNat = s at hs
  have hs1 : s.size ≤ 20 := by omega
  go_wp2_with fail
  refine (few_int _ _ 60 _ hr (by decide) (by decide)).mono ?_
  rintro e W2 ⟨a, cap, rfl, hown, hr2, b0⟩
  dsimp only
  have hlm : ((z1.take len1).take (60 : Int).toNat).length ≤ 60 := by rw [List.length_take]; exact Nat.min_le_left _ _
  change ∀ i : Nat, 0 ≤ ((z1.take len1).take (60 : Int).toNat)[i]?.getD 0 ∧ ((z1.take len1).take (60 : Int).toNat)[i]?.getD 0 < 256 at hz
  generalize (z1.take len1).take (60 : Int).toNat = zs at hown hr2 hlm hz ⊢
  have hz := Lib.hid hz
  go_wp2_with fail
  refine (bytes_any s a _ cap zs (by omega) _ hr2 rfl (by omega)).mono ?_
  rintro e W3 ⟨rfl, hb⟩
  dsimp only
  have hr3 := (hr2.below hb).mono (fun b h => Nat.lt_of_lt_of_le h hb.size)
  replace b0 := stepB b0 hb; clear hb
  go_wp2_with fail
  refine (rbytes_any s a _ cap zs (by omega) _ hr3 (by omega) hz.out).mono ?_
  rintro e W4 ⟨rfl, hb⟩
  dsimp only
  replace b0 := stepB b0 hb; clear hb
  generalize sumI (bytesI s) ((wordsOf zs).map wrap64 ++ [(zs.length : Int)]) = A
  go_wp2_with fail
  refine (pair_any a2 a3 _).mono ?_
  rintro e W5 ⟨rfl, hb⟩
  dsimp only
  replace b0 := stepB b0 hb; clear hb
  go_wp2_with fail
  refine (rpair_any a2 a3 _).mono ?_
  rintro e W6 ⟨rfl, hb⟩
  dsimp only
  replace b0 := stepB b0 hb; clear hb
  generalize pairI a2 a3 = B
  go_wp2_with fail
  refine (lives_any _).mono ?_
  rintro e W7 ⟨rfl, hb⟩
  dsimp only
  replace b0 := stepB b0 hb; clear hb
  go_wp2_with fail
  go_ret
  exact ⟨rfl, b0⟩
end Go.Proofs.Ytjgeefnackhnpaa
