/- HashGroups: the walk. -/
import Derived.Test.YtjgeefnackhnpaaRefSum
import Derived.Test.YtjgeefnackhnpaaRows3
import Derived.Test.YtjgeefnackhnpaaHashMath3
namespace Go.Proofs.Ytjgeefnackhnpaa
open Go.RowKit Go.Shelf
set_option linter.unusedVariables false

set_option maxRecDepth 100000 in
set_option maxHeartbeats 4000000 in
theorem hashGroups_walk (a0 : ByteArray) (a1 : Option Addr) (len1 cap1 : Nat) (z1 : List Int) (w : World) (w0 : a0.size ≤ maxLen) (w1 : IsRow .u8 w a1 len1 cap1 z1) :
    Calls Try.prog 8 #[.string a0, .slice a1 len1 cap1] w fun e w' => e = .returned (.bool true) ∧ Below w.heap.size w w' := by
  obtain ⟨hr, hw⟩ := w1.row
  have hz := take_rng (u8_rng hw) (60 : Int).toNat
  obtain ⟨i0, hi, hz0, hz1, hz2⟩ := info_parts info_ints
  obtain ⟨i1, hi1, hy0, hy1, hy2⟩ := info_parts info_few
  clear w1 hw
  go_enter Try.func8, Try.ntmps8
  go_wp2_with fail
  refine (short_int a0 20 _ w0 (by decide) (by decide)).mono ?_
  rintro e W1 ⟨rfl, rfl⟩
  dsimp only
  have hs := short_size a0 20 (by decide)
  generalize a0.extract 0 (20 : Int).toNat = s at hs
  have hs1 : s.size ≤ 20 := by omega
  go_wp2_with fail
  refine (few_int _ _ 60 _ hr (by decide) (by decide)).mono ?_
  rintro e W2 ⟨c, capc, rfl, _, hrc, b0⟩
  dsimp only
  have hlc : ((z1.take len1).take (60 : Int).toNat).length ≤ 60 := by rw [List.length_take]; exact Nat.min_le_left _ _
  generalize (z1.take len1).take (60 : Int).toNat = zs at hrc hlc hz ⊢
  have Hz : Hid (AreBytes zs) := Lib.hid hz
  clear hz hr
  go_wp2_with fail
  refine (words_any _ _ _ zs _ hrc (by omega) Hz.out).mono ?_
  rintro e W3 ⟨v, rfl, hown, hb⟩
  dsimp only
  have hrc := rowB hrc hb
  replace b0 := stepB b0 hb; clear hb
  have hrw := (row_of_owns hown).1
  obtain ⟨av, lv, cv, rfl⟩ := owns_slice hown
  clear hown
  have hlv := hrw.len
  have hwl := wordsOf_length zs
  have hwl2 : (wordsOf zs).length ≤ 1000000 := by omega
  clear hwl
  obtain ⟨W, hW⟩ : ∃ W, W = wordsOf zs := ⟨_, rfl⟩
  rw [← hW] at hrw hlv hwl2
  subst hlv
  have hlc1 := hrw.lencap
  unfold maxLen at hlc1
  have HW := Lib.hid hW; clear hW
  go_wp2_with fail
  go_loopw [8, 9] (fun v i wr => ∃ k : Nat, k ≤ W.length ∧ i = .int .i64 (k : Int) ∧ wr.ownsRow W3.heap.size 3 1 v k (((W.take k).map wrap64).map (Value.int .i64)) ∧ Below W3.heap.size W3 wr) (fun _ i _ => W.length - (intOf i).toNat)
  case atStart => exact ⟨0, Nat.zero_le _, rfl, World.ownsRow_nil _ _ _ _, Below.refl _ _⟩
  case round =>
    obtain ⟨k, hk, rfl, hown, hB⟩ := hrel
    have hsz := hB.size
    by_cases hlt : k < W.length
    · obtain ⟨bw, ow, rfl, hpw, hcw⟩ := hrw.at (by omega)
      have c1 : wr.cell? ⟨bw, ow + k, none⟩ = some (.int .u64 (W[k]?.getD 0)) := (hB.cell (p := ⟨bw, ow + k, none⟩) hpw).trans (hcw k hlt)
      have HT := Lib.hid (show (W.take (k + 1)).map wrap64 = (W.take k).map wrap64 ++ [wrap64 (W[k]?.getD 0)] from by rw [List.take_succ_eq_append_getElem hlt, List.map_append, List.map_singleton, List.getElem?_eq_getElem hlt, Option.getD_some])
      clear hcw hrw
      generalize W[k]?.getD 0 = x at c1 HT
      go_wp2_with (at_builtin; refine wpList_append_own _ rfl _ _ 22 rfl W3.heap.size 3 i0 (.int .i64 0) 1 8 Try.underlying22 hi hz0 hz1 hz2 rfl (by decide) _ _ _ rfl (hown.alloc _) ⟨wr.heap.size, 0, none⟩ 1 1 [.int .i64 (wrap64 x)] rfl rfl (cell_one_new _ _ _) (by simp [Value.oneCell']) (by unfold maxLen; omega) (by omega) (by have := hB.size; simp; omega) ?_; intro v' w2 hown' hgrow' _)
      go_roundw
      case rel => exact ⟨k + 1, by omega, by go_num, by rw [HT.out, List.map_append]; exact hown', (laidB hB _).grown hgrow' (by have := hB.size; simp; omega) (fun q e => own_base hown e)⟩
      case measure => simp [intOf]; omega
    · have HT : Hid (W.take k = W) := Lib.hid (by rw [List.take_of_length_le (by omega)])
      rw [HT.out] at hown
      clear HT
      have hkm : k ≤ 1000000 := by omega
      clear hrw hk
      generalize hX : sumI (bytesI s) (W.map wrap64 ++ [(zs.length : Int)]) = X
      have HX := Lib.hid hX; clear hX
      go_wp2_with fail
      refine (bytes_any s c _ capc zs (by omega) _ (rowB hrc hB) rfl (by omega)).mono ?_
      rintro e W4 ⟨rfl, hb⟩
      dsimp only
      have e1 := HW.out
      rw [← e1, HX.out]
      clear e1
      have hown := owns_kept_below hown hb
      have hB := stepB hB hb
      have hsz4 : W3.heap.size ≤ W4.heap.size := hB.size
      clear hb
      go_wp2_with (at_builtin; refine wpList_append_own _ rfl _ _ 22 rfl W3.heap.size 3 i0 (.int .i64 0) 1 8 Try.underlying22 hi hz0 hz1 hz2 rfl (by decide) _ _ _ rfl (hown.alloc _) ⟨W4.heap.size, 0, none⟩ 1 1 [.int .i64 zs.length] rfl rfl (cell_one_new _ _ _) (by simp [Value.oneCell']) (by unfold maxLen; omega) (by omega) (by simp; omega) ?_; intro v' w2 hown' hgrow' _; obtain ⟨g', cap', rfl⟩ := ownsRow_succ hown')
      have hrl := row_of_owns (k := .i64) (zs := W.map wrap64 ++ [(zs.length : Int)]) (by rw [List.map_append]; exact hown')
      have hB := (laidB hB _).grown hgrow' (by simp; omega) (fun q e => own_base hown e)
      clear hown hown' hgrow' hsz4
      refine (sum_any s _ _ _ _ (by omega) _ hrl.1 hrl.2 (by simp; unfold maxLen; omega)).mono ?_
      rintro e W5 ⟨rfl, hb⟩
      dsimp only
      have hB := stepB hB hb
      clear hb hrl
      rw [HX.out]
      go_wp2_with fail
      refine (few_int _ _ 60 _ (rowB hrc hB) (by decide) (by decide)).mono ?_
      rintro e W6 ⟨d, capd, rfl, hown, _, hb⟩
      dsimp only
      rw [show zs.take (60 : Int).toNat = zs from List.take_of_length_le (by simpa using hlc)] at hown ⊢
      have hrc := rowB hrc hB
      have b0 := stepB b0 hB
      clear hB HX HW
      have hsz4 : W5.heap.size ≤ W6.heap.size := hb.size
      by_cases h8 : zs.length % 8 = 0
      · have hg8 : (((zs.length : Int) % 8) == 0) = true := by simp; omega
        clear h8
        go_wp2_with (at_builtin; refine wpList_append_own _ rfl _ _ 30 rfl W5.heap.size 5 i1 (.int .u8 0) 1 1 Try.underlying30 hi1 hy0 hy1 hy2 rfl (by decide) _ _ _ rfl (hown.alloc _) ⟨W6.heap.size, 0, none⟩ 1 1 [.int .u8 0] rfl rfl (cell_one_new _ _ _) (by simp [Value.oneCell']) (by unfold maxLen; omega) (by omega) (by simp; omega) ?_; intro v' w3 hown' hgrow' _; obtain ⟨g2, cap2, rfl⟩ := ownsRow_succ hown'; have hb := (laidB hb _).grown hgrow' (by simp; omega) (fun q e => own_base hown e); have hrc := rowB hrc hb; have b0 := stepB b0 hb; have hrl := Lib.hid (row_of_owns (k := .u8) (zs := zs ++ [0]) (by rw [List.map_append]; exact hown')); clear hb hown hown' hgrow' hsz4)
        refine (lives_any _).mono ?_
        rintro e W7 ⟨rfl, hb⟩
        dsimp only
        replace b0 := stepB b0 hb; clear hb
        go_wp2_with fail
        go_ret
        exact ⟨rfl, b0⟩
      · have hg8 : (((zs.length : Int) % 8) == 0) = false := by simp; omega
        go_wp2_with (at_builtin; refine wpList_append_own _ rfl _ _ 30 rfl W5.heap.size 5 i1 (.int .u8 0) 1 1 Try.underlying30 hi1 hy0 hy1 hy2 rfl (by decide) _ _ _ rfl (hown.alloc _) ⟨W6.heap.size, 0, none⟩ 1 1 [.int .u8 0] rfl rfl (cell_one_new _ _ _) (by simp [Value.oneCell']) (by unfold maxLen; omega) (by omega) (by simp; omega) ?_; intro v' w3 hown' hgrow' _; obtain ⟨g2, cap2, rfl⟩ := ownsRow_succ hown'; have hb := (laidB hb _).grown hgrow' (by simp; omega) (fun q e => own_base hown e); have hrc := rowB hrc hb; have b0 := stepB b0 hb; have hrl := Lib.hid (row_of_owns (k := .u8) (zs := zs ++ [0]) (by rw [List.map_append]; exact hown')); clear hb hown hown' hgrow' hsz4)
        have HN := longer_ne (bytesI s) zs Hz.out h8
        clear h8
        refine (bytes_any s _ _ _ (zs ++ [0]) (by omega) _ hrl.out.1 hrl.out.2 (by simp; omega)).mono ?_
        rintro e W7 ⟨rfl, hb⟩
        dsimp only
        have hrc := rowB hrc hb
        replace b0 := stepB b0 hb; clear hb
        generalize sumI (bytesI s) ((wordsOf (zs ++ [0])).map wrap64 ++ [((zs ++ [0]).length : Int)]) = Y at HN ⊢
        go_wp2_with fail
        refine (bytes_any s _ _ _ zs (by omega) _ hrc rfl (by omega)).mono ?_
        rintro e W8 ⟨rfl, hb⟩
        dsimp only
        replace b0 := stepB b0 hb; clear hb
        generalize sumI (bytesI s) ((wordsOf zs).map wrap64 ++ [(zs.length : Int)]) = Z at HN ⊢
        go_wp2_with fail
        refine (lives_any _).mono ?_
        rintro e W9 ⟨rfl, hb⟩
        dsimp only
        replace b0 := stepB b0 hb; clear hb
        go_wp2_with fail
        go_ret
        exact ⟨rfl, b0⟩
end Go.Proofs.Ytjgeefnackhnpaa
