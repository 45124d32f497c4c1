/- HashOneGroup: the walk. -/
import Derived.Test.YtjgeefnackhnpaaRefSum
import Derived.Test.YtjgeefnackhnpaaRows3
import Derived.Test.YtjgeefnackhnpaaHashMath3
namespace Go.Proofs.Ytjgeefnackhnpaa
open Go.RowKit Go.Shelf
set_option linter.unusedVariables false

theorem xor8_rng (a b : Int) : 0 ≤ bits .xor .u8 a b ∧ bits .xor .u8 a b < 256 := by
  unfold bits
  simp only [IntKind.wrap, IntKind.bits, IntKind.signed]
  constructor <;> simp <;> omega
theorem AreBytes.set {zs : List Int} (h : AreBytes zs) (k : Nat) (v : Int) (hv : 0 ≤ v ∧ v < 256) : AreBytes (zs.set k v) := by
  intro i
  rw [List.getElem?_set]
  split
  · split
    · simpa using hv
    · simp
  · exact h i
theorem AreBytes.snoc {zs : List Int} (h : AreBytes zs) (v : Int) (hv : 0 ≤ v ∧ v < 256) : AreBytes (zs ++ [v]) := by
  intro i
  rw [List.getElem?_append]
  split
  · exact h i
  · by_cases e : i - zs.length = 0
    · rw [e]; simpa using hv
    · rw [List.getElem?_eq_none (by simp; omega)]; simp

set_option maxRecDepth 100000 in
set_option maxHeartbeats 4000000 in
/-- The end: both hashes, the comparison, the examples. -/
theorem oneGroup_math (l xs : List Int) (k : Nat) (u v : Int) (hk : k < xs.length) (hx : AreBytes xs) (hu : 0 ≤ u ∧ u < 256) (hv : 0 ≤ v ∧ v < 256) :
    (sumI l ((wordsOf xs).map wrap64 ++ [(xs.length : Int)]) == sumI l ((wordsOf (xs.set k u)).map wrap64 ++ [((xs.set k u).length : Int)])) = (xs == xs.set k u) ∧
    ((k + 1) % 8 ≠ 0 → (sumI l ((wordsOf xs).map wrap64 ++ [(xs.length : Int)]) == sumI l ((wordsOf ((xs.set k u).set (k + 1) v)).map wrap64 ++ [(((xs.set k u).set (k + 1) v).length : Int)])) = (xs == (xs.set k u).set (k + 1) v)) := by
  refine ⟨oneGroup l xs _ (k / 8) (by simp) (fun i hi => ?_) hx (hx.set k u hu), fun h8 => oneGroup l xs _ (k / 8) (by simp) (fun i hi => ?_) hx ((hx.set k u hu).set (k + 1) v hv)⟩
  · rw [List.getElem?_set_ne (by rintro rfl; exact hi rfl)]
  · rw [List.getElem?_set_ne (by rintro rfl; exact hi (by omega)), List.getElem?_set_ne (by rintro rfl; exact hi rfl)]

set_option maxRecDepth 100000 in
set_option maxHeartbeats 4000000 in
theorem hashOneGroup_walk (a0 : ByteArray) (a1 : Option Addr) (len1 cap1 : Nat) (z1 : List Int) (a2 : Int) (a3 : Int) (a4 : Int) (w : World) (w0 : a0.size ≤ maxLen) (w1 : IsRow .u8 w a1 len1 cap1 z1) (h2 : (Lit.int .i64 a2).wf = true) (h3 : (Lit.int .u8 a3).wf = true) (h4 : (Lit.int .u8 a4).wf = true) :
    Calls Try.prog 6 #[.string a0, .slice a1 len1 cap1, .int .i64 a2, .int .u8 a3, .int .u8 a4] w fun e w' => e = .returned (.bool true) ∧ Below w.heap.size w w' := by
  obtain ⟨hr, hw⟩ := w1.row
  have hz := take_rng (u8_rng hw) (39 : Int).toNat
  obtain ⟨i0, hi, hz0, hz1, hz2⟩ := info_parts info_few
  clear w1 hw
  go_enter Try.func6, Try.ntmps6
  go_wp2_with fail
  refine (short_int a0 20 _ w0 (by decide) (by decide)).mono ?_
  rintro e W1 ⟨rfl, rfl⟩
  dsimp only
  have hs := short_size a0 20 (by decide)
  generalize a0.extract 0 (20 : Int).toNat = s at hs
  have hs1 : s.size ≤ 20 := by omega
  go_wp2_with fail
  refine (few_int _ _ 39 _ hr (by decide) (by decide)).mono ?_
  rintro e W2 ⟨a, cap, rfl, hown, hr2, b0⟩
  dsimp only
  have hlm : ((z1.take len1).take (39 : Int).toNat).length ≤ 39 := by rw [List.length_take]; exact Nat.min_le_left _ _
  clear hr2
  generalize (z1.take len1).take (39 : Int).toNat = zs at hown hlm hz ⊢
  have Hz : Hid (AreBytes zs) := Lib.hid hz
  clear hz hr
  go_wp2_with (at_builtin; refine wpList_append_own _ rfl _ _ 30 rfl W1.heap.size 5 i0 (.int .u8 0) 1 1 Try.underlying30 hi hz0 hz1 hz2 rfl (by decide) _ _ _ rfl (hown.alloc _) ⟨W2.heap.size, 0, none⟩ 1 1 [.int .u8 65] rfl rfl (cell_one_new _ _ _) (by simp [Value.oneCell']) (by unfold maxLen; omega) (by omega) (by have := b0.size; simp; omega) ?_; intro v' w2 hown' hgrow' _; obtain ⟨g', cap', rfl⟩ := ownsRow_succ hown')
  replace b0 : Below W1.heap.size W1 w2 := (laidB b0 _).grown hgrow' (by have := b0.size; simp; omega) (fun q e => own_base hown e)
  have b0' := b0.size
  have hr3 := row_of_owns (k := .u8) (zs := zs ++ [65]) (by rw [List.map_append]; exact hown')
  clear hown hown' hgrow'
  have hl1 : zs.length + 1 = (zs ++ [65]).length := hr3.2
  have hr4 := hr3.1
  clear hr3
  have Hx : Hid (AreBytes (zs ++ [65])) := Lib.hid (Hz.out.snoc 65 (by decide))
  clear Hz
  generalize hzt : zs ++ [65] = zt at hr4 hl1 Hx
  have htl : zt.length ≤ 40 := by omega
  have htp : 0 < zt.length := by omega
  clear hzt
  rw [hl1] at hr4
  rw [hl1]
  clear hl1 hlm
  obtain ⟨g2, o2, hge, hgl, _⟩ := hr4.at htp
  simp only [Option.some.injEq, Addr.mk.injEq, and_true] at hge
  obtain ⟨rfl, rfl⟩ := hge
  refine (few_int _ zt 40 _ hr4 (by decide) (by decide)).mono ?_
  rintro e W3 ⟨b, cpb, rfl, hown, hr5, hb⟩
  dsimp only
  rw [show zt.take (40 : Int).toNat = zt from List.take_of_length_le (by simpa using htl)] at hown hr5 ⊢
  have hra0 := hr4
  have hr4 := rowB hr4 hb
  have bb := hb.size
  replace b0 := stepB b0 hb; clear hb
  clear hr5
  obtain ⟨gb, rfl, hgb, _⟩ := owns_at hown htp
  go_wp2_with fail
  refine (around_any a2 zt.length _ h2 (by omega) (by omega)).mono ?_
  rintro e W4 ⟨rfl, rfl⟩
  dsimp only
  have hK0 := aroundI_lo a2 zt.length (by omega)
  have hK1 := aroundI_hi a2 zt.length (by omega)
  generalize aroundI a2 (zt.length : Int) = K at hK0 hK1 ⊢
  obtain ⟨k, rfl⟩ := Int.eq_ofNat_of_zero_le hK0
  have hk : k < zt.length := by omega
  have cb := owns_cell hown k hk
  have fb := hown.frozenAt k
  have hlb : zt.length ≤ cpb ∧ cpb ≤ maxLen := by
    have := (row_of_owns hown).1.lencap; exact this
  generalize hx : zt[k]?.getD 0 = x at cb
  have hlc := hr4.lencap
  unfold maxLen at hlb hlc
  have hset := owns_set hown k (bits .xor .u8 x a3)
  have hra : Row .u8 W4.heap.size (W4.setCell ⟨gb, k, none⟩ (.int .u8 (bits .xor .u8 x a3))) (.slice (some ⟨g', 0, none⟩) zt.length cap') zt := hr4.keep' (fun o => World.cell?_setCell_other _ _ _ _ (by intro h; cases h; omega))
  have b1 : Below W1.heap.size W1 (W4.setCell ⟨gb, k, none⟩ (.int .u8 (bits .xor .u8 x a3))) := b0.setCell (p := ⟨gb, k, none⟩) (by simp; omega) _
  have hki : (k : Int) < zt.length := by omega
  by_cases hlt : k + 1 < zt.length ∧ (k + 1) % 8 ≠ 0
  · obtain ⟨hlt1, h8⟩ := hlt
    have hli : (k : Int) + 1 < zt.length := by omega
    have h8i : (((k : Int) + 1) % 8 != 0) = true := by rw [bne_iff_ne]; omega
    have cb2 := owns_cell hset (k + 1) hlt1
    have fb2 := hset.frozenAt (k + 1)
    generalize hu : bits .xor .u8 x a3 = u at hset hra b1 cb2 fb2
    have hur : 0 ≤ u ∧ u < 256 := by rw [← hu]; exact xor8_rng _ _
    generalize (zt.set k u)[k + 1]?.getD 0 = x2 at cb2
    have hset2 := owns_set hset (k + 1) (bits .xor .u8 x2 a4)
    have M := (oneGroup_math (bytesI s) zt k u (bits .xor .u8 x2 a4) hk Hx.out hur (xor8_rng _ _)).2 h8
    have hra2 : Row .u8 W4.heap.size ((W4.setCell ⟨gb, k, none⟩ (.int .u8 u)).setCell ⟨gb, k + 1, none⟩ (.int .u8 (bits .xor .u8 x2 a4))) (.slice (some ⟨g', 0, none⟩) zt.length cap') zt := hra.keep' (fun o => World.cell?_setCell_other _ _ _ _ (by intro h; cases h; omega))
    have b2 : Below W1.heap.size W1 ((W4.setCell ⟨gb, k, none⟩ (.int .u8 u)).setCell ⟨gb, k + 1, none⟩ (.int .u8 (bits .xor .u8 x2 a4))) := b1.setCell (p := ⟨gb, k + 1, none⟩) (by simp; omega) _
    generalize hv : bits .xor .u8 x2 a4 = v at hset2 M hra2 b2
    have hrb := (row_of_owns hset2).1
    rw [World.size_setCell, World.size_setCell] at hrb
    have hy : ((zt.set k u).set (k + 1) v).length = zt.length := by simp
    have Hy := Lib.hid hy; clear hy
    generalize (zt.set k u).set (k + 1) v = zy at M hrb Hy
    clear hset hset2 hra b1 b0 hown hr4 hra0
    have M := Lib.hid M
    go_wp2_with fail
    clear cb fb cb2 fb2
    generalize hW5 : (W4.setCell ⟨gb, k, none⟩ (.int .u8 u)).setCell ⟨gb, k + 1, none⟩ (.int .u8 v) = W5 at hra2 hrb b2 ⊢
    have hsz : W5.heap.size = W4.heap.size := by rw [← hW5, World.size_setCell, World.size_setCell]
    rw [← hsz] at hra2 hrb
    clear hW5 hsz hu hv
    have M := M.out
    have hra := hra2
    have b1 := b2
    clear hra2 b2
    refine (bytes_any s _ _ _ zt (by omega) _ hra rfl (by omega)).mono ?_
    rintro e W6 ⟨rfl, hb⟩
    dsimp only
    have hra := rowB hra hb
    have hrb := rowB hrb hb
    have b1 := stepB b1 hb
    clear hb
    generalize sumI (bytesI s) ((wordsOf zt).map wrap64 ++ [(zt.length : Int)]) = X at M ⊢
    go_wp2_with fail
    refine (bytes_any s _ _ _ zy (by omega) _ hrb Hy.out.symm (by have := Hy.out; omega)).mono ?_
    rintro e W7 ⟨rfl, hb⟩
    dsimp only
    have hra := rowB hra hb
    have hrb := rowB hrb hb
    have b1 := stepB b1 hb
    clear hb
    generalize sumI (bytesI s) ((wordsOf zy).map wrap64 ++ [(zy.length : Int)]) = Y at M ⊢
    go_wp2_with fail
    refine (sameBytes_any _ _ _ zt _ _ _ zy _ hra hrb).mono ?_
    rintro e W8 ⟨rfl, hb⟩
    dsimp only
    have b1 := stepB b1 hb
    clear hb hra hrb
    generalize (zt == zy) = B at M ⊢
    go_wp2_with fail
    refine (lives_any _).mono ?_
    rintro e W9 ⟨rfl, hb⟩
    dsimp only
    have b1 := stepB b1 hb
    go_wp2_with fail
    go_ret
    exact ⟨rfl, b1⟩
  · have hfl : ((k : Int) + 1 < zt.length → (((k : Int) + 1) % 8 != 0) = false) := by
      intro h
      rw [bne_eq_false_iff_eq]
      by_cases h8 : (k + 1) % 8 = 0
      · omega
      · exact absurd ⟨by omega, h8⟩ hlt
    clear hlt
    generalize hu : bits .xor .u8 x a3 = u at hset hra b1
    have hur : 0 ≤ u ∧ u < 256 := by rw [← hu]; exact xor8_rng _ _
    have M := (oneGroup_math (bytesI s) zt k u 0 hk Hx.out hur (by decide)).1
    have hrb := (row_of_owns hset).1
    rw [World.size_setCell] at hrb
    have hy : (zt.set k u).length = zt.length := by simp
    have Hy := Lib.hid hy; clear hy
    generalize zt.set k u = zy at M hrb Hy
    clear hset b0 hown hr4 hra0
    have M := Lib.hid M
    by_cases hlt1 : k + 1 < zt.length
    · have hli : (k : Int) + 1 < zt.length := by omega
      have h8i := hfl hli
      clear hfl
      go_wp2_with fail
      clear cb fb
      generalize hW5 : W4.setCell ⟨gb, k, none⟩ (.int .u8 u) = W5 at hra hrb b1 ⊢
      have hsz : W5.heap.size = W4.heap.size := by rw [← hW5, World.size_setCell]
      rw [← hsz] at hra hrb
      clear hW5 hsz hu
      have M := M.out
      refine (bytes_any s _ _ _ zt (by omega) _ hra rfl (by omega)).mono ?_
      rintro e W6 ⟨rfl, hb⟩
      dsimp only
      have hra := rowB hra hb
      have hrb := rowB hrb hb
      have b1 := stepB b1 hb
      clear hb
      generalize sumI (bytesI s) ((wordsOf zt).map wrap64 ++ [(zt.length : Int)]) = X at M ⊢
      go_wp2_with fail
      refine (bytes_any s _ _ _ zy (by omega) _ hrb Hy.out.symm (by have := Hy.out; omega)).mono ?_
      rintro e W7 ⟨rfl, hb⟩
      dsimp only
      have hra := rowB hra hb
      have hrb := rowB hrb hb
      have b1 := stepB b1 hb
      clear hb
      generalize sumI (bytesI s) ((wordsOf zy).map wrap64 ++ [(zy.length : Int)]) = Y at M ⊢
      go_wp2_with fail
      refine (sameBytes_any _ _ _ zt _ _ _ zy _ hra hrb).mono ?_
      rintro e W8 ⟨rfl, hb⟩
      dsimp only
      have b1 := stepB b1 hb
      clear hb hra hrb
      generalize (zt == zy) = B at M ⊢
      go_wp2_with fail
      refine (lives_any _).mono ?_
      rintro e W9 ⟨rfl, hb⟩
      dsimp only
      have b1 := stepB b1 hb
      go_wp2_with fail
      go_ret
      exact ⟨rfl, b1⟩
    · have hli : ¬ (k : Int) + 1 < zt.length := by omega
      clear hfl
      go_wp2_with fail
      clear cb fb
      generalize hW5 : W4.setCell ⟨gb, k, none⟩ (.int .u8 u) = W5 at hra hrb b1 ⊢
      have hsz : W5.heap.size = W4.heap.size := by rw [← hW5, World.size_setCell]
      rw [← hsz] at hra hrb
      clear hW5 hsz hu
      have M := M.out
      refine (bytes_any s _ _ _ zt (by omega) _ hra rfl (by omega)).mono ?_
      rintro e W6 ⟨rfl, hb⟩
      dsimp only
      have hra := rowB hra hb
      have hrb := rowB hrb hb
      have b1 := stepB b1 hb
      clear hb
      generalize sumI (bytesI s) ((wordsOf zt).map wrap64 ++ [(zt.length : Int)]) = X at M ⊢
      go_wp2_with fail
      refine (bytes_any s _ _ _ zy (by omega) _ hrb Hy.out.symm (by have := Hy.out; omega)).mono ?_
      rintro e W7 ⟨rfl, hb⟩
      dsimp only
      have hra := rowB hra hb
      have hrb := rowB hrb hb
      have b1 := stepB b1 hb
      clear hb
      generalize sumI (bytesI s) ((wordsOf zy).map wrap64 ++ [(zy.length : Int)]) = Y at M ⊢
      go_wp2_with fail
      refine (sameBytes_any _ _ _ zt _ _ _ zy _ hra hrb).mono ?_
      rintro e W8 ⟨rfl, hb⟩
      dsimp only
      have b1 := stepB b1 hb
      clear hb hra hrb
      generalize (zt == zy) = B at M ⊢
      go_wp2_with fail
      refine (lives_any _).mono ?_
      rintro e W9 ⟨rfl, hb⟩
      dsimp only
      have b1 := stepB b1 hb
      go_wp2_with fail
      go_ret
      exact ⟨rfl, b1⟩
end Go.Proofs.Ytjgeefnackhnpaa
