/- HashOneWord: the walk. -/
import Derived.Test.YtjgeefnackhnpaaRefSum
import Derived.Test.YtjgeefnackhnpaaHashMath2
import Derived.Test.YtjgeefnackhnpaaRows3
import Derived.Deep.RegionWith
namespace Go.Proofs.Ytjgeefnackhnpaa
open Go.RowKit Go.Shelf
set_option linter.unusedVariables false

set_option maxHeartbeats 2000000 in
theorem hashOneWord_walk (a0 : ByteArray) (a1 : Option Addr) (len1 cap1 : Nat) (z1 : List Int) (a2 : Int) (a3 : Int) (w : World) (w0 : a0.size ≤ maxLen) (w1 : IsRow .i64 w a1 len1 cap1 z1) (h2 : (Lit.int .i64 a2).wf = true) (h3 : (Lit.int .i64 a3).wf = true) :
    Calls Try.prog 5 #[.string a0, .slice a1 len1 cap1, .int .i64 a2, .int .i64 a3] w fun e w' => e = .returned (.bool true) ∧ Below w.heap.size w w' := by
  obtain ⟨hr, hw⟩ := w1.row
  obtain ⟨i0, hi, hz0, hz1, hz2⟩ := info_parts info_ints
  clear w1
  go_enter Try.func5, Try.ntmps5
  go_wp2_with fail
  refine (short_int a0 20 _ w0 (by decide) (by decide)).mono ?_
  rintro e W1 ⟨rfl, rfl⟩
  dsimp only
  have hs := short_size a0 20 (by decide)
  generalize a0.extract 0 (20 : Int).toNat = s at hs
  have hs1 : s.size ≤ 20 := by omega
  go_wp2_with fail
  refine (ints_int _ _ 9 _ hr (by decide) (by decide)).mono ?_
  rintro e W2 ⟨a, cap, rfl, hown, hr2, b0⟩
  dsimp only
  have hlm : ((z1.take len1).take (9 : Int).toNat).length ≤ 9 := by rw [List.length_take]; exact Nat.min_le_left _ _
  have hwf := take_wf hw (9 : Int).toNat
  clear hr2
  generalize (z1.take len1).take (9 : Int).toNat = zs at hown hlm hwf ⊢
  have hwf := Lib.hid hwf
  go_wp2_with (at_builtin; refine wpList_append_own _ rfl _ _ 22 rfl W1.heap.size 3 i0 (.int .i64 0) 1 8 Try.underlying22 hi hz0 hz1 hz2 rfl (by decide) _ _ _ rfl (hown.alloc _) ⟨W2.heap.size, 0, none⟩ 1 1 [.int .i64 7] rfl rfl (cell_one_new _ _ _) (by simp [Value.oneCell']) (by unfold maxLen; omega) (by omega) (by have := b0.size; simp; omega) ?_; intro v' w2 hown' hgrow' _; obtain ⟨g', cap', rfl⟩ := ownsRow_succ hown')
  replace b0 : Below W1.heap.size W1 w2 := (laidB b0 _).grown hgrow' (by have := b0.size; simp; omega) (fun q e => own_base hown e)
  have b0' := b0
  have hr3 := row_of_owns (k := .i64) (zs := zs ++ [7]) (by rw [List.map_append]; exact hown')
  clear hown hown' hgrow'
  have hl1 : zs.length + 1 = (zs ++ [7]).length := hr3.2
  have hr4 := hr3.1
  clear hr3
  have hwf2 : Hid (∀ n ∈ zs ++ [7], (Lit.int .i64 n).wf = true) := Lib.hid (by
    intro n hn
    rcases List.mem_append.1 hn with h | h
    · exact hwf.out n h
    · simp at h; subst h; decide)
  clear hwf
  generalize hzt : zs ++ [7] = zt at hr4 hl1 hwf2
  have htl : zt.length ≤ 10 := by omega
  have htp : 0 < zt.length := by omega
  clear hzt
  rw [hl1] at hr4
  rw [hl1]
  clear hl1 hlm
  obtain ⟨g2, o2, hge, hgl, _⟩ := hr4.at htp
  simp only [Option.some.injEq, Addr.mk.injEq, and_true] at hge
  obtain ⟨rfl, rfl⟩ := hge
  refine (ints_int _ zt 10 _ hr4 (by decide) (by decide)).mono ?_
  rintro e W3 ⟨b, cpb, rfl, hown, hr5, hb⟩
  dsimp only
  rw [show zt.take (10 : Int).toNat = zt from List.take_of_length_le (by simpa using htl)] at hown hr5 ⊢
  have hr4 := rowB hr4 hb
  replace b0 := stepB b0 hb; clear hb
  clear hr5
  obtain ⟨gb, rfl, hgb, _⟩ := owns_at hown htp
  go_wp2_with fail
  refine (around_any a2 zt.length _ h2 (by omega) (by omega)).mono ?_
  rintro e W4 ⟨rfl, rfl⟩
  dsimp only
  have hK0 := aroundI_lo a2 zt.length (by omega)
  have hK1 := aroundI_hi a2 zt.length (by omega)
  generalize aroundI a2 (zt.length : Int) = K at hK0 hK1 ⊢
  obtain ⟨k, rfl⟩ := Int.eq_ofNat_of_zero_le hK0
  have hk : k < zt.length := by omega
  have cb := owns_cell hown k hk
  have fb := hown.frozenAt k
  have hset := owns_set hown k a3
  have hcs := (hr4.at htp)
  obtain ⟨g3, o3, hge, hgl3, hca⟩ := hcs
  simp only [Option.some.injEq, Addr.mk.injEq, and_true] at hge
  obtain ⟨rfl, rfl⟩ := hge
  have hra : Row .i64 W4.heap.size (W4.setCell ⟨gb, k, none⟩ (.int .i64 a3)) (.slice (some ⟨g', 0, none⟩) zt.length cap') zt := hr4.keep' (fun o => World.cell?_setCell_other _ _ _ _ (by intro h; cases h; omega))
  have hrb : Row .i64 W4.heap.size (W4.setCell ⟨gb, k, none⟩ (.int .i64 a3)) (.slice (some ⟨gb, 0, none⟩) (zt.set k a3).length cpb) (zt.set k a3) := by
    have := (row_of_owns hset).1
    rw [World.size_setCell] at this
    rw [List.length_set]
    exact this
  rw [List.length_set] at hrb
  have hlc := hr4.lencap
  have hlb := hrb.lencap
  have b1 : Below W1.heap.size W1 (W4.setCell ⟨gb, k, none⟩ (.int .i64 a3)) := b0.setCell (p := ⟨gb, k, none⟩) (by have := b0'.size; have := b0.size; simp; omega) _
  have hck : (W4.setCell ⟨gb, k, none⟩ (.int .i64 a3)).cell? ⟨g', k, none⟩ = some (.int .i64 (zt[k]?.getD 0)) := by
    rw [World.cell?_setCell_other _ _ _ _ (by intro h; cases h; omega)]
    have := hca k hk
    rwa [Nat.zero_add] at this
  have HE := oneWord (bytesI s) zt k a3 hk hwf2.out h3
  have hki : (k : Int) < zt.length := by omega
  have hsl : (zt.set k a3).length = zt.length := List.length_set
  have hwl1 : zt.length ≤ maxLen := by unfold maxLen; omega
  clear hown hset hr4 hca hgl3 hgl hwf2
  go_wp2_with fail
  clear cb fb
  generalize hW5 : W4.setCell ⟨gb, k, none⟩ (.int .i64 a3) = W5 at hra hrb b1 hck ⊢
  have hsz : W5.heap.size = W4.heap.size := by rw [← hW5, World.size_setCell]
  rw [← hsz] at hra hrb
  clear hW5 hsz b0
  have hsl := Lib.hid hsl
  generalize zt[k]?.getD 0 = x at hck HE
  generalize zt.set k a3 = zu at hrb HE hsl
  have bd : Below W5.heap.size W5 W5.drew := (Below.refl _ _).drew
  have hra := rowB hra bd
  have hrb := rowB hrb bd
  have hck := cellB hck bd
  have b1 := stepB b1 bd
  clear bd
  go_region_with (first | (go_at_call 15; refine (lives_any _).mono ?_; rintro e W9 ⟨rfl, hb⟩; have b1 := stepB b1 hb) | (go_at_call 13; refine (sum_any s _ _ _ _ (by omega) _ (by assumption) (by first | rfl | exact hsl.out.symm) (by first | assumption | (rw [hsl.out]; assumption))).mono ?_; rintro e W9 ⟨rfl, hb⟩; have b1 := stepB b1 hb; have hra := rowB hra hb; have hrb := rowB hrb hb; have hck := cellB hck hb))
  all_goals (go_wp2; go_ret; exact ⟨rfl, b1⟩)
end Go.Proofs.Ytjgeefnackhnpaa
