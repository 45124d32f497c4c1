/- The documented example of package meter. -/
import Derived.Test.YtcohajmappdckaaMtF
namespace Go.Proofs.Ytcohajmappdckaa
open Go.RowKit Go.Shelf
set_option linter.unusedVariables false

theorem litM (w : World) (zs : List Int) (hm : zs.length ≤ 1000) (n : Nat) (hn : n = zs.length) (c : Array Value) (hc : c = (zs.map (Value.int .i64)).toArray) : Row .i64 (w.alloc (.cells c 3)).heap.size (w.alloc (.cells c 3)) (.slice (some ⟨w.heap.size, 0, none⟩) n n) zs := by
  rw [World.size_alloc]
  exact row_new w 3 zs (by unfold maxLen; omega) n hn c hc
/-- A step of a meter that gives a number. -/
theorem take_is (p u : Nat) (s s' : MS) (r n t g : Int) (w : World) (h : Mt w p u s) (he : s.take r n t = (g, 0, s')) :
    Calls Try.prog 19 #[.pointer (some ⟨p, 0, none⟩), .int .i64 r, .int .i64 n, .int .i64 t] w fun e w' => e = .returned (.tuple #[.int .i64 g, .int .i64 0]) ∧ Mt w' p u s' ∧ OnlyP (Two p u) w w' := by
  have := take_any p u s r n t w h
  rw [he] at this
  exact this
set_option maxRecDepth 100000 in
set_option maxHeartbeats 4000000 in
theorem lives33_any (w : World) : Calls Try.prog 18 #[] w fun e W' => e = .returned (.bool true) ∧ Below w.heap.size w W' := by
  go_enter Try.func18, Try.ntmps18
  go_wp2_with fail
  refine (new_ok 1 1 rfl 10 100 w (by decide) (by decide) (by decide) (by decide) (by decide) (by decide)).mono ?_
  rintro e w1 ⟨p, u, rfl, hp, hu, hM, b1⟩
  dsimp only
  go_wp2_with fail
  refine (take_is p u _ ⟨10, 100, 50, [7]⟩ 0 7 50 7 _ hM (by kernel_rfl)).mono ?_
  rintro e w2 ⟨rfl, hM2, o2⟩
  replace b1 := b1.trans (o2.below b1.size (fun k hk => by rcases hk with rfl | rfl <;> assumption))
  clear hM o2
  dsimp only
  go_wp2_with fail
  refine (take_is p u _ ⟨10, 100, 99, [10]⟩ 0 7 99 3 _ hM2 (by kernel_rfl)).mono ?_
  rintro e w3 ⟨rfl, hM3, o2⟩
  replace b1 := b1.trans (o2.below b1.size (fun k hk => by rcases hk with rfl | rfl <;> assumption))
  clear hM2 o2
  dsimp only
  go_wp2_with fail
  refine (take_is p u _ ⟨10, 100, 100, [7]⟩ 0 7 100 7 _ hM3 (by kernel_rfl)).mono ?_
  rintro e w4 ⟨rfl, hM4, o2⟩
  replace b1 := b1.trans (o2.below b1.size (fun k hk => by rcases hk with rfl | rfl <;> assumption))
  clear hM3 o2 hM4 hp hu
  dsimp only
  have r1 := litM w4 [1, 1, 1] (by decide) 3 rfl #[.int .i64 1, .int .i64 1, .int .i64 1] rfl
  have hsh := shares_ok 10 (some ⟨w4.heap.size, 0, none⟩) 3 [1, 1, 1] _ r1 ⟨by decide, by decide, by decide, by decide, by decide, by decide⟩ (by decide)
  rw [shares_ex] at hsh
  have HS := Lib.hid hsh
  have B4 := Lib.hid (laidB b1 (.cells #[.int .i64 1, .int .i64 1, .int .i64 1] 3))
  clear hsh r1 b1
  go_wp2_with fail
  refine HS.out.mono ?_
  rintro e w5 ⟨a2, rfl, hr5, b5⟩
  have b6 := stepB B4.out b5
  have b7 := laidB b6 (.cells #[.int .i64 4, .int .i64 3, .int .i64 3] 3)
  have r2 := litM w5 [4, 3, 3] (by decide) 3 rfl #[.int .i64 4, .int .i64 3, .int .i64 3] rfl
  have hr6 := rowB hr5 (laidB (Below.refl _ _) (.cells #[.int .i64 4, .int .i64 3, .int .i64 3] 3))
  have hsm := sameInts_any a2 3 3 [4, 3, 3] _ 3 3 [4, 3, 3] _ hr6 r2
  rw [show (([4, 3, 3] : List Int) == [4, 3, 3]) = true from by decide] at hsm
  have HSM := Lib.hid hsm
  have B7 := Lib.hid b7
  clear hsm r2 hr6 hr5 b5 b6 b7 HS B4
  dsimp only
  go_wp2_with fail
  refine HSM.out.mono ?_
  rintro e w6 ⟨rfl, b8⟩
  dsimp only
  go_wp2_with fail
  go_ret
  exact ⟨rfl, stepB B7.out b8⟩
end Go.Proofs.Ytcohajmappdckaa
