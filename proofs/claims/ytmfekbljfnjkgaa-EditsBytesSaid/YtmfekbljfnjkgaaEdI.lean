/- Contracts for package edits: the law's lives. -/
import Derived.Test.YtmfekbljfnjkgaaEdE
import Derived.Test.YtmfekbljfnjkgaaEdH
import Derived.Test.YtmfekbljfnjkgaaTxtG
namespace Go.Proofs.Ytmfekbljfnjkgaa
open Go.RowKit Go.Shelf
set_option linter.unusedVariables false

/-- A new box with an edit in it. -/
theorem boxNew (W : World) (u0 u1 u2 : Value) : ∃ X, X = W.alloc (.cells #[u0, u1, u2] 25) ∧ Cel X W.heap.size 25 #[u0, u1, u2] ∧ Below W.heap.size W X ∧ X.heap.size = W.heap.size + 1 :=
  ⟨_, rfl, Cel.new W 25 #[u0, u1, u2], laidB (Below.refl W.heap.size W) _, by simp⟩
/-- A literal slice. -/
theorem litR {k : IntKind} (w : World) (e : TypeId) (zs : List Int) (hm : zs.length ≤ 1000) (n : Nat) (hn : n = zs.length) (c : Array Value) (hc : c = (zs.map (Value.int k)).toArray) : Row k (w.alloc (.cells c e)).heap.size (w.alloc (.cells c e)) (.slice (some ⟨w.heap.size, 0, none⟩) n n) zs := by
  rw [World.size_alloc]
  exact row_new w e zs (by unfold maxLen; omega) n hn c hc
/-- Move on two literals, the first with one symbol, the second with three. -/
theorem move_lit (W : World) (x y p q A B : Int) (hf : wfE x y [9] = true) (hg : wfE p q [1, 2, 3] = true) (hA : movAt x p q 3 = A) (hB : movDel x y p q 3 = B) :
    Calls Try.prog 13 #[.agg #[.int .i64 x, .int .i64 y, .slice (some ⟨W.heap.size, 0, none⟩) 1 1], .agg #[.int .i64 p, .int .i64 q, .slice (some ⟨W.heap.size + 1, 0, none⟩) 3 3]] ((W.alloc (.cells #[.int .i64 9] 3)).alloc (.cells #[.int .i64 1, .int .i64 2, .int .i64 3] 3)) fun e w' => ∃ a2 c2, e = .returned (.tuple #[.agg #[.int .i64 A, .int .i64 B, .slice a2 1 c2], .int .i64 0]) ∧ Below W.heap.size W w' := by
  have b0 := laidB (laidB (Below.refl W.heap.size W) (.cells #[.int .i64 9] 3)) (.cells #[.int .i64 1, .int .i64 2, .int .i64 3] 3)
  have r9 := rowB (litR (k := .i64) W 3 [9] (by decide) 1 rfl #[.int .i64 9] rfl) (laidB (Below.refl _ _) (.cells #[.int .i64 1, .int .i64 2, .int .i64 3] 3))
  have r3 := litR (k := .i64) (W.alloc (.cells #[.int .i64 9] 3)) 3 [1, 2, 3] (by decide) 3 rfl #[.int .i64 1, .int .i64 2, .int .i64 3] rfl
  rw [show (W.alloc (.cells #[.int .i64 9] 3)).heap.size = W.heap.size + 1 from by simp] at r3
  subst hA hB
  refine (move_ok x y _ 1 [9] p q _ 3 [1, 2, 3] _ r9 r3 hf hg).mono ?_
  rintro e w' ⟨a2, c2, rfl, _, hb⟩
  exact ⟨a2, c2, rfl, stepB b0 hb⟩
theorem diff_lit (W : World) :
    Calls Try.prog 25 #[.slice (some ⟨W.heap.size, 0, none⟩) 4 4, .slice (some ⟨W.heap.size + 1, 0, none⟩) 3 3] ((W.alloc (.cells #[.int .i64 1, .int .i64 2, .int .i64 2, .int .i64 3] 3)).alloc (.cells #[.int .i64 1, .int .i64 2, .int .i64 3] 3)) fun e w' => ∃ a2 c2, e = .returned (.agg #[.int .i64 2, .int .i64 1, .slice a2 0 c2]) ∧ Row .i64 w'.heap.size w' (.slice a2 0 c2) [] ∧ Below W.heap.size W w' := by
  have b0 := laidB (laidB (Below.refl W.heap.size W) (.cells #[.int .i64 1, .int .i64 2, .int .i64 2, .int .i64 3] 3)) (.cells #[.int .i64 1, .int .i64 2, .int .i64 3] 3)
  have r9 := rowB (litR (k := .i64) W 3 [1, 2, 2, 3] (by decide) 4 rfl #[.int .i64 1, .int .i64 2, .int .i64 2, .int .i64 3] rfl) (laidB (Below.refl _ _) (.cells #[.int .i64 1, .int .i64 2, .int .i64 3] 3))
  have r3 := litR (k := .i64) (W.alloc (.cells #[.int .i64 1, .int .i64 2, .int .i64 2, .int .i64 3] 3)) 3 [1, 2, 3] (by decide) 3 rfl #[.int .i64 1, .int .i64 2, .int .i64 3] rfl
  rw [show (W.alloc (.cells #[.int .i64 1, .int .i64 2, .int .i64 2, .int .i64 3] 3)).heap.size = W.heap.size + 1 from by simp] at r3
  refine (diff_any _ 4 [1, 2, 2, 3] _ 3 [1, 2, 3] _ r9 r3 (by decide) (by decide)).mono ?_
  rintro e w' ⟨p, s, D, a2, c2, hp, hs, hD, rfl, hr, hb⟩
  obtain rfl : p = 2 := isPre_one hp ⟨by decide, by decide, by decide, by decide⟩
  obtain rfl : s = 1 := isSuf_one hs ⟨by decide, by decide, by decide, by decide⟩
  subst hD
  exact ⟨a2, c2, rfl, hr, stepB b0 hb⟩
set_option maxRecDepth 100000 in
set_option maxHeartbeats 4000000 in
theorem lives27_any (w : World) : Calls Try.prog 17 #[] w fun e W' => e = .returned (.bool true) ∧ Below w.heap.size w W' := by
  go_enter Try.func17, Try.ntmps17
  go_wp2_with fail
  refine (move_lit w 5 0 1 2 6 0 (by decide) (by decide) (by decide) (by decide)).mono ?_
  rintro e w1 ⟨a1, c1, rfl, b1⟩
  dsimp only
  obtain ⟨X1, hX1, C1, k1, s1⟩ := boxNew w1 (.int .i64 6) (.int .i64 0) (.slice a1 1 c1)
  have B1 := stepB b1 k1
  go_wp2_with fail
  rw [← hX1]
  simp only [← s1]
  refine (move_lit X1 5 0 5 0 8 0 (by decide) (by decide) (by decide) (by decide)).mono ?_
  rintro e w2 ⟨a2, c2, rfl, b2⟩
  dsimp only
  obtain ⟨X2, hX2, C2, k2, s2⟩ := boxNew w2 (.int .i64 8) (.int .i64 0) (.slice a2 1 c2)
  have D1 := C1.step (stepB b2 k2)
  have B2 := stepB B1 (stepB b2 k2)
  clear hX1 k1 s1 B1 b1 C1
  go_wp2_with fail
  rw [← hX2]
  refine (move_ok 2 4 none 0 [] 4 4 none 0 [] X2 (nil_row .i64 _ _) (nil_row .i64 _ _) (by decide) (by decide)).mono ?_
  rintro e w3 ⟨a3, c3, rfl, -, b3⟩
  rw [show movAt 2 4 4 (([] : List Int).length : Int) = 2 from by decide, show movDel 2 4 4 4 (([] : List Int).length : Int) = 2 from by decide]
  dsimp only
  obtain ⟨X3, hX3, C3, k3, s3⟩ := boxNew w3 (.int .i64 2) (.int .i64 2) (.slice a3 0 c3)
  have E1 := D1.step (stepB b3 k3)
  have E2 := C2.step (stepB b3 k3)
  have B3 := stepB B2 (stepB b3 k3)
  clear hX2 k2 s2 B2 b2 C2 D1
  go_wp2_with fail
  rw [← hX3]
  simp only [← s3]
  refine (diff_lit X3).mono ?_
  rintro e w4 ⟨a4, c4, rfl, hr4, b4⟩
  dsimp only
  obtain ⟨X4, hX4, C4, k4, s4⟩ := boxNew w4 (.int .i64 2) (.int .i64 1) (.slice a4 0 c4)
  have F1 := E1.step (stepB b4 k4)
  have F2 := E2.step (stepB b4 k4)
  have F3 := C3.step (stepB b4 k4)
  have B4 := stepB B3 (stepB b4 k4)
  have hr5 := rowB hr4 k4
  have x10 : X4.cell? ⟨w1.heap.size, 0, none⟩ = some (.int .i64 6) := F1.cell 0
  have x11 : X4.cell? ⟨w1.heap.size, 1, none⟩ = some (.int .i64 0) := F1.cell 1
  have x20 : X4.cell? ⟨w2.heap.size, 0, none⟩ = some (.int .i64 8) := F2.cell 0
  have x30 : X4.cell? ⟨w3.heap.size, 0, none⟩ = some (.int .i64 2) := F3.cell 0
  have x31 : X4.cell? ⟨w3.heap.size, 1, none⟩ = some (.int .i64 2) := F3.cell 1
  have x40 : X4.cell? ⟨w4.heap.size, 0, none⟩ = some (.int .i64 2) := C4.cell 0
  have x41 : X4.cell? ⟨w4.heap.size, 1, none⟩ = some (.int .i64 1) := C4.cell 1
  have x42 : X4.cell? ⟨w4.heap.size, 2, none⟩ = some (.slice a4 0 c4) := C4.cell 2
  rw [hX4] at x10 x11 x20 x30 x31 x40 x41 x42
  clear hX3 k3 s3 B3 b3 C3 E1 E2 hr4 F1 F2 F3 C4
  go_wp2_with fail
  rw [← hX4]
  refine (sameEdit_self 2 1 a4 c4 none 0 [] X4 hr5 (nil_row .i64 _ _)).mono ?_
  rintro e w5 ⟨rfl, b5⟩
  have B5 := stepB B4 b5
  clear x10 x11 x20 x30 x31 x40 x41 x42 hX4
  dsimp only
  go_wp2_with fail
  go_ret
  exact ⟨rfl, B5⟩
end Go.Proofs.Ytmfekbljfnjkgaa
