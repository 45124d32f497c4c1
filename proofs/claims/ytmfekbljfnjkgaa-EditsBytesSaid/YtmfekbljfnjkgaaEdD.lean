/- Contracts for package edits: moved. -/
import Derived.Test.YtmfekbljfnjkgaaEdC
namespace Go.Proofs.Ytmfekbljfnjkgaa
open Go.RowKit Go.Shelf
set_option linter.unusedVariables false

/-- Where an edit's begin and number of symbols stand after another edit. -/
def movAt (x p q n : Int) : Int := if p + q ≤ x ∧ p ≤ x then x + (n - q) else if p ≤ x then p + n else x
def movTo (t p q n : Int) : Int := if t ≤ p then t else if p + q ≤ t then t + (n - q) else p
def movDel (x y p q n : Int) : Int := if 0 < y then max 0 (movTo (x + y) p q n - movAt x p q n) else 0
set_option maxRecDepth 100000 in
set_option maxHeartbeats 4000000 in
theorem moved_any (x y : Int) (ai : Option Addr) (ni ci : Nat) (p q : Int) (bi : Option Addr) (n di : Nat) (w : World) (hx : 0 ≤ x ∧ x ≤ 65536) (hy : 0 ≤ y ∧ y ≤ 65536) (hp : 0 ≤ p ∧ p ≤ 65536) (hq : 0 ≤ q ∧ q ≤ 65536) (hn : n ≤ 65536) :
    Calls Try.prog 45 #[.agg #[.int .i64 x, .int .i64 y, .slice ai ni ci], .agg #[.int .i64 p, .int .i64 q, .slice bi n di]] w fun e w' => e = .returned (.agg #[.int .i64 (movAt x p q n), .int .i64 (movDel x y p q n), .slice ai ni ci]) ∧ Below w.heap.size w w' := by
  obtain ⟨hx0, hx1⟩ := hx
  obtain ⟨hy0, hy1⟩ := hy
  obtain ⟨hp0, hp1⟩ := hp
  obtain ⟨hq0, hq1⟩ := hq
  obtain ⟨N, hN⟩ : ∃ N : Int, (n : Int) = N := ⟨_, rfl⟩
  have hN1 : 0 ≤ N ∧ N ≤ 65536 := by omega
  have b0 := laidB (laidB (laidB (Below.refl w.heap.size w) (.cells #[.int .i64 x, .int .i64 y, .slice ai ni ci] 25)) (.cells #[.int .i64 p, .int .i64 q, .slice bi n di] 25)) (.cells #[.int .i64 0, .int .i64 0, .slice none 0 0] 25)
  have C0 := ((Cel.new w 25 #[.int .i64 x, .int .i64 y, .slice ai ni ci]).alloc (.cells #[.int .i64 p, .int .i64 q, .slice bi n di] 25)).alloc (.cells #[.int .i64 0, .int .i64 0, .slice none 0 0] 25)
  have D0 := (Cel.new (w.alloc (.cells #[.int .i64 x, .int .i64 y, .slice ai ni ci] 25)) 25 #[.int .i64 p, .int .i64 q, .slice bi n di]).alloc (.cells #[.int .i64 0, .int .i64 0, .slice none 0 0] 25)
  have F0 := Cel.new ((w.alloc (.cells #[.int .i64 x, .int .i64 y, .slice ai ni ci] 25)).alloc (.cells #[.int .i64 p, .int .i64 q, .slice bi n di] 25)) 25 #[.int .i64 0, .int .i64 0, .slice none 0 0]
  rw [show (w.alloc (.cells #[.int .i64 x, .int .i64 y, .slice ai ni ci] 25)).heap.size = w.heap.size + 1 from by simp] at D0
  rw [show ((w.alloc (.cells #[.int .i64 x, .int .i64 y, .slice ai ni ci] 25)).alloc (.cells #[.int .i64 p, .int .i64 q, .slice bi n di] 25)).heap.size = w.heap.size + 2 from by simp] at F0
  go_enter Try.func45, Try.ntmps45
  go_wp2_with fail
  generalize hW : ((w.alloc (.cells #[.int .i64 x, .int .i64 y, .slice ai ni ci] 25)).alloc (.cells #[.int .i64 p, .int .i64 q, .slice bi n di] 25)).alloc (.cells #[.int .i64 0, .int .i64 0, .slice none 0 0] 25) = W1 at *
  have hs1 : w.heap.size + 3 ≤ W1.heap.size := by rw [← hW]; simp
  clear hW
  have c0 : W1.cell? ⟨w.heap.size, 0, none⟩ = some (.int .i64 x) := C0.cell 0
  have c1 : W1.cell? ⟨w.heap.size, 1, none⟩ = some (.int .i64 y) := C0.cell 1
  have c2 : W1.cell? ⟨w.heap.size, 2, none⟩ = some (.slice ai ni ci) := C0.cell 2
  have d0 : W1.cell? ⟨w.heap.size + 1, 0, none⟩ = some (.int .i64 p) := D0.cell 0
  have d1 : W1.cell? ⟨w.heap.size + 1, 1, none⟩ = some (.int .i64 q) := D0.cell 1
  have d2 : W1.cell? ⟨w.heap.size + 1, 2, none⟩ = some (.slice bi n di) := D0.cell 2
  have s1 : IntKind.i64.wrap (p + q) = p + q := IntWalk.i64_in _ (by omega)
  have s2 : IntKind.i64.wrap (x + y) = x + y := IntWalk.i64_in _ (by omega)
  have S1 := Lib.hid s1
  have S2 := Lib.hid s2
  clear s2
  go_quiet (fail)
  clear s1
  have b1 := below_drewN b0 nq
  have F1 : Cel (W1.drewN nq) (w.heap.size + 2) 25 #[.int .i64 0, .int .i64 0, .slice none 0 0] := F0
  have C1 : Cel (W1.drewN nq) w.heap.size 25 #[.int .i64 x, .int .i64 y, .slice ai ni ci] := C0
  have D1 : Cel (W1.drewN nq) (w.heap.size + 1) 25 #[.int .i64 p, .int .i64 q, .slice bi n di] := D0
  have hs1' : w.heap.size + 3 ≤ (W1.drewN nq).heap.size := hs1
  clear c0 c1 c2 d0 d1 d2 C0 D0 F0 b0 hs1
  generalize W1.drewN nq = Wq at *
  have c0 : Wq.cell? ⟨w.heap.size, 0, none⟩ = some (.int .i64 x) := C1.cell 0
  have c1 : Wq.cell? ⟨w.heap.size, 1, none⟩ = some (.int .i64 y) := C1.cell 1
  have d1 : Wq.cell? ⟨w.heap.size + 1, 1, none⟩ = some (.int .i64 q) := D1.cell 1
  have d2 : Wq.cell? ⟨w.heap.size + 1, 2, none⟩ = some (.slice bi n di) := D1.cell 2
  go_wp2_with fail
  have s2 := S2.out
  go_quiet (fail)
  clear s2
  have b2 := below_drewN b1 nq
  have F2 : Cel (Wq.drewN nq) (w.heap.size + 2) 25 #[.int .i64 0, .int .i64 0, .slice none 0 0] := F1
  have C2 : Cel (Wq.drewN nq) w.heap.size 25 #[.int .i64 x, .int .i64 y, .slice ai ni ci] := C1
  have D2 : Cel (Wq.drewN nq) (w.heap.size + 1) 25 #[.int .i64 p, .int .i64 q, .slice bi n di] := D1
  have hs2 : w.heap.size + 3 ≤ (Wq.drewN nq).heap.size := hs1'
  clear c0 c1 d1 d2 C1 D1 F1 b1 hs1'
  generalize Wq.drewN nq = W2 at *
  have c1 : W2.cell? ⟨w.heap.size, 1, none⟩ = some (.int .i64 y) := C2.cell 1
  have c2 : W2.cell? ⟨w.heap.size, 2, none⟩ = some (.slice ai ni ci) := C2.cell 2
  have d2 : W2.cell? ⟨w.heap.size + 1, 2, none⟩ = some (.slice bi n di) := D2.cell 2
  have y1 : ∀ o, (W2.alloc o).cell? ⟨w.heap.size, 1, none⟩ = some (.int .i64 y) := fun o => (C2.alloc o).cell 1
  have fc0 : ∀ o, (W2.alloc o).cell? ⟨w.heap.size + 2, 0, none⟩ = some (.int .i64 0) := fun o => (F2.alloc o).cell 0
  have ff0 : ∀ o, (W2.alloc o).frozen? ⟨w.heap.size + 2, 0, none⟩ = false := fun o => (F2.alloc o).free 0
  have gc0 : W2.cell? ⟨w.heap.size + 2, 0, none⟩ = some (.int .i64 0) := F2.cell 0
  have gf0 : W2.frozen? ⟨w.heap.size + 2, 0, none⟩ = false := F2.free 0
  have fc1 : ∀ o, (W2.alloc o).cell? ⟨w.heap.size + 2, 1, none⟩ = some (.int .i64 0) := fun o => (F2.alloc o).cell 1
  have ff1 : ∀ o, (W2.alloc o).frozen? ⟨w.heap.size + 2, 1, none⟩ = false := fun o => (F2.alloc o).free 1
  have gc1 : W2.cell? ⟨w.heap.size + 2, 1, none⟩ = some (.int .i64 0) := F2.cell 1
  have gf1 : W2.frozen? ⟨w.heap.size + 2, 1, none⟩ = false := F2.free 1
  have fc2 : ∀ o, (W2.alloc o).cell? ⟨w.heap.size + 2, 2, none⟩ = some (.slice none 0 0) := fun o => (F2.alloc o).cell 2
  have ff2 : ∀ o, (W2.alloc o).frozen? ⟨w.heap.size + 2, 2, none⟩ = false := fun o => (F2.alloc o).free 2
  have gc2 : W2.cell? ⟨w.heap.size + 2, 2, none⟩ = some (.slice none 0 0) := F2.cell 2
  have gf2 : W2.frozen? ⟨w.heap.size + 2, 2, none⟩ = false := F2.free 2
  have hpx : p + q ≤ x ∧ p ≤ x ∨ ¬ p + q ≤ x ∧ p ≤ x ∨ ¬ p + q ≤ x ∧ ¬ p ≤ x := by omega
  have hpt : x + y ≤ p ∨ ¬ x + y ≤ p ∧ p + q ≤ x + y ∨ ¬ x + y ≤ p ∧ ¬ p + q ≤ x + y := by omega
  have hyy : 0 < y ∨ ¬ 0 < y := by omega
  rcases hpx with ⟨k1, k2⟩ | ⟨k1, k2⟩ | ⟨k1, k2⟩ <;> rcases hpt with k3 | ⟨k3, k4⟩ | ⟨k3, k4⟩ <;> rcases hyy with k5 | k5
  all_goals first | (exfalso; omega) | skip
  all_goals
    go_wp2_with fail
    first
      | refine bodyPost_ret (results_cell_row rfl _ _ (w.heap.size + 2) 25 _ (0, 0) _ rfl ((((F2.alloc _).set 0 _).set 1 _).set 2 _) Try.underlying25 rfl rfl) rfl ?_
      | refine bodyPost_ret (results_cell_row rfl _ _ (w.heap.size + 2) 25 _ (0, 0) _ rfl (((((F2.alloc _).far (p := ⟨W2.heap.size, 1, none⟩) (by dsimp only; omega) _).set 0 _).set 1 _).set 2 _) Try.underlying25 rfl rfl) rfl ?_
    refine ⟨?_, ?_⟩
    · have key : ∀ (A B A' B' : Int), A = A' → B = B' → (Ending.returned (.agg #[.int .i64 A, .int .i64 B, .slice ai ni ci])) = Ending.returned (.agg #[.int .i64 A', .int .i64 B', .slice ai ni ci]) := fun A B A' B' h1 h2 => by rw [h1, h2]
      refine key _ _ _ _ ?_ ?_
      · unfold movAt
        (repeat' split) <;> omega
      · unfold movDel movTo movAt
        (repeat' split) <;> omega
    · first
        | exact (((laidB b2 _).setCell (by dsimp only; omega) _).setCell (by dsimp only; omega) _).setCell (by dsimp only; omega) _
        | exact ((((laidB b2 _).setCell (by dsimp only; omega) _).setCell (by dsimp only; omega) _).setCell (by dsimp only; omega) _).setCell (by dsimp only; omega) _
end Go.Proofs.Ytmfekbljfnjkgaa
