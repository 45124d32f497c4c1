/- Contracts for package edits: copied. -/
import Derived.Test.YtmfekbljfnjkgaaEdB
import Derived.Test.YtmfekbljfnjkgaaTxtF
namespace Go.Proofs.Ytmfekbljfnjkgaa
open Go.RowKit Go.Shelf
set_option linter.unusedVariables false

set_option maxRecDepth 100000 in
set_option maxHeartbeats 2000000 in
theorem copied_any (x y : Int) (ai : Option Addr) (ci : Nat) (ins : List Int) (w : World) (hri : Row .i64 w.heap.size w (.slice ai ins.length ci) ins) (hl : ins.length ≤ 100000) :
    Calls Try.prog 44 #[.agg #[.int .i64 x, .int .i64 y, .slice ai ins.length ci]] w fun e w' => ∃ a2 c2, e = .returned (.agg #[.int .i64 x, .int .i64 y, .slice a2 ins.length c2]) ∧ RowP .i64 (fun g => w.heap.size ≤ g ∧ g < w'.heap.size) w' (.slice a2 ins.length c2) ins ∧ Below w.heap.size w w' := by
  have b0 := laidB (laidB (Below.refl w.heap.size w) (.cells #[.int .i64 x, .int .i64 y, .slice ai ins.length ci] 25)) (.cells #[.int .i64 0, .int .i64 0, .slice none 0 0] 25)
  have C0 := (Cel.new w 25 #[.int .i64 x, .int .i64 y, .slice ai ins.length ci]).alloc (.cells #[.int .i64 0, .int .i64 0, .slice none 0 0] 25)
  have D0 := Cel.new (w.alloc (.cells #[.int .i64 x, .int .i64 y, .slice ai ins.length ci] 25)) 25 #[.int .i64 0, .int .i64 0, .slice none 0 0]
  rw [show (w.alloc (.cells #[.int .i64 x, .int .i64 y, .slice ai ins.length ci] 25)).heap.size = w.heap.size + 1 from by simp] at D0
  have hr0 := rowB hri b0
  go_enter Try.func44, Try.ntmps44
  go_wp2_with fail
  have hs2 : w.heap.size + 2 ≤ ((w.alloc (.cells #[.int .i64 x, .int .i64 y, .slice ai ins.length ci] 25)).alloc (.cells #[.int .i64 0, .int .i64 0, .slice none 0 0] 25)).heap.size := by simp
  generalize hW : (w.alloc (.cells #[.int .i64 x, .int .i64 y, .slice ai ins.length ci] 25)).alloc (.cells #[.int .i64 0, .int .i64 0, .slice none 0 0] 25) = W1 at *
  clear hW
  refine (cloneInts_any _ _ _ _ hr0 (by omega)).mono ?_
  rintro e W2 ⟨a2, c2, rfl, hown, hrow, hb⟩
  have C2 := C0.step hb
  have D2 := D0.step hb
  have b2 := stepB b0 hb
  have f2 := C2.free 2
  have hs1 : w.heap.size + 2 ≤ W1.heap.size := hs2
  have C3 := C2.set 2 (.slice a2 ins.length c2)
  have D3 := D2.far (p := ⟨w.heap.size, 2, none⟩) (by dsimp only; omega) (.slice a2 ins.length c2)
  have g0 : (W2.setCell ⟨w.heap.size, 2, none⟩ (.slice a2 ins.length c2)).cell? ⟨w.heap.size, 0, none⟩ = some (.int .i64 x) := C3.cell 0
  have g1 : (W2.setCell ⟨w.heap.size, 2, none⟩ (.slice a2 ins.length c2)).cell? ⟨w.heap.size, 1, none⟩ = some (.int .i64 y) := C3.cell 1
  have g2 : (W2.setCell ⟨w.heap.size, 2, none⟩ (.slice a2 ins.length c2)).cell? ⟨w.heap.size, 2, none⟩ = some (.slice a2 ins.length c2) := C3.cell 2
  have e0 : (W2.setCell ⟨w.heap.size, 2, none⟩ (.slice a2 ins.length c2)).cell? ⟨w.heap.size + 1, 0, none⟩ = some (.int .i64 0) := D3.cell 0
  have j0 : W2.cell? ⟨w.heap.size + 1, 0, none⟩ = some (.int .i64 0) := D2.cell 0
  have e1 : (W2.setCell ⟨w.heap.size, 2, none⟩ (.slice a2 ins.length c2)).cell? ⟨w.heap.size + 1, 1, none⟩ = some (.int .i64 0) := D3.cell 1
  have j1 : W2.cell? ⟨w.heap.size + 1, 1, none⟩ = some (.int .i64 0) := D2.cell 1
  have e2 : (W2.setCell ⟨w.heap.size, 2, none⟩ (.slice a2 ins.length c2)).cell? ⟨w.heap.size + 1, 2, none⟩ = some (.slice none 0 0) := D3.cell 2
  have j2 : W2.cell? ⟨w.heap.size + 1, 2, none⟩ = some (.slice none 0 0) := D2.cell 2
  have h0 := D3.free 0
  have h1 := D3.free 1
  have h2 := D3.free 2
  have i0 : W2.cell? ⟨w.heap.size, 0, none⟩ = some (.int .i64 x) := C2.cell 0
  have i1 : W2.cell? ⟨w.heap.size, 1, none⟩ = some (.int .i64 y) := C2.cell 1
  have i2 : W2.cell? ⟨w.heap.size, 2, none⟩ = some (.slice ai ins.length ci) := C2.cell 2
  dsimp only
  go_wp2_with fail
  refine bodyPost_ret (results_cell_row rfl _ _ (w.heap.size + 1) 25 _ (0, 0) _ rfl (((D3.set 0 (.int .i64 x)).set 1 (.int .i64 y)).set 2 (.slice a2 ins.length c2)) Try.underlying25 rfl rfl) rfl ?_
  refine ⟨a2, c2, rfl, ?_, (((b2.setCell (by dsimp only; omega) _).setCell (by dsimp only; omega) _).setCell (by dsimp only; omega) _).setCell (by dsimp only; omega) _⟩
  refine RowP.mono (fun g hg => ?_) (RowP.keep ((((KeepP.setCell (fun g => W1.heap.size ≤ g ∧ g < W2.heap.size) W2 ⟨w.heap.size, 2, none⟩ _ ?_).trans (KeepP.setCell _ _ ⟨w.heap.size + 1, 0, none⟩ _ ?_)).trans (KeepP.setCell _ _ ⟨w.heap.size + 1, 1, none⟩ _ ?_)).trans (KeepP.setCell _ _ ⟨w.heap.size + 1, 2, none⟩ _ ?_)) (row_own2' hown))
  · simp; omega
  all_goals exact fun h => by have := h.1; dsimp only at this; omega
end Go.Proofs.Ytmfekbljfnjkgaa
