/- Package disk: Copy. -/
import Derived.Test.YtafmapcblcnccaaDkM
namespace Go.Proofs.Ytafmapcblcnccaa
open Go.RowKit Go.Shelf
set_option linter.unusedVariables false

/-- What Copy leaves: a disk of its own in the same state. -/
def CopyPost (w : World) (s : DS) (e : Ending) (w' : World) : Prop := ∃ v2, e = .returned (.pointer (some ⟨w.heap.size, 0, none⟩)) ∧ Dk w' w.heap.size w.heap.size (w.heap.size + 1) s v2 ∧ Below w.heap.size w w'
set_option maxRecDepth 100000 in
set_option maxHeartbeats 4000000 in
theorem copy_none {n0 p m : Nat} {s : DS} {v : Value} (w : World) (h : Dk w n0 p m s v) (hf : s.f = none) :
    Calls Try.prog 30 #[.pointer (some ⟨p, 0, none⟩)] w fun e w' => CopyPost w s e w' := by
  have c0 := h.box.cell 0
  have c1 := h.box.cell 1
  have c2 := h.box.cell 2
  have c3 := h.box.cell 3
  obtain ⟨X, hX⟩ : ∃ X, X = w.alloc (.cells #[.int .i64 s.room, .map (some m), .bool s.off, .int .i64 s.plan] 74) := ⟨_, rfl⟩
  have sX : X.heap.size = w.heap.size + 1 := by rw [hX]; simp
  have bX : Below w.heap.size w X := by rw [hX]; exact laidB (Below.refl _ _) _
  have CX : Cel X w.heap.size 74 #[.int .i64 s.room, .map (some m), .bool s.off, .int .i64 s.plan] := by rw [hX]; exact Cel.new _ _ _
  obtain ⟨Y, hY⟩ : ∃ Y, Y = X.alloc (.map #[] 0) := ⟨_, rfl⟩
  have hmk : (Instr.makeMap 72 none).run Try.prog X = .ok (.map (some (w.heap.size + 1))) Y := by rw [hY, ← sX]; exact run_makeMap _ _
  have bY : Below X.heap.size X Y := by rw [hY]; exact laidB (Below.refl _ _) _
  have CY := CX.step bY
  have MY : MapL Y (w.heap.size + 1) [] := by rw [hY, ← sX]; exact MapL.new X
  obtain ⟨Z, hZ⟩ : ∃ Z, Z = Y.setCell ⟨w.heap.size, 1, none⟩ (.map (some (w.heap.size + 1))) := ⟨_, rfl⟩
  have CZ : Cel Z w.heap.size 74 #[.int .i64 s.room, .map (some (w.heap.size + 1)), .bool s.off, .int .i64 s.plan] := by rw [hZ]; exact CY.set 1 _
  have oZ : OnlyP (fun i => i = w.heap.size) Y Z := by rw [hZ]; exact OnlyP.set (fun i => i = w.heap.size) _ _ _ rfl
  have hpw := h.box.lt
  have hmw := h.map.lt
  have bZ : Below w.heap.size w Z := (stepB bX bY).trans (oZ.below (by have := bY.size; omega) (fun k e => by omega))
  have MZ := MY.only oZ (by omega)
  have hm : MapL Z m [] := by have := h.map.step bZ; rw [hf] at this; exact this
  have zp : Z.cell? ⟨p, 1, none⟩ = some (.map (some m)) := (h.box.step bZ).cell 1
  have y1 := CY.cell 1
  have yf := CY.free 1
  have fin : ∀ W, Below Z.heap.size Z W → CopyPost w s (.returned (.pointer (some ⟨w.heap.size, 0, none⟩))) W := fun W hW => by
    refine ⟨.slice none 0 0, rfl, ⟨CZ.step hW, ?_, ?_, h.room0, h.room1, h.plan0, h.plan1, Nat.le_refl _, Nat.le_succ _⟩, stepB bZ hW⟩
    · rw [hf]; exact MZ.step hW
    · rw [hf]; rfl
  have FIN := Lib.hid fin
  clear fin MZ MY CZ CY CX bX bY bZ oZ h hpw hmw sX
  go_enter Try.func30, Try.ntmps30
  go_upto_region 2 with (fail)
  rw [← hX]
  clear hX hY c0 c2 c3
  go_upto_region 3 with (fail)
  rw [← hZ]
  clear hZ y1 yf hmk c1
  go_wp2_with (at_range; refine wpList_rangeL _ rfl _ rfl Try.underlying72 rfl hm ?_; intro o' hR)
  try go_frame
  have hb := laidB (Below.refl Z.heap.size Z) o'
  go_wp2_with fail
  go_loopw [4] (fun _ wr => RangeL wr Z.heap.size m [] [] ∧ Below Z.heap.size Z wr) (fun _ _ => 0)
  case atStart => exact ⟨hR, hb⟩
  case round =>
    obtain ⟨hR2, hb2⟩ := hrel
    clear hR hb
    go_wp2_with (at_next; refine wpList_nextL _ rfl _ rfl rfl hR2 (fun _ => ?_) (fun j p' W' hj => absurd hj (by simp)))
    try go_frame
    go_wp2_with fail
    go_ret
    exact FIN.out _ hb2
end Go.Proofs.Ytafmapcblcnccaa
