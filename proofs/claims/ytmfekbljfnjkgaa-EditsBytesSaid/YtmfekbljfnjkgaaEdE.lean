/- Contracts for package edits: Move. -/
import Derived.Test.YtmfekbljfnjkgaaEdD
namespace Go.Proofs.Ytmfekbljfnjkgaa
open Go.RowKit Go.Shelf
set_option linter.unusedVariables false

theorem wfE_iff {x y : Int} {ins : List Int} (h : wfE x y ins = true) : (0 ≤ x ∧ x ≤ 65536) ∧ (0 ≤ y ∧ y ≤ 65536) ∧ ins.length ≤ 65536 ∧ ins.any strangeB = false := by
  unfold wfE at h
  simp only [Bool.and_eq_true, decide_eq_true_eq, Bool.not_eq_true'] at h
  exact ⟨h.1, h.2.1, h.2.2.1, h.2.2.2⟩
set_option maxRecDepth 100000 in
set_option maxHeartbeats 2000000 in
theorem move_own (x y : Int) (ai : Option Addr) (ci : Nat) (ins : List Int) (p q : Int) (bi : Option Addr) (di : Nat) (jns : List Int) (w : World) (hri : Row .i64 w.heap.size w (.slice ai ins.length ci) ins) (hrj : Row .i64 w.heap.size w (.slice bi jns.length di) jns)
    (hf : wfE x y ins = true) (hg : wfE p q jns = true) :
    Calls Try.prog 13 #[.agg #[.int .i64 x, .int .i64 y, .slice ai ins.length ci], .agg #[.int .i64 p, .int .i64 q, .slice bi jns.length di]] w fun e w' => ∃ a2 c2, e = .returned (.tuple #[.agg #[.int .i64 (movAt x p q jns.length), .int .i64 (movDel x y p q jns.length), .slice a2 ins.length c2], .int .i64 0]) ∧ RowP .i64 (fun g => w.heap.size ≤ g ∧ g < w'.heap.size) w' (.slice a2 ins.length c2) ins ∧ Below w.heap.size w w' := by
  obtain ⟨hx, hy, hil, _⟩ := wfE_iff hf
  obtain ⟨hp, hq, hjl, _⟩ := wfE_iff hg
  have b0 := laidB (laidB (laidB (Below.refl w.heap.size w) (.cells #[.int .i64 x, .int .i64 y, .slice ai ins.length ci] 25)) (.cells #[.int .i64 p, .int .i64 q, .slice bi jns.length di] 25)) (.cells #[.int .i64 0, .int .i64 0, .slice none 0 0] 25)
  have C0 := ((Cel.new w 25 #[.int .i64 x, .int .i64 y, .slice ai ins.length ci]).alloc (.cells #[.int .i64 p, .int .i64 q, .slice bi jns.length di] 25)).alloc (.cells #[.int .i64 0, .int .i64 0, .slice none 0 0] 25)
  have D0 := (Cel.new (w.alloc (.cells #[.int .i64 x, .int .i64 y, .slice ai ins.length ci] 25)) 25 #[.int .i64 p, .int .i64 q, .slice bi jns.length di]).alloc (.cells #[.int .i64 0, .int .i64 0, .slice none 0 0] 25)
  have F0 := Cel.new ((w.alloc (.cells #[.int .i64 x, .int .i64 y, .slice ai ins.length ci] 25)).alloc (.cells #[.int .i64 p, .int .i64 q, .slice bi jns.length di] 25)) 25 #[.int .i64 0, .int .i64 0, .slice none 0 0]
  rw [show (w.alloc (.cells #[.int .i64 x, .int .i64 y, .slice ai ins.length ci] 25)).heap.size = w.heap.size + 1 from by simp] at D0
  rw [show ((w.alloc (.cells #[.int .i64 x, .int .i64 y, .slice ai ins.length ci] 25)).alloc (.cells #[.int .i64 p, .int .i64 q, .slice bi jns.length di] 25)).heap.size = w.heap.size + 2 from by simp] at F0
  have hri0 := rowB hri b0
  have hrj0 := rowB hrj b0
  clear hri hrj
  have c0 := C0.cell 0
  have c1 := C0.cell 1
  have c2 := C0.cell 2
  go_enter Try.func13, Try.ntmps13
  go_wp2_with fail
  have hs0 : w.heap.size + 3 ≤ (((w.alloc (.cells #[.int .i64 x, .int .i64 y, .slice ai ins.length ci] 25)).alloc (.cells #[.int .i64 p, .int .i64 q, .slice bi jns.length di] 25)).alloc (.cells #[.int .i64 0, .int .i64 0, .slice none 0 0] 25)).heap.size := by simp
  generalize hW : ((w.alloc (.cells #[.int .i64 x, .int .i64 y, .slice ai ins.length ci] 25)).alloc (.cells #[.int .i64 p, .int .i64 q, .slice bi jns.length di] 25)).alloc (.cells #[.int .i64 0, .int .i64 0, .slice none 0 0] 25) = W1 at *
  clear hW c0 c1 c2
  have hwf := wellFormed_any x y ai ci ins W1 hri0 hil
  rw [hf] at hwf
  refine hwf.mono ?_
  rintro e W2 ⟨rfl, hb2⟩
  have b2 := stepB b0 hb2
  have C2 := C0.step hb2
  have D2 := D0.step hb2
  have F2 := F0.step hb2
  have hri2 := rowB hri0 hb2
  have hrj2 := rowB hrj0 hb2
  have hs2 := Nat.le_trans hs0 hb2.size
  clear hwf b0 C0 D0 F0 hri0 hrj0 hb2 hs0
  have d0 : W2.cell? ⟨w.heap.size + 1, 0, none⟩ = some (.int .i64 p) := D2.cell 0
  have d1 : W2.cell? ⟨w.heap.size + 1, 1, none⟩ = some (.int .i64 q) := D2.cell 1
  have d2 : W2.cell? ⟨w.heap.size + 1, 2, none⟩ = some (.slice bi jns.length di) := D2.cell 2
  dsimp only
  go_wp2_with fail
  have hwf := wellFormed_any p q bi di jns W2 hrj2 hjl
  rw [hg] at hwf
  refine hwf.mono ?_
  rintro e W3 ⟨rfl, hb3⟩
  have b3 := stepB b2 hb3
  have C3 := C2.step hb3
  have D3 := D2.step hb3
  have F3 := F2.step hb3
  have hri3 := rowB hri2 hb3
  have hs3 := Nat.le_trans hs2 hb3.size
  clear hwf b2 C2 D2 F2 hri2 hrj2 hb3 hs2 d0 d1 d2
  have c0 : W3.cell? ⟨w.heap.size, 0, none⟩ = some (.int .i64 x) := C3.cell 0
  have c1 : W3.cell? ⟨w.heap.size, 1, none⟩ = some (.int .i64 y) := C3.cell 1
  have c2 : W3.cell? ⟨w.heap.size, 2, none⟩ = some (.slice ai ins.length ci) := C3.cell 2
  have d0 : W3.cell? ⟨w.heap.size + 1, 0, none⟩ = some (.int .i64 p) := D3.cell 0
  have d1 : W3.cell? ⟨w.heap.size + 1, 1, none⟩ = some (.int .i64 q) := D3.cell 1
  have d2 : W3.cell? ⟨w.heap.size + 1, 2, none⟩ = some (.slice bi jns.length di) := D3.cell 2
  dsimp only
  go_wp2_with fail
  refine (moved_any x y ai ins.length ci p q bi jns.length di W3 hx hy hp hq hjl).mono ?_
  rintro e W4 ⟨rfl, hb4⟩
  have b4 := stepB b3 hb4
  have F4 := F3.step hb4
  have hri4 := rowB hri3 hb4
  have hs4 := Nat.le_trans hs3 hb4.size
  clear b3 C3 D3 F3 hri3 hb4 hs3 d0 d1 d2 c0 c1 c2
  generalize hA : movAt x p q jns.length = A
  generalize hB : movDel x y p q jns.length = B
  have HA := Lib.hid hA
  have HB := Lib.hid hB
  clear hA hB
  dsimp only
  go_wp2_with fail
  refine (copied_any A B ai ci ins W4 hri4 (by omega)).mono ?_
  rintro e W5 ⟨a2, k2, rfl, hrow, hb5⟩
  have b5 := stepB b4 hb5
  have F5 := F4.step hb5
  have hs5 := Nat.le_trans hs4 hb5.size
  clear b4 F4 hri4 hb5
  have e0 : W5.cell? ⟨w.heap.size + 2, 0, none⟩ = some (.int .i64 0) := F5.cell 0
  have e1 : W5.cell? ⟨w.heap.size + 2, 1, none⟩ = some (.int .i64 0) := F5.cell 1
  have e2 : W5.cell? ⟨w.heap.size + 2, 2, none⟩ = some (.slice none 0 0) := F5.cell 2
  have z0 : W5.frozen? ⟨w.heap.size + 2, 0, none⟩ = false := F5.free 0
  have z1 : W5.frozen? ⟨w.heap.size + 2, 1, none⟩ = false := F5.free 1
  have z2 : W5.frozen? ⟨w.heap.size + 2, 2, none⟩ = false := F5.free 2
  dsimp only
  go_wp2_with fail
  refine bodyPost_ret (v := .tuple #[.agg #[.int .i64 A, .int .i64 B, .slice a2 ins.length k2], .int .i64 0]) (results_row_tmp rfl _ _ (w.heap.size + 2) _ _ rfl rfl (run_loadVar_row _ _ 25 _ _ (0, 0) _ (((F5.set 0 (.int .i64 A)).set 1 (.int .i64 B)).set 2 (.slice a2 ins.length k2)) Try.underlying25 rfl rfl)) rfl ?_
  rw [HA.out, HB.out]
  refine ⟨a2, k2, rfl, ?_, ((b5.setCell (p := ⟨w.heap.size + 2, 0, none⟩) (by simp) _).setCell (p := ⟨w.heap.size + 2, 1, none⟩) (by simp) _).setCell (p := ⟨w.heap.size + 2, 2, none⟩) (by simp) _⟩
  refine RowP.mono (fun g hg => ?_) (RowP.keep (((KeepP.setCell (fun g => W4.heap.size ≤ g ∧ g < W5.heap.size) W5 ⟨w.heap.size + 2, 0, none⟩ _ ?_).trans (KeepP.setCell _ _ ⟨w.heap.size + 2, 1, none⟩ _ ?_)).trans (KeepP.setCell _ _ ⟨w.heap.size + 2, 2, none⟩ _ ?_)) hrow)
  · simp; omega
  all_goals exact fun h => by have := h.1; dsimp only at this; omega
theorem move_ok (x y : Int) (ai : Option Addr) (ci : Nat) (ins : List Int) (p q : Int) (bi : Option Addr) (di : Nat) (jns : List Int) (w : World) (hri : Row .i64 w.heap.size w (.slice ai ins.length ci) ins) (hrj : Row .i64 w.heap.size w (.slice bi jns.length di) jns)
    (hf : wfE x y ins = true) (hg : wfE p q jns = true) :
    Calls Try.prog 13 #[.agg #[.int .i64 x, .int .i64 y, .slice ai ins.length ci], .agg #[.int .i64 p, .int .i64 q, .slice bi jns.length di]] w fun e w' => ∃ a2 c2, e = .returned (.tuple #[.agg #[.int .i64 (movAt x p q jns.length), .int .i64 (movDel x y p q jns.length), .slice a2 ins.length c2], .int .i64 0]) ∧ Row .i64 w'.heap.size w' (.slice a2 ins.length c2) ins ∧ Below w.heap.size w w' := by
  refine (move_own x y ai ci ins p q bi di jns w hri hrj hf hg).mono ?_
  rintro e w' ⟨a2, c2, rfl, hr, hb⟩
  exact ⟨a2, c2, rfl, hr.mono (fun g h => h.2), hb⟩
set_option maxRecDepth 100000 in
set_option maxHeartbeats 2000000 in
theorem move_bad (x y : Int) (ai : Option Addr) (ci : Nat) (ins : List Int) (p q : Int) (bi : Option Addr) (di : Nat) (jns : List Int) (w : World) (hri : Row .i64 w.heap.size w (.slice ai ins.length ci) ins) (hrj : Row .i64 w.heap.size w (.slice bi jns.length di) jns)
    (hil : ins.length ≤ 65536) (hjl : jns.length ≤ 65536) (hfg : (wfE x y ins && wfE p q jns) = false) :
    Calls Try.prog 13 #[.agg #[.int .i64 x, .int .i64 y, .slice ai ins.length ci], .agg #[.int .i64 p, .int .i64 q, .slice bi jns.length di]] w fun e w' => e = .returned (.tuple #[.agg #[.int .i64 0, .int .i64 0, .slice none 0 0], .int .i64 5]) ∧ Below w.heap.size w w' := by
  have b0 := laidB (laidB (laidB (Below.refl w.heap.size w) (.cells #[.int .i64 x, .int .i64 y, .slice ai ins.length ci] 25)) (.cells #[.int .i64 p, .int .i64 q, .slice bi jns.length di] 25)) (.cells #[.int .i64 0, .int .i64 0, .slice none 0 0] 25)
  have C0 := ((Cel.new w 25 #[.int .i64 x, .int .i64 y, .slice ai ins.length ci]).alloc (.cells #[.int .i64 p, .int .i64 q, .slice bi jns.length di] 25)).alloc (.cells #[.int .i64 0, .int .i64 0, .slice none 0 0] 25)
  have D0 := (Cel.new (w.alloc (.cells #[.int .i64 x, .int .i64 y, .slice ai ins.length ci] 25)) 25 #[.int .i64 p, .int .i64 q, .slice bi jns.length di]).alloc (.cells #[.int .i64 0, .int .i64 0, .slice none 0 0] 25)
  have F0 := Cel.new ((w.alloc (.cells #[.int .i64 x, .int .i64 y, .slice ai ins.length ci] 25)).alloc (.cells #[.int .i64 p, .int .i64 q, .slice bi jns.length di] 25)) 25 #[.int .i64 0, .int .i64 0, .slice none 0 0]
  rw [show (w.alloc (.cells #[.int .i64 x, .int .i64 y, .slice ai ins.length ci] 25)).heap.size = w.heap.size + 1 from by simp] at D0
  rw [show ((w.alloc (.cells #[.int .i64 x, .int .i64 y, .slice ai ins.length ci] 25)).alloc (.cells #[.int .i64 p, .int .i64 q, .slice bi jns.length di] 25)).heap.size = w.heap.size + 2 from by simp] at F0
  have hri0 := rowB hri b0
  have hrj0 := rowB hrj b0
  clear hri hrj
  have c0 := C0.cell 0
  have c1 := C0.cell 1
  have c2 := C0.cell 2
  go_enter Try.func13, Try.ntmps13
  go_wp2_with fail
  have hs0 : w.heap.size + 3 ≤ (((w.alloc (.cells #[.int .i64 x, .int .i64 y, .slice ai ins.length ci] 25)).alloc (.cells #[.int .i64 p, .int .i64 q, .slice bi jns.length di] 25)).alloc (.cells #[.int .i64 0, .int .i64 0, .slice none 0 0] 25)).heap.size := by simp
  generalize hW : ((w.alloc (.cells #[.int .i64 x, .int .i64 y, .slice ai ins.length ci] 25)).alloc (.cells #[.int .i64 p, .int .i64 q, .slice bi jns.length di] 25)).alloc (.cells #[.int .i64 0, .int .i64 0, .slice none 0 0] 25) = W1 at *
  clear hW c0 c1 c2
  have hwf := wellFormed_any x y ai ci ins W1 hri0 hil
  refine hwf.mono ?_
  rintro e W2 ⟨rfl, hb2⟩
  have b2 := stepB b0 hb2
  have D2 := D0.step hb2
  have F2 := F0.step hb2
  have hrj2 := rowB hrj0 hb2
  have hs2 := Nat.le_trans hs0 hb2.size
  clear hwf b0 C0 D0 F0 hri0 hrj0 hb2 hs0
  cases hf : wfE x y ins
  · have HF := Lib.hid hf
    clear hf hfg
    have e0 : W2.cell? ⟨w.heap.size + 2, 0, none⟩ = some (.int .i64 0) := F2.cell 0
    have e1 : W2.cell? ⟨w.heap.size + 2, 1, none⟩ = some (.int .i64 0) := F2.cell 1
    have e2 : W2.cell? ⟨w.heap.size + 2, 2, none⟩ = some (.slice none 0 0) := F2.cell 2
    have z0 : W2.frozen? ⟨w.heap.size + 2, 0, none⟩ = false := F2.free 0
    have z1 : W2.frozen? ⟨w.heap.size + 2, 1, none⟩ = false := F2.free 1
    have z2 : W2.frozen? ⟨w.heap.size + 2, 2, none⟩ = false := F2.free 2
    dsimp only
    go_wp2_with fail
    refine bodyPost_ret (v := .tuple #[.agg #[.int .i64 0, .int .i64 0, .slice none 0 0], .int .i64 5]) (results_row_tmp rfl _ _ (w.heap.size + 2) _ _ rfl rfl (run_loadVar_row _ _ 25 _ _ (0, 0) _ (((F2.set 0 (.int .i64 0)).set 1 (.int .i64 0)).set 2 (.slice none 0 0)) Try.underlying25 rfl rfl)) rfl ?_
    exact ⟨rfl, ((b2.setCell (p := ⟨w.heap.size + 2, 0, none⟩) (by simp) _).setCell (p := ⟨w.heap.size + 2, 1, none⟩) (by simp) _).setCell (p := ⟨w.heap.size + 2, 2, none⟩) (by simp) _⟩
  · have hg : wfE p q jns = false := by rw [hf] at hfg; simpa using hfg
    clear hf hfg
    have d0 : W2.cell? ⟨w.heap.size + 1, 0, none⟩ = some (.int .i64 p) := D2.cell 0
    have d1 : W2.cell? ⟨w.heap.size + 1, 1, none⟩ = some (.int .i64 q) := D2.cell 1
    have d2 : W2.cell? ⟨w.heap.size + 1, 2, none⟩ = some (.slice bi jns.length di) := D2.cell 2
    dsimp only
    go_wp2_with fail
    have hwf := wellFormed_any p q bi di jns W2 hrj2 hjl
    rw [hg] at hwf
    refine hwf.mono ?_
    rintro e W3 ⟨rfl, hb3⟩
    have b3 := stepB b2 hb3
    have F3 := F2.step hb3
    have hs3 := Nat.le_trans hs2 hb3.size
    clear hwf b2 D2 F2 hrj2 hb3 hs2 d0 d1 d2 hg
    have e0 : W3.cell? ⟨w.heap.size + 2, 0, none⟩ = some (.int .i64 0) := F3.cell 0
    have e1 : W3.cell? ⟨w.heap.size + 2, 1, none⟩ = some (.int .i64 0) := F3.cell 1
    have e2 : W3.cell? ⟨w.heap.size + 2, 2, none⟩ = some (.slice none 0 0) := F3.cell 2
    have z0 : W3.frozen? ⟨w.heap.size + 2, 0, none⟩ = false := F3.free 0
    have z1 : W3.frozen? ⟨w.heap.size + 2, 1, none⟩ = false := F3.free 1
    have z2 : W3.frozen? ⟨w.heap.size + 2, 2, none⟩ = false := F3.free 2
    dsimp only
    go_wp2_with fail
    refine bodyPost_ret (v := .tuple #[.agg #[.int .i64 0, .int .i64 0, .slice none 0 0], .int .i64 5]) (results_row_tmp rfl _ _ (w.heap.size + 2) _ _ rfl rfl (run_loadVar_row _ _ 25 _ _ (0, 0) _ (((F3.set 0 (.int .i64 0)).set 1 (.int .i64 0)).set 2 (.slice none 0 0)) Try.underlying25 rfl rfl)) rfl ?_
    exact ⟨rfl, ((b3.setCell (p := ⟨w.heap.size + 2, 0, none⟩) (by simp) _).setCell (p := ⟨w.heap.size + 2, 1, none⟩) (by simp) _).setCell (p := ⟨w.heap.size + 2, 2, none⟩) (by simp) _⟩
end Go.Proofs.Ytmfekbljfnjkgaa
