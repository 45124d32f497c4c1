/- The contracts of own and of the reference's Bent (rexmillref27). -/
import Derived.Test.YtmfekbljfnjkgaaEbD
import Derived.Test.YtmfekbljfnjkgaaEdI
namespace Go.Proofs.Ytmfekbljfnjkgaa
open Go.RowKit Go.Shelf
set_option linter.unusedVariables false
set_option maxRecDepth 100000

def six (c nu ba at' de : Int) (s : Value) : Array Value := #[.int .i64 c, .int .i64 nu, .int .i64 ba, .int .i64 at', .int .i64 de, s]
theorem Cel.six {W : World} {b : Nat} {t : TypeId} {c nu ba at' de : Int} {s : Value} (h : Cel W b t #[.int .i64 c, .int .i64 nu, .int .i64 ba, .int .i64 at', .int .i64 de, s]) :
    W.cell? ⟨b, 0, none⟩ = some (.int .i64 c) ∧ W.cell? ⟨b, 1, none⟩ = some (.int .i64 nu) ∧ W.cell? ⟨b, 2, none⟩ = some (.int .i64 ba) ∧ W.cell? ⟨b, 3, none⟩ = some (.int .i64 at') ∧ W.cell? ⟨b, 4, none⟩ = some (.int .i64 de) ∧ W.cell? ⟨b, 5, none⟩ = some s :=
  ⟨h.cell 0, h.cell 1, h.cell 2, h.cell 3, h.cell 4, h.cell 5⟩
theorem only_six (W : World) (b : Nat) (v0 v1 v2 v3 v4 v5 : Value) : Only b W ((((((W.setCell ⟨b, 0, none⟩ v0).setCell ⟨b, 1, none⟩ v1).setCell ⟨b, 2, none⟩ v2).setCell ⟨b, 3, none⟩ v3).setCell ⟨b, 4, none⟩ v4).setCell ⟨b, 5, none⟩ v5) :=
  only_trans (only_trans (only_trans (only_trans (only_trans (only_set _ _ _ _) (only_set _ _ _ _)) (only_set _ _ _ _)) (only_set _ _ _ _)) (only_set _ _ _ _)) (only_set _ _ _ _)
set_option maxHeartbeats 4000000 in
theorem own27_any (c nu ba at' de : Int) (a : Option Addr) (n cap : Nat) (w : World) :
    Calls Try.prog 32 #[.agg #[.int .i64 c, .int .i64 nu, .int .i64 ba, .int .i64 at', .int .i64 de, .slice a n cap]] w fun e w' => e = .returned (.agg #[.int .i64 c, .int .i64 nu, .int .i64 ba, .int .i64 at', .int .i64 de, .slice a n cap]) ∧ Below w.heap.size w w' := by
  have D1 : Cel ((w.alloc (.cells #[.int .i64 c, .int .i64 nu, .int .i64 ba, .int .i64 at', .int .i64 de, .slice a n cap] 63)).alloc (.cells #[.int .i64 c, .int .i64 nu, .int .i64 ba, .int .i64 at', .int .i64 de, .slice a n cap] 51)) (w.heap.size + 1) 51 #[.int .i64 c, .int .i64 nu, .int .i64 ba, .int .i64 at', .int .i64 de, .slice a n cap] := by
    rw [← show (w.alloc (.cells #[.int .i64 c, .int .i64 nu, .int .i64 ba, .int .i64 at', .int .i64 de, .slice a n cap] 63)).heap.size = w.heap.size + 1 from by simp]
    exact Cel.new _ _ _
  go_enter Try.func32, Try.ntmps32
  go_wp2_with fail
  refine bodyPost_ret (v := .agg #[.int .i64 c, .int .i64 nu, .int .i64 ba, .int .i64 at', .int .i64 de, .slice a n cap]) (results_cell_row rfl _ _ (w.heap.size + 1) 51 _ (0, 0) _ rfl D1 Try.underlying51 rfl rfl) rfl ?_
  exact ⟨rfl, laidB (laidB (Below.refl _ _) _) _⟩
theorem owns_lit {k : IntKind} {W : World} {b n0 : Nat} {t : TypeId} {cs : Array Value} (xs : List Int) (h : Cel W b t cs) (hb : n0 ≤ b) (hcs : cs = (xs.map (Value.int k)).toArray) (hm : xs.length ≤ maxLen) :
    W.ownsRow n0 t 1 (.slice (some ⟨b, 0, none⟩) xs.length xs.length) xs.length (xs.map (Value.int k)) := by
  subst hcs
  refine ⟨by simp, .inr ⟨b, xs.length, _, rfl, hb, h, Nat.le_refl _, hm, by simp, ?_⟩⟩
  rw [List.take_of_length_le (by simp)]
/-- An item that Bent has changed. -/
def BentPost (w : World) (e : Ending) (w' : World) : Prop :=
  ∃ (x : IM) (a : Option Addr) (cap : Nat), e = .returned (.agg #[.int .i64 x.c, .int .i64 x.nu, .int .i64 x.ba, .int .i64 x.a, .int .i64 x.d, .slice a x.ins.length cap]) ∧ x.ok ∧ x.ins.length ≤ 4 ∧ Row .i64 w'.heap.size w' (.slice a x.ins.length cap) x.ins ∧ Below w.heap.size w w'
theorem row_up {k : IntKind} {n m : Nat} {W : World} {v : Value} {zs : List Int} (h : Row k n W v zs) (hn : n ≤ m) : Row k m W v zs := RowP.mono (fun g hg => Nat.lt_of_lt_of_le hg hn) h
/-- One of four numbers of a literal. -/
theorem four_cell (W : World) (by' x1 x2 x3 : Int) (t : TypeId) (q : Int) (h0 : 0 ≤ q) (h1 : q < 4) (hb : (Lit.int .i64 by').wf = true) (hx : ∀ x ∈ [x1, x2, x3], (Lit.int .i64 x).wf = true) :
    ∃ (z : Int) (Q : Nat), q = (Q : Int) ∧ (Lit.int .i64 z).wf = true ∧ (W.alloc (.cells #[.int .i64 by', .int .i64 x1, .int .i64 x2, .int .i64 x3] t)).cell? ⟨W.heap.size, Q, none⟩ = some (.int .i64 z) := by
  have C := Cel.new W t #[.int .i64 by', .int .i64 x1, .int .i64 x2, .int .i64 x3]
  have h : q = 0 ∨ q = 1 ∨ q = 2 ∨ q = 3 := by omega
  rcases h with rfl | rfl | rfl | rfl
  · exact ⟨by', 0, rfl, hb, C.cell 0⟩
  · exact ⟨x1, 1, rfl, hx x1 (by simp), C.cell 1⟩
  · exact ⟨x2, 2, rfl, hx x2 (by simp), C.cell 2⟩
  · exact ⟨x3, 3, rfl, hx x3 (by simp), C.cell 3⟩
set_option maxHeartbeats 8000000 in
theorem bent27_any (c nu ba at' de : Int) (a : Option Addr) (cap : Nat) (ins : List Int) (how by' : Int) (w : World) (hr : Row .i64 w.heap.size w (.slice a ins.length cap) ins) (hl : ins.length ≤ 3) (hok : (IM.mk c nu ba at' de ins).ok)
    (hh : (Lit.int .i64 how).wf = true) (hb : (Lit.int .i64 by').wf = true) :
    Calls Try.prog 33 #[.agg #[.int .i64 c, .int .i64 nu, .int .i64 ba, .int .i64 at', .int .i64 de, .slice a ins.length cap], .int .i64 how, .int .i64 by'] w (BentPost w) := by
  obtain ⟨i0, hi, hz0, hz1, hz2⟩ := info_parts info_i64
  have HOK := Lib.hid hok
  clear hok
  obtain ⟨X1, hX1⟩ : ∃ X, X = w.alloc (.cells #[.int .i64 c, .int .i64 nu, .int .i64 ba, .int .i64 at', .int .i64 de, .slice a ins.length cap] 63) := ⟨_, rfl⟩
  have s1 : X1.heap.size = w.heap.size + 1 := by rw [hX1]; simp
  have B1 : Below w.heap.size w X1 := by rw [hX1]; exact laidB (Below.refl _ _) _
  have C1 : Cel X1 w.heap.size 63 #[.int .i64 c, .int .i64 nu, .int .i64 ba, .int .i64 at', .int .i64 de, .slice a ins.length cap] := by rw [hX1]; exact Cel.new _ _ _
  obtain ⟨X2, hX2⟩ : ∃ X, X = X1.alloc (.cells #[.int .i64 0, .int .i64 0, .int .i64 0, .int .i64 0, .int .i64 0, .slice none 0 0] 63) := ⟨_, rfl⟩
  have s2 : X2.heap.size = w.heap.size + 2 := by rw [hX2]; simp [s1]
  have B2 : Below w.heap.size w X2 := by rw [hX2]; exact laidB B1 _
  have C2 : Cel X2 w.heap.size 63 #[.int .i64 c, .int .i64 nu, .int .i64 ba, .int .i64 at', .int .i64 de, .slice a ins.length cap] := by rw [hX2]; exact C1.alloc _
  have D2 : Cel X2 (w.heap.size + 1) 63 #[.int .i64 0, .int .i64 0, .int .i64 0, .int .i64 0, .int .i64 0, .slice none 0 0] := by rw [hX2, ← s1]; exact Cel.new _ _ _
  have hr2 := rowB hr B2
  go_enter Try.func33, Try.ntmps33
  go_wp2_with fail
  rw [← hX1, ← hX2]
  refine (around_any how 6 X2 hh (by decide) (by decide)).mono ?_
  have r0 := aroundI_lo how 6 (by decide)
  have r1 := aroundI_hi how 6 (by decide)
  generalize aroundI how 6 = R at *
  rintro e W ⟨rfl, hW⟩
  subst hW
  clear hX1 hX2 C1 B1
  dsimp only
  have q0 := aroundI_lo by' 4 (by decide)
  have q1 := aroundI_hi by' 4 (by decide)
  have HA := Lib.hid (fun V : World => around_any by' 4 V hb (by decide) (by decide))
  generalize aroundI by' 4 = Q at *
  by_cases hR0 : R = 0
  · subst hR0
    obtain ⟨z, q, rfl, hz, hc⟩ := four_cell W by' (-1) 1023 1024 3 Q q0 q1 hb (by decide)
    rw [s2] at hc
    have C3 := C2.alloc (.cells #[.int .i64 by', .int .i64 (-1), .int .i64 1023, .int .i64 1024] 3)
    have D3 := D2.alloc (.cells #[.int .i64 by', .int .i64 (-1), .int .i64 1023, .int .i64 1024] 3)
    have B3 := laidB B2 (.cells #[.int .i64 by', .int .i64 (-1), .int .i64 1023, .int .i64 1024] 3)
    have hr3 := rowB hr2 (laidB (Below.refl _ _) (.cells #[.int .i64 by', .int .i64 (-1), .int .i64 1023, .int .i64 1024] 3))
    obtain ⟨V, hV⟩ : ∃ V, V = W.alloc (.cells #[.int .i64 by', .int .i64 (-1), .int .i64 1023, .int .i64 1024] 3) := ⟨_, rfl⟩
    rw [← hV] at C3 D3 B3 hc hr3
    clear r0 r1 C2 D2 B2 hr2
    go_wp2_with fail
    rw [← hV]
    clear hV
    refine (HA.out V).mono ?_
    rintro e V2 ⟨rfl, hV2⟩
    subst hV2
    clear HA
    have hq0 : (0 : Int) ≤ (q : Int) := by omega
    have z0 : V2.cell? ⟨w.heap.size, 0, none⟩ = some (.int .i64 c) := C3.cell 0
    have f0 := C3.free 0
    have C4 : Cel (V2.setCell ⟨w.heap.size, 0, none⟩ (.int .i64 z)) w.heap.size 63 #[.int .i64 z, .int .i64 nu, .int .i64 ba, .int .i64 at', .int .i64 de, .slice a ins.length cap] := C3.set 0 (.int .i64 z)
    have D4 : Cel (V2.setCell ⟨w.heap.size, 0, none⟩ (.int .i64 z)) (w.heap.size + 1) 63 #[.int .i64 0, .int .i64 0, .int .i64 0, .int .i64 0, .int .i64 0, .slice none 0 0] := D3.far (by simp) _
    have hlt4 := C4.lt
    have hlt5 := D4.lt
    have oV := only_set V2 w.heap.size 0 (.int .i64 z)
    dsimp only
    obtain ⟨x0, x1, x2, x3, x4, x5⟩ := C4.six
    obtain ⟨y0, y1, y2, y3, y4, y5⟩ := D4.six
    have g0 := D4.free 0
    have g1 := D4.free 1
    have g2 := D4.free 2
    have g3 := D4.free 3
    have g4 := D4.free 4
    have g5 := D4.free 5
    go_wp2_with fail
    refine bodyPost_ret (v := .agg #[.int .i64 z, .int .i64 nu, .int .i64 ba, .int .i64 at', .int .i64 de, .slice a (ins).length cap]) (results_cell_row rfl _ _ (w.heap.size + 1) 63 _ (0, 0) _ rfl ((((((D4.set 0 (.int .i64 z)).set 1 (.int .i64 nu)).set 2 (.int .i64 ba)).set 3 (.int .i64 at')).set 4 (.int .i64 de)).set 5 (.slice a (ins).length cap)) Try.underlying63 rfl rfl) rfl ?_
    have oW := only_six (V2.setCell ⟨w.heap.size, 0, none⟩ (.int .i64 z)) (w.heap.size + 1) (.int .i64 z) (.int .i64 nu) (.int .i64 ba) (.int .i64 at') (.int .i64 de) (.slice a ins.length cap)
    refine ⟨⟨z, nu, ba, at', de, ins⟩, a, cap, rfl, ⟨hz, HOK.out.nu, HOK.out.ba, HOK.out.a, HOK.out.d, HOK.out.ins⟩, by show ins.length ≤ 4; omega, ?_, (B3.trans (only_below oV (Nat.le_refl _) C3.lt)).trans (only_below oW (Nat.le_succ _) hlt5)⟩
    exact row_up (hr.below ((B3.trans (only_below oV (Nat.le_refl _) C3.lt)).trans (only_below oW (Nat.le_succ _) hlt5))) (Nat.le_trans (Nat.le_trans (Nat.le_of_lt C3.lt) oV.size) oW.size)
  by_cases hR1 : R = 1
  · subst hR1
    obtain ⟨z, q, rfl, hz, hc⟩ := four_cell W by' (-1) 4095 4096 3 Q q0 q1 hb (by decide)
    rw [s2] at hc
    have C3 := C2.alloc (.cells #[.int .i64 by', .int .i64 (-1), .int .i64 4095, .int .i64 4096] 3)
    have D3 := D2.alloc (.cells #[.int .i64 by', .int .i64 (-1), .int .i64 4095, .int .i64 4096] 3)
    have B3 := laidB B2 (.cells #[.int .i64 by', .int .i64 (-1), .int .i64 4095, .int .i64 4096] 3)
    have hr3 := rowB hr2 (laidB (Below.refl _ _) (.cells #[.int .i64 by', .int .i64 (-1), .int .i64 4095, .int .i64 4096] 3))
    obtain ⟨V, hV⟩ : ∃ V, V = W.alloc (.cells #[.int .i64 by', .int .i64 (-1), .int .i64 4095, .int .i64 4096] 3) := ⟨_, rfl⟩
    rw [← hV] at C3 D3 B3 hc hr3
    clear r0 r1 C2 D2 B2 hr2
    go_wp2_with fail
    rw [← hV]
    clear hV
    refine (HA.out V).mono ?_
    rintro e V2 ⟨rfl, hV2⟩
    subst hV2
    clear HA
    have hq0 : (0 : Int) ≤ (q : Int) := by omega
    have z1 : V2.cell? ⟨w.heap.size, 1, none⟩ = some (.int .i64 nu) := C3.cell 1
    have f1 := C3.free 1
    have C4 : Cel (V2.setCell ⟨w.heap.size, 1, none⟩ (.int .i64 z)) w.heap.size 63 #[.int .i64 c, .int .i64 z, .int .i64 ba, .int .i64 at', .int .i64 de, .slice a ins.length cap] := C3.set 1 (.int .i64 z)
    have D4 : Cel (V2.setCell ⟨w.heap.size, 1, none⟩ (.int .i64 z)) (w.heap.size + 1) 63 #[.int .i64 0, .int .i64 0, .int .i64 0, .int .i64 0, .int .i64 0, .slice none 0 0] := D3.far (by simp) _
    have hlt4 := C4.lt
    have hlt5 := D4.lt
    have oV := only_set V2 w.heap.size 1 (.int .i64 z)
    dsimp only
    obtain ⟨x0, x1, x2, x3, x4, x5⟩ := C4.six
    obtain ⟨y0, y1, y2, y3, y4, y5⟩ := D4.six
    have g0 := D4.free 0
    have g1 := D4.free 1
    have g2 := D4.free 2
    have g3 := D4.free 3
    have g4 := D4.free 4
    have g5 := D4.free 5
    go_wp2_with fail
    refine bodyPost_ret (v := .agg #[.int .i64 c, .int .i64 z, .int .i64 ba, .int .i64 at', .int .i64 de, .slice a (ins).length cap]) (results_cell_row rfl _ _ (w.heap.size + 1) 63 _ (0, 0) _ rfl ((((((D4.set 0 (.int .i64 c)).set 1 (.int .i64 z)).set 2 (.int .i64 ba)).set 3 (.int .i64 at')).set 4 (.int .i64 de)).set 5 (.slice a (ins).length cap)) Try.underlying63 rfl rfl) rfl ?_
    have oW := only_six (V2.setCell ⟨w.heap.size, 1, none⟩ (.int .i64 z)) (w.heap.size + 1) (.int .i64 c) (.int .i64 z) (.int .i64 ba) (.int .i64 at') (.int .i64 de) (.slice a ins.length cap)
    refine ⟨⟨c, z, ba, at', de, ins⟩, a, cap, rfl, ⟨HOK.out.c, hz, HOK.out.ba, HOK.out.a, HOK.out.d, HOK.out.ins⟩, by show ins.length ≤ 4; omega, ?_, (B3.trans (only_below oV (Nat.le_refl _) C3.lt)).trans (only_below oW (Nat.le_succ _) hlt5)⟩
    exact row_up (hr.below ((B3.trans (only_below oV (Nat.le_refl _) C3.lt)).trans (only_below oW (Nat.le_succ _) hlt5))) (Nat.le_trans (Nat.le_trans (Nat.le_of_lt C3.lt) oV.size) oW.size)
  by_cases hR2 : R = 2
  · subst hR2
    obtain ⟨z, q, rfl, hz, hc⟩ := four_cell W by' (-1) 4095 4096 3 Q q0 q1 hb (by decide)
    rw [s2] at hc
    have C3 := C2.alloc (.cells #[.int .i64 by', .int .i64 (-1), .int .i64 4095, .int .i64 4096] 3)
    have D3 := D2.alloc (.cells #[.int .i64 by', .int .i64 (-1), .int .i64 4095, .int .i64 4096] 3)
    have B3 := laidB B2 (.cells #[.int .i64 by', .int .i64 (-1), .int .i64 4095, .int .i64 4096] 3)
    have hr3 := rowB hr2 (laidB (Below.refl _ _) (.cells #[.int .i64 by', .int .i64 (-1), .int .i64 4095, .int .i64 4096] 3))
    obtain ⟨V, hV⟩ : ∃ V, V = W.alloc (.cells #[.int .i64 by', .int .i64 (-1), .int .i64 4095, .int .i64 4096] 3) := ⟨_, rfl⟩
    rw [← hV] at C3 D3 B3 hc hr3
    clear r0 r1 C2 D2 B2 hr2
    go_wp2_with fail
    rw [← hV]
    clear hV
    refine (HA.out V).mono ?_
    rintro e V2 ⟨rfl, hV2⟩
    subst hV2
    clear HA
    have hq0 : (0 : Int) ≤ (q : Int) := by omega
    have z2 : V2.cell? ⟨w.heap.size, 2, none⟩ = some (.int .i64 ba) := C3.cell 2
    have f2 := C3.free 2
    have C4 : Cel (V2.setCell ⟨w.heap.size, 2, none⟩ (.int .i64 z)) w.heap.size 63 #[.int .i64 c, .int .i64 nu, .int .i64 z, .int .i64 at', .int .i64 de, .slice a ins.length cap] := C3.set 2 (.int .i64 z)
    have D4 : Cel (V2.setCell ⟨w.heap.size, 2, none⟩ (.int .i64 z)) (w.heap.size + 1) 63 #[.int .i64 0, .int .i64 0, .int .i64 0, .int .i64 0, .int .i64 0, .slice none 0 0] := D3.far (by simp) _
    have hlt4 := C4.lt
    have hlt5 := D4.lt
    have oV := only_set V2 w.heap.size 2 (.int .i64 z)
    dsimp only
    obtain ⟨x0, x1, x2, x3, x4, x5⟩ := C4.six
    obtain ⟨y0, y1, y2, y3, y4, y5⟩ := D4.six
    have g0 := D4.free 0
    have g1 := D4.free 1
    have g2 := D4.free 2
    have g3 := D4.free 3
    have g4 := D4.free 4
    have g5 := D4.free 5
    go_wp2_with fail
    refine bodyPost_ret (v := .agg #[.int .i64 c, .int .i64 nu, .int .i64 z, .int .i64 at', .int .i64 de, .slice a (ins).length cap]) (results_cell_row rfl _ _ (w.heap.size + 1) 63 _ (0, 0) _ rfl ((((((D4.set 0 (.int .i64 c)).set 1 (.int .i64 nu)).set 2 (.int .i64 z)).set 3 (.int .i64 at')).set 4 (.int .i64 de)).set 5 (.slice a (ins).length cap)) Try.underlying63 rfl rfl) rfl ?_
    have oW := only_six (V2.setCell ⟨w.heap.size, 2, none⟩ (.int .i64 z)) (w.heap.size + 1) (.int .i64 c) (.int .i64 nu) (.int .i64 z) (.int .i64 at') (.int .i64 de) (.slice a ins.length cap)
    refine ⟨⟨c, nu, z, at', de, ins⟩, a, cap, rfl, ⟨HOK.out.c, HOK.out.nu, hz, HOK.out.a, HOK.out.d, HOK.out.ins⟩, by show ins.length ≤ 4; omega, ?_, (B3.trans (only_below oV (Nat.le_refl _) C3.lt)).trans (only_below oW (Nat.le_succ _) hlt5)⟩
    exact row_up (hr.below ((B3.trans (only_below oV (Nat.le_refl _) C3.lt)).trans (only_below oW (Nat.le_succ _) hlt5))) (Nat.le_trans (Nat.le_trans (Nat.le_of_lt C3.lt) oV.size) oW.size)
  by_cases hR3 : R = 3
  · subst hR3
    obtain ⟨z, q, rfl, hz, hc⟩ := four_cell W by' (-1) 65536 65537 3 Q q0 q1 hb (by decide)
    rw [s2] at hc
    have C3 := C2.alloc (.cells #[.int .i64 by', .int .i64 (-1), .int .i64 65536, .int .i64 65537] 3)
    have D3 := D2.alloc (.cells #[.int .i64 by', .int .i64 (-1), .int .i64 65536, .int .i64 65537] 3)
    have B3 := laidB B2 (.cells #[.int .i64 by', .int .i64 (-1), .int .i64 65536, .int .i64 65537] 3)
    have hr3 := rowB hr2 (laidB (Below.refl _ _) (.cells #[.int .i64 by', .int .i64 (-1), .int .i64 65536, .int .i64 65537] 3))
    obtain ⟨V, hV⟩ : ∃ V, V = W.alloc (.cells #[.int .i64 by', .int .i64 (-1), .int .i64 65536, .int .i64 65537] 3) := ⟨_, rfl⟩
    rw [← hV] at C3 D3 B3 hc hr3
    clear r0 r1 C2 D2 B2 hr2
    go_wp2_with fail
    rw [← hV]
    clear hV
    refine (HA.out V).mono ?_
    rintro e V2 ⟨rfl, hV2⟩
    subst hV2
    clear HA
    have hq0 : (0 : Int) ≤ (q : Int) := by omega
    have z3 : V2.cell? ⟨w.heap.size, 3, none⟩ = some (.int .i64 at') := C3.cell 3
    have f3 := C3.free 3
    have C4 : Cel (V2.setCell ⟨w.heap.size, 3, none⟩ (.int .i64 z)) w.heap.size 63 #[.int .i64 c, .int .i64 nu, .int .i64 ba, .int .i64 z, .int .i64 de, .slice a ins.length cap] := C3.set 3 (.int .i64 z)
    have D4 : Cel (V2.setCell ⟨w.heap.size, 3, none⟩ (.int .i64 z)) (w.heap.size + 1) 63 #[.int .i64 0, .int .i64 0, .int .i64 0, .int .i64 0, .int .i64 0, .slice none 0 0] := D3.far (by simp) _
    have hlt4 := C4.lt
    have hlt5 := D4.lt
    have oV := only_set V2 w.heap.size 3 (.int .i64 z)
    dsimp only
    obtain ⟨x0, x1, x2, x3, x4, x5⟩ := C4.six
    obtain ⟨y0, y1, y2, y3, y4, y5⟩ := D4.six
    have g0 := D4.free 0
    have g1 := D4.free 1
    have g2 := D4.free 2
    have g3 := D4.free 3
    have g4 := D4.free 4
    have g5 := D4.free 5
    go_wp2_with fail
    refine bodyPost_ret (v := .agg #[.int .i64 c, .int .i64 nu, .int .i64 ba, .int .i64 z, .int .i64 de, .slice a (ins).length cap]) (results_cell_row rfl _ _ (w.heap.size + 1) 63 _ (0, 0) _ rfl ((((((D4.set 0 (.int .i64 c)).set 1 (.int .i64 nu)).set 2 (.int .i64 ba)).set 3 (.int .i64 z)).set 4 (.int .i64 de)).set 5 (.slice a (ins).length cap)) Try.underlying63 rfl rfl) rfl ?_
    have oW := only_six (V2.setCell ⟨w.heap.size, 3, none⟩ (.int .i64 z)) (w.heap.size + 1) (.int .i64 c) (.int .i64 nu) (.int .i64 ba) (.int .i64 z) (.int .i64 de) (.slice a ins.length cap)
    refine ⟨⟨c, nu, ba, z, de, ins⟩, a, cap, rfl, ⟨HOK.out.c, HOK.out.nu, HOK.out.ba, hz, HOK.out.d, HOK.out.ins⟩, by show ins.length ≤ 4; omega, ?_, (B3.trans (only_below oV (Nat.le_refl _) C3.lt)).trans (only_below oW (Nat.le_succ _) hlt5)⟩
    exact row_up (hr.below ((B3.trans (only_below oV (Nat.le_refl _) C3.lt)).trans (only_below oW (Nat.le_succ _) hlt5))) (Nat.le_trans (Nat.le_trans (Nat.le_of_lt C3.lt) oV.size) oW.size)
  by_cases hR4 : R = 4
  · subst hR4
    obtain ⟨z, q, rfl, hz, hc⟩ := four_cell W by' (-1) 65536 65537 3 Q q0 q1 hb (by decide)
    rw [s2] at hc
    have C3 := C2.alloc (.cells #[.int .i64 by', .int .i64 (-1), .int .i64 65536, .int .i64 65537] 3)
    have D3 := D2.alloc (.cells #[.int .i64 by', .int .i64 (-1), .int .i64 65536, .int .i64 65537] 3)
    have B3 := laidB B2 (.cells #[.int .i64 by', .int .i64 (-1), .int .i64 65536, .int .i64 65537] 3)
    have hr3 := rowB hr2 (laidB (Below.refl _ _) (.cells #[.int .i64 by', .int .i64 (-1), .int .i64 65536, .int .i64 65537] 3))
    obtain ⟨V, hV⟩ : ∃ V, V = W.alloc (.cells #[.int .i64 by', .int .i64 (-1), .int .i64 65536, .int .i64 65537] 3) := ⟨_, rfl⟩
    rw [← hV] at C3 D3 B3 hc hr3
    clear r0 r1 C2 D2 B2 hr2
    go_wp2_with fail
    rw [← hV]
    clear hV
    refine (HA.out V).mono ?_
    rintro e V2 ⟨rfl, hV2⟩
    subst hV2
    clear HA
    have hq0 : (0 : Int) ≤ (q : Int) := by omega
    have z4 : V2.cell? ⟨w.heap.size, 4, none⟩ = some (.int .i64 de) := C3.cell 4
    have f4 := C3.free 4
    have C4 : Cel (V2.setCell ⟨w.heap.size, 4, none⟩ (.int .i64 z)) w.heap.size 63 #[.int .i64 c, .int .i64 nu, .int .i64 ba, .int .i64 at', .int .i64 z, .slice a ins.length cap] := C3.set 4 (.int .i64 z)
    have D4 : Cel (V2.setCell ⟨w.heap.size, 4, none⟩ (.int .i64 z)) (w.heap.size + 1) 63 #[.int .i64 0, .int .i64 0, .int .i64 0, .int .i64 0, .int .i64 0, .slice none 0 0] := D3.far (by simp) _
    have hlt4 := C4.lt
    have hlt5 := D4.lt
    have oV := only_set V2 w.heap.size 4 (.int .i64 z)
    dsimp only
    obtain ⟨x0, x1, x2, x3, x4, x5⟩ := C4.six
    obtain ⟨y0, y1, y2, y3, y4, y5⟩ := D4.six
    have g0 := D4.free 0
    have g1 := D4.free 1
    have g2 := D4.free 2
    have g3 := D4.free 3
    have g4 := D4.free 4
    have g5 := D4.free 5
    go_wp2_with fail
    refine bodyPost_ret (v := .agg #[.int .i64 c, .int .i64 nu, .int .i64 ba, .int .i64 at', .int .i64 z, .slice a (ins).length cap]) (results_cell_row rfl _ _ (w.heap.size + 1) 63 _ (0, 0) _ rfl ((((((D4.set 0 (.int .i64 c)).set 1 (.int .i64 nu)).set 2 (.int .i64 ba)).set 3 (.int .i64 at')).set 4 (.int .i64 z)).set 5 (.slice a (ins).length cap)) Try.underlying63 rfl rfl) rfl ?_
    have oW := only_six (V2.setCell ⟨w.heap.size, 4, none⟩ (.int .i64 z)) (w.heap.size + 1) (.int .i64 c) (.int .i64 nu) (.int .i64 ba) (.int .i64 at') (.int .i64 z) (.slice a ins.length cap)
    refine ⟨⟨c, nu, ba, at', z, ins⟩, a, cap, rfl, ⟨HOK.out.c, HOK.out.nu, HOK.out.ba, HOK.out.a, hz, HOK.out.ins⟩, by show ins.length ≤ 4; omega, ?_, (B3.trans (only_below oV (Nat.le_refl _) C3.lt)).trans (only_below oW (Nat.le_succ _) hlt5)⟩
    exact row_up (hr.below ((B3.trans (only_below oV (Nat.le_refl _) C3.lt)).trans (only_below oW (Nat.le_succ _) hlt5))) (Nat.le_trans (Nat.le_trans (Nat.le_of_lt C3.lt) oV.size) oW.size)
  -- what is appended
  clear r0 r1
  obtain ⟨Y, hY⟩ : ∃ Y, Y = W.alloc (.cells #[] 3) := ⟨_, rfl⟩
  have sY : Y.heap.size = w.heap.size + 3 := by rw [hY]; simp [s2]
  have C3 : Cel Y w.heap.size 63 #[.int .i64 c, .int .i64 nu, .int .i64 ba, .int .i64 at', .int .i64 de, .slice a ins.length cap] := by rw [hY]; exact C2.alloc _
  have D3 : Cel Y (w.heap.size + 1) 63 #[.int .i64 0, .int .i64 0, .int .i64 0, .int .i64 0, .int .i64 0, .slice none 0 0] := by rw [hY]; exact D2.alloc _
  have B3 : Below w.heap.size w Y := by rw [hY]; exact laidB B2 _
  have hr3 : Row .i64 Y.heap.size Y (.slice a ins.length cap) ins := rowB hr B3
  have hown : Y.ownsRow (w.heap.size + 2) 3 1 (.slice (some ⟨w.heap.size + 2, 0, none⟩) 0 0) 0 (([] : List Int).map (Value.int .i64)) :=
    owns_lit (k := .i64) [] (by rw [hY, ← s2]; exact Cel.new _ _ _) (Nat.le_refl _) rfl (by simp)
  have x5 : Y.cell? ⟨w.heap.size, 5, none⟩ = some (.slice a ins.length cap) := C3.cell 5
  rw [hY] at x5
  clear C2 D2 B2 hr2
  go_wp2_with (at_builtin; rw [← hY]; refine wpList_append_row rfl _ _ 22 rfl (w.heap.size + 2) 3 i0 .i64 _ 8 Try.underlying22 hi hz0 hz1 hz2 rfl (.slice (some ⟨w.heap.size + 2, 0, none⟩) 0 0) _ [] rfl hown _ ins _ rfl hr3 (by unfold maxLen; omega) (by omega) (by omega) ?_; intro v6 W6 hown6 hgrow6 hb6; rw [List.nil_append] at hown6; obtain ⟨a6, c6, rfl⟩ := row_slice (row_of_owns hown6).1)
  have C4 := C3.grown hgrow6 (by simp [Value.ownBlock])
  have D4 := D3.grown hgrow6 (by simp [Value.ownBlock])
  have B4 : Below w.heap.size w W6 := B3.trans (hb6.mono (by omega))
  have s6 := hb6.size
  obtain ⟨z, q, rfl, hz, hc⟩ := four_cell W6 by' (-1) 1114111 1114112 3 Q q0 q1 hb (by decide)
  obtain ⟨V, hV⟩ : ∃ V, V = W6.alloc (.cells #[.int .i64 by', .int .i64 (-1), .int .i64 1114111, .int .i64 1114112] 3) := ⟨_, rfl⟩
  have sV : V.heap.size = W6.heap.size + 1 := by rw [hV]; simp
  have C5 : Cel V w.heap.size 63 #[.int .i64 c, .int .i64 nu, .int .i64 ba, .int .i64 at', .int .i64 de, .slice a ins.length cap] := by rw [hV]; exact C4.alloc _
  have D5 : Cel V (w.heap.size + 1) 63 #[.int .i64 0, .int .i64 0, .int .i64 0, .int .i64 0, .int .i64 0, .slice none 0 0] := by rw [hV]; exact D4.alloc _
  have B5 : Below w.heap.size w V := by rw [hV]; exact laidB B4 _
  have hown7 : V.ownsRow (w.heap.size + 2) 3 1 (.slice a6 ins.length c6) ins.length (ins.map (Value.int .i64)) := by rw [hV]; exact hown6.alloc _
  rw [← hV] at hc ⊢
  clear hgrow6 hb6 C4 D4 B4 C3 D3 B3 hY hV x5 hown hown6
  refine (HA.out V).mono ?_
  rintro e V2 ⟨rfl, hV2⟩
  subst hV2
  clear HA
  have hq0 : (0 : Int) ≤ (q : Int) := by omega
  have hq1 : (q : Int) < 4 := by omega
  have C6 := C5.alloc (.cells #[.int .i64 z] 3)
  have D6 := D5.alloc (.cells #[.int .i64 z] 3)
  have B6 := laidB B5 (.cells #[.int .i64 z] 3)
  have rz := litR (k := .i64) V2 3 [z] (by simp) 1 rfl #[.int .i64 z] rfl
  rw [sV] at rz
  have ow6 := hown7.alloc (.cells #[.int .i64 z] 3)
  obtain ⟨I2, hI2⟩ : ∃ I, I = ins ++ [z] := ⟨_, rfl⟩
  have HI2 := Lib.hid hI2
  clear hI2
  dsimp only
  go_wp2_with (at_builtin; refine wpList_append_row rfl _ _ 22 rfl (w.heap.size + 2) 3 i0 .i64 _ 8 Try.underlying22 hi hz0 hz1 hz2 rfl (.slice a6 ins.length c6) _ ins rfl ow6 _ [z] _ rfl rz (by show ins.length + 1 ≤ maxLen; unfold maxLen; omega) (by show (ins.length + 1) * 8 ≤ _; omega) (by have := D6.lt; omega) ?_; intro v8 W8 hown8 hgrow8 hb8; rw [← HI2.out] at hown8; obtain ⟨a8, c8, rfl⟩ := row_slice (row_of_owns hown8).1; have C8 := C6.grown hgrow8 (fun e => by have := own_base ow6 e; omega); have D8 := D6.grown hgrow8 (fun e => by have := own_base ow6 e; omega); have B8 : Below w.heap.size w W8 := B6.trans (hb8.mono (by omega)); have u5 : W8.cell? ⟨w.heap.size, 5, none⟩ = some (.slice a ins.length cap) := C8.cell 5; have f5 := C8.free 5; have C9 : Cel (W8.setCell ⟨w.heap.size, 5, none⟩ (.slice a8 I2.length c8)) w.heap.size 63 #[.int .i64 c, .int .i64 nu, .int .i64 ba, .int .i64 at', .int .i64 de, .slice a8 I2.length c8] := C8.set 5 _; have D9 : Cel (W8.setCell ⟨w.heap.size, 5, none⟩ (.slice a8 I2.length c8)) (w.heap.size + 1) 63 #[.int .i64 0, .int .i64 0, .int .i64 0, .int .i64 0, .int .i64 0, .slice none 0 0] := D8.far (by simp) _; obtain ⟨x0, x1, x2, x3, x4, x5⟩ := C9.six; obtain ⟨y0, y1, y2, y3, y4, y5⟩ := D9.six; have g0 := D9.free 0; have g1 := D9.free 1; have g2 := D9.free 2; have g3 := D9.free 3; have g4 := D9.free 4; have g5 := D9.free 5)
  refine bodyPost_ret (v := .agg #[.int .i64 c, .int .i64 nu, .int .i64 ba, .int .i64 at', .int .i64 de, .slice a8 I2.length c8]) (results_cell_row rfl _ _ (w.heap.size + 1) 63 _ (0, 0) _ rfl ((((((D9.set 0 (.int .i64 c)).set 1 (.int .i64 nu)).set 2 (.int .i64 ba)).set 3 (.int .i64 at')).set 4 (.int .i64 de)).set 5 (.slice a8 I2.length c8)) Try.underlying63 rfl rfl) rfl ?_
  have oV := only_set W8 w.heap.size 5 (.slice a8 I2.length c8)
  have oW := only_six (W8.setCell ⟨w.heap.size, 5, none⟩ (.slice a8 I2.length c8)) (w.heap.size + 1) (.int .i64 c) (.int .i64 nu) (.int .i64 ba) (.int .i64 at') (.int .i64 de) (.slice a8 I2.length c8)
  refine ⟨⟨c, nu, ba, at', de, I2⟩, a8, c8, rfl, ⟨HOK.out.c, HOK.out.nu, HOK.out.ba, HOK.out.a, HOK.out.d, fun x hx => ?_⟩, by show I2.length ≤ 4; rw [HI2.out]; simp; omega, ?_, (B8.trans (only_below oV (Nat.le_refl _) C8.lt)).trans (only_below oW (Nat.le_succ _) D9.lt)⟩
  · have hx2 : x ∈ ins ++ [z] := by rw [← HI2.out]; exact hx
    rcases List.mem_append.1 hx2 with h | h
    · exact HOK.out.ins x h
    · simp at h; subst h; exact hz
  · refine (((row_own2 hown8).keep ⟨fun k hk => oV.block k hk.2 (by simp; omega)⟩).keep ⟨fun k hk => oW.block k (Nat.lt_of_lt_of_le hk.2 oV.size) (by simp; omega)⟩).mono (fun k hk => Nat.lt_of_lt_of_le (Nat.lt_of_lt_of_le hk.2 oV.size) oW.size)
end Go.Proofs.Ytmfekbljfnjkgaa
