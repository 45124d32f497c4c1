/- EditsMove: the walk. -/
import Derived.Test.YtmfekbljfnjkgaaEdK
import Derived.Test.YtmfekbljfnjkgaaWEditsMoved
import Derived.Deep.RegionWith
import Derived.Deep.RegionHeld3
import Derived.Deep.DeepCutAuto
namespace Go.Proofs.Ytmfekbljfnjkgaa
open Go.RowKit Go.Shelf
set_option linter.unusedVariables false

/-- What Move answers, in both cases. -/
def moveM (x y : Int) (ins : List Int) (p q : Int) (jns : List Int) : Int × Int × List Int × Int :=
  if (wfE x y ins && wfE p q jns) = true then (movAt x p q jns.length, movDel x y p q jns.length, ins, 0) else (0, 0, [], 5)
theorem moveM_any (x y : Int) (ai : Option Addr) (ci : Nat) (ins : List Int) (p q : Int) (bi : Option Addr) (di : Nat) (jns : List Int) (w : World) (hri : Row .i64 w.heap.size w (.slice ai ins.length ci) ins) (hrj : Row .i64 w.heap.size w (.slice bi jns.length di) jns)
    (hil : ins.length ≤ 65536) (hjl : jns.length ≤ 65536) :
    Calls Try.prog 13 #[.agg #[.int .i64 x, .int .i64 y, .slice ai ins.length ci], .agg #[.int .i64 p, .int .i64 q, .slice bi jns.length di]] w fun e w' => ∃ a2 c2, e = .returned (.tuple #[.agg #[.int .i64 (moveM x y ins p q jns).1, .int .i64 (moveM x y ins p q jns).2.1, .slice a2 (moveM x y ins p q jns).2.2.1.length c2], .int .i64 (moveM x y ins p q jns).2.2.2]) ∧ RowP .i64 (fun g => w.heap.size ≤ g ∧ g < w'.heap.size) w' (.slice a2 (moveM x y ins p q jns).2.2.1.length c2) (moveM x y ins p q jns).2.2.1 ∧ Below w.heap.size w w' := by
  unfold moveM
  cases h : (wfE x y ins && wfE p q jns)
  · rw [if_neg (by decide)]
    refine (move_bad x y ai ci ins p q bi di jns w hri hrj hil hjl h).mono ?_
    rintro e w' ⟨rfl, hb⟩
    exact ⟨none, 0, rfl, nil_row .i64 _ _, hb⟩
  · rw [if_pos rfl]
    rw [Bool.and_eq_true] at h
    exact move_own x y ai ci ins p q bi di jns w hri hrj h.1 h.2
/-- Four edits in a slice. -/
def FourP (W : World) (g : Nat) : Prop := ∀ m, m < 4 → ∃ (x y : Int) (a : Option Addr) (c : Nat) (ins : List Int), W.cell? ⟨g, m * 3, none⟩ = some (.int .i64 x) ∧ W.cell? ⟨g, m * 3 + 1, none⟩ = some (.int .i64 y) ∧ W.cell? ⟨g, m * 3 + 2, none⟩ = some (.slice a ins.length c) ∧ Row .i64 W.heap.size W (.slice a ins.length c) ins ∧ ins.length ≤ 3
theorem FourP.step {W W' : World} {g : Nat} (h : FourP W g) (hb : Below W.heap.size W W') : FourP W' g := by
  intro m hm
  obtain ⟨x, y, a, c, ins, h0, h1, h2, h3, h4⟩ := h m hm
  exact ⟨x, y, a, c, ins, cellB h0 hb, cellB h1 hb, cellB h2 hb, rowB h3 hb, h4⟩
theorem four_new (W : World) (t : TypeId) (x0 y0 x1 y1 x2 y2 x3 y3 : Int) (a0 a1 a2 a3 : Option Addr) (c0 c1 c2 c3 : Nat) (i0 i1 i2 i3 : List Int)
    (h0 : Row .i64 W.heap.size W (.slice a0 i0.length c0) i0) (h1 : Row .i64 W.heap.size W (.slice a1 i1.length c1) i1) (h2 : Row .i64 W.heap.size W (.slice a2 i2.length c2) i2) (h3 : Row .i64 W.heap.size W (.slice a3 i3.length c3) i3)
    (l0 : i0.length ≤ 3) (l1 : i1.length ≤ 3) (l2 : i2.length ≤ 3) (l3 : i3.length ≤ 3) :
    FourP (W.alloc (.cells #[.int .i64 x0, .int .i64 y0, .slice a0 i0.length c0, .int .i64 x1, .int .i64 y1, .slice a1 i1.length c1, .int .i64 x2, .int .i64 y2, .slice a2 i2.length c2, .int .i64 x3, .int .i64 y3, .slice a3 i3.length c3] t)) W.heap.size := by
  intro m hm
  have hC := Cel.new W t #[.int .i64 x0, .int .i64 y0, .slice a0 i0.length c0, .int .i64 x1, .int .i64 y1, .slice a1 i1.length c1, .int .i64 x2, .int .i64 y2, .slice a2 i2.length c2, .int .i64 x3, .int .i64 y3, .slice a3 i3.length c3]
  have hb := laidB (Below.refl W.heap.size W) (.cells #[.int .i64 x0, .int .i64 y0, .slice a0 i0.length c0, .int .i64 x1, .int .i64 y1, .slice a1 i1.length c1, .int .i64 x2, .int .i64 y2, .slice a2 i2.length c2, .int .i64 x3, .int .i64 y3, .slice a3 i3.length c3] t)
  rcases m with _ | _ | _ | _ | m
  · exact ⟨x0, y0, a0, c0, i0, hC.cell 0, hC.cell 1, hC.cell 2, rowB h0 hb, l0⟩
  · exact ⟨x1, y1, a1, c1, i1, hC.cell 3, hC.cell 4, hC.cell 5, rowB h1 hb, l1⟩
  · exact ⟨x2, y2, a2, c2, i2, hC.cell 6, hC.cell 7, hC.cell 8, rowB h2 hb, l2⟩
  · exact ⟨x3, y3, a3, c3, i3, hC.cell 9, hC.cell 10, hC.cell 11, rowB h3 hb, l3⟩
  · omega

theorem row_set_box {k : IntKind} {W : World} {b : Nat} {sv : Value} {zs : List Int} (h : RowP k (fun g => b + 1 ≤ g ∧ g < W.heap.size) W sv zs) (u0 u1 u2 : Value) :
    Row k (((W.setCell ⟨b, 0, none⟩ u0).setCell ⟨b, 1, none⟩ u1).setCell ⟨b, 2, none⟩ u2).heap.size (((W.setCell ⟨b, 0, none⟩ u0).setCell ⟨b, 1, none⟩ u1).setCell ⟨b, 2, none⟩ u2) sv zs := by
  refine RowP.mono (fun g hg => ?_) (RowP.keep (((KeepP.setCell (fun g => b + 1 ≤ g ∧ g < W.heap.size) W ⟨b, 0, none⟩ _ ?_).trans (KeepP.setCell _ _ ⟨b, 1, none⟩ _ ?_)).trans (KeepP.setCell _ _ ⟨b, 2, none⟩ _ ?_)) h)
  · simp; omega
  all_goals exact fun h => by have := h.1; dsimp only at this; omega
theorem moveM_no {x y : Int} {ins : List Int} {p q : Int} {jns : List Int} (h : (wfE x y ins && wfE p q jns) = false) : moveM x y ins p q jns = (0, 0, [], 5) := by
  unfold moveM; rw [h, if_neg (by decide)]
theorem moveM_yes {x y : Int} {ins : List Int} {p q : Int} {jns : List Int} (h : (wfE x y ins && wfE p q jns) = true) : moveM x y ins p q jns = (movAt x p q jns.length, movDel x y p q jns.length, ins, 0) := by
  unfold moveM; rw [if_pos h]

set_option maxRecDepth 100000 in
set_option maxHeartbeats 4000000 in
theorem editsMove_walk (a0 : Int) (a1 : Option Addr) (len1 cap1 : Nat) (z1 : List Int) (a2 : Int) (a3 : Int) (a4 : Int) (w : World) (w0 : (Lit.int .i64 a0).wf = true) (w1 : IsRow .i64 w a1 len1 cap1 z1) (w2 : (Lit.int .i64 a2).wf = true) (w3 : (Lit.int .i64 a3).wf = true) (w4 : (Lit.int .i64 a4).wf = true) :
    Calls Try.prog 3 #[.int .i64 a0, .slice a1 len1 cap1, .int .i64 a2, .int .i64 a3, .int .i64 a4] w fun e w' => e = .returned (.bool true) ∧ Below w.heap.size w w' := by
  obtain ⟨hr1, hw1⟩ := w1.row
  have hl1 := hr1.len
  clear w1
  generalize z1.take len1 = l1 at *
  subst hl1
  go_enter Try.func3, Try.ntmps3
  go_wp2_with fail
  refine (around_any a0 30 _ w0 (by decide) (by decide)).mono ?_
  rintro e X ⟨rfl, hX⟩
  subst hX
  have ha0 := aroundI_lo a0 30 (by decide)
  have ha1 := aroundI_hi a0 30 (by decide)
  generalize aroundI a0 30 = N at *
  obtain ⟨k, rfl⟩ := Int.eq_ofNat_of_zero_le ha0
  have b1 := Below.refl X.heap.size X
  have HW := Lib.hid hw1
  have hk30 : k ≤ 30 := by omega
  clear ha0 ha1 hw1
  dsimp only
  go_wp2_with fail
  refine (pick_20 a1 cap1 l1 0 0 rfl X hr1 HW.out (by decide)).mono ?_
  rintro e qa ⟨n0, rfl, hn0, hq⟩
  subst  hq
  dsimp only
  go_wp2_with fail
  refine (pick_20 a1 cap1 l1 1 1 rfl _ hr1 HW.out (by decide)).mono ?_
  rintro e qb ⟨n1, rfl, hn1, hq⟩
  subst  hq
  dsimp only
  go_wp2_with fail
  refine (edit27_any k n0 n1 _ (by omega) hn0 hn1).mono ?_
  rintro e q2 ⟨x, y, ins, ai, ci, rfl, hxy, hil, hio, hri, b2⟩
  replace b1 := stepB b1 b2
  replace hr1 := rowB hr1 b2
  have HIP := Lib.hid (small_plain hio)
  clear b2 hn0 hn1 hio
  dsimp only
  go_wp2_with fail
  refine (pick_20 a1 cap1 l1 2 2 rfl _ hr1 HW.out (by decide)).mono ?_
  rintro e qc ⟨n0, rfl, hn0, hq⟩
  subst  hq
  dsimp only
  go_wp2_with fail
  refine (pick_20 a1 cap1 l1 3 3 rfl _ hr1 HW.out (by decide)).mono ?_
  rintro e qd ⟨n1, rfl, hn1, hq⟩
  subst  hq
  dsimp only
  go_wp2_with fail
  refine (edit27_any k n0 n1 _ (by omega) hn0 hn1).mono ?_
  rintro e q3 ⟨p, u, jns, bi, di, rfl, hpq, hjl, hjo, hrj, b2⟩
  replace b1 := stepB b1 b2
  replace hri := rowB hri b2
  have HJP := Lib.hid (small_plain hjo)
  clear b2 hn0 hn1 hjo hr1 HW
  dsimp only
  go_upto_region 4 with (fail)
  have hb1 := laidB b1 (.cells #[.int .i64 a4] 3)
  have hr4 := litR (k := .i64) q3 3 [a4] (by simp) 1 rfl #[.int .i64 a4] rfl
  have hF := four_new (q3.alloc (.cells #[.int .i64 a4] 3)) 25 x y p u a2 a3 65536 65536 ai bi (some ⟨q3.heap.size, 0, none⟩) none ci di 1 0 ins jns [a4] [] (rowB hri (laidB (Below.refl _ _) _)) (rowB hrj (laidB (Below.refl _ _) _)) hr4 (nil_row .i64 _ _) hil hjl (by simp) (by simp)
  have hb2 := laidB hb1 (.cells #[.int .i64 x, .int .i64 y, .slice ai ins.length ci, .int .i64 p, .int .i64 u, .slice bi jns.length di, .int .i64 a2, .int .i64 a3, .slice (some ⟨q3.heap.size, 0, none⟩) 1 1, .int .i64 65536, .int .i64 65536, .slice none 0 0] 25)
  rw [show (q3.alloc (.cells #[.int .i64 a4] 3)).heap.size = q3.heap.size + 1 from by simp] at hF
  generalize hW : ((q3.alloc (.cells #[.int .i64 a4] 3)).alloc (.cells #[.int .i64 x, .int .i64 y, .slice ai ins.length ci, .int .i64 p, .int .i64 u, .slice bi jns.length di, .int .i64 a2, .int .i64 a3, .slice (some ⟨q3.heap.size, 0, none⟩) 1 1, .int .i64 65536, .int .i64 65536, .slice none 0 0] 25)) = W1 at *
  have hF1 := hF
  clear hW hF hb1 b1 hri hrj hr4 HIP HJP hxy hpq hil hjl
  generalize q3.heap.size + 1 = g at *
  go_loopw [13] (fun i wr => ∃ m : Nat, m ≤ 4 ∧ i = .int .i64 (m : Int) ∧ FourP wr g ∧ Below qb.heap.size qb wr) (fun i _ => 4 - (intOf i).toNat)
  case atStart => exact ⟨0, by omega, rfl, hF1, hb2⟩
  case round =>
    obtain ⟨m, hm, rfl, hFr, hB⟩ := hrel
    by_cases hlt : m < 4
    · have hm2 : (m : Int) < 4 := by omega
      have hm0 : (0 : Int) ≤ (m : Int) := by omega
      clear hF1 hb2
      go_wp2_with fail
      go_loopw [14] (fun i wr2 => ∃ n : Nat, n ≤ 4 ∧ i = .int .i64 (n : Int) ∧ FourP wr2 g ∧ Below qb.heap.size qb wr2) (fun i _ => 4 - (intOf i).toNat)
      case atStart => exact ⟨0, by omega, rfl, hFr, hB⟩
      case round =>
        obtain ⟨n, hn, rfl, hFs, hBs⟩ := hrel
        have hn0 : (0 : Int) ≤ (n : Int) := by omega
        by_cases hlt2 : n < 4
        · have hn2 : (n : Int) < 4 := by omega
          clear hFr hB
          obtain ⟨ex, ey, ea, ec, ez, c0, c1, c2, hre, hle⟩ := hFs m hlt
          obtain ⟨fx, fy, fa, fc, fz, d0, d1, d2, hrf, hlf⟩ := hFs n hlt2
          go_wp2_with fail
          obtain ⟨r1, r2, r3, r4, hR⟩ : ∃ r1 r2 r3 r4, moveM ex ey ez fx fy fz = (r1, r2, r3, r4) := ⟨_, _, _, _, rfl⟩
          have hmv := fun W h1 h2 => moveM_any ex ey ea ec ez fx fy fa fc fz W h1 h2 (by omega) (by omega)
          simp only [hR] at hmv
          have HMV := Lib.hid hmv
          have HR := Lib.hid hR
          clear hmv hR
          go_cut [15, 16] (fun s t wx => ∃ (b : Nat) (a8 : Option Addr) (c8 : Nat), s = .pointer (some ⟨b, 0, none⟩) ∧ t = .int .i64 r4 ∧ Cel wx b 25 #[.int .i64 r1, .int .i64 r2, .slice a8 r3.length c8] ∧ Row .i64 wx.heap.size wx (.slice a8 r3.length c8) r3 ∧ Below wr.heap.size wr wx)
          case first =>
            have kc0 : ∀ o, (wr.alloc o).cell? ⟨g, m * 3, none⟩ = some (.int .i64 ex) := fun o => cellB c0 (laidB (Below.refl wr.heap.size wr) o)
            have kc1 : ∀ o, (wr.alloc o).cell? ⟨g, m * 3 + 1, none⟩ = some (.int .i64 ey) := fun o => cellB c1 (laidB (Below.refl wr.heap.size wr) o)
            have kc2 : ∀ o, (wr.alloc o).cell? ⟨g, m * 3 + 2, none⟩ = some (.slice ea ez.length ec) := fun o => cellB c2 (laidB (Below.refl wr.heap.size wr) o)
            have kd0 : ∀ o, (wr.alloc o).cell? ⟨g, n * 3, none⟩ = some (.int .i64 fx) := fun o => cellB d0 (laidB (Below.refl wr.heap.size wr) o)
            have kd1 : ∀ o, (wr.alloc o).cell? ⟨g, n * 3 + 1, none⟩ = some (.int .i64 fy) := fun o => cellB d1 (laidB (Below.refl wr.heap.size wr) o)
            have kd2 : ∀ o, (wr.alloc o).cell? ⟨g, n * 3 + 2, none⟩ = some (.slice fa fz.length fc) := fun o => cellB d2 (laidB (Below.refl wr.heap.size wr) o)
            go_region_with (first
              | (go_at_call 13; refine (HMV.out _ (rowB hre (by first | exact (Below.refl _ _).drew | exact laidB ((Below.refl _ _).drew) _)) (rowB hrf (by first | exact (Below.refl _ _).drew | exact laidB ((Below.refl _ _).drew) _))).mono ?_; rintro e w8 ⟨a8, c8, rfl, hr8, b8⟩; dsimp only; have hb8 : Below wr.heap.size wr w8 := stepB (by first | exact (Below.refl _ _).drew | exact laidB ((Below.refl _ _).drew) _) b8; have hs8 := hb8.size; have hr9 : RowP .i64 (fun g => wr.heap.size + 1 ≤ g ∧ g < w8.heap.size) w8 (.slice a8 r3.length c8) r3 := hr8.mono (fun g h => ⟨by have := h.1; simp at this; omega, h.2⟩); have hx8 : Cel w8 wr.heap.size 25 #[.int .i64 0, .int .i64 0, .slice none 0 0] := Cel.step (W := wr.drew.alloc (.cells #[.int .i64 0, .int .i64 0, .slice none 0 0] 25)) (Cel.new _ _ _) b8; have hz8 : wr.heap.size + 1 ≤ w8.heap.size := (by have := b8.size; simp at this; omega); have x0 : w8.cell? ⟨wr.heap.size, 0, none⟩ = some (.int .i64 0) := hx8.cell 0; have x1 : w8.cell? ⟨wr.heap.size, 1, none⟩ = some (.int .i64 0) := hx8.cell 1; have x2 : w8.cell? ⟨wr.heap.size, 2, none⟩ = some (.slice none 0 0) := hx8.cell 2; have y0 := hx8.free 0; have y1 := hx8.free 1; have y2 := hx8.free 2)
              | (go_at_call 13; refine (HMV.out _ (rowB hre (by first | exact (Below.refl _ _).drew | exact laidB ((Below.refl _ _).drew) _)) (rowB hrf (by first | exact (Below.refl _ _).drew | exact laidB ((Below.refl _ _).drew) _))).mono ?_; rintro e w8 ⟨a8, c8, rfl, hr8, b8⟩; dsimp only; have hb8 : Below wr.heap.size wr w8 := stepB (by first | exact (Below.refl _ _).drew | exact laidB ((Below.refl _ _).drew) _) b8; have hs8 := hb8.size))
            all_goals
              go_wp2_with fail
              go_meet
              first
                | exact ⟨_, a8, c8, rfl, rfl, Cel.new _ _ _, rowB (hr8.mono (fun g h => h.2)) (laidB (Below.refl _ _) _), stepB hb8 (laidB (Below.refl _ _) _)⟩
                | exact ⟨_, a8, c8, rfl, rfl, ((hx8.set 0 _).set 1 _).set 2 _, row_set_box hr9 _ _ _, ((hb8.setCell (Nat.le_refl _) _).setCell (Nat.le_refl _) _).setCell (Nat.le_refl _) _⟩
          case rest =>
            obtain ⟨b, a8, c8, rfl, rfl, hbx, hrx, hbw⟩ := hcut
            have hFt := hFs.step hbw
            have hBt := stepB hBs hbw
            replace hre := rowB hre hbw
            replace hrf := rowB hrf hbw
            replace c0 := cellB c0 hbw
            replace c1 := cellB c1 hbw
            replace c2 := cellB c2 hbw
            replace d0 := cellB d0 hbw
            replace d1 := cellB d1 hbw
            replace d2 := cellB d2 hbw
            clear HMV hFs hBs hbw
            go_wp2_with fail
            refine (refFormed_any ex ey ea ec ez _ hre (by omega)).mono ?_
            rintro e w4 ⟨rfl, hbw⟩
            replace hFt := hFt.step hbw
            replace hBt := stepB hBt hbw
            replace hre := rowB hre hbw
            replace hrf := rowB hrf hbw
            replace hrx := rowB hrx hbw
            replace hbx := hbx.step hbw
            replace c0 := cellB c0 hbw
            replace c1 := cellB c1 hbw
            replace c2 := cellB c2 hbw
            replace d0 := cellB d0 hbw
            replace d1 := cellB d1 hbw
            replace d2 := cellB d2 hbw
            clear hbw
            dsimp only
            go_wp2_with fail
            refine (refFormed_any fx fy fa fc fz _ hrf (by omega)).mono ?_
            rintro e w5 ⟨rfl, hbw⟩
            replace hFt := hFt.step hbw
            replace hBt := stepB hBt hbw
            replace hre := rowB hre hbw
            replace hrf := rowB hrf hbw
            replace hrx := rowB hrx hbw
            replace hbx := hbx.step hbw
            replace c0 := cellB c0 hbw
            replace c1 := cellB c1 hbw
            replace c2 := cellB c2 hbw
            replace d0 := cellB d0 hbw
            replace d1 := cellB d1 hbw
            replace d2 := cellB d2 hbw
            clear hbw
            cases hboth : (wfE ex ey ez && wfE fx fy fz)
            · have hm := HR.out
              rw [moveM_no hboth] at hm
              simp only [Prod.mk.injEq] at hm
              obtain ⟨rfl, rfl, rfl, rfl⟩ := hm
              have z0 : w5.cell? ⟨b, 0, none⟩ = some (.int .i64 0) := hbx.cell 0
              have z1 : w5.cell? ⟨b, 1, none⟩ = some (.int .i64 0) := hbx.cell 1
              have z2 : w5.cell? ⟨b, 2, none⟩ = some (.slice a8 0 c8) := hbx.cell 2
              have hcase : wfE ex ey ez = false ∨ wfE ex ey ez = true ∧ wfE fx fy fz = false := by
                cases h : wfE ex ey ez
                · exact .inl rfl
                · rw [h] at hboth; exact .inr ⟨rfl, by simpa using hboth⟩
              clear HR hboth c0 c1 c2 d0 d1 d2 hre hrf
              rcases hcase with h | ⟨h, h'⟩
              · rw [h]
                generalize wfE fx fy fz = F2 at *
                clear h
                dsimp only
                go_wp2_with fail
                refine (sameEdit_self 0 0 a8 c8 none 0 [] w5 hrx (nil_row .i64 _ _)).mono ?_
                rintro e w6 ⟨rfl, hbw⟩
                clear z0 z1 z2
                replace hFt := hFt.step hbw
                replace hBt := stepB hBt hbw
                dsimp only
                go_wp2_with fail
                go_roundw
                case rel => exact ⟨n + 1, by omega, by go_num, hFt, hBt⟩
                case measure => simp [intOf]; omega
              · rw [h, h']
                clear h h'
                dsimp only
                go_wp2_with fail
                refine (sameEdit_self 0 0 a8 c8 none 0 [] w5 hrx (nil_row .i64 _ _)).mono ?_
                rintro e w6 ⟨rfl, hbw⟩
                clear z0 z1 z2
                replace hFt := hFt.step hbw
                replace hBt := stepB hBt hbw
                dsimp only
                go_wp2_with fail
                go_roundw
                case rel => exact ⟨n + 1, by omega, by go_num, hFt, hBt⟩
                case measure => simp [intOf]; omega
            · have hm := HR.out
              rw [moveM_yes hboth] at hm
              simp only [Prod.mk.injEq] at hm
              obtain ⟨h1, h2, rfl, rfl⟩ := hm
              rw [Bool.and_eq_true] at hboth
              rw [hboth.1, hboth.2]
              obtain ⟨g1, g2, g3, _⟩ := wfE_iff hboth.1
              obtain ⟨g4, g5, g6, _⟩ := wfE_iff hboth.2
              have hrm := fun W => refMove_any ex ey ea ez.length ec fx fy fa fz.length fc W g1 g2 g4 g5 g6
              rw [h1, h2] at hrm
              have HRM := Lib.hid hrm
              have z0 : w5.cell? ⟨b, 0, none⟩ = some (.int .i64 r1) := hbx.cell 0
              have z1 : w5.cell? ⟨b, 1, none⟩ = some (.int .i64 r2) := hbx.cell 1
              have z2 : w5.cell? ⟨b, 2, none⟩ = some (.slice a8 ez.length c8) := hbx.cell 2
              clear HR hboth g1 g2 g3 g4 g5 g6 h1 h2 hrm
              dsimp only
              go_wp2_with fail
              go_region_held3 (fun w' => w'.cell? ⟨b, 0, none⟩ = some (.int .i64 r1) ∧ w'.cell? ⟨b, 1, none⟩ = some (.int .i64 r2) ∧ w'.cell? ⟨b, 2, none⟩ = some (.slice a8 ez.length c8) ∧ w'.cell? ⟨g, m * 3, none⟩ = some (.int .i64 ex) ∧ w'.cell? ⟨g, m * 3 + 1, none⟩ = some (.int .i64 ey) ∧ w'.cell? ⟨g, m * 3 + 2, none⟩ = some (.slice ea ez.length ec) ∧ w'.cell? ⟨g, n * 3, none⟩ = some (.int .i64 fx) ∧ w'.cell? ⟨g, n * 3 + 1, none⟩ = some (.int .i64 fy) ∧ w'.cell? ⟨g, n * 3 + 2, none⟩ = some (.slice fa fz.length fc)) (first | go_keep) (first
                | (go_at_call 15; refine (sameEdit_self r1 r2 a8 c8 ea ec ez _ (rowB hrx hb96) (rowB hre hb96)).mono ?_; rintro e w97 ⟨rfl, b97⟩; dsimp only; have hb97 := stepB hb96 b97; have xz0 := cellB z0 hb97; have xz1 := cellB z1 hb97; have xz2 := cellB z2 hb97; have xc0 := cellB c0 hb97; have xc1 := cellB c1 hb97; have xc2 := cellB c2 hb97; have xd0 := cellB d0 hb97; have xd1 := cellB d1 hb97; have xd2 := cellB d2 hb97)
                | (go_at_call 16; refine (HRM.out _).mono ?_; rintro e w96 ⟨rfl, b96⟩; dsimp only; have hb96 : Below w5.heap.size w5 w96 := ((Below.refl w5.heap.size w5).drew).trans b96; have yz0 := cellB z0 hb96; have yz1 := cellB z1 hb96; have yz2 := cellB z2 hb96; have yc0 := cellB c0 hb96; have yc1 := cellB c1 hb96; have yc2 := cellB c2 hb96; have yd0 := cellB d0 hb96; have yd1 := cellB d1 hb96; have yd2 := cellB d2 hb96))
              all_goals
                have hFu := hFt.step hb97
                have hBu := stepB hBt hb97
                clear z0 z1 z2 c0 c1 c2 d0 d1 d2 HRM
                go_wp2_with fail
                go_roundw
                case rel => exact ⟨n + 1, by omega, by go_num, hFu, hBu⟩
                case measure => simp [intOf]; omega
        · have hn4 : ¬ (n : Int) < 4 := by omega
          go_wp2_with fail
          go_roundw
          case rel => exact ⟨m + 1, by omega, by go_num, hFs, hBs⟩
          case measure => simp [intOf]; omega
    · have hm4 : ¬ (m : Int) < 4 := by omega
      have hlv := lives27_any wr
      have HLV := Lib.hid hlv
      clear hlv
      go_wp2_with fail
      refine HLV.out.mono ?_
      rintro e w9 ⟨rfl, hb9⟩
      have b3 := stepB hB hb9
      dsimp only
      go_wp2_with fail
      go_ret
      exact ⟨rfl, b3⟩
end Go.Proofs.Ytmfekbljfnjkgaa
