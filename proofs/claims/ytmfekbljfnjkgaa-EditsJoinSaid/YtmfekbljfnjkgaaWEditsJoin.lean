/- EditsJoin: the walk. -/
import Derived.Test.YtmfekbljfnjkgaaEdP
import Derived.Test.YtmfekbljfnjkgaaWEditsMove
namespace Go.Proofs.Ytmfekbljfnjkgaa
open Go.RowKit Go.Shelf
set_option linter.unusedVariables false

/-- Two edits in a slice. -/
def TwoP (W : World) (g : Nat) : Prop := ∀ m, m < 2 → ∃ (x y : Int) (a : Option Addr) (c : Nat) (ins : List Int), W.cell? ⟨g, m * 3, none⟩ = some (.int .i64 x) ∧ W.cell? ⟨g, m * 3 + 1, none⟩ = some (.int .i64 y) ∧ W.cell? ⟨g, m * 3 + 2, none⟩ = some (.slice a ins.length c) ∧ Row .i64 W.heap.size W (.slice a ins.length c) ins ∧ ins.length ≤ 3 ∧ (Lit.int .i64 x).wf = true ∧ (Lit.int .i64 y).wf = true ∧ ins.any strangeB = false
theorem TwoP.step {W W' : World} {g : Nat} (h : TwoP W g) (hb : Below W.heap.size W W') : TwoP W' g := by
  intro m hm
  obtain ⟨x, y, a, c, ins, h0, h1, h2, h3, h4⟩ := h m hm
  exact ⟨x, y, a, c, ins, cellB h0 hb, cellB h1 hb, cellB h2 hb, rowB h3 hb, h4⟩
theorem two_new (W : World) (t : TypeId) (x0 y0 x1 y1 : Int) (a0 a1 : Option Addr) (c0 c1 : Nat) (i0 i1 : List Int)
    (h0 : Row .i64 W.heap.size W (.slice a0 i0.length c0) i0) (h1 : Row .i64 W.heap.size W (.slice a1 i1.length c1) i1)
    (l0 : i0.length ≤ 3 ∧ (Lit.int .i64 x0).wf = true ∧ (Lit.int .i64 y0).wf = true ∧ i0.any strangeB = false) (l1 : i1.length ≤ 3 ∧ (Lit.int .i64 x1).wf = true ∧ (Lit.int .i64 y1).wf = true ∧ i1.any strangeB = false) :
    TwoP (W.alloc (.cells #[.int .i64 x0, .int .i64 y0, .slice a0 i0.length c0, .int .i64 x1, .int .i64 y1, .slice a1 i1.length c1] t)) W.heap.size := by
  intro m hm
  have hC := Cel.new W t #[.int .i64 x0, .int .i64 y0, .slice a0 i0.length c0, .int .i64 x1, .int .i64 y1, .slice a1 i1.length c1]
  have hb := laidB (Below.refl W.heap.size W) (.cells #[.int .i64 x0, .int .i64 y0, .slice a0 i0.length c0, .int .i64 x1, .int .i64 y1, .slice a1 i1.length c1] t)
  rcases m with _ | _ | m
  · exact ⟨x0, y0, a0, c0, i0, hC.cell 0, hC.cell 1, hC.cell 2, rowB h0 hb, l0⟩
  · exact ⟨x1, y1, a1, c1, i1, hC.cell 3, hC.cell 4, hC.cell 5, rowB h1 hb, l1⟩
  · omega
theorem refJoin_same (a : Option Addr) (cap : Nat) (l : List Int) (x y : Nat) (ai : Option Addr) (ci : Nat) (ins : List Int) (p q : Nat) (bi : Option Addr) (di : Nat) (jns S L mid : List Int) (t st D : Nat) (w : World) (hr : Row .i64 w.heap.size w (.slice a l.length cap) l) (hri : Row .i64 w.heap.size w (.slice ai ins.length ci) ins) (hrj : Row .i64 w.heap.size w (.slice bi jns.length di) jns)
    (hl : l.length ≤ 1000) (hil : ins.length ≤ 1000) (hjl : jns.length ≤ 1000) (hxy : x + y ≤ l.length) (hip : ins.any strangeB = false) (hS : l.take x ++ ins ++ l.drop (x + y) = S) (hSl : S.length ≤ 1000) (hpq : p + q ≤ S.length) (hjp : jns.any strangeB = false) (hL : S.take p ++ jns ++ S.drop (p + q) = L)
    (ht : t = min x p) (hst : st = min (l.length - x - y) (S.length - p - q)) (hD : D + st + t = l.length) (hm : (L.drop t).take (L.length - st - t) = mid) :
    Calls Try.prog 23 #[.slice a l.length cap, .agg #[.int .i64 (x : Int), .int .i64 (y : Int), .slice ai ins.length ci], .agg #[.int .i64 (p : Int), .int .i64 (q : Int), .slice bi jns.length di]] w fun e w' => ∃ a2 c2, e = .returned (.agg #[.int .i64 (t : Int), .int .i64 (D : Int), .slice a2 mid.length c2]) ∧ Row .i64 w'.heap.size w' (.slice a2 mid.length c2) mid ∧ Below w.heap.size w w' := by
  refine (refJoin_ok a cap l x y ai ci ins p q bi di jns S L w hr hri hrj hl hil hjl hxy hip hS hSl hpq hjp hL).mono ?_
  rintro e w' ⟨t2, st2, D2, a2, c2, ht2, hst2, hD2, rfl, hrow, hb⟩
  obtain rfl : t2 = t := by omega
  obtain rfl : st2 = st := by omega
  obtain rfl : D2 = D := by omega
  subst hm
  exact ⟨a2, c2, rfl, hrow, hb⟩
theorem wf_small (n : Nat) (h : n ≤ 1000) : (Lit.int .i64 (n : Int)).wf = true := by
  simp [Lit.wf, IntKind.min, IntKind.max, IntKind.signed, IntKind.bits]
  omega

set_option maxRecDepth 100000 in
set_option maxHeartbeats 8000000 in
theorem editsJoin_walk (a0 : Option Addr) (len0 cap0 : Nat) (z0 : List Int) (a1 : Option Addr) (len1 cap1 : Nat) (z1 : List Int) (a2 : Int) (a3 : Int) (w : World) (w0 : IsRow .i64 w a0 len0 cap0 z0) (w1 : IsRow .i64 w a1 len1 cap1 z1) (w2 : (Lit.int .i64 a2).wf = true) (w3 : (Lit.int .i64 a3).wf = true) :
    Calls Try.prog 5 #[.slice a0 len0 cap0, .slice a1 len1 cap1, .int .i64 a2, .int .i64 a3] w fun e w' => e = .returned (.bool true) ∧ Below w.heap.size w w' := by
  obtain ⟨hr0, hw0⟩ := w0.row
  obtain ⟨hr1, hw1⟩ := w1.row
  have hl0 := hr0.len
  have hl1 := hr1.len
  clear w0 w1
  generalize z0.take len0 = l0 at *
  generalize z1.take len1 = l1 at *
  subst hl0 hl1
  go_enter Try.func5, Try.ntmps5
  go_wp2_with fail
  refine (text5_row a0 cap0 l0 30 30 rfl w hr0 (by decide) hw0).mono ?_
  rintro e q1 ⟨at1, ct1, T, rfl, hTl, hTp, hT, b1⟩
  replace hr1 := rowB hr1 b1
  clear hr0 hw0
  have HW := Lib.hid hw1
  have HTP := Lib.hid hTp
  clear hw1 hTp
  dsimp only
  go_wp2_with fail
  refine (pick_20 a1 cap1 l1 0 0 rfl q1 hr1 HW.out (by decide)).mono ?_
  rintro e qa ⟨n0, rfl, hn0, hq⟩
  subst hq
  dsimp only
  go_wp2_with fail
  refine (pick_20 a1 cap1 l1 1 1 rfl _ hr1 HW.out (by decide)).mono ?_
  rintro e qb ⟨n1, rfl, hn1, hq⟩
  subst hq
  dsimp only
  go_wp2_with fail
  refine (edit27_any T.length n0 n1 _ (by omega) hn0 hn1).mono ?_
  rintro e q2 ⟨x, y, ins, ai, ci, rfl, hxy, hil, hio, hri, b2⟩
  replace b1 := stepB b1 b2
  replace hr1 := rowB hr1 b2
  replace hT := rowB hT b2
  have HIP := Lib.hid (small_plain hio)
  clear b2 hn0 hn1 hio
  obtain ⟨X1, hX1, C1, k1, s1⟩ := boxNew q2 (.int .i64 (x : Int)) (.int .i64 (y : Int)) (.slice ai ins.length ci)
  replace b1 := stepB b1 k1
  replace hr1 := rowB hr1 k1
  replace hT := rowB hT k1
  replace hri := rowB hri k1
  clear k1 s1
  dsimp only
  go_wp2_with fail
  rw [← hX1]
  clear hX1
  obtain ⟨S, hS⟩ : ∃ S, T.take x ++ ins ++ T.drop (x + y) = S := ⟨_, rfl⟩
  have hSl : S.length ≤ 40 := by rw [← hS, List.length_append, List.length_append, List.length_take, List.length_drop]; omega
  have hSp : S.any strangeB = false := by rw [← hS]; exact any_app (any_app (any_take _ HTP.out) HIP.out) (any_drop _ HTP.out)
  have HSP := Lib.hid hSp
  have HSS := Lib.hid hS
  clear hSp
  refine (splice_ok at1 ct1 T x y ai ci ins S X1 hT hri (by omega) (by omega) hxy HIP.out hS).mono ?_
  rintro e q3 ⟨e1, f1, rfl, hrS, b2⟩
  replace b1 := stepB b1 b2
  replace hr1 := rowB hr1 b2
  replace hT := rowB hT b2
  replace hri := rowB hri b2
  replace C1 := C1.step b2
  clear b2 hS
  generalize q2.heap.size = bA at *
  dsimp only
  go_wp2_with fail
  refine (pick_20 a1 cap1 l1 2 2 rfl _ hr1 HW.out (by decide)).mono ?_
  rintro e qc ⟨n0, rfl, hn0, hq⟩
  subst hq
  dsimp only
  go_wp2_with fail
  refine (pick_20 a1 cap1 l1 3 3 rfl _ hr1 HW.out (by decide)).mono ?_
  rintro e qd ⟨n1, rfl, hn1, hq⟩
  subst hq
  dsimp only
  go_wp2_with fail
  refine (edit27_any S.length n0 n1 _ (by omega) hn0 hn1).mono ?_
  rintro e q4 ⟨p, u, jns, bi, di, rfl, hpq, hjl, hjo, hrj, b2⟩
  replace b1 := stepB b1 b2
  replace hT := rowB hT b2
  replace hri := rowB hri b2
  replace hrS := rowB hrS b2
  replace C1 := C1.step b2
  have hJP := small_plain hjo
  clear b2 hn0 hn1 hjo hr1 HW
  dsimp only
  go_upto_region 8 with (fail)
  have kb := laidB (Below.refl q4.heap.size q4) (.cells #[.int .i64 7] 3)
  have hr7 := litR (k := .i64) q4 3 [7] (by decide) 1 rfl #[.int .i64 7] rfl
  have h2P := two_new (q4.alloc (.cells #[.int .i64 7] 3)) 25 p u a2 a3 bi (some ⟨q4.heap.size, 0, none⟩) di 1 jns [7] (rowB hrj kb) hr7 ⟨hjl, wf_small _ (by omega), wf_small _ (by omega), hJP⟩ ⟨by decide, w2, w3, by decide⟩
  have kc := laidB kb (.cells #[.int .i64 p, .int .i64 u, .slice bi jns.length di, .int .i64 a2, .int .i64 a3, .slice (some ⟨q4.heap.size, 0, none⟩) 1 1] 25)
  rw [show (q4.alloc (.cells #[.int .i64 7] 3)).heap.size = q4.heap.size + 1 from by simp] at h2P
  replace b1 := stepB b1 kc
  replace hT := rowB hT kc
  replace hri := rowB hri kc
  replace hrS := rowB hrS kc
  replace C1 := C1.step kc
  clear kb kc hr7 hrj hJP hpq hjl
  generalize ((q4.alloc (.cells #[.int .i64 7] 3)).alloc (.cells #[.int .i64 p, .int .i64 u, .slice bi jns.length di, .int .i64 a2, .int .i64 a3, .slice (some ⟨q4.heap.size, 0, none⟩) 1 1] 25)) = W1 at *
  generalize q4.heap.size + 1 = g at *
  have hcx : checkI T x y ins = 0 := check_ok T x y ins hxy (by omega) (by omega) HIP.out
  have hsx : spliceL T x y ins = S := by rw [spliceL_ok T x y ins hcx]; exact HSS.out
  have HCX := Lib.hid hcx
  have HSX := Lib.hid hsx
  clear hcx hsx
  go_loopw [14] (fun i wr => ∃ m : Nat, m ≤ 2 ∧ i = .int .i64 (m : Int) ∧ Below W1.heap.size W1 wr) (fun i _ => 2 - (intOf i).toNat)
  case atStart => exact ⟨0, by omega, rfl, Below.refl _ _⟩
  case round =>
    obtain ⟨m, hm, rfl, hB⟩ := hrel
    by_cases hlt : m < 2
    · have hm2 : (m : Int) < 2 := by omega
      have hm0 : (0 : Int) ≤ (m : Int) := by omega
      obtain ⟨p, u, bi, di, jns, o0c, o1c, o2c, hrj, hjl, hwp, hwu, hjp⟩ := (h2P.step hB) m hlt
      have HJP := Lib.hid hjp
      have hTw := rowB hT hB
      have hSw := rowB hrS hB
      have hiw := rowB hri hB
      have Cw := C1.step hB
      have a0c : wr.cell? ⟨bA, 0, none⟩ = some (.int .i64 (x : Int)) := Cw.cell 0
      have a1c : wr.cell? ⟨bA, 1, none⟩ = some (.int .i64 (y : Int)) := Cw.cell 1
      have a2c : wr.cell? ⟨bA, 2, none⟩ = some (.slice ai ins.length ci) := Cw.cell 2
      obtain ⟨r1, r2, r3, r4, hR⟩ : ∃ r1 r2 r3 r4, joinM T x y ins p u jns = (r1, r2, r3, r4) := ⟨_, _, _, _, rfl⟩
      obtain ⟨s1, s2, s3, s4, hQ⟩ : ∃ s1 s2 s3 s4, joinM T p u jns x y ins = (s1, s2, s3, s4) := ⟨_, _, _, _, rfl⟩
      have hwx := wf_small x (by omega)
      have hwy := wf_small y (by omega)
      have hj1 := fun W h1 h2 h3 => joinM_any at1 ct1 T x y ai ci ins p u bi di jns W h1 h2 h3 (by omega) (by omega) (by omega) hwx hwy hwp hwu
      simp only [hR] at hj1
      have hj2 := fun W h1 h2 h3 => joinM_any at1 ct1 T p u bi di jns x y ai ci ins W h1 h2 h3 (by omega) (by omega) (by omega) hwp hwu hwx hwy
      simp only [hQ] at hj2
      have HJ1 := Lib.hid hj1
      have HJ2 := Lib.hid hj2
      have HR := Lib.hid hR
      have HQ := Lib.hid hQ
      have HWP := Lib.hid hwp
      have HWU := Lib.hid hwu
      clear hj1 hj2 hR hQ hwx hwy hwp hwu hjp Cw
      go_wp2_with fail
      go_cut [15, 16] (fun s t wx => ∃ (b : Nat) (a8 : Option Addr) (c8 : Nat), s = .pointer (some ⟨b, 0, none⟩) ∧ t = .int .i64 r4 ∧ Cel wx b 25 #[.int .i64 r1, .int .i64 r2, .slice a8 r3.length c8] ∧ Row .i64 wx.heap.size wx (.slice a8 r3.length c8) r3 ∧ Below wr.heap.size wr wx)
      case first =>
        have ka0 : ∀ o, (wr.alloc o).cell? ⟨bA, 0, none⟩ = some (.int .i64 (x : Int)) := fun o => cellB a0c (laidB (Below.refl wr.heap.size wr) o)
        have ka1 : ∀ o, (wr.alloc o).cell? ⟨bA, 1, none⟩ = some (.int .i64 (y : Int)) := fun o => cellB a1c (laidB (Below.refl wr.heap.size wr) o)
        have ka2 : ∀ o, (wr.alloc o).cell? ⟨bA, 2, none⟩ = some (.slice ai ins.length ci) := fun o => cellB a2c (laidB (Below.refl wr.heap.size wr) o)
        have ko0 : ∀ o, (wr.alloc o).cell? ⟨g, m * 3, none⟩ = some (.int .i64 p) := fun o => cellB o0c (laidB (Below.refl wr.heap.size wr) o)
        have ko1 : ∀ o, (wr.alloc o).cell? ⟨g, m * 3 + 1, none⟩ = some (.int .i64 u) := fun o => cellB o1c (laidB (Below.refl wr.heap.size wr) o)
        have ko2 : ∀ o, (wr.alloc o).cell? ⟨g, m * 3 + 2, none⟩ = some (.slice bi jns.length di) := fun o => cellB o2c (laidB (Below.refl wr.heap.size wr) o)
        go_region_with (first
          | (go_at_call 21; refine (HJ1.out _ (rowB hTw (by first | exact (Below.refl _ _).drew | exact laidB ((Below.refl _ _).drew) _)) (rowB hiw (by first | exact (Below.refl _ _).drew | exact laidB ((Below.refl _ _).drew) _)) (rowB hrj (by first | exact (Below.refl _ _).drew | exact laidB ((Below.refl _ _).drew) _))).mono ?_; rintro e w8 ⟨a8, c8, rfl, hr8, b8⟩; dsimp only; have hb8 : Below wr.heap.size wr w8 := stepB (by first | exact (Below.refl _ _).drew | exact laidB ((Below.refl _ _).drew) _) b8; have hs8 := hb8.size; have hr9 : RowP .i64 (fun g => wr.heap.size + 1 ≤ g ∧ g < w8.heap.size) w8 (.slice a8 r3.length c8) r3 := hr8.mono (fun g h => ⟨by have := h.1; simp at this; omega, h.2⟩); have hx8 : Cel w8 wr.heap.size 25 #[.int .i64 0, .int .i64 0, .slice none 0 0] := Cel.step (W := wr.drew.alloc (.cells #[.int .i64 0, .int .i64 0, .slice none 0 0] 25)) (Cel.new _ _ _) b8; have hz8 : wr.heap.size + 1 ≤ w8.heap.size := (by have := b8.size; simp at this; omega); have x0 : w8.cell? ⟨wr.heap.size, 0, none⟩ = some (.int .i64 0) := hx8.cell 0; have x1 : w8.cell? ⟨wr.heap.size, 1, none⟩ = some (.int .i64 0) := hx8.cell 1; have x2 : w8.cell? ⟨wr.heap.size, 2, none⟩ = some (.slice none 0 0) := hx8.cell 2; have y0 := hx8.free 0; have y1 := hx8.free 1; have y2 := hx8.free 2)
          | (go_at_call 21; refine (HJ1.out _ (rowB hTw (by first | exact (Below.refl _ _).drew | exact laidB ((Below.refl _ _).drew) _)) (rowB hiw (by first | exact (Below.refl _ _).drew | exact laidB ((Below.refl _ _).drew) _)) (rowB hrj (by first | exact (Below.refl _ _).drew | exact laidB ((Below.refl _ _).drew) _))).mono ?_; rintro e w8 ⟨a8, c8, rfl, hr8, b8⟩; dsimp only; have hb8 : Below wr.heap.size wr w8 := stepB (by first | exact (Below.refl _ _).drew | exact laidB ((Below.refl _ _).drew) _) b8; have hs8 := hb8.size))
        all_goals
          go_wp2_with fail
          go_meet
          first
            | exact ⟨_, a8, c8, rfl, rfl, Cel.new _ _ _, rowB (hr8.mono (fun g h => h.2)) (laidB (Below.refl _ _) _), stepB hb8 (laidB (Below.refl _ _) _)⟩
            | exact ⟨_, a8, c8, rfl, rfl, ((hx8.set 0 _).set 1 _).set 2 _, row_set_box hr9 _ _ _, ((hb8.setCell (Nat.le_refl _) _).setCell (Nat.le_refl _) _).setCell (Nat.le_refl _) _⟩
      case rest =>
        obtain ⟨bX, aX, cX, rfl, rfl, CX, hrX, hbw⟩ := hcut
        have hB2 := stepB hB hbw
        replace hTw := rowB hTw hbw
        replace hSw := rowB hSw hbw
        replace hiw := rowB hiw hbw
        replace hrj := rowB hrj hbw
        replace a0c := cellB a0c hbw
        replace a1c := cellB a1c hbw
        replace a2c := cellB a2c hbw
        replace o0c := cellB o0c hbw
        replace o1c := cellB o1c hbw
        replace o2c := cellB o2c hbw
        clear hbw HJ1
        go_wp2_with fail
        refine (splice_gen e1 f1 S p u bi di jns _ _ _ hSw hrj (by omega) (by omega) HWP.out HWU.out rfl rfl).mono ?_
        rintro e w4 ⟨aU, cU, rfl, hrU, hbw⟩
        have hB3 := stepB hB2 hbw
        clear hB2
        replace hTw := rowB hTw hbw
        replace hSw := rowB hSw hbw
        replace hiw := rowB hiw hbw
        replace hrj := rowB hrj hbw
        replace hrX := rowB hrX hbw
        replace CX := CX.step hbw
        replace a0c := cellB a0c hbw
        replace a1c := cellB a1c hbw
        replace a2c := cellB a2c hbw
        replace o0c := cellB o0c hbw
        replace o1c := cellB o1c hbw
        replace o2c := cellB o2c hbw
        clear hbw
        obtain ⟨C2, hC2⟩ : ∃ C, checkI S p u jns = C := ⟨_, rfl⟩
        obtain ⟨L, hL⟩ : ∃ L, spliceL S p u jns = L := ⟨_, rfl⟩
        rw [hC2]
        rw [hL] at hrU ⊢
        have HC2 := Lib.hid hC2
        have HL := Lib.hid hL
        clear hC2 hL
        dsimp only
        go_wp2_with fail
        go_cut [19, 20] (fun s t wx => ∃ (b : Nat) (a8 : Option Addr) (c8 : Nat), s = .pointer (some ⟨b, 0, none⟩) ∧ t = .int .i64 s4 ∧ Cel wx b 25 #[.int .i64 s1, .int .i64 s2, .slice a8 s3.length c8] ∧ Row .i64 wx.heap.size wx (.slice a8 s3.length c8) s3 ∧ Below w4.heap.size w4 wx)
        case first =>
          have ka0 : ∀ o, (w4.alloc o).cell? ⟨bA, 0, none⟩ = some (.int .i64 (x : Int)) := fun o => cellB a0c (laidB (Below.refl w4.heap.size w4) o)
          have ka1 : ∀ o, (w4.alloc o).cell? ⟨bA, 1, none⟩ = some (.int .i64 (y : Int)) := fun o => cellB a1c (laidB (Below.refl w4.heap.size w4) o)
          have ka2 : ∀ o, (w4.alloc o).cell? ⟨bA, 2, none⟩ = some (.slice ai ins.length ci) := fun o => cellB a2c (laidB (Below.refl w4.heap.size w4) o)
          have ko0 : ∀ o, (w4.alloc o).cell? ⟨g, m * 3, none⟩ = some (.int .i64 p) := fun o => cellB o0c (laidB (Below.refl w4.heap.size w4) o)
          have ko1 : ∀ o, (w4.alloc o).cell? ⟨g, m * 3 + 1, none⟩ = some (.int .i64 u) := fun o => cellB o1c (laidB (Below.refl w4.heap.size w4) o)
          have ko2 : ∀ o, (w4.alloc o).cell? ⟨g, m * 3 + 2, none⟩ = some (.slice bi jns.length di) := fun o => cellB o2c (laidB (Below.refl w4.heap.size w4) o)
          go_region_with (first
            | (go_at_call 21; refine (HJ2.out _ (rowB hTw (by first | exact (Below.refl _ _).drew | exact laidB ((Below.refl _ _).drew) _)) (rowB hrj (by first | exact (Below.refl _ _).drew | exact laidB ((Below.refl _ _).drew) _)) (rowB hiw (by first | exact (Below.refl _ _).drew | exact laidB ((Below.refl _ _).drew) _))).mono ?_; rintro e w8 ⟨a8, c8, rfl, hr8, b8⟩; dsimp only; have hb8 : Below w4.heap.size w4 w8 := stepB (by first | exact (Below.refl _ _).drew | exact laidB ((Below.refl _ _).drew) _) b8; have hs8 := hb8.size; have hr9 : RowP .i64 (fun g => w4.heap.size + 1 ≤ g ∧ g < w8.heap.size) w8 (.slice a8 s3.length c8) s3 := hr8.mono (fun g h => ⟨by have := h.1; simp at this; omega, h.2⟩); have hx8 : Cel w8 w4.heap.size 25 #[.int .i64 0, .int .i64 0, .slice none 0 0] := Cel.step (W := w4.drew.alloc (.cells #[.int .i64 0, .int .i64 0, .slice none 0 0] 25)) (Cel.new _ _ _) b8; have hz8 : w4.heap.size + 1 ≤ w8.heap.size := (by have := b8.size; simp at this; omega); have x0 : w8.cell? ⟨w4.heap.size, 0, none⟩ = some (.int .i64 0) := hx8.cell 0; have x1 : w8.cell? ⟨w4.heap.size, 1, none⟩ = some (.int .i64 0) := hx8.cell 1; have x2 : w8.cell? ⟨w4.heap.size, 2, none⟩ = some (.slice none 0 0) := hx8.cell 2; have y0 := hx8.free 0; have y1 := hx8.free 1; have y2 := hx8.free 2)
            | (go_at_call 21; refine (HJ2.out _ (rowB hTw (by first | exact (Below.refl _ _).drew | exact laidB ((Below.refl _ _).drew) _)) (rowB hrj (by first | exact (Below.refl _ _).drew | exact laidB ((Below.refl _ _).drew) _)) (rowB hiw (by first | exact (Below.refl _ _).drew | exact laidB ((Below.refl _ _).drew) _))).mono ?_; rintro e w8 ⟨a8, c8, rfl, hr8, b8⟩; dsimp only; have hb8 : Below w4.heap.size w4 w8 := stepB (by first | exact (Below.refl _ _).drew | exact laidB ((Below.refl _ _).drew) _) b8; have hs8 := hb8.size))
          all_goals
            go_wp2_with fail
            go_meet
            first
              | exact ⟨_, a8, c8, rfl, rfl, Cel.new _ _ _, rowB (hr8.mono (fun g h => h.2)) (laidB (Below.refl _ _) _), stepB hb8 (laidB (Below.refl _ _) _)⟩
              | exact ⟨_, a8, c8, rfl, rfl, ((hx8.set 0 _).set 1 _).set 2 _, row_set_box hr9 _ _ _, ((hb8.setCell (Nat.le_refl _) _).setCell (Nat.le_refl _) _).setCell (Nat.le_refl _) _⟩
        case rest =>
          obtain ⟨bY, aY, cY, rfl, rfl, -, -, hbw⟩ := hcut
          have hB4 := stepB hB3 hbw
          clear hB3
          replace hTw := rowB hTw hbw
          replace hSw := rowB hSw hbw
          replace hiw := rowB hiw hbw
          replace hrj := rowB hrj hbw
          replace hrX := rowB hrX hbw
          replace hrU := rowB hrU hbw
          replace CX := CX.step hbw
          replace a0c := cellB a0c hbw
          replace a1c := cellB a1c hbw
          replace a2c := cellB a2c hbw
          replace o0c := cellB o0c hbw
          replace o1c := cellB o1c hbw
          replace o2c := cellB o2c hbw
          clear hbw HJ2
          go_wp2_with fail
          refine (refCheck_any at1 ct1 T p u bi di jns _ hTw hrj (by omega) (by omega) HWP.out HWU.out).mono ?_
          rintro e w6 ⟨rfl, hbw⟩
          have hB5 := stepB hB4 hbw
          clear hB4
          replace hTw := rowB hTw hbw
          replace hSw := rowB hSw hbw
          replace hiw := rowB hiw hbw
          replace hrj := rowB hrj hbw
          replace hrX := rowB hrX hbw
          replace hrU := rowB hrU hbw
          replace CX := CX.step hbw
          replace a0c := cellB a0c hbw
          replace a1c := cellB a1c hbw
          replace a2c := cellB a2c hbw
          replace o0c := cellB o0c hbw
          replace o1c := cellB o1c hbw
          replace o2c := cellB o2c hbw
          clear hbw
          obtain ⟨V, hV⟩ : ∃ V, checkI T p u jns = V := ⟨_, rfl⟩
          rw [hV]
          have hr4 : r4 = C2 := by
            have h := HR.out
            by_cases hz : C2 = 0
            · have h2 : checkI (spliceL T x y ins) p u jns = 0 := by rw [HSX.out, HC2.out]; exact hz
              unfold joinM at h
              rw [if_pos HCX.out, if_pos h2] at h
              simp only [Prod.mk.injEq] at h
              rw [hz, ← h.2.2.2]
            · rw [joinM_no2 HCX.out (by rw [HSX.out, HC2.out]; exact hz)] at h
              simp only [Prod.mk.injEq] at h
              rw [← h.2.2.2, HSX.out, HC2.out]
          subst hr4
          have hs4 : V ≠ 0 → s4 = V := by
            intro hz
            have h := HQ.out
            rw [joinM_no1 (by rw [hV]; exact hz)] at h
            simp only [Prod.mk.injEq] at h
            rw [← h.2.2.2, hV]
          have HS4 := Lib.hid hs4
          clear hs4 hV HQ
          by_cases hv : V = 0
          all_goals first
            | (subst hv
               clear HS4
               dsimp only
               go_upto_region 16 with (fail))
            | (have hs := HS4.out hv
               subst hs
               have hvn : (s4 != 0) = true := by simpa using hv
               clear HS4
               dsimp only
               go_upto_region 16 with (fail)
               clear hvn hv)
          all_goals
            by_cases hc : r4 = 0
            · subst hc
              obtain ⟨m0, m1, m2, m3, m4, m5⟩ := checkI_0 HC2.out
              obtain ⟨p, rfl⟩ := Int.eq_ofNat_of_zero_le m0
              obtain ⟨u, rfl⟩ := Int.eq_ofNat_of_zero_le m1
              have hpu : p + u ≤ S.length := by omega
              have hLe : S.take p ++ jns ++ S.drop (p + u) = L := by rw [← spliceL_ok S p u jns HC2.out]; exact HL.out
              obtain ⟨t, ht⟩ : ∃ t, t = min x p := ⟨_, rfl⟩
              obtain ⟨st, hst⟩ : ∃ st, st = min (T.length - x - y) (S.length - p - u) := ⟨_, rfl⟩
              obtain ⟨D, hD⟩ : ∃ D, D + st + t = T.length := ⟨T.length - st - t, by omega⟩
              have hjy := joinM_yes HCX.out HSX.out HC2.out HL.out ht hst hD hxy hpu
              have hld := join_leads T ins jns S L x y p u t st D hxy HSS.out hpu hLe ht hst hD
              obtain ⟨mid, hmid⟩ : ∃ mid, (L.drop t).take (L.length - st - t) = mid := ⟨_, rfl⟩
              rw [hmid] at hjy hld
              have hLl : L.length ≤ 60 := by rw [← hLe, List.length_append, List.length_append, List.length_take, List.length_drop]; omega
              have hml : mid.length ≤ 60 := by rw [← hmid, List.length_take, List.length_drop]; omega
              have hLp : L.any strangeB = false := by rw [← hLe]; exact any_app (any_app (any_take _ HSP.out) HJP.out) (any_drop _ HSP.out)
              have hmp : mid.any strangeB = false := by rw [← hmid]; exact any_take _ (any_drop _ hLp)
              have h := HR.out
              rw [hjy] at h
              simp only [Prod.mk.injEq] at h
              obtain ⟨rfl, rfl, rfl, -⟩ := h
              have HT := Lib.hid ht
              have HST := Lib.hid hst
              have HDD := Lib.hid hD
              have HMID := Lib.hid hmid
              have HLE := Lib.hid hLe
              have HLD := Lib.hid hld
              have HMP := Lib.hid hmp
              clear ht hst hD hmid hLe hld hmp hLp hjy HR m0 m1 m2 m3 m4 m5
              have e0 : w6.cell? ⟨bX, 0, none⟩ = some (.int .i64 (t : Int)) := CX.cell 0
              have e1c : w6.cell? ⟨bX, 1, none⟩ = some (.int .i64 (D : Int)) := CX.cell 1
              have e2 : w6.cell? ⟨bX, 2, none⟩ = some (.slice aX mid.length cX) := CX.cell 2
              go_wp2_with fail
              refine (splice_ok at1 ct1 T t D aX cX mid L w6 hTw hrX (by omega) (by omega) HLD.out.2 HMP.out HLD.out.1).mono ?_
              rintro e w7 ⟨aV, cV, rfl, hrV, hbw⟩
              have hB6 := stepB hB5 hbw
              clear hB5 CX
              replace hTw := rowB hTw hbw
              replace hSw := rowB hSw hbw
              replace hiw := rowB hiw hbw
              replace hrj := rowB hrj hbw
              replace hrX := rowB hrX hbw
              replace hrU := rowB hrU hbw
              replace a0c := cellB a0c hbw
              replace a1c := cellB a1c hbw
              replace a2c := cellB a2c hbw
              replace o0c := cellB o0c hbw
              replace o1c := cellB o1c hbw
              replace o2c := cellB o2c hbw
              replace e0 := cellB e0 hbw
              replace e1c := cellB e1c hbw
              replace e2 := cellB e2 hbw
              clear hbw
              dsimp only
              go_wp2_with fail
              go_region_held3 (fun w' => w'.cell? ⟨bX, 0, none⟩ = some (.int .i64 (t : Int)) ∧ w'.cell? ⟨bX, 1, none⟩ = some (.int .i64 (D : Int)) ∧ w'.cell? ⟨bX, 2, none⟩ = some (.slice aX mid.length cX) ∧ w'.cell? ⟨bA, 0, none⟩ = some (.int .i64 (x : Int)) ∧ w'.cell? ⟨bA, 1, none⟩ = some (.int .i64 (y : Int)) ∧ w'.cell? ⟨bA, 2, none⟩ = some (.slice ai ins.length ci) ∧ w'.cell? ⟨g, m * 3, none⟩ = some (.int .i64 (p : Int)) ∧ w'.cell? ⟨g, m * 3 + 1, none⟩ = some (.int .i64 (u : Int)) ∧ w'.cell? ⟨g, m * 3 + 2, none⟩ = some (.slice bi jns.length di)) (first | go_keep) (first
                | (go_at_call 20; refine (same_rows5 aU cU L aV cV _ (rowB hrU hb9) (rowB hrV hb9)).mono ?_; rintro e w10 ⟨rfl, b10⟩; dsimp only; have hb10 := stepB hb9 b10; have xe0 := cellB e0 hb10; have xe1c := cellB e1c hb10; have xe2 := cellB e2 hb10; have xa0c := cellB a0c hb10; have xa1c := cellB a1c hb10; have xa2c := cellB a2c hb10; have xo0c := cellB o0c hb10; have xo1c := cellB o1c hb10; have xo2c := cellB o2c hb10)
                | (go_at_call 15; refine (sameEdit_self (t : Int) (D : Int) aX cX aJ cJ mid _ (rowB hrX hb8) hrJ).mono ?_; rintro e w9 ⟨rfl, b9⟩; dsimp only; have hb9 := stepB hb8 b9; have ye0 := cellB e0 hb9; have ye1c := cellB e1c hb9; have ye2 := cellB e2 hb9; have ya0c := cellB a0c hb9; have ya1c := cellB a1c hb9; have ya2c := cellB a2c hb9; have yo0c := cellB o0c hb9; have yo1c := cellB o1c hb9; have yo2c := cellB o2c hb9)
                | (go_at_call 23; refine (refJoin_same at1 ct1 T x y ai ci ins p u bi di jns S L mid t st D _ (rowB hTw (Below.refl _ _).drew) (rowB hiw (Below.refl _ _).drew) (rowB hrj (Below.refl _ _).drew) (by omega) (by omega) (by omega) hxy HIP.out HSS.out (by omega) hpu HJP.out HLE.out HT.out HST.out HDD.out HMID.out).mono ?_; rintro e w8 ⟨aJ, cJ, rfl, hrJ, b8⟩; dsimp only; have hb8 : Below w7.heap.size w7 w8 := ((Below.refl w7.heap.size w7).drew).trans b8; have ve0 := cellB e0 hb8; have ve1c := cellB e1c hb8; have ve2 := cellB e2 hb8; have va0c := cellB a0c hb8; have va1c := cellB a1c hb8; have va2c := cellB a2c hb8; have vo0c := cellB o0c hb8; have vo1c := cellB o1c hb8; have vo2c := cellB o2c hb8))
              have hB7 := stepB hB6 hb10
              go_wp2_with fail
              go_roundw
              case rel => exact ⟨m + 1, by omega, by go_num, hB7⟩
              case measure => simp [intOf]; omega
            · have h := HR.out
              rw [joinM_no2 HCX.out (by rw [HSX.out, HC2.out]; exact hc)] at h
              simp only [Prod.mk.injEq] at h
              obtain ⟨rfl, rfl, rfl, -⟩ := h
              have hcn : (r4 != 0) = true := by simpa using hc
              have e0 : w6.cell? ⟨bX, 0, none⟩ = some (.int .i64 0) := CX.cell 0
              have e1c : w6.cell? ⟨bX, 1, none⟩ = some (.int .i64 0) := CX.cell 1
              have e2 : w6.cell? ⟨bX, 2, none⟩ = some (.slice aX 0 cX) := CX.cell 2
              clear HR
              go_wp2_with fail
              refine (sameEdit_self 0 0 aX cX none 0 [] w6 hrX (nil_row .i64 _ _)).mono ?_
              rintro e w7 ⟨rfl, hbw⟩
              have hB6 := stepB hB5 hbw
              clear e0 e1c e2
              dsimp only
              go_wp2_with fail
              go_roundw
              case rel => exact ⟨m + 1, by omega, by go_num, hB6⟩
              case measure => simp [intOf]; omega
    · have hm2 : ¬ (m : Int) < 2 := by omega
      have hlv := lives27_any wr
      have HLV := Lib.hid hlv
      clear hlv
      go_wp2_with fail
      refine HLV.out.mono ?_
      rintro e w9 ⟨rfl, hb9⟩
      have b3 := stepB (stepB b1 hB) hb9
      dsimp only
      go_wp2_with fail
      go_ret
      exact ⟨rfl, b3⟩
end Go.Proofs.Ytmfekbljfnjkgaa
