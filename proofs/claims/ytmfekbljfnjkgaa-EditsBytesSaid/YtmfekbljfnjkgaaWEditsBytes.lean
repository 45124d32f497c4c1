/- EditsBytes: the walk. -/
import Derived.Test.YtmfekbljfnjkgaaEbF
import Derived.Test.YtmfekbljfnjkgaaTxtG
import Derived.Deep.RegionHeld3
import Derived.Test.YtmfekbljfnjkgaaTxtE
import Derived.Test.YtmfekbljfnjkgaaEdI
import Derived.IntWalk
namespace Go.Proofs.Ytmfekbljfnjkgaa
open Go.RowKit Go.Shelf
set_option linter.unusedVariables false

theorem few_v (v : Value) (zs : List Int) (w : World) (hr : Row .u8 w.heap.size w v zs) (hz : ∀ x ∈ zs, (Lit.int .u8 x).wf = true) :
    Calls Try.prog 42 #[v, .int .i64 30] w fun e w' => ∃ (a : Option Addr) (n c : Nat), e = .returned (.slice a n c) ∧ BytesV w' (.slice a n c) ∧ Below w.heap.size w w' := by
  refine (few_int v zs 30 w hr (by decide) (by decide)).mono ?_
  rintro e w' ⟨a, c, rfl, -, h, hb⟩
  refine ⟨a, _, c, rfl, ⟨a, c, _, rfl, h, ?_, fun x hx => ?_⟩, hb⟩
  · rw [List.length_take]; omega
  · have := u8_rng1 (hz x (List.mem_of_mem_take hx)); omega
theorem enc_back (y : IM) (hok : y.ok) (hl : y.ins.length ≤ 100000) (zs : List Int) (hb : y.bytes = zs) (a : Option Addr) (cap : Nat) (w : World) (hr : Row .i64 w.heap.size w (.slice a y.ins.length cap) y.ins) :
    Calls Try.prog 34 #[.agg #[.int .i64 y.c, .int .i64 y.nu, .int .i64 y.ba, .int .i64 y.a, .int .i64 y.d, .slice a y.ins.length cap]] w fun e w' => ∃ a2 c2, e = .returned (.slice a2 zs.length c2) ∧ Row .u8 w'.heap.size w' (.slice a2 zs.length c2) zs ∧ Below w.heap.size w w' := by
  subst hb
  refine (encode27_any y.c y.nu y.ba y.a y.d a cap y.ins w hr hl hok.c hok.nu hok.ba hok.a hok.d hok.ins).mono ?_
  rintro e w' ⟨a2, c2, rfl, -, h, hb⟩
  exact ⟨a2, c2, rfl, h, hb⟩
theorem same_b (a : Option Addr) (ca : Nat) (b : Option Addr) (cb : Nat) (z : List Int) (w : World) (hra : Row .u8 w.heap.size w (.slice a z.length ca) z) (hrb : Row .u8 w.heap.size w (.slice b z.length cb) z) :
    Calls Try.prog 38 #[.slice a z.length ca, .slice b z.length cb] w fun e w' => e = .returned (.bool true) ∧ Below w.heap.size w w' := by
  have h := sameBytes_any a z.length ca z b z.length cb z w hra hrb
  rwa [beq_self_eq_true] at h
set_option maxRecDepth 100000 in
set_option maxHeartbeats 40000000 in
theorem editsBytes_walk (a0 : Option Addr) (len0 cap0 : Nat) (z0 : List Int) (a1 a2 : Int) (a3 : Option Addr) (len3 cap3 : Nat) (z3 : List Int) (a4 a5 : Int) (w : World) (w0 : IsRow .i64 w a0 len0 cap0 z0) (w1 : (Lit.int .i64 a1).wf = true) (w2 : (Lit.int .i64 a2).wf = true) (w3 : IsRow .u8 w a3 len3 cap3 z3) (w4 : (Lit.int .i64 a4).wf = true) (w5 : (Lit.int .u8 a5).wf = true) :
    Calls Try.prog 9 #[.slice a0 len0 cap0, .int .i64 a1, .int .i64 a2, .slice a3 len3 cap3, .int .i64 a4, .int .u8 a5] w fun e w' => e = .returned (.bool true) ∧ Below w.heap.size w w' := by
  obtain ⟨hr0, hw0⟩ := w0.row
  obtain ⟨hr3, hw3⟩ := w3.row
  have hl0 := hr0.len
  have hl3 := hr3.len
  clear w0 w3
  generalize z0.take len0 = l0 at *
  generalize z3.take len3 = l3 at *
  subst hl0 hl3
  have HW := Lib.hid hw0
  have HW3 := Lib.hid hw3
  have H1 := Lib.hid w1
  have H2 := Lib.hid w2
  have H4 := Lib.hid w4
  have H5 := Lib.hid w5
  clear hw0 hw3 w1 w2 w4 w5
  go_enter Try.func9, Try.ntmps9
  go_wp2_with fail
  refine (pick_rng a0 cap0 l0 0 0 9 rfl w hr0 HW.out (by decide) (by decide) (by decide)).mono ?_
  rintro e q ⟨n0, rfl, hn0, hq⟩
  subst hq
  dsimp only
  go_wp2_with fail
  refine (pick_rng a0 cap0 l0 1 1 300 rfl q hr0 HW.out (by decide) (by decide) (by decide)).mono ?_
  rintro e q1 ⟨n1, rfl, hn1, hq⟩
  subst hq
  dsimp only
  go_wp2_with fail
  refine (pick_rng a0 cap0 l0 2 2 300 rfl q1 hr0 HW.out (by decide) (by decide) (by decide)).mono ?_
  rintro e q2 ⟨n2, rfl, hn2, hq⟩
  subst hq
  dsimp only
  go_wp2_with fail
  refine (pick_rng a0 cap0 l0 3 3 1048576 rfl q2 hr0 HW.out (by decide) (by decide) (by decide)).mono ?_
  rintro e q3 ⟨n3, rfl, hn3, hq⟩
  subst hq
  dsimp only
  go_wp2_with fail
  refine (pick_rng a0 cap0 l0 4 4 1048576 rfl q3 hr0 HW.out (by decide) (by decide) (by decide)).mono ?_
  rintro e q4 ⟨n4, rfl, hn4, hq⟩
  subst hq
  dsimp only
  go_wp2_with fail
  refine (edit27_any 20 n3 n4 q4 (by decide) hn3 hn4).mono ?_
  rintro e qe he
  obtain ⟨ex, ey, ins, ai, ci, rfl, hex, hey, hil, hiw, hri, be⟩ := edit_item he (by decide)
  have hr3' := rowB hr3 be
  clear he hr0 hr3 hn3 hn4
  have HX : Hid ((IM.mk n0 n1 n2 ex ey ins).ok) := Lib.hid ⟨hn0, hn1, hn2, hex, hey, hiw⟩
  clear hn0 hn1 hn2 hex hey hiw
  obtain ⟨X, hX⟩ : ∃ X, X = qe.alloc (.cells #[.int .i64 n0, .int .i64 n1, .int .i64 n2, .int .i64 ex, .int .i64 ey, .slice ai ins.length ci] 63) := ⟨_, rfl⟩
  have bX : Below qe.heap.size qe X := by rw [hX]; exact laidB (Below.refl _ _) _
  have CX : Cel X qe.heap.size 63 #[.int .i64 n0, .int .i64 n1, .int .i64 n2, .int .i64 ex, .int .i64 ey, .slice ai ins.length ci] := by rw [hX]; exact Cel.new _ _ _
  have hriX := rowB hri bX
  have hr3X := rowB hr3' bX
  have bb := stepB be bX
  clear hri hr3' be bX
  dsimp only
  go_upto_region 2 with (fail)
  rw [← hX]
  clear hX
  have bd : Below X.heap.size X X.drew := (Below.refl _ _).drew
  have CD := CX.step bd
  obtain ⟨x0, x1, x2, x3, x4, x5⟩ := CD.six
  have HI : Hid (ins.length ≤ 3) := Lib.hid hil
  clear hil
  go_cut [14] (fun s wx => ∃ g, s = .slice (some ⟨g, 0, none⟩) 2 2 ∧ TwoI wx g ∧ Below X.heap.size X wx)
  case first =>
    go_region_law ((go_simp; go_at_call 33; refine (bent27_any n0 n1 n2 ex ey ai ci ins a1 a2 _ (rowB hriX bd) HI.out HX.out H1.out H2.out).mono ?_; rintro e w6 ⟨y, ay, cy, rfl, hyo, hyl, hyr, b6⟩; dsimp only; have hb6 := stepB bd b6; obtain ⟨y0, y1, y2, y3, y4, y5⟩ := (CD.step b6).six))
    all_goals
      go_wp2_with fail
      go_meet
      exact ⟨_, rfl, two_new HX.out hyo (by have := HI.out; show ins.length ≤ 4; omega) hyl (rowB hriX hb6) hyr, laidB hb6 _⟩
  case rest =>
    obtain ⟨g, rfl, hT, b2⟩ := hcut
    have hr3c := rowB hr3X b2
    have bw := stepB bb b2
    clear hriX hr3X bb bd CX CD x0 x1 x2 x3 x4 x5 HI HX b2
    go_wp2_with fail
    go_loopw [15] (fun i wr => ∃ m : Nat, m ≤ 2 ∧ i = .int .i64 (m : Int) ∧ TwoI wr g ∧ Row .u8 wr.heap.size wr (.slice a3 l3.length cap3) l3 ∧ Below q4.heap.size q4 wr) (fun i _ => 2 - (intOf i).toNat)
    case atStart => exact ⟨0, by decide, rfl, hT, hr3c, bw⟩
    case round =>
      clear hT hr3c bw
      obtain ⟨m, hm, rfl, hT, hr3, hB⟩ := hrel
      by_cases hlt : m < 2
      · obtain ⟨x, ax, cx, hok, hil, c0, c1, c2, c3, c4, c5, hrx⟩ := hT.2 m hlt
        have hm0 : (0 : Int) ≤ (m : Int) := by omega
        have hm2 : (m : Int) < 2 := by omega
        have hBr := Lib.hid (item_rng x)
        have hBl := item_len x hil
        have hdec := Lib.hid (decI_item x hok (by omega))
        have HOK := Lib.hid hok
        have HIL := Lib.hid hil
        have HT := Lib.hid hT
        clear hok hT hil
        obtain ⟨xc, xn, xb, xa, xd, xi⟩ := x
        dsimp only at c0 c1 c2 c3 c4 c5 hrx
        go_wp2_with fail
        refine (own27_any xc xn xb xa xd ax xi.length cx wr).mono ?_
        rintro e w1 ⟨rfl, b1⟩
        have hrx1 := rowB hrx b1
        dsimp only
        go_wp2_with fail
        refine (encode27_any xc xn xb xa xd ax cx xi w1 hrx1 (by have := HIL.out; show xi.length ≤ _; omega) HOK.out.c HOK.out.nu HOK.out.ba HOK.out.a HOK.out.d HOK.out.ins).mono ?_
        rintro e w2 ⟨a2', c2', rfl, hoB, hrB, bB⟩
        have b2 := stepB b1 bB
        rw [show itemB xc xn xb xa xd xi = IM.bytes ⟨xc, xn, xb, xa, xd, xi⟩ from rfl] at hoB hrB ⊢
        have HRE := Lib.hid (fun (W : World) (hr : Row .i64 W.heap.size W (.slice ax xi.length cx) xi) => refEnc27_any xc xn xb xa xd ax cx xi W hr (by have := HIL.out; show xi.length ≤ _; omega) HOK.out.c HOK.out.nu HOK.out.ba HOK.out.a HOK.out.d HOK.out.ins)
        rw [show itemB xc xn xb xa xd xi = IM.bytes ⟨xc, xn, xb, xa, xd, xi⟩ from rfl] at HRE
        generalize hBy : IM.bytes ⟨xc, xn, xb, xa, xd, xi⟩ = B at *
        clear hBy hrx1 b1 bB hoB
        have hw3 := Wr.new w2
        have hrB3 : Row .u8 w2.heap.size (w2.alloc (.cells #[.slice none 0 0] 68)) (.slice a2' B.length c2') B := RowP.below (laidB (Below.refl _ _) _) hrB
        have b3 := laidB b2 (.cells #[.slice none 0 0] 68)
        have hs2 := b2.size
        dsimp only
        go_wp2_with fail
        refine (wraw_any w2.heap.size w2.heap.size [] a2' c2' B _ hw3 (Nat.le_refl _) (by decide) hrB3 (by omega)).mono ?_
        rintro e w4 ⟨rfl, hw4, b4⟩
        rw [List.nil_append] at hw4
        have HP : Hid (rRaw (vint B.length ++ B) 0 = (B, [], 0)) := Lib.hid (by have := rRaw_raw B [] (by omega); rwa [List.append_nil] at this)
        have hPz : Hid (∀ x ∈ vint B.length ++ B, 0 ≤ x ∧ x < 256) := Lib.hid (fun x hx => by
          rcases List.mem_append.1 hx with h | h
          · exact vintF_rng 10 _ x h
          · exact hBr.out x h)
        have hPl : (vint B.length ++ B).length ≤ 300 := by
          have := vint_length B.length
          rw [List.length_append]
          omega
        generalize vint B.length ++ B = P at *
        have b5 := b3.trans (b4.mono hs2)
        have hrB4 : Row .u8 w4.heap.size w4 (.slice a2' B.length c2') B := row_up (RowP.below b4 hrB3) (by have := b4.size; simp at this; omega)
        clear hw3 hrB3 b3 hrB b2
        dsimp only
        go_wp2_with fail
        refine (done_any _ _ P w4 hw4 (by omega)).mono ?_
        rintro e w5 ⟨a5', c5', rfl, -, hrP, b6⟩
        have b7 := stepB b5 b6
        have f5 := b6
        clear hw4 b4 b5 b6
        dsimp only
        go_wp2_with fail
        refine (read_any _ P w5 hrP (by omega)).mono ?_
        rintro e w6 ⟨b, d, rfl, hb, hd, R6, b8⟩
        have b9 := stepB b7 b8
        have f6 := stepB f5 b8
        have hs7 := b7.size
        have hs5 := f5.size
        have y0 := cellB c0 b9
        have y1 := cellB c1 b9
        have y2 := cellB c2 b9
        have y3 := cellB c3 b9
        have y4 := cellB c4 b9
        have y5 := cellB c5 b9
        have hbl0 : ¬ B.length = 0 := by omega
        clear hrP b7 b8 f5 hd
        dsimp only
        go_wp2_with fail
        refine (HRE.out w6 (rowB hrx b9)).mono ?_
        rintro e w7 ⟨v7, rfl, ho7, b10⟩
        have hr7 := (row_of_owns ho7).1
        obtain ⟨a7, c7, rfl⟩ := row_slice hr7
        have f7 := stepB f6 b10
        have hrB7 := row_up (RowP.below f7 hrB4) f7.size
        have hsm := sameBytes_any a2' B.length c2' B a7 B.length c7 B w7 hrB7 hr7
        rw [beq_self_eq_true] at hsm
        have b11 := stepB b9 b10
        have R7 := R6.below R6.lt R6.dlt b10
        clear ho7 b9 f6 R6 b10
        dsimp only
        go_wp2_with fail
        refine hsm.mono ?_
        rintro e w8 ⟨rfl, b12⟩
        have f8 := stepB f7 b12
        have b13 := stepB b11 b12
        have R8 := R7.below R7.lt R7.dlt b12
        clear hsm hr7 b11 hrB7 f7 R7 b12 y0 y1 y2 y3 y4 y5
        dsimp only
        go_wp2_with fail
        refine (raw_any b d P 0 w8 R8 hPz.out (by omega)).mono ?_
        rintro e w9 ⟨v9, rfl, ho9, R9, o9⟩
        rw [HP.out] at ho9
        have hr9 := (row_of_owns ho9).1
        have b14 := b13.trans (only_below o9 (show wr.heap.size ≤ b by omega) R8.lt)
        have f9 := f8.trans (only_below o9 (show w4.heap.size ≤ b by omega) R8.lt)
        clear f8 b13 R8 R9 o9
        dsimp only
        go_wp2_with fail
        refine (decode27_any v9 B w9 hr9 hBr.out (by omega)).mono ?_
        rintro e w10 ⟨b15, h10⟩
        obtain ⟨-, a10, c10, rfl, hr10⟩ := h10.resolve_right (fun h => h.1 hdec.out.2)
        rw [hdec.out.1] at hr10 ⊢
        dsimp only at hr10
        have b16 := stepB b14 b15
        have fA := stepB f9 b15
        have hp10 : w9.heap.size ≤ w10.heap.size := b15.size
        clear ho9 hr9 b14 f9 b15 h10
        obtain ⟨X, hX⟩ : ∃ X, X = w10.alloc (.cells #[.int .i64 xc, .int .i64 xn, .int .i64 xb, .int .i64 xa, .int .i64 xd, .slice a10 xi.length c10] 51) := ⟨_, rfl⟩
        have bX : Below w10.heap.size w10 X := by rw [hX]; exact laidB (Below.refl _ _) _
        have CX : Cel X w10.heap.size 51 #[.int .i64 xc, .int .i64 xn, .int .i64 xb, .int .i64 xa, .int .i64 xd, .slice a10 xi.length c10] := by rw [hX]; exact Cel.new _ _ _
        have b17 := stepB b16 bX
        have fB := stepB fA bX
        have hr11 := rowB hr10 bX
        have hrx11 := rowB hrx b17
        have z0 := cellB c0 b17
        have z1 := cellB c1 b17
        have z2 := cellB c2 b17
        have z3 := cellB c3 b17
        have z4 := cellB c4 b17
        have z5 := cellB c5 b17
        obtain ⟨x0, x1, x2, x3, x4, x5⟩ := CX.six
        generalize hq : w10.heap.size = qb at *
        clear hr10 b16 fA bX hrx c0 c1 c2 c3 c4 c5
        dsimp only
        go_upto_region 13 with (fail)
        rw [← hX]
        clear hX
        go_region_held3 (fun w' => w'.cell? ⟨qb, 0, none⟩ = some (.int .i64 xc) ∧ w'.cell? ⟨qb, 1, none⟩ = some (.int .i64 xn) ∧ w'.cell? ⟨qb, 2, none⟩ = some (.int .i64 xb) ∧ w'.cell? ⟨qb, 3, none⟩ = some (.int .i64 xa) ∧ w'.cell? ⟨qb, 4, none⟩ = some (.int .i64 xd) ∧ w'.cell? ⟨qb, 5, none⟩ = some (.slice a10 xi.length c10) ∧ w'.cell? ⟨g, m * 6, none⟩ = some (.int .i64 xc) ∧ w'.cell? ⟨g, m * 6 + 1, none⟩ = some (.int .i64 xn) ∧ w'.cell? ⟨g, m * 6 + 2, none⟩ = some (.int .i64 xb) ∧ w'.cell? ⟨g, m * 6 + 3, none⟩ = some (.int .i64 xa) ∧ w'.cell? ⟨g, m * 6 + 4, none⟩ = some (.int .i64 xd) ∧ w'.cell? ⟨g, m * 6 + 5, none⟩ = some (.slice ax xi.length cx)) (first | go_keep) (first
          | (go_at_call 15; refine (sameEdit_self xa xd a10 c10 ax cx xi _ (rowB hr11 (Below.refl _ _).drew) (rowB hrx11 (Below.refl _ _).drew)).mono ?_; rintro e w12 ⟨rfl, b18⟩; dsimp only; have hb18 : Below X.heap.size X w12 := ((Below.refl X.heap.size X).drew).trans b18; have u0 := cellB x0 hb18; have u1 := cellB x1 hb18; have u2 := cellB x2 hb18; have u3 := cellB x3 hb18; have u4 := cellB x4 hb18; have u5 := cellB x5 hb18; have v0 := cellB z0 hb18; have v1 := cellB z1 hb18; have v2 := cellB z2 hb18; have v3 := cellB z3 hb18; have v4 := cellB z4 hb18; have v5 := cellB z5 hb18))
        all_goals
          have b19 := stepB b17 hb18
          have fC := stepB fB hb18
          have hrB12 := row_up (RowP.below fC hrB4) fC.size
          have hB1 : 1 ≤ B.length := by omega
          clear x0 x1 x2 x3 x4 x5 z0 z1 z2 z3 z4 z5 hb18 b17 fB hr11 hrx11 b18 CX HRE
          have hfew := few_int (.slice a2' B.length c2') B (B.length : Int) w12 hrB12 (by omega) (by omega)
          rw [Int.toNat_natCast, List.take_length] at hfew
          go_wp2_with fail
          refine hfew.mono ?_
          rintro e w13 ⟨a13, c13, rfl, ho13, -, b20⟩
          have hs13 := b20.size
          obtain ⟨g13, rfl, hg13, -⟩ := owns_at ho13 hB1
          have b21 := stepB b19 b20
          have fD := stepB fC b20
          have hs12 := b19.size
          have hs4 := fC.size
          obtain ⟨r, hr⟩ := Int.eq_ofNat_of_zero_le (aroundI_lo a4 (B.length : Int) (by omega))
          have hr2 := aroundI_hi a4 (B.length : Int) (by omega)
          have har := around_any a4 (B.length : Int) w13 H4.out (by omega) (by omega)
          rw [hr] at hr2 har
          have HAR := Lib.hid har
          have hrB : r < B.length := by omega
          have hrp0 : (0 : Int) ≤ (r : Int) := by omega
          have hfz := ho13.frozenAt r
          have hcl := owns_cell ho13 r hrB
          have hset := Lib.hid (owns_set ho13 r a5)
          clear har hr hfew b19 fC hrB12 b20
          dsimp only
          go_wp2_with fail
          refine HAR.out.mono ?_
          rintro e q13 ⟨rfl, hq13⟩
          subst hq13
          dsimp only
          obtain ⟨Y, hY⟩ : ∃ Y, Y = q13.setCell ⟨g13, r, none⟩ (.int .u8 a5) := ⟨_, rfl⟩
          have bY : Below wr.heap.size wr Y := by rw [hY]; exact b21.setCell (by dsimp only; omega) _
          have fY : Below w4.heap.size w4 Y := by rw [hY]; exact fD.setCell (by dsimp only; omega) _
          have hset2 := hset.out
          rw [← hY] at hset2
          have hrBent := (row_of_owns hset2).1
          obtain ⟨p, hp⟩ : ∃ p : Nat, B.length = p + 1 := ⟨B.length - 1, by omega⟩
          have HPP := Lib.hid hp
          have hrY := row_up (RowP.below fY hrB4) fY.size
          have hBc := hrY.lencap
          unfold maxLen at hBc
          have hpw : IntKind.i64.wrap ((B.length : Int) - 1) = (p : Int) := by rw [show (B.length : Int) - 1 = (p : Int) from by omega]; exact IntWalk.i64_in _ (by omega)
          have hp0 : (0 : Int) ≤ (p : Int) := by omega
          have hpE : p ≤ B.length := by omega
          have hpc : p ≤ c2' := by omega
          have HPW := Lib.hid hpw
          clear hp hpw
          have hBV1 : BytesV Y (.slice (some ⟨g13, 0, none⟩) B.length c13) := ⟨_, _, B.set r a5, by rw [List.length_set], by rw [List.length_set]; exact hrBent, by rw [List.length_set]; omega, fun x hx => by
            rcases List.mem_or_eq_of_mem_set hx with h | rfl
            · exact hBr.out x h
            · have := u8_rng1 H5.out; omega⟩
          have hBV2 : BytesV Y (.slice a2' p c2') := by
            have e : (B.take p).length = p := by rw [List.length_take]; omega
            exact ⟨a2', c2', B.take p, by rw [e], by rw [e]; exact row_take' hrY p hpE, by omega, fun x hx => hBr.out x (List.mem_of_mem_take hx)⟩
          have hr3Y := rowB hr3 bY
          have bd : Below Y.heap.size Y Y.drew := (Below.refl _ _).drew
          clear hrBent hset2 hrY hBc fY fD b21 ho13
          go_upto_region 17 with (fail)
          rw [← hY]
          clear hY hset hcl hfz
          go_cut [22] (fun s wx => ∃ g3, s = .slice (some ⟨g3, 0, none⟩) 3 3 ∧ ThreeB wx g3 ∧ Below Y.heap.size Y wx)
          case first =>
            have hpw := HPW.out
            go_region_law ((go_simp; go_at_call 42; refine (few_v (.slice a3 l3.length cap3) l3 _ (rowB hr3Y bd) HW3.out).mono ?_; rintro e w20 ⟨a20, n20, c20, rfl, hv20, b20⟩; dsimp only; have hb20 := stepB bd b20))
            all_goals
              go_wp2_with fail
              go_meet
              exact ⟨_, rfl, threeB_new hv20 (hBV1.step hb20) (hBV2.step hb20), laidB hb20 _⟩
          case rest =>
            obtain ⟨g3, rfl, hQ, bq⟩ := hcut
            have bz := bY.trans (bq.mono bY.size)
            clear hBV1 hBV2 hr3Y bd bq bY HPW HPP hpE hpc hp0 hrp0 HAR
            obtain ⟨wo, ewo⟩ : ∃ X, X = wr := ⟨_, rfl⟩
            subst ewo
            go_wp2_with fail
            go_loopw [23] (fun i wv => ∃ n : Nat, n ≤ 3 ∧ i = .int .i64 (n : Int) ∧ ThreeB wv g3 ∧ Below wo.heap.size wo wv) (fun i _ => 3 - (intOf i).toNat)
            case atStart => exact ⟨0, by decide, rfl, hQ, bz⟩
            case round =>
              clear hQ bz
              obtain ⟨n, hn, rfl, hQ, bz⟩ := hrel
              by_cases hn3 : n < 3
              · obtain ⟨v, cv, av, cpv, zs, rfl, hrv, hzl, hzr⟩ := hQ.2 n hn3
                have hi0 : (0 : Int) ≤ (n : Int) := by omega
                have hi3 : (n : Int) < 3 := by omega
                have HZ := Lib.hid hzr
                have HQ := Lib.hid hQ
                clear hQ hzr
                go_wp2_with fail
                refine (decode27_any (.slice av zs.length cpv) zs wr hrv HZ.out (by omega)).mono ?_
                rintro e v1 ⟨b1, h1⟩
                rcases h1 with ⟨hE, a6, c6, rfl, hr6⟩ | ⟨hE, rfl⟩
                · have hback := decI_back zs HZ.out hE
                  generalize decI zs = y at *
                  have HE := Lib.hid (fun (W : World) (hr : Row .i64 W.heap.size W (.slice a6 y.ins.length c6) y.ins) => enc_back y hback.2.1 (by omega) zs hback.1 a6 c6 W hr)
                  clear hback hE
                  obtain ⟨yc, yn, yb, ya, yd, yi⟩ := y
                  dsimp only at hr6 HE ⊢
                  obtain ⟨X6, hX6⟩ : ∃ X, X = v1.alloc (.cells #[.int .i64 yc, .int .i64 yn, .int .i64 yb, .int .i64 ya, .int .i64 yd, .slice a6 yi.length c6] 51) := ⟨_, rfl⟩
                  have bX6 : Below v1.heap.size v1 X6 := by rw [hX6]; exact laidB (Below.refl _ _) _
                  have C6 : Cel X6 v1.heap.size 51 #[.int .i64 yc, .int .i64 yn, .int .i64 yb, .int .i64 ya, .int .i64 yd, .slice a6 yi.length c6] := by rw [hX6]; exact Cel.new _ _ _
                  have bt6 := stepB b1 bX6
                  have hr6X := rowB hr6 bX6
                  have hrv6 := rowB hrv bt6
                  have cv6 := cellB cv bt6
                  obtain ⟨x0, x1, x2, x3, x4, x5⟩ := C6.six
                  generalize hq6 : v1.heap.size = q6 at *
                  have bd6 : Below X6.heap.size X6 X6.drew := (Below.refl _ _).drew
                  clear hr6 bX6 C6 b1 hrv cv
                  go_upto_region 22 with (fail)
                  rw [← hX6]
                  clear hX6
                  have t0 : X6.drew.cell? ⟨q6, 0, none⟩ = some (.int .i64 yc) := x0
                  have t1 : X6.drew.cell? ⟨q6, 1, none⟩ = some (.int .i64 yn) := x1
                  have t2 : X6.drew.cell? ⟨q6, 2, none⟩ = some (.int .i64 yb) := x2
                  have t3 : X6.drew.cell? ⟨q6, 3, none⟩ = some (.int .i64 ya) := x3
                  have t4 : X6.drew.cell? ⟨q6, 4, none⟩ = some (.int .i64 yd) := x4
                  have t5 : X6.drew.cell? ⟨q6, 5, none⟩ = some (.slice a6 yi.length c6) := x5
                  have t6 : X6.drew.cell? ⟨g3, n, none⟩ = some (.slice av zs.length cpv) := cv6
                  refine wp_region_any (by kernel_rfl) ?_
                  change wpAny _ _ _ _ _ _ _ (World.drew _)
                  refine wpAny_take (i := 0) (v := ?v0) rfl (by kernel_rfl) (by kernel_rfl) (by kernel_rfl) (fun _ _ _ h => h) (Or.inl ⟨by kernel_rfl, ?hy0⟩) ?rest0
                  case hy0 => intro w; go_simp; first | done | with_reducible rfl
                  case rest0 =>
                  refine wpAny_take (i := 1) (v := ?v1) rfl (by kernel_rfl) (by kernel_rfl) (by kernel_rfl) (fun _ _ _ h => h) (Or.inl ⟨by kernel_rfl, ?hy1⟩) ?rest1
                  case hy1 => intro w; go_simp; first | done | with_reducible rfl
                  case rest1 =>
                  refine wpAny_take (i := 2) (v := ?v2) rfl (by kernel_rfl) (by kernel_rfl) (by kernel_rfl) (fun _ _ _ h => h) (Or.inl ⟨by kernel_rfl, ?hy2⟩) ?rest2
                  case hy2 => intro w; go_simp; first | done | with_reducible rfl
                  case rest2 =>
                  refine wpAny_take (i := 3) (v := undef) rfl (by kernel_rfl) (by kernel_rfl) (by kernel_rfl) (fun _ _ _ h => h) (Or.inr ⟨by kernel_rfl, rfl⟩) ?rest3
                  case rest3 =>
                  refine wpAny_take (i := 4) (v := undef) rfl (by kernel_rfl) (by kernel_rfl) (by kernel_rfl) (fun _ _ _ h => h) (Or.inr ⟨by kernel_rfl, rfl⟩) ?rest4
                  case rest4 =>
                  refine wpAny_take (i := 5) (v := undef) rfl (by kernel_rfl) (by kernel_rfl) (by kernel_rfl) (fun _ _ _ h => h) (Or.inr ⟨by kernel_rfl, rfl⟩) ?rest5
                  case rest5 =>
                  refine wpAny_take (i := 6) (v := undef) rfl (by kernel_rfl) (by kernel_rfl) (by kernel_rfl) (fun _ _ _ h => h) (Or.inr ⟨by kernel_rfl, rfl⟩) ?rest6
                  case rest6 =>
                  refine wpAny_take (i := 7) (v := undef) rfl (by kernel_rfl) (by kernel_rfl) (by kernel_rfl) (fun _ _ _ h => h) (Or.inr ⟨by kernel_rfl, rfl⟩) ?rest7
                  case rest7 =>
                  refine wpAny_take (i := 8) (v := undef) rfl (by kernel_rfl) (by kernel_rfl) (by kernel_rfl) (fun _ _ _ h => h) (Or.inr ⟨by kernel_rfl, rfl⟩) ?rest8
                  case rest8 =>
                  refine wpAny_take (i := 9) (v := undef) rfl (by kernel_rfl) (by kernel_rfl) (by kernel_rfl) (fun _ _ _ h => h) (Or.inr ⟨by kernel_rfl, rfl⟩) ?rest9
                  case rest9 =>
                  refine wpAny_take (i := 10) (v := undef) rfl (by kernel_rfl) (by kernel_rfl) (by kernel_rfl) (fun _ _ _ h => h) (Or.inr ⟨by kernel_rfl, rfl⟩) ?rest10
                  case rest10 =>
                  refine wpAny_take (i := 11) (v := undef) rfl (by kernel_rfl) (by kernel_rfl) (by kernel_rfl) (fun _ _ _ h => h) (Or.inr ⟨by kernel_rfl, rfl⟩) ?rest11
                  case rest11 =>
                  simp only [Act.put, List.setIfInBounds_toArray]
                  refine wpAny_take (i := 12) (v := ?v12) rfl (by kernel_rfl) (by kernel_rfl) (by kernel_rfl) (fun _ _ _ h => h) (Or.inl ⟨by kernel_rfl, ?hy12⟩) ?rest12
                  case hy12 => intro w; go_simp; first | done | with_reducible rfl
                  case rest12 =>
                  refine wpAny_take (i := 13) (v := ?v13) rfl (by kernel_rfl) (by kernel_rfl) (by kernel_rfl) (fun _ _ _ h => h) (Or.inl ⟨by kernel_rfl, ?hy13⟩) ?rest13
                  case hy13 => intro w; go_simp; first | done | with_reducible rfl
                  case rest13 =>
                  refine wpAny_take (i := 14) (v := ?v14) rfl (by kernel_rfl) (by kernel_rfl) (by kernel_rfl) (fun _ _ _ h => h) (Or.inl ⟨by kernel_rfl, ?hy14⟩) ?rest14
                  case hy14 => intro w; go_simp; first | done | with_reducible rfl
                  case rest14 =>
                  refine wpAny_take (i := 15) (v := ?v15) rfl (by kernel_rfl) (by kernel_rfl) (by kernel_rfl) (fun _ _ _ h => h) (Or.inl ⟨by kernel_rfl, ?hy15⟩) ?rest15
                  case hy15 => intro w; go_simp; first | done | with_reducible rfl
                  case rest15 =>
                  refine wpAny_take (i := 16) (v := ?v16) rfl (by kernel_rfl) (by kernel_rfl) (by kernel_rfl) (fun _ _ _ h => h) (Or.inl ⟨by kernel_rfl, ?hy16⟩) ?rest16
                  case hy16 => intro w; go_simp; first | done | with_reducible rfl
                  case rest16 =>
                  refine wpAny_take (i := 19) (v := ?v19) rfl (by kernel_rfl) (by kernel_rfl) (by kernel_rfl) (fun _ _ _ h => h) (Or.inl ⟨by kernel_rfl, ?hy19⟩) ?rest19
                  case hy19 => intro w; go_simp; first | done | with_reducible rfl
                  case rest19 =>
                  refine wpAny_take (i := 20) (v := ?v20) rfl (by kernel_rfl) (by kernel_rfl) (by kernel_rfl) (fun _ _ _ h => h) (Or.inl ⟨by kernel_rfl, ?hy20⟩) ?rest20
                  case hy20 => intro w; go_simp; first | done | with_reducible rfl
                  case rest20 =>
                  refine wpAny_take (i := 21) (v := ?v21) rfl (by kernel_rfl) (by kernel_rfl) (by kernel_rfl) (fun _ _ _ h => h) (Or.inl ⟨by kernel_rfl, ?hy21⟩) ?rest21
                  case hy21 => intro w; go_simp; first | done | with_reducible rfl
                  case rest21 =>
                  simp only [Act.put]
                  refine wpAny_ready (rs := [17, 22]) (by kernel_rfl) (by simp) ?_
                  refine AllReady.cons rfl (fun K hK => ?_) (AllReady.cons rfl (fun K hK => ?_) AllReady.nil)
                  go_simp
                  refine hK _ _ ?_
                  clear hK K
                  (try simp only [Act.put, List.setIfInBounds_toArray, List.set_cons_zero, List.set_cons_succ])
                  refine wpAny_ready (rs := [18, 22]) (by kernel_rfl) (by simp) ?_
                  refine AllReady.cons rfl (fun K hK => ?_) (AllReady.cons rfl (fun K hK => ?_) AllReady.nil)
                  go_simp
                  refine (HE.out _ (rowB hr6X bd6)).mono ?_
                  rintro e w7' ⟨a7', c7', rfl, hr7, b7⟩
                  dsimp only
                  have hb7 := stepB bd6 b7
                  have s6 := cellB cv6 hb7
                  refine hK _ _ ?_
                  clear hK K
                  (try simp only [Act.put, List.setIfInBounds_toArray, List.set_cons_zero, List.set_cons_succ])
                  refine wpAny_ready (rs := [22]) (by kernel_rfl) (by simp) ?_
                  refine AllReady.cons rfl (fun K hK => ?_) AllReady.nil
                  go_simp
                  refine hK _ _ ?_
                  clear hK K
                  (try simp only [Act.put, List.setIfInBounds_toArray, List.set_cons_zero, List.set_cons_succ])
                  refine wpAny_ready (rs := [23]) (by kernel_rfl) (by simp) ?_
                  refine AllReady.cons rfl (fun K hK => ?_) AllReady.nil
                  go_simp
                  refine (same_b a7' c7' av cpv zs _ hr7 (rowB hrv6 hb7)).mono ?_
                  rintro e w8' ⟨rfl, b8⟩
                  dsimp only
                  have hb8 := stepB hb7 b8
                  refine hK _ _ ?_
                  clear hK K
                  (try simp only [Act.put, List.setIfInBounds_toArray, List.set_cons_zero, List.set_cons_succ])
                  rotate_left
                  go_simp
                  refine hK _ _ ?_
                  clear hK K
                  (try simp only [Act.put, List.setIfInBounds_toArray, List.set_cons_zero, List.set_cons_succ])
                  refine wpAny_ready (rs := [18]) (by kernel_rfl) (by simp) ?_
                  refine AllReady.cons rfl (fun K hK => ?_) AllReady.nil
                  go_simp
                  refine (HE.out _ (rowB hr6X bd6)).mono ?_
                  rintro e w7' ⟨a7', c7', rfl, hr7, b7⟩
                  dsimp only
                  have hb7 := stepB bd6 b7
                  have s6 := cellB cv6 hb7
                  refine hK _ _ ?_
                  clear hK K
                  (try simp only [Act.put, List.setIfInBounds_toArray, List.set_cons_zero, List.set_cons_succ])
                  refine wpAny_ready (rs := [23]) (by kernel_rfl) (by simp) ?_
                  refine AllReady.cons rfl (fun K hK => ?_) AllReady.nil
                  go_simp
                  refine (same_b a7' c7' av cpv zs _ hr7 (rowB hrv6 hb7)).mono ?_
                  rintro e w8' ⟨rfl, b8⟩
                  dsimp only
                  have hb8 := stepB hb7 b8
                  refine hK _ _ ?_
                  clear hK K
                  (try simp only [Act.put, List.setIfInBounds_toArray, List.set_cons_zero, List.set_cons_succ])
                  rotate_left
                  go_simp
                  refine hK _ _ ?_
                  clear hK K
                  (try simp only [Act.put, List.setIfInBounds_toArray, List.set_cons_zero, List.set_cons_succ])
                  refine wpAny_ready (rs := [17]) (by kernel_rfl) (by simp) ?_
                  refine AllReady.cons rfl (fun K hK => ?_) AllReady.nil
                  go_simp
                  refine hK _ _ ?_
                  clear hK K
                  (try simp only [Act.put, List.setIfInBounds_toArray, List.set_cons_zero, List.set_cons_succ])
                  refine wpAny_ready (rs := [18]) (by kernel_rfl) (by simp) ?_
                  refine AllReady.cons rfl (fun K hK => ?_) AllReady.nil
                  go_simp
                  refine (HE.out _ (rowB hr6X bd6)).mono ?_
                  rintro e w7' ⟨a7', c7', rfl, hr7, b7⟩
                  dsimp only
                  have hb7 := stepB bd6 b7
                  have s6 := cellB cv6 hb7
                  refine hK _ _ ?_
                  clear hK K
                  (try simp only [Act.put, List.setIfInBounds_toArray, List.set_cons_zero, List.set_cons_succ])
                  refine wpAny_ready (rs := [23]) (by kernel_rfl) (by simp) ?_
                  refine AllReady.cons rfl (fun K hK => ?_) AllReady.nil
                  go_simp
                  refine (same_b a7' c7' av cpv zs _ hr7 (rowB hrv6 hb7)).mono ?_
                  rintro e w8' ⟨rfl, b8⟩
                  dsimp only
                  have hb8 := stepB hb7 b8
                  refine hK _ _ ?_
                  clear hK K
                  (try simp only [Act.put, List.setIfInBounds_toArray, List.set_cons_zero, List.set_cons_succ])
                  rotate_left
                  all_goals
                    refine wpAny_take (i := 24) (v := .bool false) rfl (by kernel_rfl) (by kernel_rfl) (by kernel_rfl) (fun _ _ _ h => h) (Or.inl ⟨by kernel_rfl, fun w => ?_⟩) ?_
                    · go_simp
                    refine wpAny_take (i := 25) (v := .bool false) rfl (by kernel_rfl) (by kernel_rfl) (by kernel_rfl) (fun _ _ _ h => h) (Or.inl ⟨by kernel_rfl, fun w => ?_⟩) ?_
                    · go_simp
                    refine wpAny_take (i := 26) (v := .bool false) rfl (by kernel_rfl) (by kernel_rfl) (by kernel_rfl) (fun _ _ _ h => h) (Or.inl ⟨by kernel_rfl, fun w => ?_⟩) ?_
                    · go_simp
                    simp only [Act.put, List.setIfInBounds_toArray]
                    refine wpAny_done (by kernel_rfl) ?_ _
                    have bt8 := stepB bt6 hb8
                    clear x0 x1 x2 x3 x4 x5 cv6 HE
                    go_wp2_with fail
                    go_roundw
                    case rel => exact ⟨n + 1, by omega, by go_num, HQ.out.step bt8, stepB bz bt8⟩
                    case measure => simp [intOf]; omega
                · obtain ⟨X6, hX6⟩ : ∃ X, X = v1.alloc (.cells #[.int .i64 0, .int .i64 0, .int .i64 0, .int .i64 0, .int .i64 0, .slice none 0 0] 51) := ⟨_, rfl⟩
                  have bX6 : Below v1.heap.size v1 X6 := by rw [hX6]; exact laidB (Below.refl _ _) _
                  have C6 : Cel X6 v1.heap.size 51 #[.int .i64 0, .int .i64 0, .int .i64 0, .int .i64 0, .int .i64 0, .slice none 0 0] := by rw [hX6]; exact Cel.new _ _ _
                  have bt6 := stepB b1 bX6
                  have x5 : X6.cell? ⟨v1.heap.size, 5, none⟩ = some (.slice none 0 0) := C6.cell 5
                  generalize hq6 : v1.heap.size = q6 at *
                  clear bX6 C6 b1 hrv cv hE
                  dsimp only
                  go_upto_region 22 with (fail)
                  rw [← hX6]
                  clear hX6
                  go_quiet (fail)
                  have bt7 := below_drewN bt6 nq
                  generalize X6.drewN nq = X7 at *
                  go_wp2_with fail
                  go_roundw
                  case rel => exact ⟨n + 1, by omega, by go_num, HQ.out.step bt7, stepB bz bt7⟩
                  case measure => simp [intOf]; omega
              · have hi3 : ¬ (n : Int) < 3 := by omega
                have HQ := Lib.hid hQ
                clear hQ
                go_wp2_with fail
                go_roundw
                case rel => exact ⟨m + 1, by omega, by go_num, HT.out.step bz, rowB hr3 bz, stepB hB bz⟩
                case measure => simp [intOf]; omega
      · have hm2 : ¬ (m : Int) < 2 := by omega
        have HLV := Lib.hid (lives27_any wr)
        clear hT
        go_wp2_with fail
        refine HLV.out.mono ?_
        rintro e W ⟨rfl, b⟩
        dsimp only
        go_wp2_with fail
        go_ret
        exact ⟨rfl, stepB hB b⟩
end Go.Proofs.Ytmfekbljfnjkgaa
