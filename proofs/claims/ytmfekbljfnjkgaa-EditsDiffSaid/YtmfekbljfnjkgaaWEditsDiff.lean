/- EditsDiff: the walk. -/
import Derived.Test.YtmfekbljfnjkgaaEdM
import Derived.Test.YtmfekbljfnjkgaaWEditsMoved
import Derived.Deep.RegionHeld3
import Derived.Deep.DeepCutAuto
namespace Go.Proofs.Ytmfekbljfnjkgaa
open Go.RowKit Go.Shelf
set_option linter.unusedVariables false

theorem refDiff_same (a : Option Addr) (ca : Nat) (l : List Int) (b : Option Addr) (cb : Nat) (m : List Int) (p s D : Nat) (mid : List Int) (hp : IsPre l m p) (hs : IsSuf l m p s) (hD : D = l.length - s - p) (hm : (m.drop p).take (m.length - s - p) = mid) (w : World) (hra : Row .i64 w.heap.size w (.slice a l.length ca) l) (hrb : Row .i64 w.heap.size w (.slice b m.length cb) m) (hla : l.length ≤ 100000) (hlb : m.length ≤ 100000) :
    Calls Try.prog 26 #[.slice a l.length ca, .slice b m.length cb] w fun e w' => ∃ a2 c2, e = .returned (.agg #[.int .i64 (p : Int), .int .i64 (D : Int), .slice a2 mid.length c2]) ∧ Row .i64 w'.heap.size w' (.slice a2 mid.length c2) mid ∧ Below w.heap.size w w' := by
  refine (refDiff_any a ca l b cb m w hra hrb hla hlb).mono ?_
  rintro e w' ⟨p', s', D', a2, c2, hp', hs', hD', rfl, hr, hb⟩
  obtain rfl := isPre_one hp hp'
  obtain rfl := isSuf_one hs hs'
  subst hm hD hD'
  exact ⟨a2, c2, rfl, hr, hb⟩
theorem other_rows (a : Option Addr) (ca : Nat) (z : List Int) (b : Option Addr) (cb : Nat) (y : List Int) (h : z ≠ y) (w : World) (hra : Row .i64 w.heap.size w (.slice a z.length ca) z) (hrb : Row .i64 w.heap.size w (.slice b y.length cb) y) :
    Calls Try.prog 20 #[.slice a z.length ca, .slice b y.length cb] w fun e w' => e = .returned (.bool false) ∧ Below w.heap.size w w' := by
  have hs := sameInts_any a z.length ca z b y.length cb y w hra hrb
  rw [show (z == y) = false from by simpa using h] at hs
  exact hs

set_option maxRecDepth 100000 in
set_option maxHeartbeats 4000000 in
theorem editsDiff_walk (a0 : Option Addr) (len0 cap0 : Nat) (z0 : List Int) (a1 : Option Addr) (len1 cap1 : Nat) (z1 : List Int) (a2 : Option Addr) (len2 cap2 : Nat) (z2 : List Int) (w : World) (w0 : IsRow .i64 w a0 len0 cap0 z0) (w1 : IsRow .i64 w a1 len1 cap1 z1) (w2 : IsRow .i64 w a2 len2 cap2 z2) :
    Calls Try.prog 6 #[.slice a0 len0 cap0, .slice a1 len1 cap1, .slice a2 len2 cap2] w fun e w' => e = .returned (.bool true) ∧ Below w.heap.size w w' := by
  obtain ⟨hr0, hw0⟩ := w0.row
  obtain ⟨hr1, hw1⟩ := w1.row
  obtain ⟨hr2, hw2⟩ := w2.row
  have hl0 := hr0.len
  have hl1 := hr1.len
  have hl2 := hr2.len
  clear w0 w1 w2
  generalize z0.take len0 = l0 at *
  generalize z1.take len1 = l1 at *
  generalize z2.take len2 = l2 at *
  subst hl0 hl1 hl2
  go_enter Try.func6, Try.ntmps6
  go_wp2_with fail
  refine (text5_row a0 cap0 l0 14 14 rfl w hr0 (by decide) hw0).mono ?_
  rintro e q1 ⟨at1, ct1, T, rfl, hTl, hTp, hT, b1⟩
  replace hr1 := rowB hr1 b1
  replace hr2 := rowB hr2 b1
  clear hr0 hw0
  have HW1 := Lib.hid hw1
  have HW2 := Lib.hid hw2
  have HTP := Lib.hid hTp
  clear hw1 hw2 hTp
  dsimp only
  go_wp2_with fail
  refine (pick_20 a2 cap2 l2 0 0 rfl q1 hr2 HW2.out (by decide)).mono ?_
  rintro e qa ⟨n0, rfl, hn0, hq⟩
  subst hq
  dsimp only
  go_wp2_with fail
  refine (pick_20 a2 cap2 l2 1 1 rfl _ hr2 HW2.out (by decide)).mono ?_
  rintro e qb ⟨n1, rfl, hn1, hq⟩
  subst hq
  dsimp only
  go_wp2_with fail
  refine (edit27_any T.length n0 n1 _ (by omega) hn0 hn1).mono ?_
  rintro e q2 ⟨x, y, ins, ai, ci, rfl, hxy, hil, hio, hri, b2⟩
  replace b1 := stepB b1 b2
  replace hr1 := rowB hr1 b2
  replace hT := rowB hT b2
  have HIP := Lib.hid (small_plain hio)
  clear b2 hn0 hn1 hio hr2 HW2
  obtain ⟨X1, hX1, C1, k1, s1⟩ := boxNew q2 (.int .i64 (x : Int)) (.int .i64 (y : Int)) (.slice ai ins.length ci)
  replace b1 := stepB b1 k1
  replace hr1 := rowB hr1 k1
  replace hT := rowB hT k1
  replace hri := rowB hri k1
  clear k1 s1
  dsimp only
  go_wp2_with fail
  rw [← hX1]
  clear hX1 C1
  obtain ⟨V, hV⟩ : ∃ V, T.take x ++ ins ++ T.drop (x + y) = V := ⟨_, rfl⟩
  have hVl : V.length ≤ 30 := by rw [← hV]; simp; omega
  have hVp : V.any strangeB = false := by rw [← hV]; exact any_app (any_app (any_take _ HTP.out) HIP.out) (any_drop _ HTP.out)
  have HVP := Lib.hid hVp
  have hsp := refSplice_any at1 ct1 T x y ai ci ins X1 hT hri (by omega) (by omega) hxy
  rw [hV] at hsp
  refine hsp.mono ?_
  rintro e q3 ⟨v3, rfl, ho3, b2⟩
  have hr3 := (row_of_owns ho3).1
  obtain ⟨a3, c3, rfl⟩ := row_slice hr3
  replace b1 := stepB b1 b2
  replace hr1 := rowB hr1 b2
  replace hT := rowB hT b2
  clear hsp ho3 b2 hri hV hVp HIP hxy hil
  dsimp only
  go_wp2_with fail
  refine (text5_row a1 cap1 l1 9 9 rfl q3 hr1 (by decide) HW1.out).mono ?_
  rintro e q4 ⟨at4, ct4, U, rfl, hUl, hUp, hU, b2⟩
  replace b1 := stepB b1 b2
  replace hT := rowB hT b2
  replace hr3 := rowB hr3 b2
  clear b2 hr1 HW1
  have h3P := three_new (t := 22) (W := q4) ⟨a3, c3, V, rfl, hr3, by omega, HVP.out⟩ ⟨at4, ct4, U, rfl, hU, by omega, hUp⟩ ⟨at1, ct1, T, rfl, hT, by omega, HTP.out⟩
  have b3 := laidB b1 (.cells #[.slice a3 V.length c3, .slice at4 U.length ct4, .slice at1 T.length ct1] 22)
  replace hT := rowB hT (laidB (Below.refl _ _) (.cells #[.slice a3 V.length c3, .slice at4 U.length ct4, .slice at1 T.length ct1] 22))
  clear hU hUp hr3 HVP hVl b1
  dsimp only
  go_upto_region 5 with (fail)
  generalize (q4.alloc (.cells #[.slice a3 V.length c3, .slice at4 U.length ct4, .slice at1 T.length ct1] 22)) = W1 at *
  generalize q4.heap.size = g at *
  go_loopw [10] (fun i wr => ∃ m : Nat, m ≤ 3 ∧ i = .int .i64 (m : Int) ∧ ThreeP wr g ∧ Row .i64 wr.heap.size wr (.slice at1 T.length ct1) T ∧ Below w.heap.size w wr) (fun i _ => 3 - (intOf i).toNat)
  case atStart => exact ⟨0, by omega, rfl, h3P, hT, b3⟩
  case round =>
    obtain ⟨m, hm, rfl, h3, hTr, hB⟩ := hrel
    by_cases hlt : m < 3
    · have hm2 : (m : Int) < 3 := by omega
      have hm0 : (0 : Int) ≤ (m : Int) := by omega
      clear h3P hT b3
      obtain ⟨vb, hc, ab, cb, M, rfl, hrM, hMl, hMp⟩ := h3 m hlt
      have HMP := Lib.hid hMp
      clear hMp
      go_wp2_with fail
      clear hc
      refine (diff_any at1 ct1 T ab cb M wr hTr hrM (by omega) (by omega)).mono ?_
      rintro e q5 ⟨p, s, D, ad, cd, hp, hs, hD, rfl, hrD, b2⟩
      have hdl := diff_leads hp hs hD
      have hmid : ((M.drop p).take (M.length - s - p)).any strangeB = false := any_take _ (any_drop _ HMP.out)
      obtain ⟨mid, hmd⟩ : ∃ mid, (M.drop p).take (M.length - s - p) = mid := ⟨_, rfl⟩
      have hml : mid.length = M.length - s - p := by rw [← hmd, List.length_take, List.length_drop]; have := hs.2.1; omega
      rw [hmd] at hrD hdl hmid ⊢
      have HMID := Lib.hid hmid
      have HML := Lib.hid hml
      have HDL := Lib.hid hdl
      have HDD := Lib.hid hD
      have HMD := Lib.hid hmd
      clear hmid hml hdl hD hmd
      replace hB := stepB hB b2
      replace h3 := h3.step b2
      replace hTr := rowB hTr b2
      replace hrM := rowB hrM b2
      clear b2
      obtain ⟨X5, hX5, C5, k1, s1⟩ := boxNew q5 (.int .i64 (p : Int)) (.int .i64 (D : Int)) (.slice ad mid.length cd)
      replace hB := stepB hB k1
      replace h3 := h3.step k1
      replace hTr := rowB hTr k1
      replace hrM := rowB hrM k1
      replace hrD := rowB hrD k1
      clear k1 s1
      dsimp only
      go_wp2_with fail
      rw [← hX5]
      clear hX5
      refine (splice_ok at1 ct1 T p D ad cd mid M X5 hTr hrD (by omega) (by have := HML.out; omega) (by have := HDD.out; have := hs.1; omega) HMID.out HDL.out).mono ?_
      rintro e q6 ⟨a6, c6, rfl, hr6, b2⟩
      replace hB := stepB hB b2
      replace h3 := h3.step b2
      replace hTr := rowB hTr b2
      replace hrM := rowB hrM b2
      replace hrD := rowB hrD b2
      replace C5 := C5.step b2
      clear b2
      have z0 : q6.cell? ⟨q5.heap.size, 0, none⟩ = some (.int .i64 (p : Int)) := C5.cell 0
      have z1 : q6.cell? ⟨q5.heap.size, 1, none⟩ = some (.int .i64 (D : Int)) := C5.cell 1
      have z2 : q6.cell? ⟨q5.heap.size, 2, none⟩ = some (.slice ad mid.length cd) := C5.cell 2
      generalize q5.heap.size = bx at *
      dsimp only
      go_wp2_with fail
      go_region_held3 (fun w' => w'.cell? ⟨bx, 0, none⟩ = some (.int .i64 (p : Int)) ∧ w'.cell? ⟨bx, 1, none⟩ = some (.int .i64 (D : Int)) ∧ w'.cell? ⟨bx, 2, none⟩ = some (.slice ad mid.length cd)) (first | go_keep) (first
        | (go_at_call 20; refine (same_rows5 a6 c6 M ab cb _ (rowB hr6 hb8) (rowB hrM hb8)).mono ?_; rintro e q9 ⟨rfl, b9⟩; dsimp only; have hb9 := stepB hb8 b9; have x0 := cellB z0 hb9; have x1 := cellB z1 hb9; have x2 := cellB z2 hb9)
        | (go_at_call 15; refine (sameEdit_self (p : Int) (D : Int) ad cd a7 c7 mid _ (rowB hrD hb7) hr7).mono ?_; rintro e w8 ⟨rfl, b8⟩; dsimp only; have hb8 := stepB hb7 b8; have y0 := cellB z0 hb8; have y1 := cellB z1 hb8; have y2 := cellB z2 hb8)
        | (go_at_call 26; refine (refDiff_same at1 ct1 T ab cb M p s D mid hp hs HDD.out HMD.out _ (rowB hTr (Below.refl _ _).drew) (rowB hrM (Below.refl _ _).drew) (by omega) (by omega)).mono ?_; rintro e w7 ⟨a7, c7, rfl, hr7, b7⟩; dsimp only; have hb7 : Below q6.heap.size q6 w7 := ((Below.refl q6.heap.size q6).drew).trans b7; have v0 := cellB z0 hb7; have v1 := cellB z1 hb7; have v2 := cellB z2 hb7))
      have hB9 := stepB hB hb9
      have h39 := h3.step hb9
      have hT9 := rowB hTr hb9
      have hM9 := rowB hrM hb9
      clear z0 z1 z2
      have C9 := C5.step hb9
      have z0 : q9.cell? ⟨bx, 0, none⟩ = some (.int .i64 (p : Int)) := C9.cell 0
      have z1 : q9.cell? ⟨bx, 1, none⟩ = some (.int .i64 (D : Int)) := C9.cell 1
      have z2 : q9.cell? ⟨bx, 2, none⟩ = some (.slice ad mid.length cd) := C9.cell 2
      clear hB h3 hTr hrM hrD hr6 C5 hb9 C9
      go_wp2_with fail
      have hDm : (D : Int) + (mid.length : Int) ≤ 1000 := by have h1 := HDD.out; have h2 := HML.out; omega
      have hDw : wrap64 ((D : Int) + (mid.length : Int)) = (D : Int) + (mid.length : Int) := IntWalk.wrap64_in _ (by omega)
      go_loopw [15] (fun i wr2 => ∃ at_ : Nat, at_ ≤ T.length + 1 ∧ i = .int .i64 (at_ : Int) ∧ Below q9.heap.size q9 wr2) (fun i _ => T.length + 1 - (intOf i).toNat)
      case atStart => exact ⟨0, by omega, rfl, Below.refl _ _⟩
      case round =>
        obtain ⟨at_, hat, rfl, hB2⟩ := hrel
        have hatI : (0 : Int) ≤ (at_ : Int) := by omega
        have hw0 : IntKind.i64.wrap ((at_ : Int) + 1) = (at_ : Int) + 1 := IntWalk.i64_in _ (by omega)
        by_cases hal : at_ ≤ T.length
        · have hal2 : (at_ : Int) ≤ (T.length : Int) := by omega
          go_wp2_with fail
          go_loopw [16] (fun i wr3 => ∃ d : Nat, d ≤ T.length - at_ + 1 ∧ i = .int .i64 (d : Int) ∧ Below q9.heap.size q9 wr3) (fun i _ => T.length - at_ + 1 - (intOf i).toNat)
          case atStart => exact ⟨0, by omega, rfl, hB2⟩
          case round =>
            obtain ⟨d, hd0, rfl, hB3⟩ := hrel
            have hdI : (0 : Int) ≤ (d : Int) := by omega
            have hw1 : IntKind.i64.wrap ((d : Int) + 1) = (d : Int) + 1 := IntWalk.i64_in _ (by omega)
            by_cases hdl : d ≤ T.length - at_
            · have hdl2 : (d : Int) ≤ (T.length : Int) - (at_ : Int) := by omega
              have y0 := cellB z0 hB3
              have y1 := cellB z1 hB3
              have y2 := cellB z2 hB3
              have hT3 := rowB hT9 hB3
              have hM3 := rowB hM9 hB3
              by_cases hneg : (M.length : Int) - (T.length : Int) + (d : Int) < 0
              · clear hT3 hM3 y0 y1 y2
                go_wp2_with fail
                go_roundw
                case rel => exact ⟨d + 1, by omega, by go_num, hB3⟩
                case measure => simp [intOf]; omega
              · obtain ⟨r, hr⟩ : ∃ r : Nat, (M.length : Int) - (T.length : Int) + (d : Int) = (r : Int) := ⟨M.length + d - T.length, by omega⟩
                have hrI : (0 : Int) ≤ (r : Int) := by omega
                clear hneg
                by_cases hgt : (M.length : Int) < (at_ : Int) + (r : Int)
                · clear hT3 hM3 y0 y1 y2
                  go_wp2_with fail
                  go_roundw
                  case rel => exact ⟨d + 1, by omega, by go_num, hB3⟩
                  case measure => simp [intOf]; omega
                · by_cases hge : (D : Int) + (mid.length : Int) ≤ (d : Int) + (r : Int)
                  · clear hT3 hM3
                    go_wp2_with fail
                    go_roundw
                    case rel => exact ⟨d + 1, by omega, by go_num, hB3⟩
                    case measure => simp [intOf]; omega
                  · have hne0 : T.take at_ ++ (M.drop at_).take r ++ T.drop (at_ + d) ≠ M := diff_least hp hs (by omega) (by omega) (by omega) (by have h1 := HDD.out; have h2 := HML.out; omega)
                    obtain ⟨sub, hsub⟩ : ∃ sub, (M.drop at_).take r = sub := ⟨_, rfl⟩
                    have hsl : sub.length = r := by rw [← hsub, List.length_take, List.length_drop]; omega
                    rw [hsub] at hne0
                    have HNE := Lib.hid hne0
                    have HSUB := Lib.hid hsub
                    clear hne0 hsub
                    have hcb := hM3.lencap
                    unfold maxLen at hcb
                    have u1 : (0 : Int) ≤ (at_ : Int) + (r : Int) := by omega
                    have u2 : (at_ : Int) ≤ (at_ : Int) + (r : Int) := by omega
                    have u3 : (at_ : Int) + (r : Int) ≤ cb := by omega
                    have u4 : ((at_ : Int) + (r : Int)).toNat = at_ + r := by omega
                    have u5 : (at_ : Int) ≤ cb := by omega
                    rcases ab with _ | adr
                    · exfalso
                      have hz : M.length = 0 := by
                        rcases hM3 with ⟨a', cap', e, _, hn, hnil⟩ | ⟨b', off, cap', e, _⟩
                        · simp only [Value.slice.injEq] at e
                          exact e.2.1
                        · simp at e
                      have h1 := HDD.out
                      have h2 := HML.out
                      have h3 := hp.2.1
                      omega
                    · have hdr := row_drop_some hM3 at_ (by omega)
                      by_cases hcp : at_ = cb
                      · have hr0 : r = 0 := by omega
                        have hd : Row .i64 wr.heap.size wr (.slice (some adr) sub.length 0) sub := by
                          have hs0 : sub = [] := List.eq_nil_of_length_eq_zero (by omega)
                          rw [hs0]
                          exact .inl ⟨some adr, 0, rfl, by decide, (fun h => by cases h), rfl⟩
                        clear hdr hr0
                        subst hcp
                        subst hsl
                        go_wp2_with fail
                        obtain ⟨X8, hX8, C8, k8, s8⟩ := boxNew wr (.int .i64 (at_ : Int)) (.int .i64 (d : Int)) (.slice (some adr) sub.length 0)
                        rw [← hX8]
                        have hsp := refSplice_any at1 ct1 T at_ d (some adr) 0 sub X8 (rowB hT3 k8) (rowB hd k8) (by omega) (by omega) (by omega)
                        obtain ⟨Z, hZ⟩ : ∃ Z, T.take at_ ++ sub ++ T.drop (at_ + d) = Z := ⟨_, rfl⟩
                        rw [hZ] at hsp
                        have hne : Z ≠ M := by rw [← hZ]; exact HNE.out
                        refine hsp.mono ?_
                        rintro e q8 ⟨v8, rfl, ho8, b8⟩
                        have hr8 := (row_of_owns ho8).1
                        obtain ⟨a8, c8, rfl⟩ := row_slice hr8
                        have hB8 := stepB hB3 (stepB k8 b8)
                        have hM8 := rowB (rowB hM3 k8) b8
                        clear hsp ho8 hX8 C8 s8 hd y0 y1 y2
                        dsimp only
                        go_wp2_with fail
                        refine (other_rows a8 c8 Z (some adr) at_ M hne q8 hr8 hM8).mono ?_
                        rintro e q9 ⟨rfl, b9⟩
                        have hB9 := stepB hB8 b9
                        dsimp only
                        go_wp2_with fail
                        go_roundw
                        case rel => exact ⟨d + 1, by omega, by go_num, hB9⟩
                        case measure => simp [intOf]; omega
                      · have hd0 := row_take_some hdr.1 r (by rw [List.length_drop]; omega)
                        rw [HSUB.out] at hd0
                        have hd : Row .i64 wr.heap.size wr (.slice (some (adr.add at_)) sub.length (cb - at_)) sub := by rw [hsl]; exact hd0
                        clear hdr hd0
                        subst hsl
                        go_wp2_with fail
                        obtain ⟨X8, hX8, C8, k8, s8⟩ := boxNew wr (.int .i64 (at_ : Int)) (.int .i64 (d : Int)) (.slice (some (adr.add at_)) sub.length (cb - at_))
                        rw [← hX8]
                        have hsp := refSplice_any at1 ct1 T at_ d (some (adr.add at_)) (cb - at_) sub X8 (rowB hT3 k8) (rowB hd k8) (by omega) (by omega) (by omega)
                        obtain ⟨Z, hZ⟩ : ∃ Z, T.take at_ ++ sub ++ T.drop (at_ + d) = Z := ⟨_, rfl⟩
                        rw [hZ] at hsp
                        have hne : Z ≠ M := by rw [← hZ]; exact HNE.out
                        refine hsp.mono ?_
                        rintro e q8 ⟨v8, rfl, ho8, b8⟩
                        have hr8 := (row_of_owns ho8).1
                        obtain ⟨a8, c8, rfl⟩ := row_slice hr8
                        have hB8 := stepB hB3 (stepB k8 b8)
                        have hM8 := rowB (rowB hM3 k8) b8
                        clear hsp ho8 hX8 C8 s8 hd y0 y1 y2
                        dsimp only
                        go_wp2_with fail
                        refine (other_rows a8 c8 Z (some adr) cb M hne q8 hr8 hM8).mono ?_
                        rintro e q9 ⟨rfl, b9⟩
                        have hB9 := stepB hB8 b9
                        dsimp only
                        go_wp2_with fail
                        go_roundw
                        case rel => exact ⟨d + 1, by omega, by go_num, hB9⟩
                        case measure => simp [intOf]; omega
            · have hdn : ¬ (d : Int) ≤ (T.length : Int) - (at_ : Int) := by omega
              go_wp2_with fail
              go_roundw
              case rel => exact ⟨at_ + 1, by omega, by go_num, hB3⟩
              case measure => simp [intOf]; omega
        · have haln : ¬ (at_ : Int) ≤ (T.length : Int) := by omega
          go_wp2_with fail
          go_roundw
          case rel => exact ⟨m + 1, by omega, by go_num, h39.step hB2, rowB hT9 hB2, stepB hB9 hB2⟩
          case measure => simp [intOf]; omega
    · have hm3 : ¬ (m : Int) < 3 := by omega
      have hlv := lives27_any wr
      have HLV := Lib.hid hlv
      clear hlv
      go_wp2_with fail
      refine HLV.out.mono ?_
      rintro e w9 ⟨rfl, hb9⟩
      have b3 := stepB hB hb9
      dsimp only
      go_wp2_with fail
      go_ret
      exact ⟨rfl, b3⟩
end Go.Proofs.Ytmfekbljfnjkgaa
