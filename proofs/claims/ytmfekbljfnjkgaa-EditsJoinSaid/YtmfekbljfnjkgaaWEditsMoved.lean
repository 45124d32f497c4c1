/- EditsMoved: the walk. -/
import Derived.Test.YtmfekbljfnjkgaaEdJ
namespace Go.Proofs.Ytmfekbljfnjkgaa
open Go.RowKit Go.Shelf
set_option linter.unusedVariables false

theorem pick_20 (a : Option Addr) (cap : Nat) (l : List Int) (i : Nat) (j : Int) (hj : (i : Int) = j) (w : World) (hr : Row .i64 w.heap.size w (.slice a l.length cap) l) (hw : ∀ x ∈ l, (Lit.int .i64 x).wf = true) (hi : i ≤ 1000000) :
    Calls Try.prog 12 #[.slice a l.length cap, .int .i64 j, .int .i64 1048576] w fun e w' => ∃ z : Int, e = .returned (.int .i64 z) ∧ (Lit.int .i64 z).wf = true ∧ w' = w := by
  subst hj
  refine (pick_any a cap l i 1048576 w hr hw hi (by decide) (by decide)).mono ?_
  rintro e w' ⟨rfl, h⟩
  have := pickI_rng l i 1048576 (by decide)
  refine ⟨_, rfl, ?_, h⟩
  simp [Lit.wf, IntKind.min, IntKind.max, IntKind.signed, IntKind.bits]
  omega
theorem text5_row (a : Option Addr) (cap : Nat) (l : List Int) (most : Nat) (j : Int) (hj : (most : Int) = j) (w : World) (hr : Row .i64 w.heap.size w (.slice a l.length cap) l) (hm : most ≤ 1000) (hw : ∀ x ∈ l, (Lit.int .i64 x).wf = true) :
    Calls Try.prog 18 #[.slice a l.length cap, .int .i64 j] w fun e w' => ∃ a2 c2, ∃ T : List Int, e = .returned (.slice a2 T.length c2) ∧ T.length ≤ most ∧ T.any strangeB = false ∧ Row .i64 w'.heap.size w' (.slice a2 T.length c2) T ∧ Below w.heap.size w w' := by
  subst hj
  refine (text5_any a cap l most w hr hm hw).mono ?_
  rintro e w' ⟨v, rfl, ho, hb⟩
  have hrow := (row_of_owns ho).1
  obtain ⟨a2, c2, rfl⟩ := row_slice hrow
  exact ⟨a2, c2, _, rfl, text5_len l most, text5_plain l most, hrow, hb⟩

theorem same_rows5 (a : Option Addr) (ca : Nat) (z : List Int) (b : Option Addr) (cb : Nat) (w : World) (hra : Row .i64 w.heap.size w (.slice a z.length ca) z) (hrb : Row .i64 w.heap.size w (.slice b z.length cb) z) :
    Calls Try.prog 20 #[.slice a z.length ca, .slice b z.length cb] w fun e w' => e = .returned (.bool true) ∧ Below w.heap.size w w' := by
  have h := sameInts_any a z.length ca z b z.length cb z w hra hrb
  simpa using h

set_option maxRecDepth 100000 in
set_option maxHeartbeats 4000000 in
theorem editsMoved_walk (a0 : Option Addr) (len0 cap0 : Nat) (z0 : List Int) (a1 : Option Addr) (len1 cap1 : Nat) (z1 : List Int) (w : World) (w0 : IsRow .i64 w a0 len0 cap0 z0) (w1 : IsRow .i64 w a1 len1 cap1 z1) :
    Calls Try.prog 4 #[.slice a0 len0 cap0, .slice a1 len1 cap1] w fun e w' => e = .returned (.bool true) ∧ Below w.heap.size w w' := by
  obtain ⟨hr0, hw0⟩ := w0.row
  obtain ⟨hr1, hw1⟩ := w1.row
  have hl0 := hr0.len
  have hl1 := hr1.len
  clear w0 w1
  generalize z0.take len0 = l0 at *
  generalize z1.take len1 = l1 at *
  subst hl0 hl1
  go_enter Try.func4, Try.ntmps4
  go_wp2_with fail
  refine (text5_row a0 cap0 l0 30 30 rfl w hr0 (by decide) hw0).mono ?_
  rintro e q1 ⟨at1, ct1, T, rfl, hTl, hTp, hT, b1⟩
  replace hr1 := rowB hr1 b1
  clear hr0 hw0
  have HW := Lib.hid hw1
  have HTP := Lib.hid hTp
  clear hw1 hTp
  dsimp only
  go_wp2_with fail
  refine (pick_20 a1 cap1 l1 0 0 rfl q1 hr1 HW.out (by decide)).mono ?_
  rintro e q ⟨n0, rfl, hn0, hq⟩
  subst hq
  dsimp only
  go_wp2_with fail
  refine (pick_20 a1 cap1 l1 1 1 rfl _ hr1 HW.out (by decide)).mono ?_
  rintro e q ⟨n1, rfl, hn1, hq⟩
  subst hq
  dsimp only
  go_wp2_with fail
  refine (edit27_any T.length n0 n1 _ (by omega) hn0 hn1).mono ?_
  rintro e q2 ⟨x, y, ins, ai, ci, rfl, hxy, hil, hio, hri, b2⟩
  replace b1 := stepB b1 b2
  replace hr1 := rowB hr1 b2
  replace hT := rowB hT b2
  have HIP := Lib.hid (small_plain hio)
  clear b2 hn0 hn1 hio
  obtain ⟨X1, hX1, C1, k1, s1⟩ := boxNew q2 (.int .i64 (x : Int)) (.int .i64 (y : Int)) (.slice ai ins.length ci)
  replace b1 := stepB b1 k1
  replace hr1 := rowB hr1 k1
  replace hT := rowB hT k1
  replace hri := rowB hri k1
  clear k1 s1
  dsimp only
  go_wp2_with fail
  rw [← hX1]
  clear hX1
  refine (pick_20 a1 cap1 l1 2 2 rfl X1 hr1 HW.out (by decide)).mono ?_
  rintro e q ⟨n0, rfl, hn0, hq⟩
  subst hq
  dsimp only
  go_wp2_with fail
  refine (pick_20 a1 cap1 l1 3 3 rfl _ hr1 HW.out (by decide)).mono ?_
  rintro e q ⟨n1, rfl, hn1, hq⟩
  subst hq
  dsimp only
  go_wp2_with fail
  refine (edit27_any T.length n0 n1 _ (by omega) hn0 hn1).mono ?_
  rintro e q3 ⟨p, u, jns, bi, di, rfl, hpq, hjl, hjo, hrj, b2⟩
  replace b1 := stepB b1 b2
  replace hT := rowB hT b2
  replace hri := rowB hri b2
  replace C1 := C1.step b2
  have HJP := Lib.hid (small_plain hjo)
  clear b2 hn0 hn1 hjo hr1 HW
  obtain ⟨X2, hX2, C2, k1, s1⟩ := boxNew q3 (.int .i64 (p : Int)) (.int .i64 (u : Int)) (.slice bi jns.length di)
  replace b1 := stepB b1 k1
  replace hT := rowB hT k1
  replace hri := rowB hri k1
  replace hrj := rowB hrj k1
  replace C1 := C1.step k1
  clear k1 s1
  have c10 : X2.cell? ⟨q2.heap.size, 0, none⟩ = some (.int .i64 (x : Int)) := C1.cell 0
  have c11 : X2.cell? ⟨q2.heap.size, 1, none⟩ = some (.int .i64 (y : Int)) := C1.cell 1
  have c12 : X2.cell? ⟨q2.heap.size, 2, none⟩ = some (.slice ai ins.length ci) := C1.cell 2
  rw [hX2] at c10 c11 c12
  dsimp only
  go_wp2_with fail
  rw [← hX2]
  rw [← hX2] at c10 c11 c12
  clear hX2 c10 c11 c12
  obtain ⟨A, B, hA, hB, hAB, hA1, hA2⟩ := moved_nat x y p u jns.length T.length hxy hpq
  obtain ⟨A2, B2, hC, hD, hCD, hC1, hC2⟩ := moved_nat p u x y ins.length T.length hpq hxy
  have hfa : wfE x y ins = true := wfE_small (by omega) (by omega) (by omega) HIP.out
  have hfb : wfE p u jns = true := wfE_small (by omega) (by omega) (by omega) HJP.out
  have hm1 := move_ok x y ai ci ins p u bi di jns X2 hri hrj hfa hfb
  rw [hA, hB] at hm1
  refine hm1.mono ?_
  rintro e q4 ⟨m1, d1, rfl, hmv1, b2⟩
  clear hm1 hA hB
  replace b1 := stepB b1 b2
  replace hT := rowB hT b2
  replace hri := rowB hri b2
  replace hrj := rowB hrj b2
  replace C1 := C1.step b2
  replace C2 := C2.step b2
  obtain ⟨X3, hX3, C3, k1, s1⟩ := boxNew q4 (.int .i64 (A : Int)) (.int .i64 (B : Int)) (.slice m1 ins.length d1)
  replace b1 := stepB b1 k1
  replace hT := rowB hT k1
  replace hri := rowB hri k1
  replace hrj := rowB hrj k1
  replace hmv1 := rowB hmv1 k1
  replace C1 := C1.step k1
  replace C2 := C2.step k1
  clear k1 s1 b2
  have c10 : X3.cell? ⟨q2.heap.size, 0, none⟩ = some (.int .i64 (x : Int)) := C1.cell 0
  have c11 : X3.cell? ⟨q2.heap.size, 1, none⟩ = some (.int .i64 (y : Int)) := C1.cell 1
  have c12 : X3.cell? ⟨q2.heap.size, 2, none⟩ = some (.slice ai ins.length ci) := C1.cell 2
  have c20 : X3.cell? ⟨q3.heap.size, 0, none⟩ = some (.int .i64 (p : Int)) := C2.cell 0
  have c21 : X3.cell? ⟨q3.heap.size, 1, none⟩ = some (.int .i64 (u : Int)) := C2.cell 1
  have c22 : X3.cell? ⟨q3.heap.size, 2, none⟩ = some (.slice bi jns.length di) := C2.cell 2
  rw [hX3] at c10 c11 c12 c20 c21 c22
  dsimp only
  go_wp2_with fail
  rw [← hX3]
  clear hX3 c10 c11 c12 c20 c21 c22
  have hm1 := move_ok p u bi di jns x y ai ci ins X3 hrj hri hfb hfa
  rw [hC, hD] at hm1
  refine hm1.mono ?_
  rintro e q5 ⟨m2, d2, rfl, hmv2, b2⟩
  clear hm1 hC hD
  replace b1 := stepB b1 b2
  replace hT := rowB hT b2
  replace hri := rowB hri b2
  replace hrj := rowB hrj b2
  replace hmv1 := rowB hmv1 b2
  replace C1 := C1.step b2
  replace C2 := C2.step b2
  replace C3 := C3.step b2
  obtain ⟨X4, hX4, C4, k1, s1⟩ := boxNew q5 (.int .i64 (A2 : Int)) (.int .i64 (B2 : Int)) (.slice m2 jns.length d2)
  replace b1 := stepB b1 k1
  replace hT := rowB hT k1
  replace hri := rowB hri k1
  replace hrj := rowB hrj k1
  replace hmv1 := rowB hmv1 k1
  replace hmv2 := rowB hmv2 k1
  replace C1 := C1.step k1
  replace C2 := C2.step k1
  replace C3 := C3.step k1
  clear k1 s1 b2
  have c20 : X4.cell? ⟨q3.heap.size, 0, none⟩ = some (.int .i64 (p : Int)) := C2.cell 0
  have c21 : X4.cell? ⟨q3.heap.size, 1, none⟩ = some (.int .i64 (u : Int)) := C2.cell 1
  have c22 : X4.cell? ⟨q3.heap.size, 2, none⟩ = some (.slice bi jns.length di) := C2.cell 2
  rw [hX4] at c20 c21 c22
  dsimp only
  go_wp2_with fail
  rw [← hX4]
  clear hX4 c20 c21 c22
  obtain ⟨S, hS⟩ : ∃ S, T.take p ++ jns ++ T.drop (p + u) = S := ⟨_, rfl⟩
  obtain ⟨U, hU⟩ : ∃ U, T.take x ++ ins ++ T.drop (x + y) = U := ⟨_, rfl⟩
  have hSl : S.length = T.length - u + jns.length := by rw [← hS]; simp; omega
  have hUl : U.length = T.length - y + ins.length := by rw [← hU]; simp; omega
  have HSl := Lib.hid hSl
  have HUl := Lib.hid hUl
  clear hSl hUl
  refine (splice_ok at1 ct1 T p u bi di jns S X4 hT hrj (by omega) (by omega) hpq HJP.out hS).mono ?_
  rintro e q6 ⟨e1, f1, rfl, hrS, b2⟩
  replace b1 := stepB b1 b2
  replace hT := rowB hT b2
  replace hri := rowB hri b2
  replace hmv1 := rowB hmv1 b2
  replace hmv2 := rowB hmv2 b2
  replace C1 := C1.step b2
  replace C2 := C2.step b2
  replace C3 := C3.step b2
  replace C4 := C4.step b2
  clear b2 hrj
  have c10 : q6.cell? ⟨q2.heap.size, 0, none⟩ = some (.int .i64 (x : Int)) := C1.cell 0
  have c11 : q6.cell? ⟨q2.heap.size, 1, none⟩ = some (.int .i64 (y : Int)) := C1.cell 1
  have c12 : q6.cell? ⟨q2.heap.size, 2, none⟩ = some (.slice ai ins.length ci) := C1.cell 2
  dsimp only
  go_wp2_with fail
  clear c10 c11 c12
  refine (splice_ok at1 ct1 T x y ai ci ins U q6 hT hri (by omega) (by omega) hxy HIP.out hU).mono ?_
  rintro e q7 ⟨e2, f2, rfl, hrU, b2⟩
  replace b1 := stepB b1 b2
  replace hmv1 := rowB hmv1 b2
  replace hmv2 := rowB hmv2 b2
  replace hrS := rowB hrS b2
  replace C1 := C1.step b2
  replace C2 := C2.step b2
  replace C3 := C3.step b2
  replace C4 := C4.step b2
  clear b2 hT hri
  have c30 : q7.cell? ⟨q4.heap.size, 0, none⟩ = some (.int .i64 (A : Int)) := C3.cell 0
  have c31 : q7.cell? ⟨q4.heap.size, 1, none⟩ = some (.int .i64 (B : Int)) := C3.cell 1
  have c32 : q7.cell? ⟨q4.heap.size, 2, none⟩ = some (.slice m1 ins.length d1) := C3.cell 2
  dsimp only
  go_wp2_with fail
  clear c30 c31 c32
  obtain ⟨O, hO⟩ : ∃ O, S.take A ++ ins ++ S.drop (A + B) = O := ⟨_, rfl⟩
  obtain ⟨O2, hO2⟩ : ∃ O2, U.take A2 ++ jns ++ U.drop (A2 + B2) = O2 := ⟨_, rfl⟩
  refine (splice_ok e1 f1 S A B m1 d1 ins O q7 hrS hmv1 (by have := HSl.out; omega) (by omega) (by have := HSl.out; omega) HIP.out hO).mono ?_
  rintro e q8 ⟨e3, f3, rfl, hrO, b2⟩
  replace b1 := stepB b1 b2
  replace hmv2 := rowB hmv2 b2
  replace hrU := rowB hrU b2
  replace C1 := C1.step b2
  replace C2 := C2.step b2
  replace C4 := C4.step b2
  clear b2 C3 hmv1 hrS
  have c40 : q8.cell? ⟨q5.heap.size, 0, none⟩ = some (.int .i64 (A2 : Int)) := C4.cell 0
  have c41 : q8.cell? ⟨q5.heap.size, 1, none⟩ = some (.int .i64 (B2 : Int)) := C4.cell 1
  have c42 : q8.cell? ⟨q5.heap.size, 2, none⟩ = some (.slice m2 jns.length d2) := C4.cell 2
  dsimp only
  go_wp2_with fail
  clear c40 c41 c42
  refine (splice_ok e2 f2 U A2 B2 m2 d2 jns O2 q8 hrU hmv2 (by have := HUl.out; omega) (by omega) (by have := HUl.out; omega) HJP.out hO2).mono ?_
  rintro e q9 ⟨e4, f4, rfl, hrO2, b2⟩
  replace b1 := stepB b1 b2
  replace hrO := rowB hrO b2
  replace C1 := C1.step b2
  replace C2 := C2.step b2
  clear b2 C4 hmv2 hrU
  have c10 : q9.cell? ⟨q2.heap.size, 0, none⟩ = some (.int .i64 (x : Int)) := C1.cell 0
  have c11 : q9.cell? ⟨q2.heap.size, 1, none⟩ = some (.int .i64 (y : Int)) := C1.cell 1
  have c20 : q9.cell? ⟨q3.heap.size, 0, none⟩ = some (.int .i64 (p : Int)) := C2.cell 0
  have c21 : q9.cell? ⟨q3.heap.size, 1, none⟩ = some (.int .i64 (u : Int)) := C2.cell 1
  have hap : (x + y < p ∨ u + p < x) → O2 = O := by
    intro h
    rcases h with h | h
    · obtain ⟨rfl, rfl⟩ := hA1 h
      obtain ⟨hc, rfl⟩ := hC2 h
      rw [← hO, ← hO2, ← hS, ← hU]
      exact (splices_apart T A B p B2 A2 ins jns (by omega) hpq (by omega)).symm
    · obtain ⟨rfl, rfl⟩ := hC1 (by omega)
      obtain ⟨hc, rfl⟩ := hA2 (by omega)
      rw [← hO, ← hO2, ← hS, ← hU]
      exact splices_apart T A2 B2 x B A jns ins (by omega) hxy (by omega)
  have HAP := Lib.hid hap
  clear hap hO hO2 hS hU HSl HUl hA1 hA2 hC1 hC2 hAB hCD hfa hfb C1 C2
  have sa : IntKind.i64.wrap ((x : Int) + (y : Int)) = (x : Int) + (y : Int) := IntWalk.i64_in _ (by omega)
  have sb : IntKind.i64.wrap ((p : Int) + (u : Int)) = (p : Int) + (u : Int) := IntWalk.i64_in _ (by omega)
  dsimp only
  by_cases h1 : (x : Int) + (y : Int) < (p : Int)
  · obtain rfl := HAP.out (.inl (by omega))
    go_wp2_with fail
    clear HAP c10 c11 c20 c21
    refine (same_rows5 e3 f3 O2 e4 f4 q9 hrO hrO2).mono ?_
    rintro e q10 ⟨rfl, b2⟩
    replace b1 := stepB b1 b2
    clear b2 hrO hrO2
    have hlv := lives27_any q10
    have HLV := Lib.hid hlv
    clear hlv
    dsimp only
    go_wp2_with fail
    refine HLV.out.mono ?_
    rintro e qz ⟨rfl, bz⟩
    replace b1 := stepB b1 bz
    dsimp only
    go_wp2_with fail
    go_ret
    exact ⟨rfl, b1⟩
  · by_cases h2 : (p : Int) + (u : Int) < (x : Int)
    · obtain rfl := HAP.out (.inr (by omega))
      go_wp2_with fail
      clear HAP c10 c11 c20 c21
      refine (same_rows5 e3 f3 O2 e4 f4 q9 hrO hrO2).mono ?_
      rintro e q10 ⟨rfl, b2⟩
      replace b1 := stepB b1 b2
      clear b2 hrO hrO2
      have hlv := lives27_any q10
      have HLV := Lib.hid hlv
      clear hlv
      dsimp only
      go_wp2_with fail
      refine HLV.out.mono ?_
      rintro e qz ⟨rfl, bz⟩
      replace b1 := stepB b1 bz
      dsimp only
      go_wp2_with fail
      go_ret
      exact ⟨rfl, b1⟩
    · clear HAP
      have hlv := lives27_any q9
      have HLV := Lib.hid hlv
      clear hlv
      go_wp2_with fail
      clear c10 c11 c20 c21
      refine HLV.out.mono ?_
      rintro e qz ⟨rfl, bz⟩
      replace b1 := stepB b1 bz
      dsimp only
      go_wp2_with fail
      go_ret
      exact ⟨rfl, b1⟩
end Go.Proofs.Ytmfekbljfnjkgaa
