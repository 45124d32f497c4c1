/- TextRound: the walk. -/
import Derived.Test.YtnfelphemdchpaaTxtRm
import Derived.Test.YtnfelphemdchpaaGuard
import Derived.Test.YtnfelphemdchpaaWTextEncodes
namespace Go.Proofs.Ytnfelphemdchpaa
open Go.RowKit Go.Shelf
set_option linter.unusedVariables false

/-- Encode of a text without an error. -/
theorem encode_ok (a : Option Addr) (cap : Nat) (l : List Int) (r : Bool) (w : World) (hr : Row .i64 w.heap.size w (.slice a l.length cap) l) (hl : l.length ≤ 65536) (hs : ∀ x ∈ l, isSymB x r = true) :
    Calls Try.prog 13 #[.slice a l.length cap, .bool r] w (EncRow w (encL r l) 0) := by
  have h := encRow (encode_any a cap l r w hr (by omega))
  obtain ⟨h1, h2⟩ := encM_ok r l hs hl
  rw [h1, h2] at h
  exact h
theorem mem_app {r : Bool} {A B : List Int} (hA : ∀ x ∈ A, isSymB x r = true) (hB : ∀ x ∈ B, isSymB x r = true) : ∀ x ∈ A ++ B, isSymB x r = true := by
  intro x hx
  rcases List.mem_append.1 hx with h | h
  · exact hA x h
  · exact hB x h
set_option maxRecDepth 100000 in
set_option maxHeartbeats 8000000 in
theorem textRound_walk (a0 : Option Addr) (len0 cap0 : Nat) (z0 : List Int) (a1 : Option Addr) (len1 cap1 : Nat) (z1 : List Int) (a2 : Option Addr) (len2 cap2 : Nat) (z2 : List Int) (a3 : Int) (a4 : Bool) (w : World) (w0 : IsRow .i64 w a0 len0 cap0 z0) (w1 : IsRow .i64 w a1 len1 cap1 z1) (w2 : IsRow .u8 w a2 len2 cap2 z2) (w3 : (Lit.int .i64 a3).wf = true) :
    Calls Try.prog 9 #[.slice a0 len0 cap0, .slice a1 len1 cap1, .slice a2 len2 cap2, .int .i64 a3, .bool a4] w fun e w' => e = .returned (.bool true) ∧ Below w.heap.size w w' := by
  obtain ⟨i0, hi, hz0, hz1, hz2⟩ := info_parts info_int
  obtain ⟨j0, hj, hy0, hy1, hy2⟩ := info_parts info_cb
  obtain ⟨hr0, hw0⟩ := w0.row
  obtain ⟨hr1, hw1⟩ := w1.row
  obtain ⟨hr2, hw2⟩ := w2.row
  have hl0 := hr0.len
  have hl1 := hr1.len
  have hl2 := hr2.len
  clear w0 w1 w2
  have hrg2 := u8_rng hw2
  generalize z0.take len0 = l0 at *
  generalize z1.take len1 = l1 at *
  generalize z2.take len2 = l2 at *
  subst hl0 hl1 hl2
  have HRG2 := Lib.hid hrg2
  clear hrg2 hw2
  go_enter Try.func9, Try.ntmps9
  go_wp2_with fail
  refine (text_row a0 cap0 l0 25 a4 w hr0 (by decide) hw0).mono ?_
  rintro e v1 ⟨d1, c1, rfl, _, hA, b1⟩
  have hAl := textT_len l0 25 a4
  have HAO := Lib.hid (textT_ok l0 25 a4)
  generalize textT l0 25 a4 = A at *
  have hr1 := rowB hr1 b1
  have hr2 := rowB hr2 b1
  dsimp only
  go_wp2_with fail
  refine (text_row a1 cap1 l1 12 a4 v1 hr1 (by decide) hw1).mono ?_
  rintro e v2 ⟨d2, c2, rfl, _, hB, bb⟩
  have hBl := textT_len l1 12 a4
  have HBO := Lib.hid (textT_ok l1 12 a4)
  generalize textT l1 12 a4 = B at *
  have hA := rowB hA bb
  have hr2 := rowB hr2 bb
  replace b1 := stepB b1 bb
  clear bb hr0 hr1 hw0 hw1
  dsimp only
  go_wp2_with fail
  refine (encode_ok d1 c1 A a4 v2 hA (by omega) HAO.out).mono ?_
  rintro e v3 ⟨d3, c3, rfl, hX, bb⟩
  have hXl := encL_len a4 A
  have HXR := Lib.hid (byte_rng a4 A HAO.out)
  have hA := rowB hA bb
  have hB := rowB hB bb
  have hr2 := rowB hr2 bb
  replace b1 := stepB b1 bb
  clear bb
  dsimp only
  go_wp2_with fail
  refine (encode_ok d2 c2 B a4 v3 hB (by omega) HBO.out).mono ?_
  rintro e v4 ⟨d4, c4, rfl, hY, bb⟩
  have hYl := encL_len a4 B
  have hA := rowB hA bb
  have hB := rowB hB bb
  have hX := rowB hX bb
  have hr2 := rowB hr2 bb
  replace b1 := stepB b1 bb
  clear bb
  have hE := World.ownsRow_made (base := v4.heap.size) (e := 3) (size := 1) v4 #[] 0 (Nat.le_refl _) (Nat.zero_le _) rfl
  have hBs := RowP.below (laidB (Below.refl v4.heap.size v4) (.cells #[] 3)) hB
  have hA6 := rowB hA (laidB (Below.refl _ _) (.cells #[] 3))
  dsimp only
  go_wp2_with (first
    | (at_builtin; refine wpList_append_row rfl _ _ 22 rfl v4.heap.size 3 i0 .i64 _ 8 Try.underlying22 hi hz0 hz1 hz2 rfl _ _ [] rfl hE _ A _ rfl hA6 (by unfold maxLen; omega) (by omega) (by simp) ?_; intro v6 w6 hown6 hgrow6 hb6; have hB7 := RowP.below hb6 hBs)
    | (at_builtin; refine wpList_append_row rfl _ _ 22 rfl v4.heap.size 3 i0 .i64 _ 8 Try.underlying22 hi hz0 hz1 hz2 rfl _ _ A rfl hown6 _ B _ rfl hB7 (by unfold maxLen; simp; omega) (by simp; omega) (by have := hb6.size; simp at this; omega) ?_; intro v7 w7 hown7 hgrow7 hb7))
  have bb : Below v4.heap.size v4 w7 := (laidB (Below.refl v4.heap.size v4) (.cells #[] 3)).trans (hb6.trans hb7)
  have hAB : (A ++ B).length ≤ 65536 := by simp; omega
  have HABO := Lib.hid (mem_app HAO.out HBO.out)
  have hea := encL_app a4 A B
  generalize hABe : A ++ B = AB at *
  have hAB7 := (row_of_owns hown7).1
  obtain ⟨d7, c7, rfl⟩ := row_slice hAB7
  have hA := rowB hA bb
  have hX := rowB hX bb
  have hY := rowB hY bb
  have hr2 := rowB hr2 bb
  replace b1 := stepB b1 bb
  clear hgrow6 hgrow7 hown6 hown7 hb6 hb7 hB7 hBs hA6 hE bb hABe hB
  go_wp2_with fail
  refine (encode_ok d7 c7 AB a4 w7 hAB7 hAB HABO.out).mono ?_
  rintro e v8 ⟨d8, c8, rfl, hZ, bb⟩
  rw [hea] at hZ ⊢
  generalize hXYe : encL a4 A ++ encL a4 B = XY at *
  have HXYE := Lib.hid hXYe
  clear hXYe
  have hA := rowB hA bb
  have hX := rowB hX bb
  have hY := rowB hY bb
  have hr2 := rowB hr2 bb
  replace b1 := stepB b1 bb
  have hdm := decodeM_enc a4 A HAO.out (by omega)
  have hdp := fun k => decodeM_pre a4 A k HAO.out
  have HDP := Lib.hid hdp
  clear bb hea hAB7 hAB hdp
  generalize encL a4 A = X at *
  generalize encL a4 B = Y at *
  dsimp only
  go_wp2_with fail
  have hdc := decode_any d3 c3 X a4 v8 hX (by omega) (get_rng HXR.out)
  rw [hdm] at hdc
  refine hdc.mono ?_
  rintro e v9 ⟨d9, c9, rfl, _, hK, bb⟩
  have hA := rowB hA bb
  have hX := rowB hX bb
  have hY := rowB hY bb
  have hZ := rowB hZ bb
  have hr2 := rowB hr2 bb
  replace b1 := stepB b1 bb
  clear bb hdc hdm
  dsimp only at hK ⊢
  go_wp2_with fail
  refine (sameInts_any _ _ _ A _ _ _ A _ hA hK).mono ?_
  rintro e u1 ⟨rfl, bb⟩
  have hA := rowB hA bb
  have hX := rowB hX bb
  have hY := rowB hY bb
  have hZ := rowB hZ bb
  have hr2 := rowB hr2 bb
  replace b1 := stepB b1 bb
  clear bb hK
  rw [show (A == A) = true from by simp]
  have hE := World.ownsRow_made (base := u1.heap.size) (e := 5) (size := 1) u1 #[] 0 (Nat.le_refl _) (Nat.zero_le _) rfl
  have hYs := RowP.below (laidB (Below.refl u1.heap.size u1) (.cells #[] 5)) hY
  have hX6 := rowB hX (laidB (Below.refl _ _) (.cells #[] 5))
  dsimp only
  go_wp2_with (first
    | (at_builtin; refine wpList_guarded (by go_simp) ?_; dsimp only; refine wpList_append_row rfl _ _ 26 rfl u1.heap.size 5 j0 .u8 _ 1 Try.underlying26 hj hy0 hy1 hy2 rfl _ _ [] rfl hE _ X _ rfl hX6 (by unfold maxLen; omega) (by omega) (by simp) ?_; intro v6 w6 hown6 hgrow6 hb6; have hB7 := RowP.below hb6 hYs)
    | (at_builtin; refine wpList_guarded (by go_simp) ?_; dsimp only; refine wpList_append_row rfl _ _ 26 rfl u1.heap.size 5 j0 .u8 _ 1 Try.underlying26 hj hy0 hy1 hy2 rfl _ _ X rfl hown6 _ Y _ rfl hB7 (by unfold maxLen; simp; omega) (by simp; omega) (by have := hb6.size; simp at this; omega) ?_; intro v7 w7 hown7 hgrow7 hb7))
  have bb : Below u1.heap.size u1 w7 := (laidB (Below.refl u1.heap.size u1) (.cells #[] 5)).trans (hb6.trans hb7)
  rw [HXYE.out] at hown7
  have hXY7 := (row_of_owns hown7).1
  obtain ⟨d10, c10, rfl⟩ := row_slice hXY7
  have hA := rowB hA bb
  have hX := rowB hX bb
  have hZ := rowB hZ bb
  have hr2 := rowB hr2 bb
  replace b1 := stepB b1 bb
  clear hgrow6 hgrow7 hown6 hown7 hb6 hb7 hB7 hYs hX6 hE bb hY
  go_wp2_with fail
  refine (sameBytes_any d8 _ c8 XY d10 _ c10 XY w7 hZ hXY7).mono ?_
  rintro e u2 ⟨rfl, bb⟩
  have hA := rowB hA bb
  have hX := rowB hX bb
  have hr2 := rowB hr2 bb
  replace b1 := stepB b1 bb
  clear bb hZ hXY7
  rw [show (XY == XY) = true from by simp]
  have hXm : (X.length : Int) ≤ 100 := by omega
  have hX0 : (0 : Int) ≤ (X.length : Int) := by omega
  have HXL := Lib.hid hXl
  have HYL := Lib.hid hYl
  have HHA := Lib.hid hAl
  have HHB := Lib.hid hBl
  clear hXl hYl hAl hBl
  dsimp only
  go_wp2_with fail
  refine (around_any a3 _ _ w3 (by omega) (by omega)).mono ?_
  rintro e W ⟨rfl, rfl⟩
  have ha0 := aroundI_lo a3 ((X.length : Int) + 1) (by omega)
  have ha1 := aroundI_hi a3 ((X.length : Int) + 1) (by omega)
  generalize aroundI a3 ((X.length : Int) + 1) = N at *
  obtain ⟨k, rfl⟩ := Int.eq_ofNat_of_zero_le ha0
  have hkx : k ≤ X.length := by omega
  have hXc := hX.lencap
  unfold maxLen at hXc
  have hk1 : (k : Int) ≤ c3 := by omega
  have hk2 : (k : Int) ≤ X.length := by omega
  have hP := row_take' hX k hkx
  have hPl : (X.take k).length = k := by rw [List.length_take]; omega
  have hPR := get_rng (l := X.take k) (fun y hy => HXR.out y (List.mem_of_mem_take hy))
  have HPR := Lib.hid hPR
  clear ha1 hPR
  dsimp only
  go_wp2_with fail
  have hdc2 := decode_any d3 c3 (X.take k) a4 W (by rw [hPl]; exact hP) (by omega) HPR.out
  rw [hPl] at hdc2
  refine hdc2.mono ?_
  rintro e t1 ⟨d11, c11, rfl, _, hD1, bb⟩
  have hA := rowB hA bb
  have hX := rowB hX bb
  have hP := rowB hP bb
  have hr2 := rowB hr2 bb
  replace b1 := stepB b1 bb
  have hdp := HDP.out k HPR.out
  clear bb hdc2
  by_cases h0 : (decodeM a4 (X.take k)).2 = 0
  · obtain ⟨g1, g2, g3, -⟩ := decodeM_back a4 _ HPR.out h0
    obtain ⟨g4, g5⟩ := hdp h0
    clear hdp
    generalize decodeM a4 (X.take k) = D at *
    obtain ⟨Dl, De⟩ := D
    dsimp only at h0 g1 g2 g3 g4 g5 hD1 ⊢
    subst h0
    have G1 := Lib.hid g1
    have G2 := Lib.hid g2
    have G5 := Lib.hid g5
    clear g1 g2 g5
    go_wp2_with fail
    refine (encode_ok d11 c11 Dl a4 t1 hD1 g3 G2.out).mono ?_
    rintro e t2 ⟨d12, c12, rfl, hN, bb⟩
    rw [G1.out] at hN ⊢
    have hA := rowB hA bb
    have hP := rowB hP bb
    have hD1 := rowB hD1 bb
    have hr2 := rowB hr2 bb
    replace b1 := stepB b1 bb
    generalize X.take k = P at *
    rw [hPl] at hN ⊢
    have HPL := Lib.hid hPl
    clear hPl
    have hg4 : ¬ (A.length : Int) < Dl.length := by omega
    have hAc := hA.lencap
    unfold maxLen at hAc
    have hg6 : (Dl.length : Int) ≤ c1 := by omega
    have hT := row_take' hA Dl.length g4
    rw [G5.out] at hT
    clear bb
    dsimp only
    go_wp2_with fail
    refine (sameBytes_any _ _ _ P _ _ _ P t2 hN hP).mono ?_
    rintro e t3 ⟨rfl, bb⟩
    have hT := rowB hT bb
    have hD1 := rowB hD1 bb
    have hr2 := rowB hr2 bb
    replace b1 := stepB b1 bb
    rw [show (P == P) = true from by simp]
    clear bb
    dsimp only
    go_wp2_with fail
    refine (sameInts_any _ _ _ Dl _ _ _ Dl t3 hD1 hT).mono ?_
    rintro e t4 ⟨rfl, bb⟩
    have hr2 := rowB hr2 bb
    replace b1 := stepB b1 bb
    rw [show (Dl == Dl) = true from by simp]
    clear bb hP hD1 hT hN
    dsimp only
    go_wp2_with fail
    refine (few_int _ l2 30 t4 hr2 (by decide) (by decide)).mono ?_
    rintro e x1 ⟨e1, f1, rfl, _, hR, bb⟩
    have hRl : (l2.take (30 : Int).toNat).length ≤ 30 := by rw [List.length_take]; exact Nat.min_le_left _ _
    have HRR := Lib.hid (fun i => take_rng HRG2.out (30 : Int).toNat i)
    have hr2 := rowB hr2 bb
    replace b1 := stepB b1 bb
    clear bb
    generalize hRR : l2.take (30 : Int).toNat = R at *
    have HRRe := Lib.hid hRR
    clear hRR
    dsimp only
    go_wp2_with fail
    refine (decode_any e1 f1 R a4 x1 hR (by omega) HRR.out).mono ?_
    rintro e x2 ⟨e2, f2, rfl, _, hD, bb⟩
    have hR := rowB hR bb
    have hr2 := rowB hr2 bb
    replace b1 := stepB b1 bb
    clear bb
    by_cases hd0 : (decodeM a4 R).2 = 0
    · obtain ⟨g1, g2, g3, -⟩ := decodeM_back a4 R HRR.out hd0
      generalize decodeM a4 R = D2 at *
      obtain ⟨D2l, D2e⟩ := D2
      dsimp only at hd0 g1 g2 g3 hD ⊢
      subst hd0
      have G1 := Lib.hid g1
      have G2 := Lib.hid g2
      clear g1 g2
      go_wp2_with fail
      refine (encode_ok e2 f2 D2l a4 x2 hD g3 G2.out).mono ?_
      rintro e x3 ⟨e3, f3, rfl, hN, bb⟩
      rw [G1.out] at hN ⊢
      have hr2 := rowB hr2 bb
      replace b1 := stepB b1 bb
      clear bb
      dsimp only
      go_wp2_with fail
      refine (few_int _ l2 30 x3 hr2 (by decide) (by decide)).mono ?_
      rw [HRRe.out]
      rintro e x4 ⟨e4, f4, rfl, _, hR4, bb⟩
      have hN := rowB hN bb
      replace b1 := stepB b1 bb
      clear bb
      dsimp only
      go_wp2_with fail
      refine (sameBytes_any _ _ _ R _ _ _ R x4 hN hR4).mono ?_
      rintro e x5 ⟨rfl, bb⟩
      replace b1 := stepB b1 bb
      rw [show (R == R) = true from by simp]
      dsimp only
      go_wp2_with fail
      refine (lives4_any x5).mono ?_
      rintro e x6 ⟨rfl, bb2⟩
      replace b1 := stepB b1 bb2
      dsimp only
      go_wp2_with fail
      go_ret
      exact ⟨rfl, b1⟩
    · obtain ⟨g1, g2⟩ := decodeM_err a4 R HRR.out (by omega) hd0
      rw [g1]
      subst g2
      clear hd0 g1 hD
      dsimp only
      go_wp2_with fail
      refine (lives4_any x2).mono ?_
      rintro e x6 ⟨rfl, bb2⟩
      replace b1 := stepB b1 bb2
      dsimp only
      go_wp2_with fail
      go_ret
      exact ⟨rfl, b1⟩
  · obtain ⟨g1, g2⟩ := decodeM_err a4 _ HPR.out (by omega) h0
    rw [g1]
    subst g2
    clear h0 g1 hD1 hdp
    dsimp only
    go_wp2_with fail
    refine (few_int _ l2 30 t1 hr2 (by decide) (by decide)).mono ?_
    rintro e x1 ⟨e1, f1, rfl, _, hR, bb⟩
    have hRl : (l2.take (30 : Int).toNat).length ≤ 30 := by rw [List.length_take]; exact Nat.min_le_left _ _
    have HRR := Lib.hid (fun i => take_rng HRG2.out (30 : Int).toNat i)
    have hr2 := rowB hr2 bb
    replace b1 := stepB b1 bb
    clear bb
    generalize hRR : l2.take (30 : Int).toNat = R at *
    have HRRe := Lib.hid hRR
    clear hRR
    dsimp only
    go_wp2_with fail
    refine (decode_any e1 f1 R true x1 hR (by omega) HRR.out).mono ?_
    rintro e x2 ⟨e2, f2, rfl, _, hD, bb⟩
    have hR := rowB hR bb
    have hr2 := rowB hr2 bb
    replace b1 := stepB b1 bb
    clear bb
    by_cases hd0 : (decodeM true R).2 = 0
    · obtain ⟨g1, g2, g3, -⟩ := decodeM_back true R HRR.out hd0
      generalize decodeM true R = D2 at *
      obtain ⟨D2l, D2e⟩ := D2
      dsimp only at hd0 g1 g2 g3 hD ⊢
      subst hd0
      have G1 := Lib.hid g1
      have G2 := Lib.hid g2
      clear g1 g2
      go_wp2_with fail
      refine (encode_ok e2 f2 D2l true x2 hD g3 G2.out).mono ?_
      rintro e x3 ⟨e3, f3, rfl, hN, bb⟩
      rw [G1.out] at hN ⊢
      have hr2 := rowB hr2 bb
      replace b1 := stepB b1 bb
      clear bb
      dsimp only
      go_wp2_with fail
      refine (few_int _ l2 30 x3 hr2 (by decide) (by decide)).mono ?_
      rw [HRRe.out]
      rintro e x4 ⟨e4, f4, rfl, _, hR4, bb⟩
      have hN := rowB hN bb
      replace b1 := stepB b1 bb
      clear bb
      dsimp only
      go_wp2_with fail
      refine (sameBytes_any _ _ _ R _ _ _ R x4 hN hR4).mono ?_
      rintro e x5 ⟨rfl, bb⟩
      replace b1 := stepB b1 bb
      rw [show (R == R) = true from by simp]
      dsimp only
      go_wp2_with fail
      refine (lives4_any x5).mono ?_
      rintro e x6 ⟨rfl, bb2⟩
      replace b1 := stepB b1 bb2
      dsimp only
      go_wp2_with fail
      go_ret
      exact ⟨rfl, b1⟩
    · obtain ⟨g1, g2⟩ := decodeM_err true R HRR.out (by omega) hd0
      rw [g1]
      clear g2
      clear hd0 g1 hD
      dsimp only
      go_wp2_with fail
      refine (lives4_any x2).mono ?_
      rintro e x6 ⟨rfl, bb2⟩
      replace b1 := stepB b1 bb2
      dsimp only
      go_wp2_with fail
      go_ret
      exact ⟨rfl, b1⟩
end Go.Proofs.Ytnfelphemdchpaa
