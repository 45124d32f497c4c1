/- TextLimits: the walk. -/
import Derived.Test.YtnfelphemdchpaaTxtLim
namespace Go.Proofs.Ytnfelphemdchpaa
open Go.RowKit Go.Shelf
set_option linter.unusedVariables false

theorem made_zeros (k : IntKind) (n : Nat) : (madeCells (Value.int k 0).cells (n * 1)).toList = (zerosI n).map (Value.int k) := by
  rw [Nat.mul_one]
  unfold madeCells zerosI
  rw [List.map_replicate]
  apply List.ext_getElem
  · simp
  · intro i h1 h2
    simp [Value.cells, Nat.mod_one]
theorem info_i8 : (Try.prog.info? 5).map (fun i => (i.zero, i.size, i.bytes)) = some (some (.int .u8 0), 1, 1) := by kernel_rfl
set_option maxRecDepth 100000 in
set_option maxHeartbeats 4000000 in
theorem textLimits_walk (a0 : Int) (a1 : Int) (a2 : Bool) (w0 : (Lit.int .i64 a0).wf = true) (w1 : (Lit.int .i64 a1).wf = true) (w : World) :
    Calls Try.prog 5 #[.int .i64 a0, .int .i64 a1, .bool a2] w fun e w' => e = .returned (.bool true) ∧ Below w.heap.size w w' := by
  obtain ⟨i0, hi, hz0, hz1, hz2⟩ := info_parts info_int
  obtain ⟨j0, hj, hy0, hy1, hy2⟩ := info_parts info_cb
  go_enter Try.func5, Try.ntmps5
  go_wp2_with fail
  refine (around_any a0 12 w w0 (by decide) (by decide)).mono ?_
  rintro e W ⟨rfl, rfl⟩
  have ha0 := aroundI_lo a0 12 (by decide)
  have ha1 := aroundI_hi a0 12 (by decide)
  generalize aroundI a0 12 = N at *
  obtain ⟨m, rfl⟩ := Int.eq_ofNat_of_zero_le ha0
  obtain ⟨k, hk⟩ : ∃ k : Nat, k = 65530 + m := ⟨_, rfl⟩
  have hkI : IntKind.i64.wrap (65530 + (m : Int)) = (k : Int) := by rw [IntWalk.i64_in _ (by omega)]; omega
  have hkI2 : 65530 + (m : Int) = (k : Int) := by omega
  have hk0 : 65530 ≤ k := by omega
  have hk1 : k < 65542 := by omega
  clear hk w0
  dsimp only
  obtain ⟨K, hkK⟩ : ∃ K : Int, (k : Int) = K := ⟨_, rfl⟩
  rw [hkK] at hkI hkI2
  have HK0 := Lib.hid hk0
  have HK1 := Lib.hid hk1
  have HKI2 := Lib.hid hkI2
  have hk7 : (7 : Int) < K := by omega
  have hkc : K < 65542 := by omega
  have hkd : 65530 ≤ K := by omega
  clear hk0 hk1 hkI2 ha0 ha1
  go_wp2_with (at_make; (refine wpList_make_full _ rfl _ _ 22 rfl W.heap.size 3 i0 (.int .i64 0) 1 Try.underlying22 hi hz0 hz1 .i64 .i64 _ _ k rfl rfl hkK.symm hkK.symm (by rw [hz2]; omega) (by unfold maxLen; omega) (Nat.le_refl _) ?_; intro w2 hown2 hgrow2; rw [made_zeros] at hown2; have hc7 := owns_cell hown2 7 (by omega); have hf7 := hown2.frozenAt 7))
  have hown3 := owns_set hown2 7 a1
  have hb3 : Below W.heap.size W (w2.setCell ⟨W.heap.size, 7, none⟩ (.int .i64 a1)) := ((Below.refl W.heap.size W).grown hgrow2 (Nat.le_refl _) (fun k e => by cases e)).setCell (p := ⟨W.heap.size, 7, none⟩) (Nat.le_refl _) _
  generalize hL : (zerosI k).set 7 a1 = L at *
  have hLk : L.length = k := by rw [← hL, List.length_set, zerosI_len]
  clear hL hown2 hgrow2 hc7 hf7
  generalize w2.setCell ⟨W.heap.size, 7, none⟩ (.int .i64 a1) = w3 at *
  have hrow := (row_of_owns hown3).1
  rw [← hLk] at hrow
  have hv1 := refValid_any _ k L a2 w3 (by rw [hLk] at hrow ⊢; exact hrow)
  have hv2 := encode_any _ k L a2 w3 (by rw [hLk] at hrow ⊢; exact hrow) (by have := HK1.out; omega)
  rw [hLk] at hv1 hv2
  have HV1 := Lib.hid hv1
  have HV2 := Lib.hid hv2
  have hC4 := validI_long L a2
  rw [hLk] at hC4
  have hM : encM a2 L = if validI L a2 = 0 then encL a2 L else [] := rfl
  have hr3 : Row .i64 w3.heap.size w3 (.slice (some ⟨W.heap.size, 0, none⟩) k k) L := by rw [hLk] at hrow; exact hrow
  have hval : validI L a2 = 4 ∨ validI L a2 = 5 ∨ validI L a2 = 0 := by unfold validI; split <;> (try split) <;> simp
  clear hv1 hv2 hrow hown3
  by_cases hbig : 65536 < k
  · have hC : validI L a2 = 4 := by rw [hC4]; exact hbig
    have hbI : (65536 : Int) < K := by omega
    have hbI3 : (65536 : Int) < K + 3 := by omega
    have HBG := Lib.hid hbig
    clear hval hC4 hbig
    rw [hC] at HV1 HV2
    refine HV1.out.mono ?_
    rintro e W4 ⟨rfl, hW4⟩
    subst hW4
    dsimp only
    go_wp2_with fail
    refine HV2.out.mono ?_
    rintro e w5 ⟨v5, rfl, hown5, b5⟩
    have hrow5 := (row_of_owns hown5).1
    obtain ⟨a5, c5, rfl⟩ := row_slice hrow5
    have hb5 := hb3.trans (b5.mono hb3.size)
    have hr5 := rowB hr3 b5
    clear hown5 hrow5 b5
    rw [hC, if_neg (by decide)] at hM
    rw [hM]
    dsimp only
    go_wp2_with fail
    have hv3 := valid_any _ k L a2 w5 (by rw [hLk]; exact hr5)
    rw [hLk, hC] at hv3
    refine hv3.mono ?_
    rintro e w6 ⟨rfl, b6⟩
    have hb6 := hb5.trans (b6.mono hb5.size)
    clear hv3 hr5 hr3 HV1 HV2 hM
    dsimp only
    go_wp2_with (at_make; refine wpList_make_full _ rfl _ _ 26 rfl w6.heap.size 5 j0 (.int .u8 0) 1 Try.underlying26 hj hy0 hy1 .i64 .i64 _ _ k rfl rfl hkK.symm hkK.symm (by rw [hy2]; omega) (by unfold maxLen; omega) (Nat.le_refl _) ?_; intro w7 hown7 hgrow7)
    rw [made_zeros] at hown7
    have r7 := (row_of_owns hown7).1
    have b7 := stepB hb6 ((Below.refl w6.heap.size w6).grown hgrow7 (Nat.le_refl _) (fun k e => by cases e))
    clear hown7 hgrow7

    have hm := decodeM_zeros a2 k
    rw [if_pos (by have := HBG.out; omega)] at hm
    have hdc := decode_any (some ⟨w6.heap.size, 0, none⟩) k (zerosI k) a2 w7 (by rw [zerosI_len]; exact r7) (by rw [zerosI_len]; have := HK1.out; omega) (fun i => by rw [zerosI_get]; omega)
    rw [hm, zerosI_len] at hdc
    refine hdc.mono ?_
    rintro e w8 ⟨a8, c8, rfl, _, _, b8'⟩
    have b8 := stepB b7 b8'
    clear hdc r7 b8' hm
    dsimp only

    go_wp2_with (first
      | (at_make; refine wpList_make_full _ rfl _ _ 22 rfl w8.heap.size 3 i0 (.int .i64 0) 1 Try.underlying22 hi hz0 hz1 .i64 .i64 _ _ 4 rfl rfl rfl rfl (by rw [hz2]; omega) (by unfold maxLen; omega) (Nat.le_refl _) ?_; intro w9 hown9 hgrow9)
      | (at_make; refine wpList_make_full _ rfl _ _ 22 rfl w9.heap.size 3 i0 (.int .i64 0) 1 Try.underlying22 hi hz0 hz1 .i64 .i64 _ _ k rfl rfl hkK.symm hkK.symm (by rw [hz2]; omega) (by unfold maxLen; omega) (Nat.le_refl _) ?_; intro w10 hown10 hgrow10))
    rw [made_zeros] at hown9 hown10
    have b9 : Below w8.heap.size w8 w9 := (Below.refl w8.heap.size w8).grown hgrow9 (Nat.le_refl _) (fun k e => by cases e)
    have b10 : Below w9.heap.size w9 w10 := (Below.refl w9.heap.size w9).grown hgrow10 (Nat.le_refl _) (fun k e => by cases e)
    have r9 := rowB (row_of_owns hown9).1 b10
    have r10 := (row_of_owns hown10).1
    have bb := stepB (stepB b8 b9) b10
    clear hgrow9 hgrow10 hown9 hown10 b9 b10
    have hsp := splice_any (some ⟨w9.heap.size, 0, none⟩) k (zerosI k) 3 1 (some ⟨w8.heap.size, 0, none⟩) 4 (zerosI 4) w10 (by rw [zerosI_len]; exact r10) (by rw [zerosI_len]; exact r9) (by rw [zerosI_len]; have := HK1.out; omega) (by rw [zerosI_len]; omega) (by decide) (by decide)
    rw [zerosI_len, zerosI_len] at hsp
    refine hsp.mono ?_
    rintro e w11 ⟨v11, rfl, hown11, b11⟩
    have hrow11 := (row_of_owns hown11).1
    obtain ⟨a11, c11, rfl⟩ := row_slice hrow11
    have hSl := spliceL_zeros k HK0.out
    have hCl := checkI_zeros k HK0.out
    rw [if_pos (by omega)] at hSl hCl
    rw [hSl, hCl]
    have bb2 := stepB bb b11
    clear hown11 hrow11 hSl hCl r9 r10 hsp
    dsimp only
    go_wp2_with fail
    refine (lives4_any _).mono ?_
    rintro e w12 ⟨rfl, b12⟩
    have bb3 := stepB bb2 b12
    dsimp only
    go_wp2_with fail
    go_ret
    exact ⟨rfl, bb3⟩
  · have hbI : ¬ (65536 : Int) < K := by omega
    have hbI2 : K ≤ 65536 := by omega
    have hn4 : validI L a2 ≠ 4 := fun e => hbig (by rw [← hC4]; exact e)
    have HBG := Lib.hid hbig
    clear hbig hC4
    by_cases hbig3 : 65536 < k + 3
    · have hbI3 : (65536 : Int) < K + 3 := by omega
      clear hbig3
      rcases hval with hC | hC | hC
      · exact absurd hC hn4
      · clear hn4
        rw [hC] at HV1 HV2
        refine HV1.out.mono ?_
        rintro e W4 ⟨rfl, hW4⟩
        subst hW4
        dsimp only
        go_wp2_with fail
        refine HV2.out.mono ?_
        rintro e w5 ⟨v5, rfl, hown5, b5⟩
        have hrow5 := (row_of_owns hown5).1
        obtain ⟨a5, c5, rfl⟩ := row_slice hrow5
        have hb5 := hb3.trans (b5.mono hb3.size)
        have hr5 := rowB hr3 b5
        clear hown5 hrow5 b5
        rw [hC, if_neg (by decide)] at hM
        rw [hM]
        dsimp only
        go_wp2_with fail
        have hv3 := valid_any _ k L a2 w5 (by rw [hLk]; exact hr5)
        rw [hLk, hC] at hv3
        refine hv3.mono ?_
        rintro e w6 ⟨rfl, b6⟩
        have hb6 := hb5.trans (b6.mono hb5.size)
        clear hv3 hr5 hr3 HV1 HV2 hM
        dsimp only
        go_wp2_with (at_make; refine wpList_make_full _ rfl _ _ 26 rfl w6.heap.size 5 j0 (.int .u8 0) 1 Try.underlying26 hj hy0 hy1 .i64 .i64 _ _ k rfl rfl hkK.symm hkK.symm (by rw [hy2]; omega) (by unfold maxLen; omega) (Nat.le_refl _) ?_; intro w7 hown7 hgrow7)
        rw [made_zeros] at hown7
        have r7 := (row_of_owns hown7).1
        have b7 := stepB hb6 ((Below.refl w6.heap.size w6).grown hgrow7 (Nat.le_refl _) (fun k e => by cases e))
        clear hown7 hgrow7

        have hm := decodeM_zeros a2 k
        rw [if_neg (by omega)] at hm
        have hdc := decode_any (some ⟨w6.heap.size, 0, none⟩) k (zerosI k) a2 w7 (by rw [zerosI_len]; exact r7) (by rw [zerosI_len]; have := HK1.out; omega) (fun i => by rw [zerosI_get]; omega)
        rw [hm, zerosI_len] at hdc
        refine hdc.mono ?_
        rintro e w8 ⟨a8, c8, rfl, _, _, b8'⟩
        have b8 := stepB b7 b8'
        clear hdc r7 b8' hm
        dsimp only

        go_wp2_with (first
          | (at_make; refine wpList_make_full _ rfl _ _ 22 rfl w8.heap.size 3 i0 (.int .i64 0) 1 Try.underlying22 hi hz0 hz1 .i64 .i64 _ _ 4 rfl rfl rfl rfl (by rw [hz2]; omega) (by unfold maxLen; omega) (Nat.le_refl _) ?_; intro w9 hown9 hgrow9)
          | (at_make; refine wpList_make_full _ rfl _ _ 22 rfl w9.heap.size 3 i0 (.int .i64 0) 1 Try.underlying22 hi hz0 hz1 .i64 .i64 _ _ k rfl rfl hkK.symm hkK.symm (by rw [hz2]; omega) (by unfold maxLen; omega) (Nat.le_refl _) ?_; intro w10 hown10 hgrow10))
        rw [made_zeros] at hown9 hown10
        have b9 : Below w8.heap.size w8 w9 := (Below.refl w8.heap.size w8).grown hgrow9 (Nat.le_refl _) (fun k e => by cases e)
        have b10 : Below w9.heap.size w9 w10 := (Below.refl w9.heap.size w9).grown hgrow10 (Nat.le_refl _) (fun k e => by cases e)
        have r9 := rowB (row_of_owns hown9).1 b10
        have r10 := (row_of_owns hown10).1
        have bb := stepB (stepB b8 b9) b10
        clear hgrow9 hgrow10 hown9 hown10 b9 b10
        have hsp := splice_any (some ⟨w9.heap.size, 0, none⟩) k (zerosI k) 3 1 (some ⟨w8.heap.size, 0, none⟩) 4 (zerosI 4) w10 (by rw [zerosI_len]; exact r10) (by rw [zerosI_len]; exact r9) (by rw [zerosI_len]; have := HK1.out; omega) (by rw [zerosI_len]; omega) (by decide) (by decide)
        rw [zerosI_len, zerosI_len] at hsp
        refine hsp.mono ?_
        rintro e w11 ⟨v11, rfl, hown11, b11⟩
        have hrow11 := (row_of_owns hown11).1
        obtain ⟨a11, c11, rfl⟩ := row_slice hrow11
        have hSl := spliceL_zeros k HK0.out
        have hCl := checkI_zeros k HK0.out
        rw [if_pos (by omega)] at hSl hCl
        rw [hSl, hCl]
        have bb2 := stepB bb b11
        clear hown11 hrow11 hSl hCl r9 r10 hsp
        dsimp only
        go_wp2_with fail
        refine (lives4_any _).mono ?_
        rintro e w12 ⟨rfl, b12⟩
        have bb3 := stepB bb2 b12
        dsimp only
        go_wp2_with fail
        go_ret
        exact ⟨rfl, bb3⟩
      · clear hn4
        rw [hC] at HV1 HV2
        refine HV1.out.mono ?_
        rintro e W4 ⟨rfl, hW4⟩
        subst hW4
        dsimp only
        go_wp2_with fail
        refine HV2.out.mono ?_
        rintro e w5 ⟨v5, rfl, hown5, b5⟩
        have hrow5 := (row_of_owns hown5).1
        obtain ⟨a5, c5, rfl⟩ := row_slice hrow5
        have hb5 := hb3.trans (b5.mono hb3.size)
        have hr5 := rowB hr3 b5
        clear hown5 hrow5 b5
        generalize (encM a2 L).length = Mn
        dsimp only
        go_wp2_with fail
        have hv3 := valid_any _ k L a2 w5 (by rw [hLk]; exact hr5)
        rw [hLk, hC] at hv3
        refine hv3.mono ?_
        rintro e w6 ⟨rfl, b6⟩
        have hb6 := hb5.trans (b6.mono hb5.size)
        clear hv3 hr5 hr3 HV1 HV2 hM
        dsimp only
        go_wp2_with (at_make; refine wpList_make_full _ rfl _ _ 26 rfl w6.heap.size 5 j0 (.int .u8 0) 1 Try.underlying26 hj hy0 hy1 .i64 .i64 _ _ k rfl rfl hkK.symm hkK.symm (by rw [hy2]; omega) (by unfold maxLen; omega) (Nat.le_refl _) ?_; intro w7 hown7 hgrow7)
        rw [made_zeros] at hown7
        have r7 := (row_of_owns hown7).1
        have b7 := stepB hb6 ((Below.refl w6.heap.size w6).grown hgrow7 (Nat.le_refl _) (fun k e => by cases e))
        clear hown7 hgrow7

        have hm := decodeM_zeros a2 k
        rw [if_neg (by omega)] at hm
        have hdc := decode_any (some ⟨w6.heap.size, 0, none⟩) k (zerosI k) a2 w7 (by rw [zerosI_len]; exact r7) (by rw [zerosI_len]; have := HK1.out; omega) (fun i => by rw [zerosI_get]; omega)
        rw [hm, zerosI_len] at hdc
        refine hdc.mono ?_
        rintro e w8 ⟨a8, c8, rfl, _, _, b8'⟩
        have b8 := stepB b7 b8'
        clear hdc r7 b8' hm
        dsimp only

        go_wp2_with (first
          | (at_make; refine wpList_make_full _ rfl _ _ 22 rfl w8.heap.size 3 i0 (.int .i64 0) 1 Try.underlying22 hi hz0 hz1 .i64 .i64 _ _ 4 rfl rfl rfl rfl (by rw [hz2]; omega) (by unfold maxLen; omega) (Nat.le_refl _) ?_; intro w9 hown9 hgrow9)
          | (at_make; refine wpList_make_full _ rfl _ _ 22 rfl w9.heap.size 3 i0 (.int .i64 0) 1 Try.underlying22 hi hz0 hz1 .i64 .i64 _ _ k rfl rfl hkK.symm hkK.symm (by rw [hz2]; omega) (by unfold maxLen; omega) (Nat.le_refl _) ?_; intro w10 hown10 hgrow10))
        rw [made_zeros] at hown9 hown10
        have b9 : Below w8.heap.size w8 w9 := (Below.refl w8.heap.size w8).grown hgrow9 (Nat.le_refl _) (fun k e => by cases e)
        have b10 : Below w9.heap.size w9 w10 := (Below.refl w9.heap.size w9).grown hgrow10 (Nat.le_refl _) (fun k e => by cases e)
        have r9 := rowB (row_of_owns hown9).1 b10
        have r10 := (row_of_owns hown10).1
        have bb := stepB (stepB b8 b9) b10
        clear hgrow9 hgrow10 hown9 hown10 b9 b10
        have hsp := splice_any (some ⟨w9.heap.size, 0, none⟩) k (zerosI k) 3 1 (some ⟨w8.heap.size, 0, none⟩) 4 (zerosI 4) w10 (by rw [zerosI_len]; exact r10) (by rw [zerosI_len]; exact r9) (by rw [zerosI_len]; have := HK1.out; omega) (by rw [zerosI_len]; omega) (by decide) (by decide)
        rw [zerosI_len, zerosI_len] at hsp
        refine hsp.mono ?_
        rintro e w11 ⟨v11, rfl, hown11, b11⟩
        have hrow11 := (row_of_owns hown11).1
        obtain ⟨a11, c11, rfl⟩ := row_slice hrow11
        have hSl := spliceL_zeros k HK0.out
        have hCl := checkI_zeros k HK0.out
        rw [if_pos (by omega)] at hSl hCl
        rw [hSl, hCl]
        have bb2 := stepB bb b11
        clear hown11 hrow11 hSl hCl r9 r10 hsp
        dsimp only
        go_wp2_with fail
        refine (lives4_any _).mono ?_
        rintro e w12 ⟨rfl, b12⟩
        have bb3 := stepB bb2 b12
        dsimp only
        go_wp2_with fail
        go_ret
        exact ⟨rfl, bb3⟩
    · have hbI3 : ¬ (65536 : Int) < K + 3 := by omega
      clear hbig3
      rcases hval with hC | hC | hC
      · exact absurd hC hn4
      · clear hn4
        rw [hC] at HV1 HV2
        refine HV1.out.mono ?_
        rintro e W4 ⟨rfl, hW4⟩
        subst hW4
        dsimp only
        go_wp2_with fail
        refine HV2.out.mono ?_
        rintro e w5 ⟨v5, rfl, hown5, b5⟩
        have hrow5 := (row_of_owns hown5).1
        obtain ⟨a5, c5, rfl⟩ := row_slice hrow5
        have hb5 := hb3.trans (b5.mono hb3.size)
        have hr5 := rowB hr3 b5
        clear hown5 hrow5 b5
        rw [hC, if_neg (by decide)] at hM
        rw [hM]
        dsimp only
        go_wp2_with fail
        have hv3 := valid_any _ k L a2 w5 (by rw [hLk]; exact hr5)
        rw [hLk, hC] at hv3
        refine hv3.mono ?_
        rintro e w6 ⟨rfl, b6⟩
        have hb6 := hb5.trans (b6.mono hb5.size)
        clear hv3 hr5 hr3 HV1 HV2 hM
        dsimp only
        go_wp2_with (at_make; refine wpList_make_full _ rfl _ _ 26 rfl w6.heap.size 5 j0 (.int .u8 0) 1 Try.underlying26 hj hy0 hy1 .i64 .i64 _ _ k rfl rfl hkK.symm hkK.symm (by rw [hy2]; omega) (by unfold maxLen; omega) (Nat.le_refl _) ?_; intro w7 hown7 hgrow7)
        rw [made_zeros] at hown7
        have r7 := (row_of_owns hown7).1
        have b7 := stepB hb6 ((Below.refl w6.heap.size w6).grown hgrow7 (Nat.le_refl _) (fun k e => by cases e))
        clear hown7 hgrow7

        have hm := decodeM_zeros a2 k
        rw [if_neg (by omega)] at hm
        have hdc := decode_any (some ⟨w6.heap.size, 0, none⟩) k (zerosI k) a2 w7 (by rw [zerosI_len]; exact r7) (by rw [zerosI_len]; have := HK1.out; omega) (fun i => by rw [zerosI_get]; omega)
        rw [hm, zerosI_len] at hdc
        refine hdc.mono ?_
        rintro e w8 ⟨a8, c8, rfl, _, _, b8'⟩
        have b8 := stepB b7 b8'
        clear hdc r7 b8' hm
        dsimp only

        go_wp2_with (first
          | (at_make; refine wpList_make_full _ rfl _ _ 22 rfl w8.heap.size 3 i0 (.int .i64 0) 1 Try.underlying22 hi hz0 hz1 .i64 .i64 _ _ 4 rfl rfl rfl rfl (by rw [hz2]; omega) (by unfold maxLen; omega) (Nat.le_refl _) ?_; intro w9 hown9 hgrow9)
          | (at_make; refine wpList_make_full _ rfl _ _ 22 rfl w9.heap.size 3 i0 (.int .i64 0) 1 Try.underlying22 hi hz0 hz1 .i64 .i64 _ _ k rfl rfl hkK.symm hkK.symm (by rw [hz2]; omega) (by unfold maxLen; omega) (Nat.le_refl _) ?_; intro w10 hown10 hgrow10))
        rw [made_zeros] at hown9 hown10
        have b9 : Below w8.heap.size w8 w9 := (Below.refl w8.heap.size w8).grown hgrow9 (Nat.le_refl _) (fun k e => by cases e)
        have b10 : Below w9.heap.size w9 w10 := (Below.refl w9.heap.size w9).grown hgrow10 (Nat.le_refl _) (fun k e => by cases e)
        have r9 := rowB (row_of_owns hown9).1 b10
        have r10 := (row_of_owns hown10).1
        have bb := stepB (stepB b8 b9) b10
        clear hgrow9 hgrow10 hown9 hown10 b9 b10
        have hsp := splice_any (some ⟨w9.heap.size, 0, none⟩) k (zerosI k) 3 1 (some ⟨w8.heap.size, 0, none⟩) 4 (zerosI 4) w10 (by rw [zerosI_len]; exact r10) (by rw [zerosI_len]; exact r9) (by rw [zerosI_len]; have := HK1.out; omega) (by rw [zerosI_len]; omega) (by decide) (by decide)
        rw [zerosI_len, zerosI_len] at hsp
        refine hsp.mono ?_
        rintro e w11 ⟨v11, rfl, hown11, b11⟩
        have hrow11 := (row_of_owns hown11).1
        obtain ⟨a11, c11, rfl⟩ := row_slice hrow11
        have hSl := spliceL_zeros k HK0.out
        have hCl := checkI_zeros k HK0.out
        rw [if_neg (by omega)] at hSl hCl
        rw [hSl, hCl]
        have bb2 := stepB bb b11
        clear hown11 hrow11 hSl hCl r9 r10 hsp
        dsimp only
        go_wp2_with fail
        refine (lives4_any _).mono ?_
        rintro e w12 ⟨rfl, b12⟩
        have bb3 := stepB bb2 b12
        dsimp only
        go_wp2_with fail
        go_ret
        exact ⟨rfl, bb3⟩
      · clear hn4
        rw [hC] at HV1 HV2
        refine HV1.out.mono ?_
        rintro e W4 ⟨rfl, hW4⟩
        subst hW4
        dsimp only
        go_wp2_with fail
        refine HV2.out.mono ?_
        rintro e w5 ⟨v5, rfl, hown5, b5⟩
        have hrow5 := (row_of_owns hown5).1
        obtain ⟨a5, c5, rfl⟩ := row_slice hrow5
        have hb5 := hb3.trans (b5.mono hb3.size)
        have hr5 := rowB hr3 b5
        clear hown5 hrow5 b5
        generalize (encM a2 L).length = Mn
        dsimp only
        go_wp2_with fail
        have hv3 := valid_any _ k L a2 w5 (by rw [hLk]; exact hr5)
        rw [hLk, hC] at hv3
        refine hv3.mono ?_
        rintro e w6 ⟨rfl, b6⟩
        have hb6 := hb5.trans (b6.mono hb5.size)
        clear hv3 hr5 hr3 HV1 HV2 hM
        dsimp only
        go_wp2_with (at_make; refine wpList_make_full _ rfl _ _ 26 rfl w6.heap.size 5 j0 (.int .u8 0) 1 Try.underlying26 hj hy0 hy1 .i64 .i64 _ _ k rfl rfl hkK.symm hkK.symm (by rw [hy2]; omega) (by unfold maxLen; omega) (Nat.le_refl _) ?_; intro w7 hown7 hgrow7)
        rw [made_zeros] at hown7
        have r7 := (row_of_owns hown7).1
        have b7 := stepB hb6 ((Below.refl w6.heap.size w6).grown hgrow7 (Nat.le_refl _) (fun k e => by cases e))
        clear hown7 hgrow7

        have hm := decodeM_zeros a2 k
        rw [if_neg (by omega)] at hm
        have hdc := decode_any (some ⟨w6.heap.size, 0, none⟩) k (zerosI k) a2 w7 (by rw [zerosI_len]; exact r7) (by rw [zerosI_len]; have := HK1.out; omega) (fun i => by rw [zerosI_get]; omega)
        rw [hm, zerosI_len] at hdc
        refine hdc.mono ?_
        rintro e w8 ⟨a8, c8, rfl, _, _, b8'⟩
        have b8 := stepB b7 b8'
        clear hdc r7 b8' hm
        dsimp only

        go_wp2_with (first
          | (at_make; refine wpList_make_full _ rfl _ _ 22 rfl w8.heap.size 3 i0 (.int .i64 0) 1 Try.underlying22 hi hz0 hz1 .i64 .i64 _ _ 4 rfl rfl rfl rfl (by rw [hz2]; omega) (by unfold maxLen; omega) (Nat.le_refl _) ?_; intro w9 hown9 hgrow9)
          | (at_make; refine wpList_make_full _ rfl _ _ 22 rfl w9.heap.size 3 i0 (.int .i64 0) 1 Try.underlying22 hi hz0 hz1 .i64 .i64 _ _ k rfl rfl hkK.symm hkK.symm (by rw [hz2]; omega) (by unfold maxLen; omega) (Nat.le_refl _) ?_; intro w10 hown10 hgrow10))
        rw [made_zeros] at hown9 hown10
        have b9 : Below w8.heap.size w8 w9 := (Below.refl w8.heap.size w8).grown hgrow9 (Nat.le_refl _) (fun k e => by cases e)
        have b10 : Below w9.heap.size w9 w10 := (Below.refl w9.heap.size w9).grown hgrow10 (Nat.le_refl _) (fun k e => by cases e)
        have r9 := rowB (row_of_owns hown9).1 b10
        have r10 := (row_of_owns hown10).1
        have bb := stepB (stepB b8 b9) b10
        clear hgrow9 hgrow10 hown9 hown10 b9 b10
        have hsp := splice_any (some ⟨w9.heap.size, 0, none⟩) k (zerosI k) 3 1 (some ⟨w8.heap.size, 0, none⟩) 4 (zerosI 4) w10 (by rw [zerosI_len]; exact r10) (by rw [zerosI_len]; exact r9) (by rw [zerosI_len]; have := HK1.out; omega) (by rw [zerosI_len]; omega) (by decide) (by decide)
        rw [zerosI_len, zerosI_len] at hsp
        refine hsp.mono ?_
        rintro e w11 ⟨v11, rfl, hown11, b11⟩
        have hrow11 := (row_of_owns hown11).1
        obtain ⟨a11, c11, rfl⟩ := row_slice hrow11
        have hSl := spliceL_zeros k HK0.out
        have hCl := checkI_zeros k HK0.out
        rw [if_neg (by omega)] at hSl hCl
        rw [hSl, hCl]
        have bb2 := stepB bb b11
        clear hown11 hrow11 hSl hCl r9 r10 hsp
        dsimp only
        go_wp2_with fail
        refine (lives4_any _).mono ?_
        rintro e w12 ⟨rfl, b12⟩
        have bb3 := stepB bb2 b12
        dsimp only
        go_wp2_with fail
        go_ret
        exact ⟨rfl, bb3⟩
end Go.Proofs.Ytnfelphemdchpaa
