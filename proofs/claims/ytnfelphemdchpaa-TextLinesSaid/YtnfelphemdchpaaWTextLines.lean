/- TextLines: the walk. -/
import Derived.Test.YtnfelphemdchpaaTxtV
namespace Go.Proofs.Ytnfelphemdchpaa
open Go.RowKit Go.Shelf
set_option linter.unusedVariables false

set_option maxRecDepth 100000 in
set_option maxHeartbeats 4000000 in
theorem textLines_walk (a0 : Option Addr) (len0 cap0 : Nat) (z0 : List Int) (a1 : Option Addr) (len1 cap1 : Nat) (z1 : List Int) (w : World) (w0 : IsRow .i64 w a0 len0 cap0 z0) (w1 : IsRow .i64 w a1 len1 cap1 z1) :
    Calls Try.prog 8 #[.slice a0 len0 cap0, .slice a1 len1 cap1] w fun e w' => e = .returned (.bool true) ∧ Below w.heap.size w w' := by
  obtain ⟨i0, hi, hz0, hz1, hz2⟩ := info_parts info_int
  obtain ⟨hr0, hw0⟩ := w0.row
  obtain ⟨hr1, hw1⟩ := w1.row
  have hl0 := hr0.len
  have hl1 := hr1.len
  clear w0 w1
  generalize z0.take len0 = l0 at *
  generalize z1.take len1 = l1 at *
  subst hl0 hl1
  go_enter Try.func8, Try.ntmps8
  go_wp2_with fail
  refine (text_row a0 cap0 l0 30 false w hr0 (by decide) hw0).mono ?_
  rintro e w2 ⟨a2, c2, rfl, _, hA, b1⟩
  have hAl := textT_len l0 30 false
  generalize textT l0 30 false = A at *
  have hr2 := rowB hr1 b1
  clear hr0 hw0 hr1
  dsimp only
  go_wp2_with fail
  refine (text_row a1 cap1 l1 20 false w2 hr2 (by decide) hw1).mono ?_
  rintro e w3 ⟨a3, c3, rfl, _, hB, b2⟩
  have hBl := textT_len l1 20 false
  generalize textT l1 20 false = B at *
  have hA3 := rowB hA b2
  replace b1 := stepB b1 b2
  clear hr2 hw1 hA b2
  dsimp only
  go_wp2_with fail
  refine (lines_row a2 c2 A w3 hA3 (by omega)).mono ?_
  rintro e w4 ⟨a4, c4, rfl, _, hX, b2⟩
  have hA4 := rowB hA3 b2
  have hB4 := rowB hB b2
  replace b1 := stepB b1 b2
  clear hA3 hB b2
  dsimp only
  go_wp2_with fail
  refine (lines_row a3 c3 B w4 hB4 (by omega)).mono ?_
  rintro e w5 ⟨a5, c5, rfl, _, hY, b2⟩
  have hA5 := rowB hA4 b2
  have hB5 := rowB hB4 b2
  have hX5 := rowB hX b2
  replace b1 := stepB b1 b2
  clear hA4 hB4 hX b2
  have hE := World.ownsRow_made (base := w5.heap.size) (e := 3) (size := 1) w5 #[] 0 (Nat.le_refl _) (Nat.zero_le _) rfl
  have hBs := RowP.below (laidB (Below.refl w5.heap.size w5) (.cells #[] 3)) hB5
  have hA6 := rowB hA5 (laidB (Below.refl _ _) (.cells #[] 3))
  have hB6 := rowB hB5 (laidB (Below.refl _ _) (.cells #[] 3))
  dsimp only
  go_wp2_with (first
    | (at_builtin; refine wpList_append_row rfl _ _ 22 rfl w5.heap.size 3 i0 .i64 _ 8 Try.underlying22 hi hz0 hz1 hz2 rfl _ _ [] rfl hE _ A _ rfl hA6 (by unfold maxLen; omega) (by omega) (by simp) ?_; intro v6 w6 hown6 hgrow6 hb6; have hB7 := RowP.below hb6 hBs)
    | (at_builtin; refine wpList_append_row rfl _ _ 22 rfl w5.heap.size 3 i0 .i64 _ 8 Try.underlying22 hi hz0 hz1 hz2 rfl _ _ A rfl hown6 _ B _ rfl hB7 (by unfold maxLen; simp; omega) (by simp; omega) (by have := hb6.size; simp at this; omega) ?_; intro v7 w7 hown7 hgrow7 hb7))
  have bb : Below w5.heap.size w5 w7 := (laidB (Below.refl w5.heap.size w5) (.cells #[] 3)).trans (hb6.trans hb7)
  obtain ⟨hb1, hb2⟩ := linesL_both A B
  have hAB : (A ++ B).length ≤ 100000 := by simp; omega
  generalize hABe : A ++ B = AB at *
  have HABE := Lib.hid hABe
  clear hABe
  have hZ7 := (row_of_owns hown7).1
  obtain ⟨a7, c7, rfl⟩ := row_slice hZ7
  have hA7 := rowB hA5 bb
  have hX7 := rowB hX5 bb
  have hY7 := rowB hY bb
  replace b1 := stepB b1 bb
  clear hgrow6 hgrow7 hown6 hown7 hb6 hb7 hB7 hBs hA6 hB6 hE bb hA5 hB5 hX5 hY
  go_wp2_with fail
  refine (lines_row a7 c7 AB w7 hZ7 hAB).mono ?_
  rintro e w8 ⟨a8, c8, rfl, _, hZ, b2⟩
  have hA8 := rowB hA7 b2
  have hX8 := rowB hX7 b2
  have hY8 := rowB hY7 b2
  replace b1 := stepB b1 b2
  clear b2 hA7 hX7 hY7 hZ7
  have hXl := linesL_len A A.length
  have hYl := linesL_len B B.length
  have hXp := linesL_pos A A.length
  have hYp := linesL_pos B B.length
  have hYr := linesL_rng B B.length
  have hat := fun i (h : i < A.length) hx => linesL_at A i A.length h hx
  generalize linesL AB AB.length = Z at *
  generalize hXX : linesL A A.length = X at *
  generalize linesL B B.length = Y at *
  obtain ⟨bx, ox, rfl, _, hXc⟩ := hX8.at hXp.1
  have cx0 := hXc 0 hXp.1
  rw [hXp.2] at cx0
  simp only [Nat.add_zero] at cx0
  have hZl : (Z.length : Int) = (X.length : Int) + (Y.length : Int) - 1 := by omega
  have hX0 : (0 : Int) < (X.length : Int) := by omega
  have hY0 : (0 : Int) < (Y.length : Int) := by omega
  have hXm : (X.length : Int) ≤ 31 := by omega
  have hYm : (Y.length : Int) ≤ 21 := by omega
  have hbz : ((Z.length : Int) != (X.length : Int) + (Y.length : Int) - 1) = false := by simp; omega
  have hX0b : ((X.length : Int) == 0) = false := by rw [beq_eq_false_iff_ne]; omega
  have hY0b : ((Y.length : Int) == 0) = false := by rw [beq_eq_false_iff_ne]; omega
  have HZL := Lib.hid hZl
  have HB1 := Lib.hid hb1
  have HB2 := Lib.hid hb2
  have HAT := Lib.hid hat
  have HXC := Lib.hid hXc
  have HYR := Lib.hid hYr
  have HXX := Lib.hid hXX
  have HXP := Lib.hid hXp
  have HYP := Lib.hid hYp
  clear hb1 hb2 hat hXc hYr hXX hXp hYp hZl
  dsimp only
  go_wp2_with fail
  have hlA := Lib.hid (linesL_len A)
  go_loop [10, 11] (fun n i => ∃ k : Nat, k ≤ A.length ∧ i = .int .i64 (k : Int) ∧ n = .int .i64 ((linesL A k).length : Int)) (fun _ i => A.length - (intOf i).toNat)
  case atStart => exact ⟨0, Nat.zero_le _, rfl, rfl⟩
  case round =>
    obtain ⟨k, hk, rfl, rfl⟩ := hrel
    have hlk := hlA.out k
    by_cases hlt : k < A.length
    · obtain ⟨ba, oa, rfl, ca⟩ := row_cell hA8 k hlt
      have hi1 : (k : Int) < A.length := by omega
      have hi0 : (0 : Int) ≤ (k : Int) := by omega
      by_cases h10 : A[k]?.getD 0 = 10
      · obtain ⟨g1, g2⟩ := HAT.out k hlt h10
        have cx := HXC.out _ g1
        have hy := linesL_yes A k h10
        have HY : Hid (((linesL A (k + 1)).length : Int) = ((linesL A k).length : Int) + 1) := Lib.hid (by rw [hy]; simp)
        rw [g2] at cx
        rw [h10] at ca
        have hn1 : ((linesL A k).length : Int) < X.length := by omega
        have hn0 : (0 : Int) ≤ ((linesL A k).length : Int) := by omega
        clear hy h10 g2
        generalize (linesL A k).length = n at *
        go_wp2_with fail
        go_round
        case rel => exact ⟨k + 1, by omega, by go_num, by rw [HY.out]⟩
        case measure => simp [intOf]; omega
      · have hy := linesL_no A k h10
        have HY : Hid (((linesL A (k + 1)).length : Int) = ((linesL A k).length : Int)) := Lib.hid (by rw [hy])
        clear hy
        generalize A[k]?.getD 0 = x at *
        generalize (linesL A k).length = n at *
        go_wp2_with fail
        go_round
        case rel => exact ⟨k + 1, by omega, by go_num, by rw [HY.out]⟩
        case measure => simp [intOf]; omega
    · have hkA : k = A.length := by omega
      have hnX : (linesL A k).length = X.length := by rw [hkA, HXX.out]
      rw [hnX]
      have HKA := Lib.hid hkA
      clear hkA hnX hlk
      go_wp2_with fail
      go_loopw [12] (fun i wr => ∃ m : Nat, 1 ≤ m ∧ m ≤ Y.length ∧ i = .int .i64 (m : Int) ∧ Below w8.heap.size w8 wr) (fun i _ => Y.length - (intOf i).toNat)
      case atStart => exact ⟨1, Nat.le_refl _, by omega, rfl, Below.refl _ _⟩
      case round =>
        obtain ⟨m, hm1, hm, rfl, hB⟩ := hrel
        by_cases hlt2 : m < Y.length
        · have hzi : X.length + m - 1 < Z.length := by have := HB1.out; omega
          obtain ⟨bz, oz, rfl, cz⟩ := row_cell hZ (X.length + m - 1) hzi
          obtain ⟨by_, oy, rfl, cy⟩ := row_cell hY8 m hlt2
          rw [HB2.out m hm1 hlt2] at cz
          obtain ⟨hy0, hy1⟩ := HYR.out m
          have cz' := cellB cz hB
          have cy' := cellB cy hB
          have hm2 : (m : Int) < Y.length := by omega
          have hm0 : (0 : Int) ≤ (m : Int) := by omega
          have q0 : (0 : Int) ≤ (X.length : Int) + (m : Int) - 1 := by omega
          have q1 : (X.length : Int) + (m : Int) - 1 < Z.length := by omega
          have q2 : ((X.length : Int) + (m : Int) - 1).toNat = X.length + m - 1 := by omega
          have e1 : IntKind.i64.wrap ((X.length : Int) + (m : Int)) = (X.length : Int) + (m : Int) := IntWalk.i64_in _ (by omega)
          have e2 : IntKind.i64.wrap ((X.length : Int) + (m : Int) - 1) = (X.length : Int) + (m : Int) - 1 := IntWalk.i64_in _ (by omega)
          clear cz cy hm1
          generalize Y[m]?.getD 0 = y at *
          have e3 : IntKind.i64.wrap (y + (A.length : Int)) = y + (A.length : Int) := IntWalk.i64_in _ (by omega)
          go_wp2_with fail
          go_quiet (fail)
          go_wp2_with fail
          go_roundw
          case rel => exact ⟨m + 1, by omega, by omega, by go_num, by first | exact hB | exact below_drewN hB _⟩
          case measure => simp [intOf]; omega
        · have hmY : ¬ (m : Int) < (Y.length : Int) := by omega
          have b2 := stepB b1 hB
          have hlv := lives4_any wr
          have HLV := Lib.hid hlv
          clear hlv hB
          go_wp2_with fail
          refine HLV.out.mono ?_
          rintro e w9 ⟨rfl, hb9⟩
          have b3 := stepB b2 hb9
          dsimp only
          go_wp2_with fail
          go_ret
          exact ⟨rfl, b3⟩
end Go.Proofs.Ytnfelphemdchpaa
