/- Contracts of package text: forms, next. -/
import Derived.Test.YtnfelphemdchpaaTxtP
namespace Go.Proofs.Ytnfelphemdchpaa
open Go.RowKit Go.Shelf
set_option linter.unusedVariables false

set_option maxRecDepth 100000 in
theorem forms_any (w : World) : Calls Try.prog 67 #[] w fun e w' => e = .returned (.agg #[.int .i64 128, .int .i64 0, .int .i64 0, .int .i64 2048, .int .i64 192, .int .i64 1, .int .i64 65536, .int .i64 224, .int .i64 2, .int .i64 1114112, .int .i64 240, .int .i64 3]) ∧ Below w.heap.size w w' := by
  go_enter Try.func67, Try.ntmps67
  go_wp2_with fail
  exact bodyPost_ret (results_cell_row rfl _ _ w.heap.size 96 _ (0, 0) _ rfl (Cel.new w _ _) Try.underlying96 rfl rfl) rfl ⟨rfl, laidB (Below.refl _ _) _⟩
theorem formA0 (w : World) : (Instr.index 96 (.agg #[.int .i64 128, .int .i64 0, .int .i64 0, .int .i64 2048, .int .i64 192, .int .i64 1, .int .i64 65536, .int .i64 224, .int .i64 2, .int .i64 1114112, .int .i64 240, .int .i64 3]) (.int .i64 0)).run Try.prog w = .ok (.agg #[.int .i64 128, .int .i64 0, .int .i64 0]) w := by kernel_rfl
theorem formA1 (w : World) : (Instr.index 96 (.agg #[.int .i64 128, .int .i64 0, .int .i64 0, .int .i64 2048, .int .i64 192, .int .i64 1, .int .i64 65536, .int .i64 224, .int .i64 2, .int .i64 1114112, .int .i64 240, .int .i64 3]) (.int .i64 1)).run Try.prog w = .ok (.agg #[.int .i64 2048, .int .i64 192, .int .i64 1]) w := by kernel_rfl
theorem formA2 (w : World) : (Instr.index 96 (.agg #[.int .i64 128, .int .i64 0, .int .i64 0, .int .i64 2048, .int .i64 192, .int .i64 1, .int .i64 65536, .int .i64 224, .int .i64 2, .int .i64 1114112, .int .i64 240, .int .i64 3]) (.int .i64 2)).run Try.prog w = .ok (.agg #[.int .i64 65536, .int .i64 224, .int .i64 2]) w := by kernel_rfl
theorem formA3 (w : World) : (Instr.index 96 (.agg #[.int .i64 128, .int .i64 0, .int .i64 0, .int .i64 2048, .int .i64 192, .int .i64 1, .int .i64 65536, .int .i64 224, .int .i64 2, .int .i64 1114112, .int .i64 240, .int .i64 3]) (.int .i64 3)).run Try.prog w = .ok (.agg #[.int .i64 1114112, .int .i64 240, .int .i64 3]) w := by kernel_rfl
theorem formA (k : Nat) (h : k < 4) (w : World) : (Instr.index 96 (.agg #[.int .i64 128, .int .i64 0, .int .i64 0, .int .i64 2048, .int .i64 192, .int .i64 1, .int .i64 65536, .int .i64 224, .int .i64 2, .int .i64 1114112, .int .i64 240, .int .i64 3]) (.int .i64 (k : Int))).run Try.prog w = .ok (.agg #[.int .i64 (limA k), .int .i64 (leadA k), .int .i64 (k : Int)]) w :=
  match k, h with
  | 0, _ => formA0 w
  | 1, _ => formA1 w
  | 2, _ => formA2 w
  | 3, _ => formA3 w
set_option maxRecDepth 100000 in
set_option maxHeartbeats 2000000 in
theorem next_any (a : Option Addr) (cap : Nat) (l : List Int) (w : World) (hr : Row .u8 w.heap.size w (.slice a l.length cap) l) (hl : 0 < l.length) (hz : ∀ i : Nat, 0 ≤ l[i]?.getD 0 ∧ l[i]?.getD 0 < 256) :
    Calls Try.prog 71 #[.slice a l.length cap] w fun e w' => e = .returned (.tuple #[.int .i64 (nextI l).1, .int .i64 (nextI l).2]) ∧ Below w.heap.size w w' := by
  have hlc := hr.lencap
  unfold maxLen at hlc
  obtain ⟨b, off, rfl, hb, hcs⟩ := hr.at hl
  have hc0 := hcs 0 hl
  simp only [Nat.add_zero] at hc0
  have HCS := Lib.hid hcs
  clear hcs
  generalize hR : nextI l = R
  have HR := Lib.hid hR
  clear hR
  go_enter Try.func71, Try.ntmps71
  go_wp2_with fail
  refine (forms_any _).mono ?_
  rintro e w1 ⟨rfl, hb1⟩
  dsimp only
  go_wp2_with fail
  go_loopw [4, 11] (fun least i wr => ∃ k : Nat, k ≤ 4 ∧ i = .int .i64 (k : Int) ∧ least = .int .i64 (leastA k) ∧ Hid (nextN l (4 - k) = R) ∧ Below w.heap.size w wr) (fun _ i _ => 4 - (intOf i).toNat)
  case atStart => exact ⟨0, by omega, rfl, rfl, HR, hb1⟩
  case round =>
    obtain ⟨k, hk, rfl, rfl, H, hB⟩ := hrel
    by_cases hlt : k < 4
    · have hst := nextN_step l k hlt
      have HST := Lib.hid hst
      have hx := formA k hlt
      have hrg := limA_rng k hlt
      obtain ⟨hz0, hz1⟩ := hz 0
      have hcx : wr.cell? ⟨b, off, none⟩ = some (.int .u8 (l[0]?.getD 0)) := (hB.cell (p := ⟨b, off, none⟩) hb).trans hc0
      have hcy : ∀ o, (wr.alloc o).cell? ⟨b, off, none⟩ = some (.int .u8 (l[0]?.getD 0)) := fun o => cellB hcx (laidB (Below.refl _ _) o)
      have hcap := capA_eq k hlt
      have hnx := leastA_succ k hlt
      have hpw := capA_pow k hlt
      have HPW := Lib.hid hpw
      have HNX := Lib.hid hnx
      clear hst hc0 hpw hnx
      by_cases hc : leadA k ≤ l[0]?.getD 0 ∧ l[0]?.getD 0 - leadA k ≤ capA k ∧ k < l.length
      · obtain ⟨hca, hcb, hcd⟩ := hc
        have ht := tryA_yes l k hca hcb hcd
        have HT : Hid (outA k (contsI (l[0]?.getD 0 - leadA k) ((l.drop 1).take k)) = R) := Lib.hid (by rw [← H.out, HST.out, ht]; rfl)
        clear ht
        generalize hy : l[0]?.getD 0 = y at *
        have HY := Lib.hid hy
        clear hy
        go_wp2_with fail
        go_quiet (fail)
        have C1 := (Cel.new wr 95 #[.int .i64 (limA k), .int .i64 (leadA k), .int .i64 (k : Int)]).step (below_drewN (Below.refl _ _) nq)
        have hB1 := below_drewN (laidB hB (.cells #[.int .i64 (limA k), .int .i64 (leadA k), .int .i64 (k : Int)] 95)) nq
        generalize hW1 : (wr.alloc (.cells #[.int .i64 (limA k), .int .i64 (leadA k), .int .i64 (k : Int)] 95)).drewN nq = W1 at *
        have x0 : W1.cell? ⟨wr.heap.size, 0, none⟩ = some (.int .i64 (limA k)) := C1.cell 0
        have x1 : W1.cell? ⟨wr.heap.size, 1, none⟩ = some (.int .i64 (leadA k)) := C1.cell 1
        have x2 : W1.cell? ⟨wr.heap.size, 2, none⟩ = some (.int .i64 (k : Int)) := C1.cell 2
        clear hW1 C1 hx hcy hcx
        have hs0 : 0 ≤ y - leadA k := by omega
        have hs1 : y - leadA k < 128 := by have := HPW.out; omega
        by_cases hk0 : k = 0
        · have HK0 := Lib.hid hk0
          clear hk0
          by_cases hcn : cap = 1
          · have hcn2 : (1 : Int) ≤ cap := by omega
            go_wp2_with fail
            go_loop [7, 47] (fun s i => ∃ j : Nat, ∃ S : Int, j ≤ k ∧ i = .int .i64 (j : Int) ∧ s = .int .i64 S ∧ 0 ≤ S ∧ S < 128 * 64 ^ j ∧ Hid (outA k (contsI S (((l.drop 1).take k).drop j)) = R)) (fun _ i => k - (intOf i).toNat)
            case atStart => exact ⟨0, y - leadA k, Nat.zero_le _, rfl, rfl, hs0, by simpa using hs1, by simpa using HT⟩
            case round =>
              obtain ⟨j, S, hj, rfl, rfl, hS0, hS1, HI⟩ := hrel
              by_cases hj1 : j < k
              · exfalso; have := HK0.out; omega
              · obtain rfl : j = k := by omega
                have hI := HI.out
                rw [contsI_all] at hI
                have HI2 := Lib.hid hI
                clear hI HI
                by_cases hA : S < leastA j
                · have HR2 : Hid (R = (0, 0)) := Lib.hid (by rw [← HI2.out]; unfold outA; dsimp only; rw [if_pos (.inl hA)])
                  go_wp2_with fail
                  go_ret2
                  exact ⟨by rw [HR2.out]; rfl, hB1⟩
                · by_cases hA2 : limA j ≤ S
                  · have HR2 : Hid (R = (0, 0)) := Lib.hid (by rw [← HI2.out]; unfold outA; dsimp only; rw [if_pos (.inr (.inl hA2))])
                    go_wp2_with fail
                    go_ret2
                    exact ⟨by rw [HR2.out]; rfl, hB1⟩
                  · have hcl := isSymbol_any S true W1
                    cases hA3 : isSymB S true
                    · have HR2 : Hid (R = (0, 0)) := Lib.hid (by rw [← HI2.out]; unfold outA; dsimp only; rw [if_pos (.inr (.inr hA3))])
                      rw [hA3] at hcl
                      have HCL := Lib.hid hcl
                      clear hcl hA3
                      go_wp2_with fail
                      refine HCL.out.mono ?_
                      rintro e W2 ⟨rfl, rfl⟩
                      dsimp only
                      go_wp2_with fail
                      go_ret2
                      exact ⟨by rw [HR2.out]; rfl, hB1⟩
                    · have HR2 : Hid (R = (S, 1 + (j : Int))) := Lib.hid (by rw [← HI2.out]; unfold outA; dsimp only; rw [if_neg (by rw [hA3]; rintro (h | h | h) <;> first | omega | cases h)])
                      rw [hA3] at hcl
                      have HCL := Lib.hid hcl
                      clear hcl hA3
                      go_wp2_with fail
                      refine HCL.out.mono ?_
                      rintro e W2 ⟨rfl, rfl⟩
                      dsimp only
                      go_wp2_with fail
                      go_quiet (fail)
                      go_wp2_with fail
                      go_ret2
                      exact ⟨by rw [HR2.out]; rfl, by first | exact hB1 | exact below_drewN hB1 _⟩
          · skip
            go_wp2_with fail
            go_loop [7, 47] (fun s i => ∃ j : Nat, ∃ S : Int, j ≤ k ∧ i = .int .i64 (j : Int) ∧ s = .int .i64 S ∧ 0 ≤ S ∧ S < 128 * 64 ^ j ∧ Hid (outA k (contsI S (((l.drop 1).take k).drop j)) = R)) (fun _ i => k - (intOf i).toNat)
            case atStart => exact ⟨0, y - leadA k, Nat.zero_le _, rfl, rfl, hs0, by simpa using hs1, by simpa using HT⟩
            case round =>
              obtain ⟨j, S, hj, rfl, rfl, hS0, hS1, HI⟩ := hrel
              by_cases hj1 : j < k
              · exfalso; have := HK0.out; omega
              · obtain rfl : j = k := by omega
                have hI := HI.out
                rw [contsI_all] at hI
                have HI2 := Lib.hid hI
                clear hI HI
                by_cases hA : S < leastA j
                · have HR2 : Hid (R = (0, 0)) := Lib.hid (by rw [← HI2.out]; unfold outA; dsimp only; rw [if_pos (.inl hA)])
                  go_wp2_with fail
                  go_ret2
                  exact ⟨by rw [HR2.out]; rfl, hB1⟩
                · by_cases hA2 : limA j ≤ S
                  · have HR2 : Hid (R = (0, 0)) := Lib.hid (by rw [← HI2.out]; unfold outA; dsimp only; rw [if_pos (.inr (.inl hA2))])
                    go_wp2_with fail
                    go_ret2
                    exact ⟨by rw [HR2.out]; rfl, hB1⟩
                  · have hcl := isSymbol_any S true W1
                    cases hA3 : isSymB S true
                    · have HR2 : Hid (R = (0, 0)) := Lib.hid (by rw [← HI2.out]; unfold outA; dsimp only; rw [if_pos (.inr (.inr hA3))])
                      rw [hA3] at hcl
                      have HCL := Lib.hid hcl
                      clear hcl hA3
                      go_wp2_with fail
                      refine HCL.out.mono ?_
                      rintro e W2 ⟨rfl, rfl⟩
                      dsimp only
                      go_wp2_with fail
                      go_ret2
                      exact ⟨by rw [HR2.out]; rfl, hB1⟩
                    · have HR2 : Hid (R = (S, 1 + (j : Int))) := Lib.hid (by rw [← HI2.out]; unfold outA; dsimp only; rw [if_neg (by rw [hA3]; rintro (h | h | h) <;> first | omega | cases h)])
                      rw [hA3] at hcl
                      have HCL := Lib.hid hcl
                      clear hcl hA3
                      go_wp2_with fail
                      refine HCL.out.mono ?_
                      rintro e W2 ⟨rfl, rfl⟩
                      dsimp only
                      go_wp2_with fail
                      go_quiet (fail)
                      go_wp2_with fail
                      go_ret2
                      exact ⟨by rw [HR2.out]; rfl, by first | exact hB1 | exact below_drewN hB1 _⟩
        · have hcn : ¬ cap = 1 := by omega
          go_wp2_with fail
          go_loop [7, 47] (fun s i => ∃ j : Nat, ∃ S : Int, j ≤ k ∧ i = .int .i64 (j : Int) ∧ s = .int .i64 S ∧ 0 ≤ S ∧ S < 128 * 64 ^ j ∧ Hid (outA k (contsI S (((l.drop 1).take k).drop j)) = R)) (fun _ i => k - (intOf i).toNat)
          case atStart => exact ⟨0, y - leadA k, Nat.zero_le _, rfl, rfl, hs0, by simpa using hs1, by simpa using HT⟩
          case round =>
            obtain ⟨j, S, hj, rfl, rfl, hS0, hS1, HI⟩ := hrel
            by_cases hj1 : j < k
            · have hp := pow64 j (by omega)
              have hS2 : S < 524288 := by omega
              have hcj : W1.cell? ⟨b, off + 1 + j, none⟩ = some (.int .u8 (l[1 + j]?.getD 0)) := by
                have := (hB1.cell (p := ⟨b, off + (1 + j), none⟩) hb).trans (HCS.out (1 + j) (by omega))
                rwa [← Nat.add_assoc] at this
              have hst := contsI_step S l k j hj1 hcd
              obtain ⟨hc0, hc1⟩ := hz (1 + j)
              clear hp
              generalize hcc : l[1 + j]?.getD 0 = c at *
              have HCC := Lib.hid hcc
              clear hcc
              cases hct : contB c
              · have hne : (c / 64 != 2) = true := by unfold contB at hct; simp at hct ⊢; omega
                have HR2 : Hid (R = (0, 0)) := Lib.hid (by rw [← HI.out, hst, hct]; rfl)
                clear hst hct
                go_wp2_with fail
                go_ret2
                exact ⟨by rw [HR2.out]; rfl, hB1⟩
              · have hne : (c / 64 != 2) = false := by unfold contB at hct; simp at hct ⊢; omega
                have hcb : 128 ≤ c ∧ c < 192 := by unfold contB at hct; simpa using hct
                have HJ := Lib.hid (joinA S c hS0 (by omega) hct)
                have HI2 : Hid (outA k (contsI (64 * S + (c - 128)) (((l.drop 1).take k).drop (j + 1))) = R) := Lib.hid (by rw [← HI.out, hst, hct]; rfl)
                clear hst hct
                go_wp2_with fail
                refine ⟨⟨j + 1, 64 * S + (c - 128), by omega, by go_num, by rw [HJ.out], by omega, by rw [Int.pow_succ]; omega, HI2⟩, ?_⟩
                simp [intOf]; omega
            · obtain rfl : j = k := by omega
              have hI := HI.out
              rw [contsI_all] at hI
              have HI2 := Lib.hid hI
              clear hI HI
              by_cases hA : S < leastA j
              · have HR2 : Hid (R = (0, 0)) := Lib.hid (by rw [← HI2.out]; unfold outA; dsimp only; rw [if_pos (.inl hA)])
                go_wp2_with fail
                go_ret2
                exact ⟨by rw [HR2.out]; rfl, hB1⟩
              · by_cases hA2 : limA j ≤ S
                · have HR2 : Hid (R = (0, 0)) := Lib.hid (by rw [← HI2.out]; unfold outA; dsimp only; rw [if_pos (.inr (.inl hA2))])
                  go_wp2_with fail
                  go_ret2
                  exact ⟨by rw [HR2.out]; rfl, hB1⟩
                · have hcl := isSymbol_any S true W1
                  cases hA3 : isSymB S true
                  · have HR2 : Hid (R = (0, 0)) := Lib.hid (by rw [← HI2.out]; unfold outA; dsimp only; rw [if_pos (.inr (.inr hA3))])
                    rw [hA3] at hcl
                    have HCL := Lib.hid hcl
                    clear hcl hA3
                    go_wp2_with fail
                    refine HCL.out.mono ?_
                    rintro e W2 ⟨rfl, rfl⟩
                    dsimp only
                    go_wp2_with fail
                    go_ret2
                    exact ⟨by rw [HR2.out]; rfl, hB1⟩
                  · have HR2 : Hid (R = (S, 1 + (j : Int))) := Lib.hid (by rw [← HI2.out]; unfold outA; dsimp only; rw [if_neg (by rw [hA3]; rintro (h | h | h) <;> first | omega | cases h)])
                    rw [hA3] at hcl
                    have HCL := Lib.hid hcl
                    clear hcl hA3
                    go_wp2_with fail
                    refine HCL.out.mono ?_
                    rintro e W2 ⟨rfl, rfl⟩
                    dsimp only
                    go_wp2_with fail
                    go_quiet (fail)
                    go_wp2_with fail
                    go_ret2
                    exact ⟨by rw [HR2.out]; rfl, by first | exact hB1 | exact below_drewN hB1 _⟩
      · have ht := tryA_no l k hc
        have HT : Hid (nextN l (4 - (k + 1)) = R) := Lib.hid (by rw [← H.out, HST.out, ht]; rfl)
        clear ht
        generalize hy : l[0]?.getD 0 = y at *
        have HY := Lib.hid hy
        clear hy
        by_cases h1 : leadA k ≤ y
        · by_cases h2 : y - leadA k ≤ capA k
          · have h3 : ¬ k < l.length := fun h => hc ⟨h1, h2, h⟩
            clear hc
            go_wp2_with fail
            go_quiet (fail)
            go_wp2_with fail
            go_roundw
            case rel => exact ⟨k + 1, by omega, by go_num, by rw [HNX.out], HT, below_drewN (laidB hB _) _⟩
            case measure => simp [intOf]; omega
          · clear hc
            go_wp2_with fail
            go_quiet (fail)
            go_wp2_with fail
            go_roundw
            case rel => exact ⟨k + 1, by omega, by go_num, by rw [HNX.out], HT, below_drewN (laidB hB _) _⟩
            case measure => simp [intOf]; omega
        · clear hc
          go_wp2_with fail
          go_quiet (fail)
          go_wp2_with fail
          go_roundw
          case rel => exact ⟨k + 1, by omega, by go_num, by rw [HNX.out], HT, below_drewN (laidB hB _) _⟩
          case measure => simp [intOf]; omega
    · have HR2 : Hid (R = (0, 0)) := Lib.hid (by rw [← H.out, show k = 4 from by omega]; rfl)
      go_wp2_with fail
      go_ret2
      exact ⟨by rw [HR2.out]; rfl, hB⟩
end Go.Proofs.Ytnfelphemdchpaa
