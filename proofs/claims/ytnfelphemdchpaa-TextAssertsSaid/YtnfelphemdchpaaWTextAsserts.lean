/- TextAsserts: the walk. -/
import Derived.Test.YtnfelphemdchpaaTxtW
import Derived.Test.YtnfelphemdchpaaTxtX
namespace Go.Proofs.Ytnfelphemdchpaa
open Go.RowKit Go.Shelf
set_option linter.unusedVariables false

set_option maxRecDepth 100000 in
set_option maxHeartbeats 4000000 in
theorem textAsserts_walk (a0 : Option Addr) (len0 cap0 : Nat) (z0 : List Int) (a1 : Int) (a2 : Int) (a3 : Int) (w : World) (w0 : IsRow .i64 w a0 len0 cap0 z0) (w1 : (Lit.int .i64 a1).wf = true) (w2 : (Lit.int .i64 a2).wf = true) (w3 : (Lit.int .i64 a3).wf = true) :
    Calls Try.prog 6 #[.slice a0 len0 cap0, .int .i64 a1, .int .i64 a2, .int .i64 a3] w fun e w' => e = .returned (.bool true) ∧ Below w.heap.size w w' := by
  obtain ⟨hr0, hw0⟩ := w0.row
  have hl0 := hr0.len
  clear w0 w1 w2 w3
  generalize z0.take len0 = l0 at *
  subst hl0
  go_enter Try.func6, Try.ntmps6
  go_wp2_with fail
  refine (text_row a0 cap0 l0 30 true w hr0 (by decide) hw0).mono ?_
  rintro e w2 ⟨a4, c4, rfl, _, hA, b1⟩
  have hAl := textT_len l0 30 true
  generalize textT l0 30 true = A at *
  clear hr0 hw0
  dsimp only
  go_wp2_with fail
  refine (lines_row a4 c4 A w2 hA (by omega)).mono ?_
  rintro e w3 ⟨a5, c5, rfl, _, hX, b2⟩
  have hA3 := rowB hA b2
  replace b1 := stepB b1 b2
  have h45 := Lib.hid (assert45 A)
  have h2 := Lib.hid (assert2 A)
  clear hA b2
  generalize linesL A A.length = X at *
  dsimp only
  go_wp2_with fail
  go_loop [11] (fun i => ∃ p : Int, i = .int .i64 p ∧ -1 ≤ p ∧ p ≤ (A.length : Int) + 2) (fun i => ((A.length : Int) + 2 - intOf i).toNat)
  case atStart => exact ⟨-1, rfl, by omega, by omega⟩
  case round =>
    obtain ⟨p, rfl, hp1, hp2⟩ := hrel
    by_cases hlt : p ≤ (A.length : Int) + 1
    · go_wp2_with fail
      go_loop [12] (fun i => ∃ n : Int, i = .int .i64 n ∧ -1 ≤ n ∧ n ≤ 7) (fun i => (7 - intOf i).toNat)
      case atStart => exact ⟨-1, rfl, by omega, by omega⟩
      case round =>
        obtain ⟨n, rfl, hn1, hn2⟩ := hrel
        by_cases hn : n < 7
        · go_wp2_with fail
          refine (assert_any n a4 c4 A p _ hA3).mono ?_
          rintro e W ⟨rfl, rfl⟩
          dsimp only
          go_wp2_with fail
          refine (refAssert_any n a4 c4 A p _ hA3).mono ?_
          rintro e W ⟨rfl, rfl⟩
          dsimp only
          generalize assertB n A p = B
          go_wp2_with fail
          go_round
          case rel => exact ⟨n + 1, by go_num, by omega, by omega⟩
          case measure => simp [intOf]; omega
        · have hne : n = 7 := by omega
          by_cases hpa : p < 0
          · have HIB : insideB A p = false := by unfold insideB; rw [show decide (0 ≤ p) = false from decide_eq_false (by omega)]; rfl
            have h45p := h45.out p
            rw [HIB] at h45p
            have h2p := h2.out p
            have H2P := Lib.hid h2p
            clear HIB h2p
            go_wp2_with fail
            refine (assert_any 4 a4 c4 A p _ hA3).mono ?_
            rintro e W ⟨rfl, rfl⟩
            dsimp only
            go_wp2_with fail
            refine (assert_any 5 a4 c4 A p _ hA3).mono ?_
            rintro e W ⟨rfl, rfl⟩
            dsimp only
            generalize assertB 4 A p = b4 at *
            generalize assertB 5 A p = b5 at *
            have hcase : (b4 = false ∧ b5 = false) ∨ (b4 = true ∧ b5 = true) := by cases b4 <;> cases b5 <;> simp_all
            clear h45p
            rcases hcase with ⟨rfl, rfl⟩ | ⟨rfl, rfl⟩
            all_goals
              go_wp2_with fail
              refine (assert_any 2 a4 c4 A p _ hA3).mono ?_
              rintro e W ⟨rfl, rfl⟩
              dsimp only
              go_wp2_with fail
              refine (has_any a5 c5 X p _ hX).mono ?_
              rintro e W ⟨rfl, rfl⟩
              rw [← H2P.out]
              dsimp only
              generalize assertB 2 A p = b2 at *
              go_wp2_with fail
              go_round
              case rel => exact ⟨p + 1, by go_num, by omega, by omega⟩
              case measure => simp [intOf]; omega
          · by_cases hpb : p ≤ (A.length : Int)
            · have HIB : insideB A p = true := by unfold insideB; rw [show decide (0 ≤ p) = true from decide_eq_true (by omega), show decide (p ≤ (A.length : Int)) = true from decide_eq_true hpb]; rfl
              have h45p := h45.out p
              rw [HIB] at h45p
              have h2p := h2.out p
              have H2P := Lib.hid h2p
              clear HIB h2p
              go_wp2_with fail
              refine (assert_any 4 a4 c4 A p _ hA3).mono ?_
              rintro e W ⟨rfl, rfl⟩
              dsimp only
              go_wp2_with fail
              refine (assert_any 5 a4 c4 A p _ hA3).mono ?_
              rintro e W ⟨rfl, rfl⟩
              dsimp only
              generalize assertB 4 A p = b4 at *
              generalize assertB 5 A p = b5 at *
              have hcase : (b4 = false ∧ b5 = true) ∨ (b4 = true ∧ b5 = false) := by cases b4 <;> cases b5 <;> simp_all
              clear h45p
              rcases hcase with ⟨rfl, rfl⟩ | ⟨rfl, rfl⟩
              all_goals
                go_wp2_with fail
                refine (assert_any 2 a4 c4 A p _ hA3).mono ?_
                rintro e W ⟨rfl, rfl⟩
                dsimp only
                go_wp2_with fail
                refine (has_any a5 c5 X p _ hX).mono ?_
                rintro e W ⟨rfl, rfl⟩
                rw [← H2P.out]
                dsimp only
                generalize assertB 2 A p = b2 at *
                go_wp2_with fail
                go_round
                case rel => exact ⟨p + 1, by go_num, by omega, by omega⟩
                case measure => simp [intOf]; omega
            · have HIB : insideB A p = false := by unfold insideB; rw [show decide (p ≤ (A.length : Int)) = false from decide_eq_false hpb]; simp
              have h45p := h45.out p
              rw [HIB] at h45p
              have h2p := h2.out p
              have H2P := Lib.hid h2p
              clear HIB h2p
              go_wp2_with fail
              refine (assert_any 4 a4 c4 A p _ hA3).mono ?_
              rintro e W ⟨rfl, rfl⟩
              dsimp only
              go_wp2_with fail
              refine (assert_any 5 a4 c4 A p _ hA3).mono ?_
              rintro e W ⟨rfl, rfl⟩
              dsimp only
              generalize assertB 4 A p = b4 at *
              generalize assertB 5 A p = b5 at *
              have hcase : (b4 = false ∧ b5 = false) ∨ (b4 = true ∧ b5 = true) := by cases b4 <;> cases b5 <;> simp_all
              clear h45p
              rcases hcase with ⟨rfl, rfl⟩ | ⟨rfl, rfl⟩
              all_goals
                go_wp2_with fail
                refine (assert_any 2 a4 c4 A p _ hA3).mono ?_
                rintro e W ⟨rfl, rfl⟩
                dsimp only
                go_wp2_with fail
                refine (has_any a5 c5 X p _ hX).mono ?_
                rintro e W ⟨rfl, rfl⟩
                rw [← H2P.out]
                dsimp only
                generalize assertB 2 A p = b2 at *
                go_wp2_with fail
                go_round
                case rel => exact ⟨p + 1, by go_num, by omega, by omega⟩
                case measure => simp [intOf]; omega
    · go_wp2_with fail
      go_loop [14] (fun i => ∃ p : Int, i = .int .i64 p ∧ 0 ≤ p ∧ p ≤ 130) (fun i => (130 - intOf i).toNat)
      case atStart => exact ⟨0, rfl, by omega, by omega⟩
      case round =>
        obtain ⟨n, rfl, hn1, hn2⟩ := hrel
        by_cases hn : n < 130
        · go_wp2_with fail
          refine (word_any n _).mono ?_
          rintro e W ⟨rfl, rfl⟩
          dsimp only
          go_wp2_with fail
          refine (refWord_any n _).mono ?_
          rintro e W ⟨rfl, rfl⟩
          dsimp only
          generalize wordB n = B
          go_wp2_with fail
          go_round
          case rel => exact ⟨n + 1, by go_num, by omega, by omega⟩
          case measure => simp [intOf]; omega
        · go_wp2_with fail
          refine (assert_any a2 a4 c4 A a1 _ hA3).mono ?_
          rintro e W ⟨rfl, rfl⟩
          dsimp only
          go_wp2_with fail
          refine (refAssert_any a2 a4 c4 A a1 _ hA3).mono ?_
          rintro e W ⟨rfl, rfl⟩
          dsimp only
          generalize assertB a2 A a1 = B
          go_wp2_with fail
          refine (word_any a3 _).mono ?_
          rintro e W ⟨rfl, rfl⟩
          dsimp only
          go_wp2_with fail
          refine (refWord_any a3 _).mono ?_
          rintro e W ⟨rfl, rfl⟩
          dsimp only
          generalize wordB a3 = B
          go_wp2_with fail
          refine (lives4_any _).mono ?_
          rintro e W ⟨rfl, hb⟩
          have b2 := stepB b1 hb
          dsimp only
          go_wp2_with fail
          go_ret
          exact ⟨rfl, b2⟩
end Go.Proofs.Ytnfelphemdchpaa
