/- Contracts of the reference: Edit. -/
import Derived.Test.YtnfelphemdchpaaTxtN
namespace Go.Proofs.Ytnfelphemdchpaa
open Go.RowKit Go.Shelf
set_option linter.unusedVariables false

theorem arith_e (m n : Nat) (h : (m : Int) < 1048576) (hn : n ≤ 100000) : ∃ A B E g1 d c : Nat,
    (m : Int) % ((n : Int) + 1) = (A : Int) ∧ wrap64 ((m : Int) / 64) = ((m / 64 : Nat) : Int) ∧ wrap64 ((n : Int) - (A : Int)) = (B : Int) ∧ wrap64 ((B : Int) + 1) = (E : Int) ∧ 0 < E ∧ (0 : Int) < (E : Int) ∧
    ((m / 64 : Nat) : Int) % (E : Int) = (g1 : Int) ∧ Int.tmod (g1 : Int) 5 = (d : Int) ∧ d < 5 ∧ Int.tmod (m : Int) 97 = (c : Int) ∧ A ≤ n ∧ E ≤ 100001 := by
  have hk : m % (n + 1) < n + 1 := Nat.mod_lt _ (by omega)
  refine ⟨m % (n + 1), n - m % (n + 1), n - m % (n + 1) + 1, m / 64 % (n - m % (n + 1) + 1), m / 64 % (n - m % (n + 1) + 1) % 5, m % 97, rfl, ?_, ?_, ?_, by omega, by omega, rfl, ?_, Nat.mod_lt _ (by decide), ?_, by omega, by omega⟩
  · rw [IntWalk.wrap64_in _ (by omega)]; omega
  · generalize m % (n + 1) = A at *
    rw [IntWalk.wrap64_in _ (by omega)]; omega
  · generalize m % (n + 1) = A at *
    rw [IntWalk.wrap64_in _ (by omega)]; omega
  · rw [Int.tmod_eq_emod_of_nonneg (by omega)]; rfl
  · rw [Int.tmod_eq_emod_of_nonneg (by omega)]; rfl
theorem wf_small (x : Int) (h1 : -1000000 ≤ x) (h2 : x ≤ 1000000) : (Lit.int .i64 x).wf = true := by
  simp [Lit.wf, IntKind.min, IntKind.max, IntKind.signed, IntKind.bits]; omega
theorem wf_tmod (z : Int) : (Lit.int .i64 (z.tmod 5)).wf = true := by
  have h := Int.tmod_add_mul_tdiv z 5
  have h1 : z.tmod 5 < 5 := Int.tmod_lt_of_pos z (by decide)
  have h2 : -5 < z.tmod 5 := by have h3 := Int.tmod_lt_of_pos (-z) (show (0 : Int) < 5 by decide); rw [Int.neg_tmod] at h3; omega
  exact wf_small _ (by omega) (by omega)
set_option maxRecDepth 100000 in
set_option maxHeartbeats 2000000 in
theorem refEdit_any (a : Option Addr) (cap : Nat) (l : List Int) (n : Int) (ai : Option Addr) (ni ci : Nat) (w : World) (hr : Row .i64 w.heap.size w (.slice a l.length cap) l) (hl : l.length ≤ 100000) (hw : (Lit.int .i64 n).wf = true) :
    Calls Try.prog 31 #[.slice a l.length cap, .int .i64 n, .slice ai ni ci] w fun e w' => ∃ x y, e = .returned (.agg #[.int .i64 x, .int .i64 y, .slice ai ni ci]) ∧ (Lit.int .i64 x).wf = true ∧ (Lit.int .i64 y).wf = true ∧ Below w.heap.size w w' := by
  have b0 := laidB (Below.refl w.heap.size w) (.cells #[.int .i64 0, .int .i64 0, .slice none 0 0] 43)
  have D0 := Cel.new w 43 #[.int .i64 0, .int .i64 0, .slice none 0 0]
  go_enter Try.func31, Try.ntmps31
  go_wp2_with fail
  refine (around_any n 1048576 _ hw (by decide) (by decide)).mono ?_
  rintro e W ⟨rfl, rfl⟩
  have ha0 := aroundI_lo n 1048576 (by decide)
  have ha1 := aroundI_hi n 1048576 (by decide)
  generalize aroundI n 1048576 = N at *
  obtain ⟨m, rfl⟩ := Int.eq_ofNat_of_zero_le ha0
  obtain ⟨A, B, E, g1, d, c, q1, q2, q3, q4, hE0, hE1, q5, q6, hd, q7, hA, hE⟩ := arith_e m l.length ha1 hl
  have hq0 : IntKind.i64.wrap ((l.length : Int) + 1) = (l.length : Int) + 1 := IntWalk.i64_in _ (by omega)
  have hq9 : (0 : Int) < (l.length : Int) + 1 := by omega
  clear ha0 ha1
  generalize m / 64 = g at *
  dsimp only
  go_wp2_with fail
  · exact bodyPost_ret (v := .agg #[.int .i64 (A : Int), .int .i64 ((l.length : Int) - (A : Int) + 1), .slice ai ni ci]) (results_cell_row rfl _ _ w.heap.size 43 _ (0, 0) _ rfl ((Cel.new w _ _).alloc _) Try.underlying43 rfl rfl) rfl ⟨_, _, rfl, wf_small _ (by omega) (by omega), wf_small _ (by omega) (by omega), laidB (laidB (Below.refl _ _) _) _⟩
  · exact bodyPost_ret (v := .agg #[.int .i64 (-1), .int .i64 (((g : Int) % ((l.length : Int) - (A : Int) + 1)).tmod 5), .slice ai ni ci]) (results_cell_row rfl _ _ w.heap.size 43 _ (0, 0) _ rfl ((Cel.new w _ _).alloc _) Try.underlying43 rfl rfl) rfl ⟨_, _, rfl, by decide, wf_tmod _, laidB (laidB (Below.refl _ _) _) _⟩
  · exact bodyPost_ret (v := .agg #[.int .i64 (A : Int), .int .i64 (((g : Int) % ((l.length : Int) - (A : Int) + 1)).tmod 5), .slice ai ni ci]) (results_cell_row rfl _ _ w.heap.size 43 _ (0, 0) _ rfl ((Cel.new w _ _).alloc _) Try.underlying43 rfl rfl) rfl ⟨_, _, rfl, wf_small _ (by omega) (by omega), wf_tmod _, laidB (laidB (Below.refl _ _) _) _⟩
end Go.Proofs.Ytnfelphemdchpaa
