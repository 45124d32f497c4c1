/- Package disk: invert. -/
import Derived.Test.YtafmapcblcnccaaDkL
namespace Go.Proofs.Ytafmapcblcnccaa
open Go.RowKit Go.Shelf
set_option linter.unusedVariables false

set_option maxHeartbeats 4000000 in
theorem invert_any (g off L c k : Nat) (x : Int) (w : World) (hk : k / 8 < L) (hL : L ≤ 16777216) (hc : w.cell? ⟨g, off + k / 8, none⟩ = some (.int .u8 x)) (hfz : w.frozen? ⟨g, off + k / 8, none⟩ = false) (hkb : k ≤ 4611686018427387904) :
    Calls Try.prog 55 #[.slice (some ⟨g, off, none⟩) L c, .int .i64 (k : Int)] w fun e w' => e = .returned (.tuple #[]) ∧ w' = (w.setCell ⟨g, off + k / 8, none⟩ (.int .u8 (bits .xor .u8 x (128 / 2 ^ min (k % 8) 8)))).drew := by
  have d1 : IntKind.i64.wrap ((k : Int) / 8) = ((k / 8 : Nat) : Int) := (IntWalk.i64_in _ (by omega)).trans (by omega)
  have d2 : IntKind.i64.wrap ((k : Int).tmod 8) = ((k % 8 : Nat) : Int) := by
    rw [Int.tmod_eq_emod_of_nonneg (by omega)]
    exact (IntWalk.i64_in _ (by omega)).trans (by omega)
  have d3 : (k : Int).tmod 8 = ((k % 8 : Nat) : Int) := by
    rw [Int.tmod_eq_emod_of_nonneg (by omega)]; omega
  have i0 : (0 : Int) ≤ ((k / 8 : Nat) : Int) := by omega
  have i1 : ((k / 8 : Nat) : Int) < (L : Int) := by omega
  have m0 : (0 : Int) ≤ ((k % 8 : Nat) : Int) := by omega
  have hcd : w.drew.cell? ⟨g, off + k / 8, none⟩ = some (.int .u8 x) := hc
  have hfd : w.drew.frozen? ⟨g, off + k / 8, none⟩ = false := hfz
  generalize hq : k / 8 = q at *
  generalize hm : k % 8 = r at *
  clear hq hm
  go_enter Try.func55, Try.ntmps55
  go_upto_region 0 with (fail)
  go_region_law (fail)
  all_goals
    go_wp2_with fail
    go_end0
    exact ⟨rfl, rfl⟩
end Go.Proofs.Ytafmapcblcnccaa
