/- Contracts of the reference model's small helpers (package rexmillref01). -/
import Derived.Test.YtcohajmappdckaaRows2
import Derived.Laws.AppendOwnNone
namespace Go.Proofs.Ytcohajmappdckaa
open Go.RowKit Go.Shelf
set_option linter.unusedVariables false

/-- What Around returns. -/
def aroundI (n m : Int) : Int := (if n < 0 then -(n + 1) else n) % m
theorem aroundI_lo (n m : Int) (h : 1 ≤ m) : 0 ≤ aroundI n m := Int.emod_nonneg _ (by omega)
theorem aroundI_hi (n m : Int) (h : 1 ≤ m) : aroundI n m < m := Int.emod_lt_of_pos _ (by omega)
theorem around_any (n m : Int) (w : World) (hn : (Lit.int .i64 n).wf = true) (hm : 1 ≤ m) (hm2 : m ≤ 9223372036854775807) :
    Calls Try.prog 11 #[.int .i64 n, .int .i64 m] w fun e w' => e = .returned (.int .i64 (aroundI n m)) ∧ w' = w := by
  have hb : -9223372036854775808 ≤ n ∧ n ≤ 9223372036854775807 := by
    simp [Lit.wf, IntKind.min, IntKind.max, IntKind.signed, IntKind.bits] at hn; omega
  obtain ⟨h1, h2⟩ := hb
  by_cases h : n < 0
  · have he : aroundI n m = -(n + 1) % m := by unfold aroundI; rw [if_pos h]
    have He := Lib.hid he; clear he
    go_enter Try.func11, Try.ntmps11
    go_wp2
    go_ret
    refine ⟨?_, rfl⟩
    have := Int.tmod_eq_emod_of_nonneg (a := -(n + 1)) (b := m) (by omega)
    rw [He.out, ← this]
    simp [Int.neg_tmod]
  · have he : aroundI n m = n % m := by unfold aroundI; rw [if_neg h]
    have He := Lib.hid he; clear he
    go_enter Try.func11, Try.ntmps11
    go_wp2
    go_ret
    exact ⟨by rw [He.out]; rfl, rfl⟩
end Go.Proofs.Ytcohajmappdckaa
