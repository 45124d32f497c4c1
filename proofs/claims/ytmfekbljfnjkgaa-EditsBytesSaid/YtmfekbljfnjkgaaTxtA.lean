/- Contracts of package text and its reference model: words, assertions. -/
import Derived.Test.YtmfekbljfnjkgaaRefB
import Derived.Test.YtmfekbljfnjkgaaCel
import Derived.IntWalk
import Derived.Deep.QuietTactic
import Derived.BigQuiet
namespace Go.Proofs.Ytmfekbljfnjkgaa
open Go.RowKit Go.Shelf
set_option linter.unusedVariables false

theorem ret_bool {a b : Bool} (h : a = b) : Ending.returned (.bool a) = .returned (.bool b) := by rw [h]
/-- A letter, a digit or _. -/
def wordB (s : Int) : Bool := decide ((97 ≤ s ∧ s ≤ 122) ∨ (65 ≤ s ∧ s ≤ 90) ∨ (48 ≤ s ∧ s ≤ 57) ∨ s = 95)
/-- What Assert answers. -/
def befB (l : List Int) (p : Int) : Bool := decide (0 < p) && wordB (l[(p - 1).toNat]?.getD 0)
def aftB (l : List Int) (p : Int) : Bool := decide (p < l.length) && wordB (l[p.toNat]?.getD 0)
def assertB (n : Int) (l : List Int) (p : Int) : Bool :=
  if p < 0 ∨ (l.length : Int) < p then false
  else if n = 0 then p == 0 else if n = 1 then p == (l.length : Int) else if n = 2 then (p == 0 || l[(p - 1).toNat]?.getD 0 == 10)
  else if n = 3 then (p == (l.length : Int) || l[p.toNat]?.getD 0 == 10) else if n = 4 then (befB l p != aftB l p) else if n = 5 then (befB l p == aftB l p) else false
theorem row_cell {k : IntKind} {W : World} {a : Option Addr} {n cap : Nat} {zs : List Int} {m : Nat} (h : Row k m W (.slice a n cap) zs) (j : Nat) (hj : j < zs.length) : ∃ b off, a = some ⟨b, off, none⟩ ∧ W.cell? ⟨b, off + j, none⟩ = some (.int k (zs[j]?.getD 0)) := by
  obtain ⟨b, off, rfl, _, hc⟩ := h.at (by omega)
  exact ⟨b, off, rfl, hc j hj⟩
end Go.Proofs.Ytmfekbljfnjkgaa
