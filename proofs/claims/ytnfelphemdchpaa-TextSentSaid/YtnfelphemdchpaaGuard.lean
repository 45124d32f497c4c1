/- An operation under a guard that says yes. -/
import Derived.Test.YtnfelphemdchpaaAppRow
namespace Go.Proofs.Ytnfelphemdchpaa
open Go.RowKit Go.Shelf

theorem wpList_guarded {P : Program} {ops : Array Oper} {rest : List Oper} {o : Oper} {a : Act} {w : World} {Q : Exit → Act → World → Prop} (hw : Region.wanted o (yielded ops a.tmps) = true) (h : wpList P ops Q ({ o with guard := none } :: rest) a w) : wpList P ops Q (o :: rest) a w := by
  have h2 : Region.wanted { o with guard := none } (yielded ops a.tmps) = true := by simp [Region.wanted]
  unfold wpList at h ⊢
  rw [if_pos hw]
  rw [if_pos h2] at h
  exact h
end Go.Proofs.Ytnfelphemdchpaa
