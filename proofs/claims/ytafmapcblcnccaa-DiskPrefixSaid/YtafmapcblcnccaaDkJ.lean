/- Package disk: Files of a disk with at most one file; settle. -/
import Derived.Test.YtafmapcblcnccaaDkI
namespace Go.Proofs.Ytafmapcblcnccaa
open Go.RowKit Go.Shelf
set_option linter.unusedVariables false

/-- The file's number is one. -/
def keyD (f : Option (Int × List Int × Nat)) : Prop :=
  match f with
  | none => True
  | some (n, _, _) => 0 ≤ n ∧ n < 64
def numsD (f : Option (Int × List Int × Nat)) : List Int :=
  match f with
  | none => []
  | some (n, _, _) => [n]
def settleF (f : Option (Int × List Int × Nat)) : Option (Int × List Int × Nat) :=
  match f with
  | none => none
  | some (n, bs, _) => some (n, bs, bs.length)
theorem filesD_any {n0 p m : Nat} {s : DS} {v : Value} (w : World) (h : Dk w n0 p m s v) (hk : keyD s.f) :
    Calls Try.prog 47 #[.pointer (some ⟨p, 0, none⟩)] w fun e w' => ∃ a c, e = .returned (.slice a (numsD s.f).length c) ∧ Row .i64 w'.heap.size w' (.slice a (numsD s.f).length c) (numsD s.f) ∧ Below w.heap.size w w' := by
  have hkeys : (entD v s.f).map (·.1) = numsD s.f := by
    cases hf : s.f with
    | none => rfl
    | some x => rfl
  have hlen : (entD v s.f).length ≤ 1 := by
    cases hf : s.f with
    | none => simp [entD]
    | some x => simp [entD]
  have hnd : (numsD s.f).Nodup := by
    cases hf : s.f with
    | none => simp [numsD]
    | some x => simp [numsD]
  have hw : ∀ q ∈ entD v s.f, (Lit.int .i64 q.1).wf = true := by
    cases hf : s.f with
    | none => intro q hq; simp [entD] at hq
    | some x =>
      obtain ⟨n, bs, d⟩ := x
      rw [hf] at hk
      intro q hq
      simp [entD] at hq
      subst hq
      have h1 : 0 ≤ n := hk.1
      have h2 : n < 64 := hk.2
      simp [Lit.wf, IntKind.min, IntKind.max, IntKind.signed, IntKind.bits]
      omega
  obtain ⟨D0, h1, h2, h3⟩ := h.map.owns (P := Try.prog) (k := 3) Try.underlying3 (by rw [hkeys]; exact hnd) hw (by unfold maxLen; omega)
  have hc := h.box.cell 1
  refine (files_map p m _ D0 _ w h1 hc (by rw [h3]; unfold maxLen; omega) (by rw [h3]; omega)).mono ?_
  rintro e w' ⟨v', ss, rfl, hp, ho, hnil, hb⟩
  rw [hkeys] at h2
  have hss : ss = numsD s.f := by
    have hp2 := hp.trans h2
    cases hf : s.f with
    | none => rw [hf] at hp2; exact hp2.eq_nil
    | some x => rw [hf] at hp2; exact List.perm_singleton.1 hp2
  subst hss
  have hms : (numsD s.f).mergeSort (fun x y => decide (x ≤ y)) = numsD s.f := by
    cases hf : s.f with
    | none => exact List.mergeSort_nil
    | some x => exact List.mergeSort_singleton _
  rw [hms] at ho
  have hr : Row .i64 w'.heap.size w' v' (numsD s.f) := (row_of_owns ho).1
  obtain ⟨a, c, rfl⟩ := row_slice hr
  exact ⟨a, c, rfl, hr, hb⟩
set_option maxRecDepth 100000 in
set_option maxHeartbeats 4000000 in
theorem settle_none {n0 p m : Nat} {s : DS} {v : Value} (w : World) (h : Dk w n0 p m s v) (hf : s.f = none) :
    Calls Try.prog 54 #[.pointer (some ⟨p, 0, none⟩)] w fun e w' => e = .returned (.tuple #[]) ∧ Below w.heap.size w w' := by
  have HF := Lib.hid (filesD_any w h (by rw [hf]; trivial))
  have hn : numsD s.f = [] := by rw [hf]; rfl
  have HN := Lib.hid hn
  clear h hf hn
  go_enter Try.func54, Try.ntmps54
  go_wp2_with fail
  refine HF.out.mono ?_
  rintro e w1 ⟨a, c, rfl, -, b1⟩
  rw [HN.out]
  dsimp only [List.length_nil]
  go_wp2_with fail
  go_loopw [8] (fun i wr => i = .int .i64 0 ∧ wr = w1) (fun _ _ => 0)
  case atStart => exact ⟨rfl, rfl⟩
  case round =>
    obtain ⟨rfl, rfl⟩ := hrel
    go_wp2_with fail
    go_end0
    exact ⟨rfl, b1⟩
end Go.Proofs.Ytafmapcblcnccaa
