/- The library's slices.Clone, at bytes and at integers. -/
import Derived.Test.YtafmapcblcnccaaRows3
import Derived.Lib.SliceRun
import Derived.WalkSpells
namespace Go.Proofs.Ytafmapcblcnccaa
open Go.RowKit Go.Shelf
set_option linter.unusedVariables false

theorem info_cb : (Try.prog.info? 5).map (fun i => (i.zero, i.size, i.bytes)) = some (some (.int .u8 0), 1, 1) := by kernel_rfl
set_option maxHeartbeats 2000000 in
theorem cloneBytes_any (v : Value) (n₀ : Nat) (zs : List Int) (w : World) (hr : Row .u8 n₀ w v zs) (hm : zs.length ≤ 10000000) :
    Calls Try.prog 52 #[v] w fun e w' => ∃ a cap, e = .returned (.slice a zs.length cap) ∧ w'.ownsRow w.heap.size 5 1 (.slice a zs.length cap) zs.length (zs.map (Value.int .u8)) ∧ Row .u8 w'.heap.size w' (.slice a zs.length cap) zs ∧ Below w.heap.size w w' := by
  obtain ⟨i0, hi, hz0, hz1, hz2⟩ := info_parts info_cb
  have qn : ∀ (w : World) (a : Option Addr) (n c n' c' : Nat), (binOp .eql 33 (.slice a n c) (.slice none n' c')).run Try.prog w = .ok (.bool a.isNone) w := fun w a n c n' c' => Lib.run_eql_slice_nil w _ _ a n c n' c' Try.underlying33
  have fin : ∀ (v' : Value) (w' : World), w'.ownsRow w.heap.size 5 1 v' zs.length (zs.map (Value.int .u8)) → Below w.heap.size w w' → ∃ a cap, Ending.returned v' = .returned (.slice a zs.length cap) ∧ w'.ownsRow w.heap.size 5 1 (.slice a zs.length cap) zs.length (zs.map (Value.int .u8)) ∧ Row .u8 w'.heap.size w' (.slice a zs.length cap) zs ∧ Below w.heap.size w w' := by
    intro v' w' ho hb
    obtain ⟨a, len, cap, rfl⟩ := owns_slice ho
    have h := (row_of_owns ho).1
    have hl := h.len
    subst hl
    exact ⟨a, cap, rfl, ho, h, hb⟩
  have F := Lib.hid fin
  clear fin
  rcases hr with ⟨a, cap, rfl, hcm, hn0, rfl⟩ | ⟨b, off, cap, rfl, hlc, hcm, hb, hcs⟩
  · unfold maxLen at hcm
    cases a with
    | none =>
      go_enter Try.func52, Try.ntmps52
      go_wp2
      go_ret
      exact F.out _ _ (World.ownsRow_nil _ _ _ _) (Below.refl _ _)
    | some x =>
      go_enter Try.func52, Try.ntmps52
      go_wp2_with (at_builtin; refine wpList_append_own _ rfl _ _ 33 rfl w.heap.size 5 i0 (.int .u8 0) 1 1 Try.underlying33 hi hz0 hz1 hz2 rfl (by decide) _ _ _ rfl (World.ownsRow_made w #[] 0 (Nat.le_refl _) (Nat.zero_le _) rfl) x 0 cap [] rfl rfl (by simp) (by simp) (by simp) (by simp) (by simp) ?_; intro v' w2 hown' hgrow' _)
      go_ret
      exact F.out _ _ (by simpa using hown') ((laidB (Below.refl _ w) _).grown hgrow' (by simp) (fun k e => own_base (World.ownsRow_made (base := w.heap.size) (e := 5) (size := 1) w #[] 0 (Nat.le_refl _) (Nat.zero_le _) rfl) e))
  · unfold maxLen at hcm
    have hcs' : ∀ (o : Obj) j u, (zs.map (Value.int .u8))[j]? = some u → (w.alloc o).cell? (Addr.add ⟨b, off, none⟩ j) = some u := by
      intro o j u hu
      by_cases hj : j < zs.length
      · have h1 := hcs j hj
        have h2 := cellB h1 (laidB (Below.refl w.heap.size w) o)
        simp [hj] at hu h2
        rw [← hu, addr_add]
        exact h2
      · simp [hj] at hu
    have Hcs := Lib.hid hcs'
    clear hcs hcs'
    go_enter Try.func52, Try.ntmps52
    go_wp2_with (at_builtin; refine wpList_append_own _ rfl _ _ 33 rfl w.heap.size 5 i0 (.int .u8 0) 1 1 Try.underlying33 hi hz0 hz1 hz2 rfl (by decide) _ _ _ rfl (World.ownsRow_made w #[] 0 (Nat.le_refl _) (Nat.zero_le _) rfl) ⟨b, off, none⟩ zs.length cap (zs.map (Value.int .u8)) rfl (by simp) (Hcs.out _) (ints_one _ _) (by unfold maxLen; omega) (by omega) (by simp) ?_; intro v' w2 hown' hgrow' _)
    go_ret
    exact F.out _ _ (by simpa using hown') ((laidB (Below.refl _ w) _).grown hgrow' (by simp) (fun k e => own_base (World.ownsRow_made (base := w.heap.size) (e := 5) (size := 1) w #[] 0 (Nat.le_refl _) (Nat.zero_le _) rfl) e))
end Go.Proofs.Ytafmapcblcnccaa
