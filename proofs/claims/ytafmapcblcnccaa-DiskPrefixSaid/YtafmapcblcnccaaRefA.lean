/- Contracts of the reference model's small helpers (package rexmillref01). -/
import Derived.Test.YtafmapcblcnccaaRows2
import Derived.Laws.AppendOwnNone
namespace Go.Proofs.Ytafmapcblcnccaa
open Go.RowKit Go.Shelf
set_option linter.unusedVariables false

/-- What Around returns. -/
def aroundI (n m : Int) : Int := (if n < 0 then -(n + 1) else n) % m
theorem aroundI_lo (n m : Int) (h : 1 ≤ m) : 0 ≤ aroundI n m := Int.emod_nonneg _ (by omega)
theorem aroundI_hi (n m : Int) (h : 1 ≤ m) : aroundI n m < m := Int.emod_lt_of_pos _ (by omega)
theorem around_any (n m : Int) (w : World) (hn : (Lit.int .i64 n).wf = true) (hm : 1 ≤ m) (hm2 : m ≤ 9223372036854775807) :
    Calls Try.prog 12 #[.int .i64 n, .int .i64 m] w fun e w' => e = .returned (.int .i64 (aroundI n m)) ∧ w' = w := by
  have hb : -9223372036854775808 ≤ n ∧ n ≤ 9223372036854775807 := by
    simp [Lit.wf, IntKind.min, IntKind.max, IntKind.signed, IntKind.bits] at hn; omega
  obtain ⟨h1, h2⟩ := hb
  by_cases h : n < 0
  · have he : aroundI n m = -(n + 1) % m := by unfold aroundI; rw [if_pos h]
    have He := Lib.hid he; clear he
    go_enter Try.func12, Try.ntmps12
    go_wp2
    go_ret
    refine ⟨?_, rfl⟩
    have := Int.tmod_eq_emod_of_nonneg (a := -(n + 1)) (b := m) (by omega)
    rw [He.out, ← this]
    simp [Int.neg_tmod]
  · have he : aroundI n m = n % m := by unfold aroundI; rw [if_neg h]
    have He := Lib.hid he; clear he
    go_enter Try.func12, Try.ntmps12
    go_wp2
    go_ret
    exact ⟨by rw [He.out]; rfl, rfl⟩
theorem info_ints : (Try.prog.info? 3).map (fun i => (i.zero, i.size, i.bytes)) = some (some (.int .i64 0), 1, 8) := by kernel_rfl
set_option maxHeartbeats 1000000 in
theorem ints_any (v : Value) (zs : List Int) (m : Nat) (w : World) (hr : Row .i64 w.heap.size w v zs) (hm : m ≤ 1000000) :
    Calls Try.prog 31 #[v, .int .i64 m] w fun e w' => ∃ v', e = .returned v' ∧ w'.ownsRow w.heap.size 3 1 v' (zs.take m).length ((zs.take m).map (Value.int .i64)) ∧ Below w.heap.size w w' := by
  obtain ⟨i0, hi, hz0, hz1, hz2⟩ := info_parts info_ints
  have hn := World.ownsRow_nil w w.heap.size 3 1
  rcases hr with ⟨a, cap, rfl, hcm, hn0, rfl⟩ | ⟨b, off, cap, rfl, hlc, hcm, hb, hcs⟩
  · unfold maxLen at hcm
    cases a with
    | none =>
      go_enter Try.func31, Try.ntmps31
      go_wp2
      go_ret
      exact ⟨_, rfl, by simpa using hn, Below.refl _ _⟩
    | some x =>
      go_enter Try.func31, Try.ntmps31
      go_wp2_with (at_builtin; refine wpList_append_own _ rfl _ _ 22 rfl w.heap.size 3 i0 (.int .i64 0) 1 8 Try.underlying22 hi hz0 hz1 hz2 rfl (by decide) _ _ _ rfl hn x 0 cap [] rfl rfl (by simp) (by simp) (by simp) (by simp) (Nat.le_refl _) ?_; intro v' w2 hown' hgrow' _)
      go_ret
      exact ⟨_, rfl, by simpa using hown', (Below.refl _ w).grown hgrow' (Nat.le_refl _) (fun k e => by cases e)⟩
  · unfold maxLen at hcm
    by_cases h : m < zs.length
    · have hcs' : ∀ j u, ((zs.take m).map (Value.int .i64))[j]? = some u → w.cell? (Addr.add ⟨b, off, none⟩ j) = some u := by
        intro j u hu
        simp only [List.getElem?_map, List.getElem?_take] at hu
        by_cases hj : j < m
        · have := hcs j (by omega)
          simp [hj, show j < zs.length from by omega] at hu this
          rw [← hu, addr_add]; exact this
        · simp [hj] at hu
      go_enter Try.func31, Try.ntmps31
      go_wp2_with (at_builtin; refine wpList_append_own _ rfl _ _ 22 rfl w.heap.size 3 i0 (.int .i64 0) 1 8 Try.underlying22 hi hz0 hz1 hz2 rfl (by decide) _ _ _ rfl hn ⟨b, off, none⟩ m cap ((zs.take m).map (Value.int .i64)) rfl (by simp; omega) hcs' (ints_one _ _) (by unfold maxLen; omega) (by omega) (Nat.le_refl _) ?_; intro v' w2 hown' hgrow' _)
      go_ret
      exact ⟨_, rfl, by simpa [show min m zs.length = m from by omega] using hown', (Below.refl _ w).grown hgrow' (Nat.le_refl _) (fun k e => by cases e)⟩
    · have hcs' : ∀ j u, (zs.map (Value.int .i64))[j]? = some u → w.cell? (Addr.add ⟨b, off, none⟩ j) = some u := by
        intro j u hu
        by_cases hj : j < zs.length
        · have := hcs j hj
          simp [hj] at hu this
          rw [← hu, addr_add]; exact this
        · simp [hj] at hu
      go_enter Try.func31, Try.ntmps31
      go_wp2_with (at_builtin; refine wpList_append_own _ rfl _ _ 22 rfl w.heap.size 3 i0 (.int .i64 0) 1 8 Try.underlying22 hi hz0 hz1 hz2 rfl (by decide) _ _ _ rfl hn ⟨b, off, none⟩ zs.length cap (zs.map (Value.int .i64)) rfl (by simp) hcs' (ints_one _ _) (by unfold maxLen; omega) (by omega) (Nat.le_refl _) ?_; intro v' w2 hown' hgrow' _)
      go_ret
      exact ⟨_, rfl, by simpa [List.take_of_length_le (show zs.length ≤ m from by omega)] using hown', (Below.refl _ w).grown hgrow' (Nat.le_refl _) (fun k e => by cases e)⟩
theorem info_few : (Try.prog.info? 5).map (fun i => (i.zero, i.size, i.bytes)) = some (some (.int .u8 0), 1, 1) := by kernel_rfl
set_option maxHeartbeats 1000000 in
theorem few_any (v : Value) (zs : List Int) (m : Nat) (w : World) (hr : Row .u8 w.heap.size w v zs) (hm : m ≤ 1000000) :
    Calls Try.prog 20 #[v, .int .i64 m] w fun e w' => ∃ v', e = .returned v' ∧ w'.ownsRow w.heap.size 5 1 v' (zs.take m).length ((zs.take m).map (Value.int .u8)) ∧ Below w.heap.size w w' := by
  obtain ⟨i0, hi, hz0, hz1, hz2⟩ := info_parts info_few
  have hn := World.ownsRow_nil w w.heap.size 5 1
  rcases hr with ⟨a, cap, rfl, hcm, hn0, rfl⟩ | ⟨b, off, cap, rfl, hlc, hcm, hb, hcs⟩
  · unfold maxLen at hcm
    cases a with
    | none =>
      go_enter Try.func20, Try.ntmps20
      go_wp2
      go_ret
      exact ⟨_, rfl, by simpa using hn, Below.refl _ _⟩
    | some x =>
      go_enter Try.func20, Try.ntmps20
      go_wp2_with (at_builtin; refine wpList_append_own _ rfl _ _ 33 rfl w.heap.size 5 i0 (.int .u8 0) 1 1 Try.underlying33 hi hz0 hz1 hz2 rfl (by decide) _ _ _ rfl hn x 0 cap [] rfl rfl (by simp) (by simp) (by simp) (by simp) (Nat.le_refl _) ?_; intro v' w2 hown' hgrow' _)
      go_ret
      exact ⟨_, rfl, by simpa using hown', (Below.refl _ w).grown hgrow' (Nat.le_refl _) (fun k e => by cases e)⟩
  · unfold maxLen at hcm
    by_cases h : m < zs.length
    · have hcs' : ∀ j u, ((zs.take m).map (Value.int .u8))[j]? = some u → w.cell? (Addr.add ⟨b, off, none⟩ j) = some u := by
        intro j u hu
        simp only [List.getElem?_map, List.getElem?_take] at hu
        by_cases hj : j < m
        · have := hcs j (by omega)
          simp [hj, show j < zs.length from by omega] at hu this
          rw [← hu, addr_add]; exact this
        · simp [hj] at hu
      go_enter Try.func20, Try.ntmps20
      go_wp2_with (at_builtin; refine wpList_append_own _ rfl _ _ 33 rfl w.heap.size 5 i0 (.int .u8 0) 1 1 Try.underlying33 hi hz0 hz1 hz2 rfl (by decide) _ _ _ rfl hn ⟨b, off, none⟩ m cap ((zs.take m).map (Value.int .u8)) rfl (by simp; omega) hcs' (ints_one _ _) (by unfold maxLen; omega) (by omega) (Nat.le_refl _) ?_; intro v' w2 hown' hgrow' _)
      go_ret
      exact ⟨_, rfl, by simpa [show min m zs.length = m from by omega] using hown', (Below.refl _ w).grown hgrow' (Nat.le_refl _) (fun k e => by cases e)⟩
    · have hcs' : ∀ j u, (zs.map (Value.int .u8))[j]? = some u → w.cell? (Addr.add ⟨b, off, none⟩ j) = some u := by
        intro j u hu
        by_cases hj : j < zs.length
        · have := hcs j hj
          simp [hj] at hu this
          rw [← hu, addr_add]; exact this
        · simp [hj] at hu
      go_enter Try.func20, Try.ntmps20
      go_wp2_with (at_builtin; refine wpList_append_own _ rfl _ _ 33 rfl w.heap.size 5 i0 (.int .u8 0) 1 1 Try.underlying33 hi hz0 hz1 hz2 rfl (by decide) _ _ _ rfl hn ⟨b, off, none⟩ zs.length cap (zs.map (Value.int .u8)) rfl (by simp) hcs' (ints_one _ _) (by unfold maxLen; omega) (by omega) (Nat.le_refl _) ?_; intro v' w2 hown' hgrow' _)
      go_ret
      exact ⟨_, rfl, by simpa [List.take_of_length_le (show zs.length ≤ m from by omega)] using hown', (Below.refl _ w).grown hgrow' (Nat.le_refl _) (fun k e => by cases e)⟩
/-- The copy of the first elements: its value, what it owns, and what it holds. -/
theorem ints_int (v : Value) (zs : List Int) (m : Int) (w : World) (hr : Row .i64 w.heap.size w v zs) (h0 : 0 ≤ m) (hm : m ≤ 1000000) :
    Calls Try.prog 31 #[v, .int .i64 m] w fun e w' => ∃ a cap, e = .returned (.slice a (zs.take m.toNat).length cap) ∧ w'.ownsRow w.heap.size 3 1 (.slice a (zs.take m.toNat).length cap) (zs.take m.toNat).length ((zs.take m.toNat).map (Value.int .i64)) ∧ Row .i64 w'.heap.size w' (.slice a (zs.take m.toNat).length cap) (zs.take m.toNat) ∧ Below w.heap.size w w' := by
  obtain ⟨n, rfl⟩ := Int.eq_ofNat_of_zero_le h0
  rw [Int.toNat_natCast]
  refine (ints_any v zs n w hr (by omega)).mono ?_
  rintro e w' ⟨v', rfl, hown, hB⟩
  obtain ⟨a, len, cap, rfl⟩ := owns_slice hown
  have h := (row_of_owns hown).1
  have hl := h.len
  subst hl
  exact ⟨a, cap, rfl, hown, h, hB⟩
theorem few_int (v : Value) (zs : List Int) (m : Int) (w : World) (hr : Row .u8 w.heap.size w v zs) (h0 : 0 ≤ m) (hm : m ≤ 1000000) :
    Calls Try.prog 20 #[v, .int .i64 m] w fun e w' => ∃ a cap, e = .returned (.slice a (zs.take m.toNat).length cap) ∧ w'.ownsRow w.heap.size 5 1 (.slice a (zs.take m.toNat).length cap) (zs.take m.toNat).length ((zs.take m.toNat).map (Value.int .u8)) ∧ Row .u8 w'.heap.size w' (.slice a (zs.take m.toNat).length cap) (zs.take m.toNat) ∧ Below w.heap.size w w' := by
  obtain ⟨n, rfl⟩ := Int.eq_ofNat_of_zero_le h0
  rw [Int.toNat_natCast]
  refine (few_any v zs n w hr (by omega)).mono ?_
  rintro e w' ⟨v', rfl, hown, hB⟩
  obtain ⟨a, len, cap, rfl⟩ := owns_slice hown
  have h := (row_of_owns hown).1
  have hl := h.len
  subst hl
  exact ⟨a, cap, rfl, hown, h, hB⟩
end Go.Proofs.Ytafmapcblcnccaa
