/- Contracts of package text: the check of an edit, Splice, Undo. -/
import Derived.Test.YtnfelphemdchpaaTxtC
import Derived.Deep.RegionHeld3
namespace Go.Proofs.Ytnfelphemdchpaa
open Go.RowKit Go.Shelf
set_option linter.unusedVariables false

/-- No symbol. -/
def strangeB (s : Int) : Bool := decide (s < 0 ∨ 1114111 < s)
theorem strange_any (s : Int) (w : World) : Calls Try.prog 72 #[.int .i64 s] w fun e w' => e = .returned (.bool (strangeB s)) ∧ w' = w := by
  generalize hB : strangeB s = B
  unfold strangeB at hB
  have HB := Lib.hid hB
  clear hB
  go_enter Try.func72, Try.ntmps72
  go_wp2
  all_goals
    go_ret
    refine ⟨ret_bool ?_, rfl⟩
    rw [← HB.out, Bool.eq_iff_iff]
    simp
    try omega
theorem anyB_false {l : List Int} (k : Nat) (p : Int → Bool) (h : (l.take k).any p = false) (hk : k < l.length) : (l.take (k + 1)).any p = p (l[k]?.getD 0) := by
  rw [List.take_succ_eq_append_getElem hk, List.any_append, h]
  simp [hk]
set_option maxHeartbeats 1000000 in
theorem index_any (a : Option Addr) (cap : Nat) (l : List Int) (w : World) (hr : Row .i64 w.heap.size w (.slice a l.length cap) l) :
    Calls Try.prog 69 #[.slice a l.length cap, .func (.func 72) #[] #[]] w fun e w' => ∃ r : Int, e = .returned (.int .i64 r) ∧ (decide (0 ≤ r)) = l.any strangeB ∧ w' = w := by
  have hlc := hr.lencap
  unfold maxLen at hlc
  go_enter Try.func69, Try.ntmps69
  go_wp2_with fail
  go_loopw [8] (fun i wr => ∃ k : Nat, k ≤ l.length ∧ i = .int .i64 (k : Int) ∧ Hid ((l.take k).any strangeB = false) ∧ wr = w) (fun i _ => l.length - (intOf i).toNat)
  case atStart => exact ⟨0, Nat.zero_le _, rfl, Lib.hid rfl, rfl⟩
  case round =>
    obtain ⟨k, hk, rfl, H, rfl⟩ := hrel
    by_cases hlt : k < l.length
    · obtain ⟨b, off, rfl, c0⟩ := row_cell hr k hlt
      have hn := anyB_false k strangeB H.out hlt
      have hi1 : (k : Int) < l.length := by omega
      have hi0 : (0 : Int) ≤ (k : Int) := by omega
      have HN := Lib.hid hn
      clear hn
      generalize l[k]?.getD 0 = x at *
      go_wp2_with fail
      refine (strange_any x _).mono ?_
      rintro e W ⟨rfl, rfl⟩
      dsimp only
      cases hs : strangeB x
      · have HS := Lib.hid hs
        clear hs
        go_wp2_with fail
        go_roundw
        case rel => exact ⟨k + 1, by omega, by go_num, Lib.hid (by rw [HN.out, HS.out]), by first | rfl | trivial⟩
        case measure => simp [intOf]; omega
      · have HS := Lib.hid hs
        clear hs
        go_wp2_with fail
        go_ret
        refine ⟨_, rfl, ?_, rfl⟩
        have h1 : l.any strangeB = true := by
          have h2 := HN.out
          rw [HS.out] at h2
          rw [List.any_eq_true] at h2 ⊢
          obtain ⟨y, hy, hy2⟩ := h2
          exact ⟨y, List.mem_of_mem_take hy, hy2⟩
        rw [h1]
        simp
    · have ht : l.take k = l := List.take_of_length_le (by omega)
      have HT := Lib.hid ht
      clear ht
      go_wp2_with fail
      go_ret
      refine ⟨_, rfl, ?_, rfl⟩
      have h1 := H.out
      rw [HT.out] at h1
      rw [h1]
      rfl
theorem contains_any (a : Option Addr) (cap : Nat) (l : List Int) (w : World) (hr : Row .i64 w.heap.size w (.slice a l.length cap) l) :
    Calls Try.prog 49 #[.slice a l.length cap, .func (.func 72) #[] #[]] w fun e w' => e = .returned (.bool (l.any strangeB)) ∧ w' = w := by
  go_enter Try.func49, Try.ntmps49
  go_wp2_with fail
  refine (index_any a cap l w hr).mono ?_
  rintro e w1 ⟨r, rfl, hr1, rfl⟩
  have H := Lib.hid hr1
  clear hr1
  dsimp only
  go_wp2_with fail
  all_goals
    go_ret
    exact ⟨ret_bool (by rw [← H.out]; try (first | rfl | (simp; omega) | simp_all)), rfl⟩
/-- The error of an edit. -/
def checkI (l : List Int) (at_ del : Int) (ins : List Int) : Int :=
  if at_ < 0 ∨ del < 0 ∨ (l.length : Int) < at_ ∨ (l.length : Int) - at_ < del then 5
  else if ins.any strangeB = true then 5 else if 65536 < (l.length : Int) - del + ins.length then 4 else 0
set_option maxHeartbeats 2000000 in
theorem check_any (a : Option Addr) (cap : Nat) (l : List Int) (at_ del : Int) (ai : Option Addr) (ci : Nat) (ins : List Int) (w : World) (hr : Row .i64 w.heap.size w (.slice a l.length cap) l) (hri : Row .i64 w.heap.size w (.slice ai ins.length ci) ins)
    (hl : l.length ≤ 1000000) (hil : ins.length ≤ 1000000) (hwa : (Lit.int .i64 at_).wf = true) (hwd : (Lit.int .i64 del).wf = true) :
    Calls Try.prog 54 #[.slice a l.length cap, .agg #[.int .i64 at_, .int .i64 del, .slice ai ins.length ci]] w fun e w' => e = .returned (.int .i64 (checkI l at_ del ins)) ∧ Below w.heap.size w w' := by
  have b0 := laidB (Below.refl w.heap.size w) (.cells #[.int .i64 at_, .int .i64 del, .slice ai ins.length ci] 43)
  have hri' := rowB hri b0
  have ha : -9223372036854775808 ≤ at_ ∧ at_ ≤ 9223372036854775807 := by
    simp [Lit.wf, IntKind.min, IntKind.max, IntKind.signed, IntKind.bits] at hwa; omega
  have hd : -9223372036854775808 ≤ del ∧ del ≤ 9223372036854775807 := by
    simp [Lit.wf, IntKind.min, IntKind.max, IntKind.signed, IntKind.bits] at hwd; omega
  obtain ⟨ha1, ha2⟩ := ha
  obtain ⟨hd1, hd2⟩ := hd
  clear hwa hwd
  generalize hC : checkI l at_ del ins = C
  unfold checkI at hC
  by_cases h1 : at_ < 0
  · rw [if_pos (.inl h1)] at hC
    subst hC
    go_enter Try.func54, Try.ntmps54
    go_wp2_with fail
    go_ret
    exact ⟨rfl, b0⟩
  · by_cases h2 : del < 0
    · rw [if_pos (.inr (.inl h2))] at hC
      subst hC
      go_enter Try.func54, Try.ntmps54
      go_wp2_with fail
      go_ret
      exact ⟨rfl, b0⟩
    · by_cases h3 : (l.length : Int) < at_
      · rw [if_pos (.inr (.inr (.inl h3)))] at hC
        subst hC
        go_enter Try.func54, Try.ntmps54
        go_wp2_with fail
        go_ret
        exact ⟨rfl, b0⟩
      · by_cases h4 : (l.length : Int) - at_ < del
        · rw [if_pos (.inr (.inr (.inr h4)))] at hC
          subst hC
          go_enter Try.func54, Try.ntmps54
          go_wp2_with fail
          go_ret
          exact ⟨rfl, b0⟩
        · rw [if_neg (by omega)] at hC
          have HC := Lib.hid hC
          clear hC
          go_enter Try.func54, Try.ntmps54
          go_wp2_with fail
          refine (contains_any ai ci ins _ hri').mono ?_
          rintro e w1 ⟨rfl, hw1⟩
          cases hs : ins.any strangeB
          · have HS := Lib.hid hs
            clear hs
            subst hw1
            dsimp only
            by_cases h5 : 65536 < (l.length : Int) - del + ins.length
            · have hC2 : C = 4 := by rw [← HC.out, if_neg (by rw [HS.out]; decide), if_pos h5]
              subst hC2
              go_wp2_with fail
              go_ret
              exact ⟨rfl, b0⟩
            · have hC2 : C = 0 := by rw [← HC.out, if_neg (by rw [HS.out]; decide), if_neg h5]
              subst hC2
              go_wp2_with fail
              go_ret
              exact ⟨rfl, b0⟩
          · have HS := Lib.hid hs
            clear hs
            subst hw1
            dsimp only
            have hC2 : C = 5 := by rw [← HC.out, if_pos HS.out]
            subst hC2
            go_wp2_with fail
            go_ret
            exact ⟨rfl, b0⟩
end Go.Proofs.Ytnfelphemdchpaa
