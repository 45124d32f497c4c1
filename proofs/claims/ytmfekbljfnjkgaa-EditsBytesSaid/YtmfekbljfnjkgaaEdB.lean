/- Contracts for package edits: wellFormed and its closure. -/
import Derived.Test.YtmfekbljfnjkgaaEdA
namespace Go.Proofs.Ytmfekbljfnjkgaa
open Go.RowKit Go.Shelf
set_option linter.unusedVariables false

theorem strangeE_any (s : Int) (w : World) : Calls Try.prog 67 #[.int .i64 s] w fun e w' => e = .returned (.bool (strangeB s)) ∧ w' = w := by
  have hB : (!decide (0 ≤ s ∧ s ≤ 1114111)) = strangeB s := by
    unfold strangeB
    rw [Bool.eq_iff_iff]
    simp
  go_enter Try.func67, Try.ntmps67
  go_wp2_with fail
  refine (within_any s 1114111 w).mono ?_
  rintro e w1 ⟨rfl, hw1⟩
  subst hw1
  generalize decide (0 ≤ s ∧ s ≤ 1114111) = B at *
  have HB := Lib.hid hB
  clear hB
  dsimp only
  go_wp2_with fail
  all_goals
    go_ret
    exact ⟨by rw [← HB.out]; rfl, rfl⟩
set_option maxHeartbeats 1000000 in
theorem indexE_any (a : Option Addr) (cap : Nat) (l : List Int) (w : World) (hr : Row .i64 w.heap.size w (.slice a l.length cap) l) :
    Calls Try.prog 77 #[.slice a l.length cap, .func (.func 67) #[] #[]] w fun e w' => ∃ r : Int, e = .returned (.int .i64 r) ∧ (decide (0 ≤ r)) = l.any strangeB ∧ w' = w := by
  have hlc := hr.lencap
  unfold maxLen at hlc
  go_enter Try.func77, Try.ntmps77
  go_wp2_with fail
  go_loopw [8] (fun i wr => ∃ k : Nat, k ≤ l.length ∧ i = .int .i64 (k : Int) ∧ Hid ((l.take k).any strangeB = false) ∧ wr = w) (fun i _ => l.length - (intOf i).toNat)
  case atStart => exact ⟨0, Nat.zero_le _, rfl, Lib.hid rfl, rfl⟩
  case round =>
    obtain ⟨k, hk, rfl, H, rfl⟩ := hrel
    by_cases hlt : k < l.length
    · obtain ⟨b, off, rfl, c0⟩ := row_cell hr k hlt
      have hn := anyB_false k strangeB H.out hlt
      have hi1 : (k : Int) < l.length := by omega
      have hi0 : (0 : Int) ≤ (k : Int) := by omega
      have HN := Lib.hid hn
      clear hn
      generalize l[k]?.getD 0 = x at *
      go_wp2_with fail
      refine (strangeE_any x _).mono ?_
      rintro e W ⟨rfl, rfl⟩
      dsimp only
      cases hs : strangeB x
      · have HS := Lib.hid hs
        clear hs
        go_wp2_with fail
        go_roundw
        case rel => exact ⟨k + 1, by omega, by go_num, Lib.hid (by rw [HN.out, HS.out]), by first | rfl | trivial⟩
        case measure => simp [intOf]; omega
      · have HS := Lib.hid hs
        clear hs
        go_wp2_with fail
        go_ret
        refine ⟨_, rfl, ?_, rfl⟩
        have h1 : l.any strangeB = true := by
          have h2 := HN.out
          rw [HS.out] at h2
          rw [List.any_eq_true] at h2 ⊢
          obtain ⟨y, hy, hy2⟩ := h2
          exact ⟨y, List.mem_of_mem_take hy, hy2⟩
        rw [h1]
        simp
    · have ht : l.take k = l := List.take_of_length_le (by omega)
      have HT := Lib.hid ht
      clear ht
      go_wp2_with fail
      go_ret
      refine ⟨_, rfl, ?_, rfl⟩
      have h1 := H.out
      rw [HT.out] at h1
      rw [h1]
      rfl
theorem containsE_any (a : Option Addr) (cap : Nat) (l : List Int) (w : World) (hr : Row .i64 w.heap.size w (.slice a l.length cap) l) :
    Calls Try.prog 68 #[.slice a l.length cap, .func (.func 67) #[] #[]] w fun e w' => e = .returned (.bool (l.any strangeB)) ∧ w' = w := by
  go_enter Try.func68, Try.ntmps68
  go_wp2_with fail
  refine (indexE_any a cap l w hr).mono ?_
  rintro e w1 ⟨r, rfl, hr1, rfl⟩
  have H := Lib.hid hr1
  clear hr1
  dsimp only
  go_wp2_with fail
  all_goals
    go_ret
    exact ⟨ret_bool (by rw [← H.out]; try (first | rfl | (simp; omega) | simp_all)), rfl⟩
/-- Is an edit well-formed? -/
def wfE (x y : Int) (ins : List Int) : Bool := decide (0 ≤ x ∧ x ≤ 65536) && (decide (0 ≤ y ∧ y ≤ 65536) && (decide (ins.length ≤ 65536) && !ins.any strangeB))
set_option maxHeartbeats 2000000 in
theorem wellFormed_any (x y : Int) (ai : Option Addr) (ci : Nat) (ins : List Int) (w : World) (hri : Row .i64 w.heap.size w (.slice ai ins.length ci) ins) (hl : ins.length ≤ 65536) :
    Calls Try.prog 43 #[.agg #[.int .i64 x, .int .i64 y, .slice ai ins.length ci]] w fun e w' => e = .returned (.bool (wfE x y ins)) ∧ Below w.heap.size w w' := by
  have b0 := laidB (Below.refl w.heap.size w) (.cells #[.int .i64 x, .int .i64 y, .slice ai ins.length ci] 25)
  have C0 := Cel.new w 25 #[.int .i64 x, .int .i64 y, .slice ai ins.length ci]
  have hr0 := rowB hri b0
  have c0 := C0.cell 0
  have c1 := C0.cell 1
  have c2 := C0.cell 2
  obtain ⟨K, hK⟩ : ∃ K : Int, (ins.length : Int) = K := ⟨_, rfl⟩
  have hK2 : K ≤ 65536 := by omega
  generalize hR : wfE x y ins = R
  unfold wfE at hR
  rw [show decide (ins.length ≤ 65536) = true from decide_eq_true hl, Bool.true_and] at hR
  have HR := Lib.hid hR
  clear hR hl
  go_enter Try.func43, Try.ntmps43
  go_wp2_with fail
  refine (within_any x 65536 _).mono ?_
  rintro e w1 ⟨rfl, hw1⟩
  subst hw1
  dsimp only
  cases h1 : decide (0 ≤ x ∧ x ≤ 65536)
  · have HF : Hid (R = false) := Lib.hid (by rw [← HR.out, h1]; rfl)
    clear h1 HR
    go_wp2_with fail
    go_ret
    exact ⟨by rw [HF.out]; rfl, b0⟩
  · go_wp2_with fail
    refine (within_any y 65536 _).mono ?_
    rintro e w1 ⟨rfl, hw1⟩
    subst hw1
    dsimp only
    cases h2 : decide (0 ≤ y ∧ y ≤ 65536)
    · have HF : Hid (R = false) := Lib.hid (by rw [← HR.out, h1, h2]; rfl)
      clear h1 h2 HR
      go_wp2_with fail
      go_ret
      exact ⟨by rw [HF.out]; rfl, b0⟩
    · have HF : Hid ((!ins.any strangeB) = R) := Lib.hid (by rw [← HR.out, h1, h2]; rfl)
      clear h1 h2 HR
      go_wp2_with fail
      refine (containsE_any ai ci ins _ hr0).mono ?_
      rintro e w1 ⟨rfl, hw1⟩
      subst hw1
      generalize ins.any strangeB = S at *
      dsimp only
      go_wp2_with fail
      all_goals
        go_ret
        exact ⟨by rw [← HF.out]; rfl, b0⟩
end Go.Proofs.Ytmfekbljfnjkgaa
