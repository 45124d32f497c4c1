/- Contracts of package text: Valid. -/
import Derived.Test.YtnfelphemdchpaaTxtM
namespace Go.Proofs.Ytnfelphemdchpaa
open Go.RowKit Go.Shelf
set_option linter.unusedVariables false

theorem wrong_any (s : Int) (runes : Bool) (g : Nat) (w : World) (hg : w.cell? ⟨g, 0, none⟩ = some (.bool runes)) : Calls Try.prog 47 #[.int .i64 s, .pointer (some ⟨g, 0, none⟩)] w fun e w' => e = .returned (.bool (!isSymB s runes)) ∧ w' = w := by
  have hc := isSymbol_any s runes
  generalize isSymB s runes = B at *
  have HC := Lib.hid hc
  clear hc
  go_enter Try.func47, Try.ntmps47
  go_wp2_with fail
  refine (HC.out _).mono ?_
  rintro e W ⟨rfl, rfl⟩
  dsimp only
  go_wp2_with fail
  go_ret
  exact ⟨rfl, rfl⟩
set_option maxHeartbeats 1000000 in
theorem indexV_any (g : Nat) (runes : Bool) (a : Option Addr) (cap : Nat) (l : List Int) (w : World) (hg : w.cell? ⟨g, 0, none⟩ = some (.bool runes)) (hr : Row .i64 w.heap.size w (.slice a l.length cap) l) :
    Calls Try.prog 69 #[.slice a l.length cap, .func (.func 47) #[] #[.pointer (some ⟨g, 0, none⟩)]] w fun e w' => ∃ r : Int, e = .returned (.int .i64 r) ∧ (decide (0 ≤ r)) = l.any (fun x => !isSymB x runes) ∧ w' = w := by
  have hlc := hr.lencap
  unfold maxLen at hlc
  go_enter Try.func69, Try.ntmps69
  go_wp2_with fail
  go_loopw [8] (fun i wr => ∃ k : Nat, k ≤ l.length ∧ i = .int .i64 (k : Int) ∧ Hid ((l.take k).any (fun x => !isSymB x runes) = false) ∧ wr = w) (fun i _ => l.length - (intOf i).toNat)
  case atStart => exact ⟨0, Nat.zero_le _, rfl, Lib.hid rfl, rfl⟩
  case round =>
    obtain ⟨k, hk, rfl, H, rfl⟩ := hrel
    by_cases hlt : k < l.length
    · obtain ⟨b, off, rfl, c0⟩ := row_cell hr k hlt
      have hn := anyB_false k (fun x => !isSymB x runes) H.out hlt
      have hi1 : (k : Int) < l.length := by omega
      have hi0 : (0 : Int) ≤ (k : Int) := by omega
      have HN := Lib.hid hn
      clear hn
      generalize l[k]?.getD 0 = x at *
      go_wp2_with fail
      refine (wrong_any x runes g _ hg).mono ?_
      rintro e W ⟨rfl, rfl⟩
      dsimp only
      cases hs : (!isSymB x runes)
      · have HS := Lib.hid hs
        clear hs
        go_wp2_with fail
        go_roundw
        case rel => exact ⟨k + 1, by omega, by go_num, Lib.hid (by rw [HN.out, HS.out]), by first | rfl | trivial⟩
        case measure => simp [intOf]; omega
      · have HS := Lib.hid hs
        clear hs
        go_wp2_with fail
        go_ret
        refine ⟨_, rfl, ?_, rfl⟩
        have h1 : l.any (fun x => !isSymB x runes) = true := by
          have h2 := HN.out
          rw [HS.out] at h2
          rw [List.any_eq_true] at h2 ⊢
          obtain ⟨y, hy, hy2⟩ := h2
          exact ⟨y, List.mem_of_mem_take hy, hy2⟩
        rw [h1]
        simp
    · have ht : l.take k = l := List.take_of_length_le (by omega)
      have HT := Lib.hid ht
      clear ht
      go_wp2_with fail
      go_ret
      refine ⟨_, rfl, ?_, rfl⟩
      have h1 := H.out
      rw [HT.out] at h1
      rw [h1]
      rfl
theorem containsV_any (g : Nat) (runes : Bool) (a : Option Addr) (cap : Nat) (l : List Int) (w : World) (hg : w.cell? ⟨g, 0, none⟩ = some (.bool runes)) (hr : Row .i64 w.heap.size w (.slice a l.length cap) l) :
    Calls Try.prog 49 #[.slice a l.length cap, .func (.func 47) #[] #[.pointer (some ⟨g, 0, none⟩)]] w fun e w' => e = .returned (.bool (l.any (fun x => !isSymB x runes))) ∧ w' = w := by
  go_enter Try.func49, Try.ntmps49
  go_wp2_with fail
  refine (indexV_any g runes a cap l w hg hr).mono ?_
  rintro e w1 ⟨r, rfl, hr1, rfl⟩
  have H := Lib.hid hr1
  clear hr1
  dsimp only
  go_wp2_with fail
  all_goals
    go_ret
    exact ⟨ret_bool (by rw [← H.out]; try (first | rfl | (simp; omega) | simp_all)), rfl⟩
set_option maxHeartbeats 1000000 in
theorem valid_any (a : Option Addr) (cap : Nat) (l : List Int) (runes : Bool) (w : World) (hr : Row .i64 w.heap.size w (.slice a l.length cap) l) :
    Calls Try.prog 15 #[.slice a l.length cap, .bool runes] w fun e w' => e = .returned (.int .i64 (validI l runes)) ∧ Below w.heap.size w w' := by
  have b0 := laidB (Below.refl w.heap.size w) (.cells #[.bool runes] 4)
  have C0 := Cel.new w 4 #[.bool runes]
  have x0 : (w.alloc (.cells #[.bool runes] 4)).cell? ⟨w.heap.size, 0, none⟩ = some (.bool runes) := C0.cell 0
  have hr0 := rowB hr b0
  have hlc := hr.lencap
  unfold maxLen at hlc
  generalize hB : validI l runes = B
  unfold validI at hB
  by_cases hbig : 65536 < l.length
  · rw [if_pos hbig] at hB
    subst hB
    have hbi : (65536 : Int) < l.length := by omega
    go_enter Try.func15, Try.ntmps15
    go_wp2_with fail
    go_ret
    exact ⟨rfl, b0⟩
  · rw [if_neg hbig] at hB
    have HB := Lib.hid hB
    clear hB
    have hbi : ¬ (65536 : Int) < l.length := by omega
    go_enter Try.func15, Try.ntmps15
    go_wp2_with fail
    refine (containsV_any w.heap.size runes a cap l _ x0 hr0).mono ?_
    rintro e w1 ⟨rfl, hw1⟩
    subst hw1
    cases hs : l.any (fun x => !isSymB x runes)
    · have hB2 : B = 0 := by rw [← HB.out, if_neg (by rw [hs]; decide)]
      subst hB2
      clear hs
      dsimp only
      go_wp2_with fail
      go_ret
      exact ⟨rfl, b0⟩
    · have hB2 : B = 5 := by rw [← HB.out, if_pos hs]
      subst hB2
      clear hs
      dsimp only
      go_wp2_with fail
      go_ret
      exact ⟨rfl, b0⟩
end Go.Proofs.Ytnfelphemdchpaa
