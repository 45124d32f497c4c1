/- Contracts of the reference: Check. -/
import Derived.Test.YtnfelphemdchpaaTxtH
namespace Go.Proofs.Ytnfelphemdchpaa
open Go.RowKit Go.Shelf
set_option linter.unusedVariables false

theorem any_of_cell {l : List Int} (k : Nat) (hk : k < l.length) (h : strangeB (l[k]?.getD 0) = true) : l.any strangeB = true := by
  rw [List.any_eq_true]
  exact ⟨l[k], List.getElem_mem hk, by simpa [hk] using h⟩
set_option maxRecDepth 100000 in
set_option maxHeartbeats 2000000 in
theorem refCheck_any (a : Option Addr) (cap : Nat) (l : List Int) (at_ del : Int) (ai : Option Addr) (ci : Nat) (ins : List Int) (w : World) (hr : Row .i64 w.heap.size w (.slice a l.length cap) l) (hri : Row .i64 w.heap.size w (.slice ai ins.length ci) ins)
    (hl : l.length ≤ 1000000) (hil : ins.length ≤ 1000000) (hwa : (Lit.int .i64 at_).wf = true) (hwd : (Lit.int .i64 del).wf = true) :
    Calls Try.prog 33 #[.slice a l.length cap, .agg #[.int .i64 at_, .int .i64 del, .slice ai ins.length ci]] w fun e w' => e = .returned (.int .i64 (checkI l at_ del ins)) ∧ Below w.heap.size w w' := by
  have b0 := laidB (Below.refl w.heap.size w) (.cells #[.int .i64 at_, .int .i64 del, .slice ai ins.length ci] 43)
  have C0 := Cel.new w 43 #[.int .i64 at_, .int .i64 del, .slice ai ins.length ci]
  have hri' := rowB hri b0
  have ha : -9223372036854775808 ≤ at_ ∧ at_ ≤ 9223372036854775807 := by
    simp [Lit.wf, IntKind.min, IntKind.max, IntKind.signed, IntKind.bits] at hwa; omega
  have hd : -9223372036854775808 ≤ del ∧ del ≤ 9223372036854775807 := by
    simp [Lit.wf, IntKind.min, IntKind.max, IntKind.signed, IntKind.bits] at hwd; omega
  obtain ⟨ha1, ha2⟩ := ha
  obtain ⟨hd1, hd2⟩ := hd
  clear hwa hwd
  generalize hC : checkI l at_ del ins = C
  unfold checkI at hC
  by_cases h1 : at_ < 0
  · rw [if_pos (.inl h1)] at hC
    subst hC
    go_enter Try.func33, Try.ntmps33
    go_wp2_with fail
    go_ret
    exact ⟨rfl, b0⟩
  · by_cases h2 : del < 0
    · rw [if_pos (.inr (.inl h2))] at hC
      subst hC
      go_enter Try.func33, Try.ntmps33
      go_wp2_with fail
      go_ret
      exact ⟨rfl, b0⟩
    · by_cases h3 : (l.length : Int) < at_
      · rw [if_pos (.inr (.inr (.inl h3)))] at hC
        subst hC
        go_enter Try.func33, Try.ntmps33
        go_wp2_with fail
        go_ret
        exact ⟨rfl, b0⟩
      · by_cases h4 : (l.length : Int) - at_ < del
        · rw [if_pos (.inr (.inr (.inr h4)))] at hC
          subst hC
          go_enter Try.func33, Try.ntmps33
          go_wp2_with fail
          go_ret
          exact ⟨rfl, b0⟩
        · rw [if_neg (by omega)] at hC
          have HC := Lib.hid hC
          clear hC
          have x1 : (w.alloc (.cells #[.int .i64 at_, .int .i64 del, .slice ai ins.length ci] 43)).cell? ⟨w.heap.size, 1, none⟩ = some (.int .i64 del) := C0.cell 1
          have x2 : (w.alloc (.cells #[.int .i64 at_, .int .i64 del, .slice ai ins.length ci] 43)).cell? ⟨w.heap.size, 2, none⟩ = some (.slice ai ins.length ci) := C0.cell 2
          go_enter Try.func33, Try.ntmps33
          go_wp2_with fail
          generalize w.alloc (.cells #[.int .i64 at_, .int .i64 del, .slice ai ins.length ci] 43) = w1 at *
          go_loopw [5] (fun i wr => ∃ k : Nat, k ≤ ins.length ∧ i = .int .i64 (k : Int) ∧ Hid ((ins.take k).any strangeB = false) ∧ wr = w1) (fun i _ => ins.length - (intOf i).toNat)
          case atStart => exact ⟨0, Nat.zero_le _, rfl, Lib.hid rfl, rfl⟩
          case round =>
            obtain ⟨k, hk, rfl, H, rfl⟩ := hrel
            by_cases hlt : k < ins.length
            · obtain ⟨b, off, rfl, c0⟩ := row_cell hri' k hlt
              have hn := anyB_false k strangeB H.out hlt
              have hin := any_of_cell (l := ins) k hlt
              have hi1 : (k : Int) < ins.length := by omega
              have hi0 : (0 : Int) ≤ (k : Int) := by omega
              have hw1 : IntKind.i64.wrap ((k : Int) + 1) = (k : Int) + 1 := IntWalk.i64_in _ (by omega)
              have HN := Lib.hid hn
              have HI := Lib.hid hin
              clear hn hin
              generalize ins[k]?.getD 0 = x at *
              by_cases hx0 : x < 0
              · have hC2 : C = 5 := by rw [← HC.out, if_pos (HI.out (by simp [strangeB, hx0]))]
                subst hC2
                go_wp2_with fail
                go_ret
                exact ⟨rfl, b0⟩
              · by_cases hx1 : 1114111 < x
                · have hC2 : C = 5 := by rw [← HC.out, if_pos (HI.out (by simp [strangeB, hx1]))]
                  subst hC2
                  go_wp2_with fail
                  go_ret
                  exact ⟨rfl, b0⟩
                · have hs : strangeB x = false := by simp [strangeB]; omega
                  have HS := Lib.hid hs
                  clear hs
                  go_wp2_with fail
                  go_roundw
                  case rel => exact ⟨k + 1, by omega, by go_num, Lib.hid (by rw [HN.out, HS.out]), by first | rfl | trivial⟩
                  case measure => simp [intOf]; omega
            · have ht : ins.take k = ins := List.take_of_length_le (by omega)
              have hs : ins.any strangeB = false := by rw [← ht]; exact H.out
              have HS := Lib.hid hs
              clear hs ht H
              by_cases h5 : 65536 < (l.length : Int) - del + ins.length
              · have hC2 : C = 4 := by rw [← HC.out, if_neg (by rw [HS.out]; decide), if_pos h5]
                subst hC2
                go_wp2_with fail
                go_ret
                exact ⟨rfl, b0⟩
              · have hC2 : C = 0 := by rw [← HC.out, if_neg (by rw [HS.out]; decide), if_neg h5]
                subst hC2
                go_wp2_with fail
                go_ret
                exact ⟨rfl, b0⟩
end Go.Proofs.Ytnfelphemdchpaa
