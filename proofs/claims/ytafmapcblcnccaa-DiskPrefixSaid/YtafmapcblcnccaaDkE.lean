/- Package disk: Append in all cases; On, Arm, New. -/
import Derived.Test.YtafmapcblcnccaaDkD
namespace Go.Proofs.Ytafmapcblcnccaa
open Go.RowKit Go.Shelf
set_option linter.unusedVariables false

set_option maxHeartbeats 4000000 in
theorem append_any {n0 p m : Nat} {s : DS} {v : Value} (w : World) (h : Dk w n0 p m s v) (n : Int) (ab : Option Addr) (cb : Nat) (b : List Int) (hr : Row .u8 w.heap.size w (.slice ab b.length cb) b) (hbl : b.length ≤ 16777216)
    (hz : ∀ x ∈ b, 0 ≤ x ∧ x < 256) (hone : ∀ n' bs d, s.f = some (n', bs, d) → n ≠ n' → b = []) :
    Calls Try.prog 21 #[.pointer (some ⟨p, 0, none⟩), .int .i64 n, .slice ab b.length cb] w fun e w' => e = .returned (.int .i64 (s.app n b).1) ∧ DkAfter w w' n0 p m (s.app n b).2 v := by
  by_cases hn : 0 ≤ n ∧ n < 64
  · have HIS := isFile_any n w
    rw [decide_eq_true hn.1, decide_eq_true hn.2] at HIS
    by_cases hoff : s.off = true
    · have e1 : s.app n b = (19, s) := by unfold DS.app; rw [if_neg (fun h => h hn), if_pos hoff]
      rw [e1]
      have c2 := h.box.cell 2
      rw [hoff] at c2
      have HI := Lib.hid HIS
      have HD := Lib.hid (DkAfter.same h)
      clear HIS e1 hoff h hr hz hone hn
      go_enter Try.func21, Try.ntmps21
      go_wp2_with fail
      refine HI.out.mono ?_
      rintro e w1 ⟨rfl, hw1'⟩
      subst hw1'
      dsimp only [Bool.and_self]
      go_wp2_with fail
      go_ret
      exact ⟨rfl, HD.out⟩
    · have hoff' : s.off = false := by simpa using hoff
      by_cases hroom : s.room < (lenD s.f : Int) + b.length
      · have e1 : s.app n b = (18, s) := by unfold DS.app; rw [if_neg (fun h => h hn), if_neg hoff, if_pos hroom]
        rw [e1]
        have c0' := h.box.cell 0
        have c2 := h.box.cell 2
        rw [hoff'] at c2
        have hdr : Dk w.drew n0 p m s v := h.step (Below.refl _ _).drew
        have hw1 : IntKind.i64.wrap ((lenD s.f : Int) + b.length) = (lenD s.f : Int) + b.length := IntWalk.i64_in _ (by have := h.lenf; omega)
        have d0' : w.drew.cell? ⟨p, 0, none⟩ = some (.int .i64 s.room) := c0'
        have HD := Lib.hid hdr
        have HI := Lib.hid HIS
        have HH := Lib.hid h
        clear HIS e1 hoff hoff' h hr hz hone hn hdr
        go_enter Try.func21, Try.ntmps21
        go_wp2_with fail
        refine HI.out.mono ?_
        rintro e w1 ⟨rfl, hw1'⟩
        subst hw1'
        dsimp only [Bool.and_self]
        go_upto_region 5 with (fail)
        clear c0' c2 HI
        go_region_law ((go_simp; go_at_call 24; refine (used_any _ HD.out).mono ?_; rintro e w2 ⟨rfl, b2⟩; dsimp only; have y0 := cellB d0' b2))
        all_goals
          have b2' : Below w1.heap.size w1 w2 := (Below.refl _ _).drew.trans b2
          have FIN := Lib.hid (DkAfter.below HH.out b2')
          clear y0 d0' HD b2 b2'
          go_wp2_with fail
          go_ret
          exact ⟨rfl, FIN.out⟩
      · exact append_ok w h n hn.1 hn.2 hoff' ab cb b hr hz (by omega) hone
  · have e1 : s.app n b = (1, s) := by unfold DS.app; rw [if_pos hn]
    rw [e1]
    have HIS := isFile_any n w
    have e2 : (decide (0 ≤ n) && decide (n < 64)) = false := by
      rw [Bool.and_eq_false_iff]
      by_cases h0 : 0 ≤ n
      · right; simp; omega
      · left; simp; omega
    rw [e2] at HIS
    have HI := Lib.hid HIS
    have HD := Lib.hid (DkAfter.same h)
    clear HIS e1 e2 h hr hz hone hn
    go_enter Try.func21, Try.ntmps21
    go_wp2_with fail
    refine HI.out.mono ?_
    rintro e w1 ⟨rfl, hw1'⟩
    subst hw1'
    dsimp only
    go_wp2_with fail
    go_ret
    exact ⟨rfl, HD.out⟩
theorem on_any {n0 p m : Nat} {s : DS} {v : Value} (w : World) (h : Dk w n0 p m s v) : Calls Try.prog 28 #[.pointer (some ⟨p, 0, none⟩)] w fun e w' => e = .returned (.bool (!s.off)) ∧ w' = w := by
  have c2 := h.box.cell 2
  clear h
  generalize s.off = o at *
  go_enter Try.func28, Try.ntmps28
  go_wp2_with fail
  go_ret
  exact ⟨rfl, rfl⟩
def DS.arm (s : DS) (n : Int) : DS := if s.off = true then s else { s with plan := max n (-1) }
set_option maxHeartbeats 4000000 in
theorem arm_any {n0 p m : Nat} {s : DS} {v : Value} (n : Int) (hn : n ≤ 9223372036854775807) (w : World) (h : Dk w n0 p m s v) : Calls Try.prog 27 #[.pointer (some ⟨p, 0, none⟩), .int .i64 n] w fun e w' => e = .returned (.tuple #[]) ∧ Dk w' n0 p m (s.arm n) v ∧ OnlyP (fun k => k = p) w w' := by
  have c2 := h.box.cell 2
  have c3 := h.box.cell 3
  have f3 := h.box.free 3
  by_cases ho : s.off = true
  · have e1 : s.arm n = s := by unfold DS.arm; rw [if_pos ho]
    rw [e1]
    rw [ho] at c2
    have HD := Lib.hid h
    clear h e1 ho
    go_enter Try.func27, Try.ntmps27
    go_wp2_with fail
    go_end0
    exact ⟨rfl, HD.out, OnlyP.refl _ _⟩
  · have ho' : s.off = false := by simpa using ho
    have e1 : s.arm n = { s with plan := max n (-1) } := by unfold DS.arm; rw [if_neg ho]
    rw [e1]
    rw [ho'] at c2
    have fin : ∀ x : Int, x = max n (-1) → Dk (w.setCell ⟨p, 3, none⟩ (.int .i64 x)) n0 p m { s with plan := max n (-1) } v ∧ OnlyP (fun k => k = p) w (w.setCell ⟨p, 3, none⟩ (.int .i64 x)) := by
      rintro x rfl
      have ho2 := OnlyP.set (fun k => k = p) w ⟨p, 3, none⟩ (.int .i64 (max n (-1))) rfl
      exact ⟨h.setBox (h.box.set 3 (.int .i64 (max n (-1)))) ho2 rfl h.room0 h.room1 (by show -1 ≤ max n (-1); omega) (by show max n (-1) ≤ _; omega), ho2⟩
    have FIN := Lib.hid fin
    clear fin h e1 ho ho'
    go_enter Try.func27, Try.ntmps27
    go_wp2_with fail
    all_goals
      go_end0
      exact ⟨rfl, FIN.out _ (by omega)⟩
end Go.Proofs.Ytafmapcblcnccaa
