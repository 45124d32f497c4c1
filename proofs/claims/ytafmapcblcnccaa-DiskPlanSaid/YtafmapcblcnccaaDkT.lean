/- Package disk: a planned failure, as the law goes through it. -/
import Derived.Test.YtafmapcblcnccaaDkS
namespace Go.Proofs.Ytafmapcblcnccaa
open Go.RowKit Go.Shelf
set_option linter.unusedVariables false

/-- The disk before operation k, with a failure planned after M steps, and sz bytes in file 1. -/
structure PS (M k sz : Nat) (s : DS) : Prop where
  room : s.room = 1000
  off : s.off = decide (M < k)
  plan : s.plan = if M < k then -1 else (M : Int) - (k : Int)
  f : (sz = 0 ∧ s.f = none) ∨ ∃ bs d, s.f = some (1, bs, d) ∧ bs.length = sz
def PlanSt (w : World) (n0 p m M k sz : Nat) (w' : World) : Prop := ∃ s v, PS M k sz s ∧ Dk w' n0 p m s v ∧ Below n0 w w'
section
variable {M k sz : Nat} {s : DS}
theorem PS.len (h : PS M k sz s) : lenD s.f = sz := by
  rcases h.f with ⟨h1, h2⟩ | ⟨bs, d, h1, h2⟩
  · rw [h2, h1]; rfl
  · rw [h1]; exact h2
theorem PS.bytes (h : PS M k sz s) : (bytesAt s.f 1).length = sz := by
  rcases h.f with ⟨h1, h2⟩ | ⟨bs, d, h1, h2⟩
  · rw [h2, h1]; rfl
  · rw [h1]; simpa [bytesAt] using h2
theorem PS.key (h : PS M k sz s) : keyD s.f := by
  rcases h.f with ⟨h1, h2⟩ | ⟨bs, d, h1, h2⟩
  · rw [h2]; trivial
  · rw [h1]; exact ⟨by decide, by decide⟩
/-- A step, the power on before it. -/
theorem PS.step (h : PS M k sz s) (hk : k ≤ M) : PS M (k + 1) sz s.step ∧ s.stepOk = decide (k < M) := by
  have hp := h.plan
  have ho := h.off
  rw [if_neg (by omega)] at hp
  rw [decide_eq_false (by omega)] at ho
  by_cases hM : k < M
  · have e : s.step = { s with plan := s.plan - 1 } := by unfold DS.step; rw [if_neg (by omega), if_pos (by omega)]
    rw [e]
    refine ⟨⟨h.room, ?_, ?_, h.f⟩, ?_⟩
    · show s.off = _
      rw [ho, decide_eq_false (by omega)]
    · show s.plan - 1 = _
      rw [if_neg (by omega), hp]; omega
    · unfold DS.stepOk
      rw [decide_eq_true hM, decide_eq_true (show 0 < s.plan by omega), Bool.or_true]
  · have e : s.step = { s with plan := -1, off := true } := by unfold DS.step; rw [if_neg (by omega), if_neg (by omega)]
    rw [e]
    refine ⟨⟨h.room, ?_, ?_, h.f⟩, ?_⟩
    · show true = _
      rw [decide_eq_true (by omega)]
    · show (-1 : Int) = _
      rw [if_pos (by omega)]
    · unfold DS.stepOk
      rw [decide_eq_false hM, decide_eq_false (show ¬ 0 < s.plan by omega), Bool.or_false]
      have : s.plan ≠ -1 := by omega
      simpa using this
theorem PS.stay (h : PS M k sz s) (hk : M < k) : PS M (k + 1) sz s := by
  refine ⟨h.room, ?_, ?_, h.f⟩
  · rw [h.off, decide_eq_true hk, decide_eq_true (by omega)]
  · rw [h.plan, if_pos hk, if_pos (by omega)]
end
theorem PlanSt.after {w w1 w2 : World} {n0 p m M k sz : Nat} {s s' : DS} {v : Value} (hD : Dk w1 n0 p m s v) (hb : Below n0 w w1) (h : DkAfter w1 w2 n0 p m s' v) (hP : PS M k sz s') : PlanSt w n0 p m M k sz w2 := by
  obtain ⟨v', h1, h2, _⟩ := h
  exact ⟨s', v', hP, h1, hb.trans (hD.below h2 (Nat.le_refl _))⟩
/-- Laying a literal leaves the disk. -/
theorem PlanSt.below {w w1 w2 : World} {n0 p m M k sz : Nat} (h : PlanSt w n0 p m M k sz w1) (hb : Below w1.heap.size w1 w2) : PlanSt w n0 p m M k sz w2 := by
  obtain ⟨s, v, h1, h2, h3⟩ := h
  exact ⟨s, v, h1, h2.step hb, h3.trans (hb.mono (by have := h2.basep; have := h2.box.lt; omega))⟩
theorem planApp {w w1 : World} {n0 p m M k sz : Nat} (err : Int) (sz' : Nat) (he : (if k < M then (0 : Int) else 19) = err) (hs : (if k ≤ M then sz + 1 else sz) = sz') (h : PlanSt w n0 p m M k sz w1) (hsz : sz ≤ 12) (a : Option Addr) (c : Nat) (hr : Row .u8 w1.heap.size w1 (.slice a 1 c) [5]) :
    Calls Try.prog 21 #[.pointer (some ⟨p, 0, none⟩), .int .i64 1, .slice a 1 c] w1 fun e w' => e = .returned (.int .i64 err) ∧ PlanSt w n0 p m M (k + 1) sz' w' := by
  obtain ⟨s, v, hP, hD, hb⟩ := h
  have hone : ∀ n' bs d, s.f = some (n', bs, d) → (1 : Int) ≠ n' → ([5] : List Int) = [] := by
    intro n' bs d hf hn
    rcases hP.f with ⟨_, h2⟩ | ⟨bs', d', h1, _⟩
    · rw [h2] at hf; cases hf
    · rw [h1] at hf; cases hf; exact absurd rfl hn
  refine (append_any w1 hD 1 a c [5] hr (by decide) (by decide) hone).mono ?_
  rintro e w' ⟨rfl, hA⟩
  have hroom : ¬ s.room < (lenD s.f : Int) + ([5] : List Int).length := by
    rw [hP.room, hP.len]
    show ¬ (1000 : Int) < (sz : Int) + 1
    omega
  by_cases hk : k ≤ M
  · have hoff : ¬ s.off = true := by rw [hP.off, decide_eq_false (by omega)]; decide
    have ea : s.app 1 [5] = (errA s.stepOk, { s.step with f := newF s.f 1 [5] }) := by
      unfold DS.app
      rw [if_neg (by decide), if_neg hoff, if_neg hroom]
    rw [ea] at hA
    rw [ea]
    obtain ⟨h1, h2⟩ := hP.step hk
    refine ⟨?_, PlanSt.after hD hb hA ⟨h1.room, h1.off, h1.plan, .inr ?_⟩⟩
    · rw [← he]
      dsimp only
      rw [h2]
      unfold errA
      by_cases hM : k < M
      · rw [if_pos hM, decide_eq_true hM, if_pos rfl]
      · rw [if_neg hM, decide_eq_false hM, if_neg (by decide)]
    · rw [if_pos hk] at hs
      rcases hP.f with ⟨h3, h4⟩ | ⟨bs, d, h3, h4⟩
      · exact ⟨[5], 0, by show newF s.f 1 [5] = _; rw [h4]; rfl, by rw [← hs, h3]; rfl⟩
      · exact ⟨bs ++ [5], d, by show newF s.f 1 [5] = _; rw [h3]; simp [newF], by rw [← hs, List.length_append, h4]; rfl⟩
  · have hoff : s.off = true := by rw [hP.off, decide_eq_true (by omega)]
    have ea : s.app 1 [5] = (19, s) := by
      unfold DS.app
      rw [if_neg (by decide), if_pos hoff]
    rw [ea] at hA
    rw [ea]
    rw [if_neg hk] at hs
    rw [if_neg (by omega)] at he
    subst hs he
    exact ⟨rfl, PlanSt.after hD hb hA (hP.stay (by omega))⟩
theorem planSync {w w1 : World} {n0 p m M k sz : Nat} (err : Int) (he : (if k < M then (0 : Int) else 19) = err) (h : PlanSt w n0 p m M k sz w1) :
    Calls Try.prog 29 #[.pointer (some ⟨p, 0, none⟩)] w1 fun e w' => e = .returned (.int .i64 err) ∧ PlanSt w n0 p m M (k + 1) sz w' := by
  obtain ⟨s, v, hP, hD, hb⟩ := h
  refine (sync_is (s' := s.sync.2) w1 hD hP.key s.sync.1 rfl).mono ?_
  rintro e w' ⟨rfl, hA⟩
  by_cases hk : k ≤ M
  · have hoff : ¬ s.off = true := by rw [hP.off, decide_eq_false (by omega)]; decide
    obtain ⟨h1, h2⟩ := hP.step hk
    by_cases hM : k < M
    · have ea : s.sync = (0, { s.step with f := settleF s.f }) := by
        unfold DS.sync
        rw [if_neg hoff, h2, decide_eq_true hM, if_neg (by decide)]
      rw [ea] at hA
      rw [ea]
      rw [if_pos hM] at he
      subst he
      refine ⟨rfl, PlanSt.after hD hb hA ⟨h1.room, h1.off, h1.plan, ?_⟩⟩
      rcases hP.f with ⟨h3, h4⟩ | ⟨bs, d, h3, h4⟩
      · exact .inl ⟨h3, by show settleF s.f = none; rw [h4]; rfl⟩
      · exact .inr ⟨bs, bs.length, by show settleF s.f = _; rw [h3]; rfl, h4⟩
    · have ea : s.sync = (19, s.step) := by
        unfold DS.sync
        rw [if_neg hoff, h2, decide_eq_false hM, if_pos rfl]
      rw [ea] at hA
      rw [ea]
      rw [if_neg hM] at he
      subst he
      exact ⟨rfl, PlanSt.after hD hb hA h1⟩
  · have hoff : s.off = true := by rw [hP.off, decide_eq_true (by omega)]
    have ea : s.sync = (19, s) := by unfold DS.sync; rw [if_pos hoff]
    rw [ea] at hA
    rw [ea]
    rw [if_neg (by omega)] at he
    subst he
    exact ⟨rfl, PlanSt.after hD hb hA (hP.stay (by omega))⟩
theorem planTr {w w1 : World} {n0 p m M k sz : Nat} (err : Int) (sz' : Nat) (he : (if k < M then (0 : Int) else 19) = err) (hs : (if k < M then sz - 1 else sz) = sz') (h : PlanSt w n0 p m M k sz w1) (h0 : 0 < sz) (x : Int) (hx : x = (sz : Int) - 1) :
    Calls Try.prog 23 #[.pointer (some ⟨p, 0, none⟩), .int .i64 1, .int .i64 x] w1 fun e w' => e = .returned (.int .i64 err) ∧ PlanSt w n0 p m M (k + 1) sz' w' := by
  obtain ⟨s, v, hP, hD, hb⟩ := h
  refine (truncD_any w1 hD 1 x).mono ?_
  rintro e w' ⟨rfl, hA⟩
  have hbad : ¬ (¬ (0 ≤ (1 : Int) ∧ (1 : Int) < 64) ∨ x < 0 ∨ ((bytesAt s.f 1).length : Int) < x) := by
    rw [hP.bytes]
    rintro (h5 | h5 | h5)
    · exact h5 ⟨by decide, by decide⟩
    · omega
    · omega
  by_cases hk : k ≤ M
  · have hoff : ¬ s.off = true := by rw [hP.off, decide_eq_false (by omega)]; decide
    obtain ⟨h1, h2⟩ := hP.step hk
    by_cases hM : k < M
    · have ea : s.tr 1 x = (0, s.step.cut 1 x.toNat) := by
        unfold DS.tr
        rw [if_neg hbad, if_neg hoff, h2, decide_eq_true hM, if_neg (by decide)]
      rw [ea] at hA
      rw [ea]
      rw [if_pos hM] at he hs
      subst he hs
      refine ⟨rfl, PlanSt.after hD hb hA ⟨h1.room, h1.off, h1.plan, ?_⟩⟩
      have hxn : x.toNat = sz - 1 := by omega
      rcases hP.f with ⟨h3, h4⟩ | ⟨bs, d, h3, h4⟩
      · omega
      · have ef : (s.step.cut 1 x.toNat).f = if x.toNat = 0 then none else some (1, bs.take x.toNat, min d x.toNat) := by
          show cutF s.step.f 1 x.toNat = _
          rw [step_f, h3]
          simp [cutF]
        rw [ef]
        by_cases hz : x.toNat = 0
        · rw [if_pos hz]
          exact .inl ⟨by omega, rfl⟩
        · rw [if_neg hz]
          exact .inr ⟨_, _, rfl, by rw [List.length_take]; omega⟩
    · have ea : s.tr 1 x = (19, s.step) := by
        unfold DS.tr
        rw [if_neg hbad, if_neg hoff, h2, decide_eq_false hM, if_pos rfl]
      rw [ea] at hA
      rw [ea]
      rw [if_neg hM] at he hs
      subst he hs
      exact ⟨rfl, PlanSt.after hD hb hA h1⟩
  · have hoff : s.off = true := by rw [hP.off, decide_eq_true (by omega)]
    have ea : s.tr 1 x = (19, s) := by
      unfold DS.tr
      rw [if_neg hbad, if_pos hoff]
    rw [ea] at hA
    rw [ea]
    rw [if_neg (by omega)] at he hs
    subst he hs
    exact ⟨rfl, PlanSt.after hD hb hA (hP.stay (by omega))⟩
theorem planOn {w w1 : World} {n0 p m M k sz : Nat} (b : Bool) (hb : decide (k ≤ M) = b) (h : PlanSt w n0 p m M k sz w1) : Calls Try.prog 28 #[.pointer (some ⟨p, 0, none⟩)] w1 fun e w' => e = .returned (.bool b) ∧ w' = w1 := by
  obtain ⟨s, v, hP, hD, _⟩ := h
  refine (on_any w1 hD).mono ?_
  rintro e w' ⟨rfl, rfl⟩
  refine ⟨?_, rfl⟩
  rw [← hb, hP.off]
  by_cases h : k ≤ M
  · rw [decide_eq_true h, decide_eq_false (by omega)]; rfl
  · rw [decide_eq_false h, decide_eq_true (by omega)]; rfl
theorem planUsed {w w1 : World} {n0 p m M k sz : Nat} (h : PlanSt w n0 p m M k sz w1) : Calls Try.prog 24 #[.pointer (some ⟨p, 0, none⟩)] w1 fun e w' => e = .returned (.int .i64 (sz : Int)) ∧ PlanSt w n0 p m M k sz w' := by
  have h' := h
  obtain ⟨s, v, hP, hD, hb⟩ := h'
  refine (used_any w1 hD).mono ?_
  rintro e w' ⟨rfl, b2⟩
  exact ⟨by rw [hP.len], h.below b2⟩
/-- The disk at the end. -/
def PlanEnd (w : World) (n0 p m sz : Nat) (w' : World) : Prop := ∃ s v, (s.off = false ∧ s.plan = -1 ∧ (bytesAt s.f 1).length = sz ∧ keyD s.f ∧ lenD s.f = sz) ∧ Dk w' n0 p m s v ∧ Below n0 w w'
theorem planCrash {w w1 : World} {n0 p m M k sz : Nat} (h : PlanSt w n0 p m M k sz w1) (hsz : sz ≤ 12) (a : Option Addr) (c : Nat) (hr : Row .i64 w1.heap.size w1 (.slice a 1 c) [1000]) :
    Calls Try.prog 32 #[.pointer (some ⟨p, 0, none⟩), .slice a 1 c, .int .i64 (-1)] w1 fun e w' => e = .returned (.tuple #[]) ∧ PlanEnd w n0 p m sz w' := by
  obtain ⟨s, v, hP, hD, hb⟩ := h
  refine (crash_is w1 hD hP.key a 1 c [1000] rfl hr (-1) rfl).mono ?_
  rintro e w' ⟨rfl, v', h1, h2, _⟩
  refine ⟨rfl, _, v', ⟨rfl, rfl, ?_⟩, h1, hb.trans (hD.below h2 (Nat.le_refl _))⟩
  show (bytesAt (crashF s.f [1000] (-1)) 1).length = sz ∧ keyD (crashF s.f [1000] (-1)) ∧ lenD (crashF s.f [1000] (-1)) = sz
  have hrow := hD.row
  rcases hP.f with ⟨h3, h4⟩ | ⟨bs, d, h3, h4⟩
  · rw [h4, h3]
    exact ⟨rfl, trivial, rfl⟩
  · rw [h3] at hrow
    rw [h3]
    have hd := hrow.2.2.1
    have h0 := hrow.2.1
    have hsv : surv [1000] bs.length d = bs.length - d := by
      unfold surv
      have e : ([1000] : List Int)[0]?.getD 0 = 1000 := rfl
      rw [if_pos (by decide), e]
      omega
    have hcb : crashB bs d [1000] (-1) = bs := by
      unfold crashB
      rw [hsv, if_neg (by omega), List.take_of_length_le (by omega)]
    have ef : crashF (some (1, bs, d)) [1000] (-1) = some (1, bs, bs.length) := by
      show (if d + surv [1000] bs.length d = 0 then none else some (1, crashB bs d [1000] (-1), (crashB bs d [1000] (-1)).length)) = _
      rw [hcb, hsv, if_neg (by omega)]
    rw [ef]
    exact ⟨by simpa [bytesAt] using h4, ⟨by decide, by decide⟩, h4⟩
theorem planNew {w w1 : World} {M : Nat} {p : Nat} (hD : Dk w1 w.heap.size p w.heap.size (newDS 1000) (.slice none 0 0)) (hb : Below w.heap.size w w1) (hM : (M : Int) ≤ 9223372036854775807) :
    Calls Try.prog 27 #[.pointer (some ⟨p, 0, none⟩), .int .i64 (M : Int)] w1 fun e w' => e = .returned (.tuple #[]) ∧ PlanSt w w.heap.size p w.heap.size M 0 0 w' := by
  refine (arm_any (M : Int) hM w1 hD).mono ?_
  rintro e w' ⟨rfl, h1, h2⟩
  refine ⟨rfl, _, _, ⟨rfl, rfl, ?_, .inl ⟨rfl, rfl⟩⟩, h1, hb.trans (hD.below (h2.mono (fun i e => .inl e)) (Nat.le_refl _))⟩
  show max (M : Int) (-1) = _
  rw [if_neg (by omega)]
  omega
end Go.Proofs.Ytafmapcblcnccaa
