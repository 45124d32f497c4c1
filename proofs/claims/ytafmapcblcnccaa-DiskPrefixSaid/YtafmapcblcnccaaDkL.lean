/- Package disk: Sync; New with a bad room. -/
import Derived.Test.YtafmapcblcnccaaDkK
namespace Go.Proofs.Ytafmapcblcnccaa
open Go.RowKit Go.Shelf
set_option linter.unusedVariables false

def DS.sync (s : DS) : Int × DS := if s.off = true then (19, s) else if s.stepOk = false then (19, s.step) else (0, { s.step with f := settleF s.f })
theorem settle_any {n0 p m : Nat} {s : DS} {v : Value} (w : World) (h : Dk w n0 p m s v) (hk : keyD s.f) :
    Calls Try.prog 54 #[.pointer (some ⟨p, 0, none⟩)] w fun e w' => e = .returned (.tuple #[]) ∧ Dk w' n0 p m { s with f := settleF s.f } v ∧ OnlyP (fun k => k = m) w w' := by
  cases hf : s.f with
  | none =>
    refine (settle_none w h hf).mono ?_
    rintro e w' ⟨rfl, hb⟩
    have h2 := h.step hb
    refine ⟨rfl, ⟨h2.box, ?_, ?_, h2.room0, h2.room1, h2.plan0, h2.plan1, h2.basep, h2.basem⟩, OnlyP.of_below hb⟩
    · have := h2.map; rw [hf] at this; exact this
    · have := h2.row; rw [hf] at this; exact this
  | some x =>
    obtain ⟨n, bs, d⟩ := x
    rw [hf] at hk
    exact settle_some w h n bs d hf hk.1 hk.2
set_option maxHeartbeats 4000000 in
theorem syncD_any {n0 p m : Nat} {s : DS} {v : Value} (w : World) (h : Dk w n0 p m s v) (hk : keyD s.f) :
    Calls Try.prog 29 #[.pointer (some ⟨p, 0, none⟩)] w fun e w' => e = .returned (.int .i64 s.sync.1) ∧ Dk w' n0 p m s.sync.2 v ∧ OnlyP (fun k => k = p ∨ k = m) w w' := by
  have c2 := h.box.cell 2
  by_cases hoff : s.off = true
  · have e1 : s.sync = (19, s) := by unfold DS.sync; rw [if_pos hoff]
    rw [e1]
    rw [hoff] at c2
    have HD := Lib.hid h
    clear h e1 hoff hk
    go_enter Try.func29, Try.ntmps29
    go_wp2_with fail
    go_ret
    exact ⟨rfl, HD.out, OnlyP.refl _ _⟩
  · have hoff' : s.off = false := by simpa using hoff
    rw [hoff'] at c2
    have HST := Lib.hid (stepD_any w h)
    by_cases hst : s.stepOk = false
    · have e1 : s.sync = (19, s.step) := by unfold DS.sync; rw [if_neg hoff, if_pos hst]
      rw [e1]
      have HS := Lib.hid hst
      clear h e1 hoff hoff' hst hk
      go_enter Try.func29, Try.ntmps29
      go_wp2_with fail
      refine HST.out.mono ?_
      rintro e w2 ⟨rfl, h2, o2⟩
      rw [HS.out]
      dsimp only
      go_wp2_with fail
      go_ret
      exact ⟨rfl, h2, o2.mono (fun i e => .inl e)⟩
    · have hst' : s.stepOk = true := by simpa using hst
      have e1 : s.sync = (0, { s.step with f := settleF s.f }) := by unfold DS.sync; rw [if_neg hoff, if_neg hst]
      rw [e1]
      have HS := Lib.hid hst'
      have HK := Lib.hid hk
      clear h e1 hoff hoff' hst hst' hk
      go_enter Try.func29, Try.ntmps29
      go_wp2_with fail
      refine HST.out.mono ?_
      rintro e w2 ⟨rfl, h2, o2⟩
      rw [HS.out]
      dsimp only
      go_wp2_with fail
      refine (settle_any w2 h2 (by rw [step_f]; exact HK.out)).mono ?_
      rintro e w3 ⟨rfl, h3, o3⟩
      rw [step_f] at h3
      dsimp only
      go_wp2_with fail
      go_ret
      exact ⟨rfl, h3, (o2.mono (fun i e => .inl e)).trans (o3.mono (fun i e => .inr e))⟩
set_option maxHeartbeats 4000000 in
theorem newD_bad (room : Int) (hb : room < 0 ∨ 16777216 < room) (w : World) :
    Calls Try.prog 13 #[.int .i64 room] w fun e w' => e = .returned (.tuple #[.pointer none, .int .i64 1]) ∧ w' = w := by
  go_enter Try.func13, Try.ntmps13
  by_cases h0 : room < 0
  · clear hb
    go_wp2_with fail
    go_ret2
    exact ⟨rfl, rfl⟩
  · have h1 : 16777216 < room := by omega
    clear hb
    go_wp2_with fail
    go_ret2
    exact ⟨rfl, rfl⟩
end Go.Proofs.Ytafmapcblcnccaa
