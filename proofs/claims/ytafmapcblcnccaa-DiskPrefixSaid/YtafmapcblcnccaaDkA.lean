/- Package disk: a disk with at most one file, plainly; its small functions. -/
import Derived.Test.YtafmapcblcnccaaOnly
import Derived.Test.YtafmapcblcnccaaMapR
import Derived.Test.YtafmapcblcnccaaAppRow
import Derived.IntWalk
namespace Go.Proofs.Ytafmapcblcnccaa
open Go.RowKit Go.Shelf
set_option linter.unusedVariables false

/-- A disk: its room, its plan, is it off, and its file: number, bytes, durable ones. -/
structure DS where
  room : Int
  plan : Int
  off : Bool
  f : Option (Int × List Int × Nat)
/-- The entries of the map, v the file's bytes. -/
def entD (v : Value) : Option (Int × List Int × Nat) → List (Int × Value)
  | none => []
  | some (n, bs, d) => [(n, .agg #[v, .int .i64 (d : Int)])]
/-- The file's bytes are a row of its own. -/
def rowD (W : World) (n0 : Nat) (v : Value) : Option (Int × List Int × Nat) → Prop
  | none => v = .slice none 0 0
  | some (n, bs, d) => W.ownsRow n0 5 1 v bs.length (bs.map (Value.int .u8)) ∧ 0 < bs.length ∧ d ≤ bs.length ∧ bs.length ≤ 16777216 ∧ (∀ x ∈ bs, 0 ≤ x ∧ x < 256)
structure Dk (W : World) (n0 p m : Nat) (s : DS) (v : Value) : Prop where
  box : Cel W p 74 #[.int .i64 s.room, .map (some m), .bool s.off, .int .i64 s.plan]
  map : MapL W m (entD v s.f)
  row : rowD W n0 v s.f
  room0 : 0 ≤ s.room
  room1 : s.room ≤ 16777216
  plan0 : -1 ≤ s.plan
  plan1 : s.plan ≤ 9223372036854775807
  basep : n0 ≤ p
  basem : n0 ≤ m
/-- The blocks of a disk. -/
def DkB (p m : Nat) (v : Value) (k : Nat) : Prop := k = p ∨ k = m ∨ v.ownBlock = some k
def DS.stepOk (s : DS) : Bool := s.plan == -1 || decide (0 < s.plan)
/-- The disk behind a step. -/
def DS.step (s : DS) : DS := if s.plan = -1 then s else if 0 < s.plan then { s with plan := s.plan - 1 } else { s with plan := -1, off := true }
section
variable {W W' : World} {n0 p m : Nat} {s : DS} {v : Value}
theorem cel_ne {b b' : Nat} {t t' : TypeId} {cs cs' : Array Value} (h : Cel W b t cs) (h' : Cel W b' t' cs') (ht : t ≠ t') : b ≠ b' := by
  rintro rfl
  unfold Cel at h h'
  rw [h] at h'
  injection h' with h'
  injection h' with _ h' _
  exact ht h'
theorem Dk.pm (h : Dk W n0 p m s v) : p ≠ m := by
  rintro rfl
  obtain ⟨es, clock, hb, _⟩ := h.map
  have := h.box
  unfold Cel at this
  rw [this] at hb
  cases hb
theorem rowD.at {f : Option (Int × List Int × Nat)} (h : rowD W n0 v f) {b : Nat} (hb : v.ownBlock = some b) : n0 ≤ b ∧ ∃ cur, W.heap[b]? = some (.cells cur 5 (0, 0)) := by
  cases f with
  | none => rw [h] at hb; cases hb
  | some x =>
    obtain ⟨n, bs, d⟩ := x
    rcases h.1.2 with ⟨rfl, _⟩ | ⟨g, cap, cur, rfl, hg, hh, _⟩
    · cases hb
    · obtain rfl : g = b := by simpa [Value.ownBlock] using hb
      exact ⟨hg, cur, hh⟩
theorem Dk.vp (h : Dk W n0 p m s v) : v.ownBlock ≠ some p := by
  intro e
  obtain ⟨_, cur, hh⟩ := h.row.at e
  exact cel_ne (b := p) (b' := p) hh h.box (by decide) rfl
theorem Dk.vm (h : Dk W n0 p m s v) : v.ownBlock ≠ some m := by
  intro e
  obtain ⟨_, cur, hh⟩ := h.row.at e
  obtain ⟨es, clock, hb, _⟩ := h.map
  rw [hh] at hb
  cases hb
theorem rowD.same {f : Option (Int × List Int × Nat)} (h : rowD W n0 v f) (hb : ∀ b, v.ownBlock = some b → W'.heap[b]? = W.heap[b]?) : rowD W' n0 v f := by
  cases f with
  | none => exact h
  | some x =>
    obtain ⟨n, bs, d⟩ := x
    refine ⟨⟨h.1.1, ?_⟩, h.2⟩
    rcases h.1.2 with h2 | ⟨g, cap, cur, rfl, hg, hh, h3⟩
    · exact .inl h2
    · exact .inr ⟨g, cap, cur, rfl, hg, by rw [hb g rfl]; exact hh, h3⟩
theorem Dk.only {q : Nat → Prop} (h : Dk W n0 p m s v) (ho : OnlyP q W W') (hq : ∀ k, DkB p m v k → ¬ q k) : Dk W' n0 p m s v := by
  refine ⟨h.box.only ho (hq p (.inl rfl)), ?_, h.row.same (fun b hb => ?_), h.room0, h.room1, h.plan0, h.plan1, h.basep, h.basem⟩
  · have hl := h.map.lt
    obtain ⟨es, clock, hb, h2⟩ := h.map
    exact ⟨es, clock, (ho.block m hl (hq m (.inr (.inl rfl)))).trans hb, h2⟩
  · obtain ⟨_, cur, hh⟩ := h.row.at hb
    exact ho.block b (Array.getElem?_eq_some_iff.1 hh).1 (hq b (.inr (.inr hb)))
theorem Dk.step (h : Dk W n0 p m s v) (hb : Below W.heap.size W W') : Dk W' n0 p m s v := h.only (q := fun _ => False) (OnlyP.of_below hb) (fun _ _ h => h)
/-- The box is stored anew. -/
theorem Dk.setBox {s' : DS} (h : Dk W n0 p m s v) (hb : Cel W' p 74 #[.int .i64 s'.room, .map (some m), .bool s'.off, .int .i64 s'.plan]) (ho : OnlyP (fun k => k = p) W W') (hf : s'.f = s.f) (h0 : 0 ≤ s'.room) (h1 : s'.room ≤ 16777216) (h2 : -1 ≤ s'.plan) (h3 : s'.plan ≤ 9223372036854775807) : Dk W' n0 p m s' v := by
  refine ⟨hb, ?_, ?_, h0, h1, h2, h3, h.basep, h.basem⟩
  · rw [hf]
    have hl := h.map.lt
    obtain ⟨es, clock, hb, h2⟩ := h.map
    exact ⟨es, clock, (ho.block m hl (Ne.symm h.pm)).trans hb, h2⟩
  · rw [hf]
    refine h.row.same (fun b hb => ?_)
    obtain ⟨_, cur, hh⟩ := h.row.at hb
    exact ho.block b (Array.getElem?_eq_some_iff.1 hh).1 (fun e => h.vp (by rw [hb, e]))
end
theorem isFile_any (n : Int) (w : World) : Calls Try.prog 49 #[.int .i64 n] w fun e w' => e = .returned (.bool (decide (0 ≤ n) && decide (n < 64))) ∧ w' = w := by
  go_enter Try.func49, Try.ntmps49
  by_cases h0 : 0 ≤ n
  · by_cases h1 : n < 64
    · go_wp2_with fail
      go_ret
      refine ⟨?_, rfl⟩
      simp [h0, h1]
    · go_wp2_with fail
      go_ret
      refine ⟨?_, rfl⟩
      simp [h1]
  · go_wp2_with fail
    go_ret
    refine ⟨?_, rfl⟩
    simp
    omega
set_option maxHeartbeats 4000000 in
theorem stepD_any {n0 p m : Nat} {s : DS} {v : Value} (w : World) (h : Dk w n0 p m s v) :
    Calls Try.prog 50 #[.pointer (some ⟨p, 0, none⟩)] w fun e w' => e = .returned (.bool s.stepOk) ∧ Dk w' n0 p m s.step v ∧ OnlyP (fun k => k = p) w w' := by
  have c0 := h.box.cell 0
  have c1 := h.box.cell 1
  have c2 := h.box.cell 2
  have c3 := h.box.cell 3
  have f2 := h.box.free 2
  have f3 := h.box.free 3
  have hp0 := h.plan0
  have hp1 := h.plan1
  have HD := Lib.hid h
  by_cases h1 : s.plan = -1
  · have e1 : s.stepOk = true := by unfold DS.stepOk; simp [h1]
    have e2 : s.step = s := by unfold DS.step; simp [h1]
    rw [e1, e2]
    have hpl : s.plan = -1 := h1
    generalize s.plan = pl at *
    subst h1
    clear h
    go_enter Try.func50, Try.ntmps50
    go_wp2_with fail
    go_ret
    exact ⟨rfl, HD.out, OnlyP.refl _ _⟩
  · by_cases h2 : 0 < s.plan
    · have e1 : s.stepOk = true := by unfold DS.stepOk; simp [h2]
      have e2 : s.step = { s with plan := s.plan - 1 } := by unfold DS.step; rw [if_neg h1, if_pos h2]
      have hw : IntKind.i64.wrap (s.plan - 1) = s.plan - 1 := IntWalk.i64_in _ (by omega)
      have hc := Lib.hid ((h.box.set 3 (.int .i64 (s.plan - 1))))
      rw [e1, e2]
      have hb : (s.plan == -1) = false := by simpa using h1
      have fin : ∀ W', W' = w.setCell ⟨p, 3, none⟩ (.int .i64 (s.plan - 1)) → Dk W' n0 p m { s with plan := s.plan - 1 } v ∧ OnlyP (fun k => k = p) w W' := by
        rintro W' rfl
        have ho := OnlyP.set (fun k => k = p) w ⟨p, 3, none⟩ (.int .i64 (s.plan - 1)) rfl
        exact ⟨h.setBox hc.out ho rfl h.room0 h.room1 (by show -1 ≤ s.plan - 1; omega) (by show s.plan - 1 ≤ _; omega), ho⟩
      have FIN := Lib.hid fin
      clear fin h hc
      generalize s.plan = pl at *
      go_enter Try.func50, Try.ntmps50
      go_wp2_with fail
      go_ret
      exact ⟨rfl, FIN.out _ rfl⟩
    · have h3 : s.plan = 0 := by omega
      have e1 : s.stepOk = false := by unfold DS.stepOk; simp [h3]
      have e2 : s.step = { s with plan := -1, off := true } := by unfold DS.step; rw [if_neg h1, if_neg h2]
      rw [e1, e2]
      have fin : ∀ W', W' = (w.setCell ⟨p, 2, none⟩ (.bool true)).setCell ⟨p, 3, none⟩ (.int .i64 (-1)) ∨ W' = (w.setCell ⟨p, 3, none⟩ (.int .i64 (-1))).setCell ⟨p, 2, none⟩ (.bool true) → Dk W' n0 p m { s with plan := -1, off := true } v ∧ OnlyP (fun k => k = p) w W' := by
        intro W' hW
        have ho : OnlyP (fun k => k = p) w W' := by
          rcases hW with rfl | rfl <;> exact (OnlyP.set (fun k => k = p) _ _ _ rfl).trans (OnlyP.set (fun k => k = p) _ _ _ rfl)
        refine ⟨h.setBox ?_ ho rfl h.room0 h.room1 (show (-1 : Int) ≤ -1 from by decide) (show (-1 : Int) ≤ 9223372036854775807 from by decide), ho⟩
        rcases hW with rfl | rfl
        · exact (h.box.set 2 (.bool true)).set 3 (.int .i64 (-1))
        · exact (h.box.set 3 (.int .i64 (-1))).set 2 (.bool true)
      have FIN := Lib.hid fin
      clear fin h
      generalize s.plan = pl at *
      subst h3
      clear h1 h2
      go_enter Try.func50, Try.ntmps50
      go_wp2_with fail
      go_ret
      exact ⟨rfl, FIN.out _ (.inl rfl)⟩
end Go.Proofs.Ytafmapcblcnccaa
