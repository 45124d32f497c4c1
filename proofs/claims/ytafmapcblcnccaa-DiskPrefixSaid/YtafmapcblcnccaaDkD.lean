/- Package disk: Append, whole. -/
import Derived.Test.YtafmapcblcnccaaDkC
namespace Go.Proofs.Ytafmapcblcnccaa
open Go.RowKit Go.Shelf
set_option linter.unusedVariables false

/-- The file behind an Append. -/
def newF (f : Option (Int × List Int × Nat)) (n : Int) (b : List Int) : Option (Int × List Int × Nat) :=
  match f with
  | none => if b.length = 0 then none else some (n, b, 0)
  | some (n', bs, d) => if n = n' then some (n', bs ++ b, d) else some (n', bs, d)
/-- What Append returns, and the disk behind it. -/
def DS.app (s : DS) (n : Int) (b : List Int) : Int × DS :=
  if ¬ (0 ≤ n ∧ n < 64) then (1, s) else if s.off = true then (19, s) else if s.room < (lenD s.f : Int) + b.length then (18, s) else (errA s.stepOk, { s.step with f := newF s.f n b })
/-- A disk behind a call; v was its file's row. -/
def DkAfter (w w' : World) (n0 p m : Nat) (s' : DS) (v : Value) : Prop :=
  ∃ v', Dk w' n0 p m s' v' ∧ OnlyP (DkB p m v) w w' ∧ (v'.ownBlock = v.ownBlock ∨ v'.ownBlock = none ∨ ∃ k, v'.ownBlock = some k ∧ w.heap.size ≤ k)
theorem DkAfter.same {w : World} {n0 p m : Nat} {s : DS} {v : Value} (h : Dk w n0 p m s v) : DkAfter w w n0 p m s v := ⟨v, h, OnlyP.refl _ _, .inl rfl⟩
theorem DkAfter.below {w w' : World} {n0 p m : Nat} {s : DS} {v : Value} (h : Dk w n0 p m s v) (hb : Below w.heap.size w w') : DkAfter w w' n0 p m s v := ⟨v, h.step hb, OnlyP.of_below hb, .inl rfl⟩
theorem step_plan {s : DS} (h0 : -1 ≤ s.plan) (h1 : s.plan ≤ 9223372036854775807) : -1 ≤ s.step.plan ∧ s.step.plan ≤ 9223372036854775807 := by
  unfold DS.step
  split
  · exact ⟨h0, h1⟩
  · split
    · exact ⟨by show -1 ≤ s.plan - 1; omega, by show s.plan - 1 ≤ _; omega⟩
    · exact ⟨by show (-1 : Int) ≤ -1; omega, by show (-1 : Int) ≤ _; omega⟩
theorem nil_blk {p m c k : Nat} {v : Value} (e : DkB p m (.slice none 0 c) k) : DkB p m v k := by
  rcases e with e | e | e
  · exact .inl e
  · exact .inr (.inl e)
  · cases e
theorem owns_nil (W : World) (n0 : Nat) (t : TypeId) : W.ownsRow n0 t 1 (.slice none 0 0) ([] : List Int).length (([] : List Int).map (Value.int .u8)) := ⟨by simp, .inl ⟨rfl, rfl⟩⟩
theorem DS.app_ok {s : DS} {n : Int} {b : List Int} (h0 : 0 ≤ n) (h1 : n < 64) (hoff : s.off = false) (hroom : (lenD s.f : Int) + b.length ≤ s.room) : s.app n b = (errA s.stepOk, { s.step with f := newF s.f n b }) := by
  unfold DS.app
  rw [if_neg (fun h => h ⟨h0, h1⟩), if_neg (by rw [hoff]; decide), if_neg (by omega)]
set_option maxHeartbeats 4000000 in
theorem append_ok {n0 p m : Nat} {s : DS} {v : Value} (w : World) (h : Dk w n0 p m s v) (n : Int) (h0 : 0 ≤ n) (h1 : n < 64) (hoff : s.off = false) (ab : Option Addr) (cb : Nat) (b : List Int) (hr : Row .u8 w.heap.size w (.slice ab b.length cb) b)
    (hz : ∀ x ∈ b, 0 ≤ x ∧ x < 256) (hroom : (lenD s.f : Int) + b.length ≤ s.room) (hone : ∀ n' bs d, s.f = some (n', bs, d) → n ≠ n' → b = []) :
    Calls Try.prog 21 #[.pointer (some ⟨p, 0, none⟩), .int .i64 n, .slice ab b.length cb] w fun e w' => e = .returned (.int .i64 (s.app n b).1) ∧ DkAfter w w' n0 p m (s.app n b).2 v := by
  rw [DS.app_ok h0 h1 hoff hroom]
  have hrow := h.row
  have hst := step_plan h.plan0 h.plan1
  have hro : s.step.room = s.room := step_room s
  have r0 := h.room0
  have r1 := h.room1
  cases hf : s.f with
  | none =>
    have hl : (lkL (entD v s.f) n).getD (.agg #[.slice none 0 0, .int .i64 0]) = .agg #[.slice none ([] : List Int).length 0, .int .i64 ((0 : Nat) : Int)] := by rw [hf]; rfl
    refine (appendD_core w h n h0 h1 hoff ab cb b hr hroom none 0 [] 0 hl (owns_nil _ _ _) (Nat.zero_le _)).mono ?_
    rintro e w' ⟨rfl, v1, g1, g2, g3, g4, g5⟩
    rw [List.nil_append] at g1 g2
    rw [hf] at g2 hroom
    refine ⟨rfl, ?_⟩
    by_cases hb : b.length = 0
    · have e1 : newF none n b = none := by simp [newF, hb]
      rw [e1]
      rw [if_pos hb] at g2
      exact ⟨.slice none 0 0, ⟨g3, g2, rfl, by rw [show ({ s.step with f := none } : DS).room = s.step.room from rfl, hro]; exact r0, by rw [show ({ s.step with f := none } : DS).room = s.step.room from rfl, hro]; exact r1, hst.1, hst.2, h.basep, h.basem⟩, g4.mono (fun k e => nil_blk e), .inr (.inl rfl)⟩
    · have e1 : newF none n b = some (n, b, 0) := by simp [newF, hb]
      rw [e1]
      rw [if_neg hb] at g2
      have hl0 : lenD none = 0 := rfl
      refine ⟨v1, ⟨g3, g2, ⟨g1, by omega, Nat.zero_le _, by rw [hl0] at hroom; omega, hz⟩, by rw [show ({ s.step with f := some (n, b, 0) } : DS).room = s.step.room from rfl, hro]; exact r0, by rw [show ({ s.step with f := some (n, b, 0) } : DS).room = s.step.room from rfl, hro]; exact r1, hst.1, hst.2, h.basep, h.basem⟩, g4.mono (fun k e => nil_blk e), ?_⟩
      rcases g5 with g5 | g5
      · exact .inr (.inl g5)
      · exact .inr (.inr g5)
  | some x =>
    obtain ⟨n', bs, d⟩ := x
    rw [hf] at hrow
    obtain ⟨a0, c0, rfl⟩ := hrow.slice
    by_cases hn : n = n'
    · subst hn
      have hl : (lkL (entD (.slice a0 bs.length c0) s.f) n).getD (.agg #[.slice none 0 0, .int .i64 0]) = .agg #[.slice a0 bs.length c0, .int .i64 (d : Int)] := by rw [hf]; simp [entD, lkL]
      refine (appendD_core w h n h0 h1 hoff ab cb b hr hroom a0 c0 bs d hl hrow.1 (by rw [hf]; exact Nat.le_refl _)).mono ?_
      rintro e w' ⟨rfl, v1, g1, g2, g3, g4, g5⟩
      have hne : ¬ (bs ++ b).length = 0 := by rw [List.length_append]; have := hrow.2.1; omega
      rw [if_neg hne, hf] at g2
      have e1 : newF (some (n, bs, d)) n b = some (n, bs ++ b, d) := by simp [newF]
      rw [e1]
      have g2' : MapL w' m (entD v1 (some (n, bs ++ b, d))) := by simpa [entD, putL] using g2
      rw [hf] at hroom
      have hlb : lenD (some (n, bs, d)) = bs.length := rfl
      refine ⟨rfl, v1, ⟨g3, g2', ⟨g1, by omega, by rw [List.length_append]; have := hrow.2.2.1; omega, by rw [List.length_append]; rw [hlb] at hroom; omega, ?_⟩, by rw [show ({ s.step with f := some (n, bs ++ b, d) } : DS).room = s.step.room from rfl, hro]; exact r0, by rw [show ({ s.step with f := some (n, bs ++ b, d) } : DS).room = s.step.room from rfl, hro]; exact r1, hst.1, hst.2, h.basep, h.basem⟩, g4, ?_⟩
      · intro x hx
        rcases List.mem_append.1 hx with hx | hx
        · exact hrow.2.2.2.2 x hx
        · exact hz x hx
      · rcases g5 with g5 | g5
        · exact .inl g5
        · exact .inr (.inr g5)
    · have hb := hone n' bs d hf hn
      subst hb
      have hl : (lkL (entD (.slice a0 bs.length c0) s.f) n).getD (.agg #[.slice none 0 0, .int .i64 0]) = .agg #[.slice none ([] : List Int).length 0, .int .i64 ((0 : Nat) : Int)] := by rw [hf]; simp [entD, lkL, hn]
      refine (appendD_core w h n h0 h1 hoff ab cb [] hr hroom none 0 [] 0 hl (owns_nil _ _ _) (Nat.zero_le _)).mono ?_
      rintro e w' ⟨rfl, v1, g1, g2, g3, g4, g5⟩
      have g2 : MapL w' m (delL (entD (.slice a0 bs.length c0) s.f) n) := g2
      rw [hf] at g2
      have e1 : newF (some (n', bs, d)) n [] = some (n', bs, d) := by simp [newF, hn]
      rw [e1]
      have g2' : MapL w' m (entD (.slice a0 bs.length c0) (some (n', bs, d))) := by simpa [entD, delL, hn] using g2
      have hq : ∀ b, (Value.slice a0 bs.length c0).ownBlock = some b → w'.heap[b]? = w.heap[b]? := fun b e => by
        refine g4.block b (owns_lt' hrow.1 e) ?_
        rintro (h1 | h1 | h1)
        · exact h.vp (by rw [e, h1])
        · exact h.vm (by rw [e, h1])
        · cases h1
      refine ⟨rfl, _, ⟨g3, g2', ⟨owns_same hrow.1 hq, hrow.2⟩, by rw [show ({ s.step with f := some (n', bs, d) } : DS).room = s.step.room from rfl, hro]; exact r0, by rw [show ({ s.step with f := some (n', bs, d) } : DS).room = s.step.room from rfl, hro]; exact r1, hst.1, hst.2, h.basep, h.basem⟩, g4.mono (fun k e => nil_blk e), .inl rfl⟩
end Go.Proofs.Ytafmapcblcnccaa
