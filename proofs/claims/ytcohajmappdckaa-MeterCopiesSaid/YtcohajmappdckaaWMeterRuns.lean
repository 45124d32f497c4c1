/- MeterRuns: the walk. -/
import Derived.Test.YtcohajmappdckaaMtK
import Derived.Test.YtcohajmappdckaaMtV
namespace Go.Proofs.Ytcohajmappdckaa
open Go.RowKit Go.Shelf
set_option linter.unusedVariables false

theorem row_celI {W : World} {b : Nat} {zs : List Int} (h : Cel W b 3 (celI zs)) (hm : zs.length ≤ 500) : Row .i64 W.heap.size W (.slice (some ⟨b, 0, none⟩) zs.length zs.length) zs := row_of_cel h (by unfold maxLen; omega)
theorem same_us (a : Option Addr) (c1 : Nat) (b : Option Addr) (c2 : Nat) (us : List Int) (w : World) (h1 : Row .i64 w.heap.size w (.slice a us.length c1) us) (h2 : Row .i64 w.heap.size w (.slice b us.length c2) us) :
    Calls Try.prog 15 #[.slice a us.length c1, .slice b us.length c2] w fun e w' => e = .returned (.bool true) ∧ Below w.heap.size w w' := by
  have h := sameInts_any a us.length c1 us b us.length c2 us w h1 h2
  simpa using h
/-- One operation of a list. -/
theorem ops_at {q : Nat → Prop} {W : World} {av : Option Addr} {cv : Nat} {l : List OpM} (h : OpsRow q W (.slice av l.length cv) l) (k : Nat) (hk : k < l.length) : ∃ b K R N Wt, av = some ⟨b, 0, none⟩ ∧ l[k]? = some (OpM.mk K R N Wt) ∧
    W.cell? ⟨b, k * 4, none⟩ = some (.int .i64 K) ∧ W.cell? ⟨b, k * 4 + 1, none⟩ = some (.int .i64 R) ∧ W.cell? ⟨b, k * 4 + 2, none⟩ = some (.int .i64 N) ∧ W.cell? ⟨b, k * 4 + 3, none⟩ = some (.int .i64 Wt) := by
  obtain ⟨a, c, e, h⟩ := h
  rcases h with h | ⟨b, hb, _, hc⟩
  · rw [h] at hk; simp at hk
  · injection e with e1 e2 e3
    obtain ⟨c0, c1, c2, c3⟩ := hc k l[k] (List.getElem?_eq_getElem hk)
    exact ⟨b, l[k].kind, l[k].rule, l[k].n, l[k].wait, e1.trans hb, List.getElem?_eq_getElem hk, c0, c1, c2, c3⟩
/-- What MeterRuns' loop knows. -/
structure RunL (w0 W : World) (p u q lo hi : Nat) (x : Value) (s : MS) (N : Nat) (v : Value) (l : List OpM) : Prop where
  pr : Pair W p u q x s N
  ops : OpsRow (fun b => lo ≤ b ∧ b < hi) W v l
  own : ∀ b, x.ownBlock = some b → hi ≤ b
  bel : Below w0.heap.size w0 W
  bp : w0.heap.size ≤ p ∧ p < lo
  bu : w0.heap.size ≤ u ∧ u < lo
  bq : w0.heap.size ≤ q ∧ q < lo
  lh : lo ≤ hi
  hs : hi ≤ W.heap.size
theorem RunL.step {w0 W W' : World} {p u q lo hi : Nat} {x : Value} {s : MS} {N : Nat} {v : Value} {l : List OpM} (h : RunL w0 W p u q lo hi x s N v l) (hb : Below W.heap.size W W') : RunL w0 W' p u q lo hi x s N v l :=
  ⟨h.pr.step hb, h.ops.step hb, h.own, stepB h.bel hb, h.bp, h.bu, h.bq, h.lh, Nat.le_trans h.hs hb.size⟩
theorem RunL.next {w0 W W' : World} {p u q lo hi : Nat} {x : Value} {s : MS} {N : Nat} {v : Value} {l : List OpM} (h : RunL w0 W p u q lo hi x s N v l) (ha : StepAfter W W' p u q x (N + 1)) : ∃ x' s', RunL w0 W' p u q lo hi x' s' (N + 1) v l := by
  obtain ⟨s', x', h1, h2, h3⟩ := ha
  have hp := h.bp
  have hu := h.bu
  have hq := h.bq
  have hl := h.lh
  have hs := h.hs
  refine ⟨x', s', h1, h.ops.only h2 ?_, ?_, h.bel.trans (h2.below h.bel.size ?_), hp, hu, hq, hl, Nat.le_trans hs h2.size⟩
  · rintro b ⟨b1, b2⟩ ((e | e) | (e | e))
    · omega
    · omega
    · omega
    · have := h.own b e; omega
  · intro b e
    rcases h3 with e2 | ⟨k, e2, hk⟩
    · exact h.own b (by rw [← e2]; exact e)
    · rw [e2] at e; injection e with e; omega
  · rintro b ((e | e) | (e | e))
    · omega
    · omega
    · omega
    · have := h.own b e; omega
set_option maxRecDepth 100000 in
set_option maxHeartbeats 8000000 in
theorem meterRuns_walk (a0 : Option Addr) (len0 cap0 : Nat) (z0 : List Int) (a1 : Int) (a2 : Int) (w : World) (w0 : IsRow .i64 w a0 len0 cap0 z0) (w1 : (Lit.int .i64 a1).wf = true) (w2 : (Lit.int .i64 a2).wf = true) :
    Calls Try.prog 3 #[.slice a0 len0 cap0, .int .i64 a1, .int .i64 a2] w fun e w' => e = .returned (.bool true) ∧ Below w.heap.size w w' := by
  obtain ⟨hr0, hw0⟩ := w0.row
  have hl0 := hr0.len
  clear w0
  generalize z0.take len0 = l0 at *
  subst hl0
  have s0 := aroundI_lo a1 21 (by decide)
  have s1 := aroundI_hi a1 21 (by decide)
  have p0 := aroundI_lo a2 12 (by decide)
  have p1 := aroundI_hi a2 12 (by decide)
  have hA1 := fun W => around_any a1 21 W w1 (by decide) (by decide)
  have hA2 := fun W => around_any a2 12 W w2 (by decide) (by decide)
  generalize aroundI a1 21 = sh at *
  generalize aroundI a2 12 = pe at *
  have HA1 := Lib.hid hA1
  have HA2 := Lib.hid hA2
  have HR0 := Lib.hid hr0
  have HW0 := Lib.hid hw0
  have HLV := Lib.hid lives33_any
  clear hA1 hA2 hr0 hw0 w1 w2
  go_enter Try.func3, Try.ntmps3
  go_wp2_with fail
  refine (HA1.out _).mono ?_
  rintro e q1 ⟨rfl, hq1⟩
  subst hq1
  dsimp only
  go_wp2_with fail
  refine (HA2.out _).mono ?_
  rintro e q2 ⟨rfl, hq2⟩
  subst hq2
  dsimp only
  go_wp2_with fail
  refine (new_ok 4 4 rfl sh (1 + pe) _ (by decide) (by decide) s0 (by omega) (by omega) (by omega)).mono ?_
  rintro e q3 ⟨p, u, rfl, hp, hu, hM, b3⟩
  have HM3 := Lib.hid hM
  have HB3 := Lib.hid b3
  clear hM b3
  dsimp only
  go_wp2_with fail
  refine (HA1.out _).mono ?_
  rintro e q4 ⟨rfl, hq4⟩
  subst hq4
  dsimp only
  go_wp2_with fail
  refine (HA2.out _).mono ?_
  rintro e q5 ⟨rfl, hq5⟩
  subst hq5
  dsimp only
  go_wp2_with fail
  refine (rnew_ok 4 4 rfl sh (1 + pe) _ (by decide) (by decide) s0 (by omega) (by omega) (by omega)).mono ?_
  rintro e q6 ⟨rfl, hR, b6⟩
  have hM6 := HM3.out.step b6
  have b7 := stepB HB3.out b6
  have hrow6 := rowB HR0.out b7
  have hpl := HM3.out.box.lt
  have hul := HM3.out.row.lt
  have hpr : Pair q6 p u q5.heap.size (.slice none 0 0) (MS.new 4 sh (1 + pe)) 0 := ⟨hM6, hR, by omega, by omega, by simp [Value.ownBlock], by simp [Value.ownBlock]⟩
  have hql := hR.box.lt
  have hqs := HB3.out.size
  have HPR := Lib.hid hpr
  have HB7 := Lib.hid b7
  have HR6 := Lib.hid hrow6
  clear hR b6 hM6 b7 hrow6 hpr HR0 HA1 HA2 HM3 HB3
  dsimp only
  go_wp2_with fail
  refine (script_any a0 cap0 l0 40 40 rfl q6 HR6.out HW0.out (by decide)).mono ?_
  intro e q7 hps
  unfold ScriptPost at hps
  obtain ⟨v, ops, rfl, hol, hok, hop, b8⟩ := hps
  have hopl : ∃ a c, v = .slice a ops.length c := by
    obtain ⟨a, c, rfl, _⟩ := hop
    exact ⟨a, c, rfl⟩
  obtain ⟨av, cv, hv⟩ := hopl
  subst hv
  have hL : RunL q2 q7 p u q5.heap.size q6.heap.size q7.heap.size (.slice none 0 0) (MS.new 4 sh (1 + pe)) 0 (.slice av ops.length cv) ops :=
    ⟨HPR.out.step b8, hop, by simp [Value.ownBlock], stepB HB7.out b8, ⟨hp, by have := HPR.out.m.box.lt; omega⟩, ⟨hu, by have := HPR.out.m.row.lt; omega⟩, ⟨hqs, hql⟩, b8.size, Nat.le_refl _⟩
  have HL := Lib.hid hL
  have hol2 : (ops.length : Int) ≤ 40 := by omega
  clear hL HPR HB7 HR6 HW0 hok hop b8 hpl hul hql hqs hp hu
  dsimp only
  go_wp2_with fail
  go_loopw [11] (fun iv wr => ∃ (k : Nat) (x : Value) (s : MS), k ≤ ops.length ∧ iv = .int .i64 (k : Int) ∧ Hid (RunL q2 wr p u q5.heap.size q6.heap.size q7.heap.size x s k (.slice av ops.length cv) ops)) (fun i _ => ops.length - (intOf i).toNat)
  case atStart => exact ⟨0, _, _, Nat.zero_le _, rfl, HL⟩
  case round =>
    clear HL
    obtain ⟨k, x, s, hk, rfl, HL⟩ := hrel
    by_cases hlt : k < ops.length
    · obtain ⟨b, K, R, N, Wt, hav, -, c0, c1, c2, c3⟩ := ops_at HL.out.ops k hlt
      have HAV := Lib.hid hav
      clear hav
      obtain rfl : av = some ⟨b, 0, none⟩ := HAV.out
      have hi1 : (k : Int) < (ops.length : Int) := by omega
      have hi0 : (0 : Int) ≤ (k : Int) := by omega
      have hst := step_any p u q5.heap.size x s k K R N Wt wr HL.out.pr (by omega)
      have HST := Lib.hid hst
      clear hst
      go_wp2_with fail
      refine HST.out.mono ?_
      rintro e wa ⟨rfl, ha⟩
      obtain ⟨x', s', hL2⟩ := HL.out.next ha
      have HL2 := Lib.hid hL2
      have hus := used_any p u s' wa hL2.pr.m
      have HUS := Lib.hid hus
      have hn5 := hL2.pr.m.ok.n1
      clear hL2 hus ha HST HL c0 c1 c2 c3
      dsimp only
      go_wp2_with fail
      refine HUS.out.mono ?_
      rintro e wb ⟨rfl, hcel, bb⟩
      have hL3 := HL2.out.step bb
      have hru := rused_any _ _ _ _ wb hL3.pr.r (by omega)
      have HRU := Lib.hid hru
      have HL3 := Lib.hid hL3
      have HRW := Lib.hid (row_celI hcel hn5)
      clear hru hL3 hcel bb HL2 HUS
      dsimp only
      go_wp2_with fail
      refine HRU.out.mono ?_
      rintro e wd ⟨a3, c3, rfl, hr3, bd⟩
      have hsm := same_us _ _ _ _ s'.us wd (rowB HRW.out bd) hr3
      have HSM := Lib.hid hsm
      have HL4 := Lib.hid (HL3.out.step bd)
      clear hsm hr3 bd HL3 HRW HRU
      dsimp only
      go_wp2_with fail
      refine HSM.out.mono ?_
      rintro e we ⟨rfl, be⟩
      have HL5 := Lib.hid (HL4.out.step be)
      clear be HL4 HSM
      dsimp only
      go_wp2_with fail
      go_roundw
      case rel => exact ⟨k + 1, x', s', by omega, by go_num, HL5⟩
      case measure => simp [intOf]; omega
    · have hi1 : ¬ (k : Int) < (ops.length : Int) := by omega
      have HLV2 := Lib.hid (HLV.out wr)
      have HB := Lib.hid HL.out.bel
      clear HL
      go_wp2_with fail
      refine HLV2.out.mono ?_
      rintro e wh ⟨rfl, bh⟩
      have hb2 := stepB HB.out bh
      dsimp only
      go_wp2_with fail
      go_ret
      exact ⟨rfl, hb2⟩
end Go.Proofs.Ytcohajmappdckaa
