/- MeterRuns' step: an operation on a meter and on its model. -/
import Derived.Test.YtcohajmappdckaaMtT
import Derived.Deep.RegionHeld3
namespace Go.Proofs.Ytcohajmappdckaa
open Go.RowKit Go.Shelf
set_option linter.unusedVariables false

/-- A meter and its model. -/
structure Pair (W : World) (p u q : Nat) (x : Value) (s : MS) (N : Nat) : Prop where
  m : Mt W p u s
  r : Mr W q x s N
  qp : q ≠ p
  qu : q ≠ u
  xp : x.ownBlock ≠ some p
  xu : x.ownBlock ≠ some u
/-- Their blocks. -/
def PB (p u q : Nat) (x : Value) (k : Nat) : Prop := Two p u k ∨ RB2 q x k
theorem Pair.only {W W' : World} {p u q : Nat} {x : Value} {s : MS} {N : Nat} {f : Nat → Prop} (h : Pair W p u q x s N) (ho : OnlyP f W W') (hf : ∀ k, PB p u q x k → ¬ f k) : Pair W' p u q x s N :=
  ⟨h.m.only ho (hf _ (.inl (.inl rfl))) (hf _ (.inl (.inr rfl))), h.r.only ho (fun k hk => hf k (.inr hk)), h.qp, h.qu, h.xp, h.xu⟩
theorem Pair.step {W W' : World} {p u q : Nat} {x : Value} {s : MS} {N : Nat} (h : Pair W p u q x s N) (hb : Below W.heap.size W W') : Pair W' p u q x s N := h.only (OnlyP.of_below (q := fun _ => False) hb) (fun _ _ h => h)
theorem Pair.more {W : World} {p u q : Nat} {x : Value} {s : MS} {N N' : Nat} (h : Pair W p u q x s N) (hn : N ≤ N') : Pair W p u q x s N' := ⟨h.m, h.r.more hn, h.qp, h.qu, h.xp, h.xu⟩
/-- What an operation leaves. -/
def StepAfter (w w' : World) (p u q : Nat) (x : Value) (N : Nat) : Prop := ∃ s' x', Pair w' p u q x' s' N ∧ OnlyP (PB p u q x) w w' ∧ (x'.ownBlock = x.ownBlock ∨ ∃ k, x'.ownBlock = some k ∧ w.heap.size ≤ k)
theorem stepAfter_of {w0 w w1 w2 : World} {p u q : Nat} {x : Value} {s s' : MS} {N N' : Nat} (hb : Below w0.heap.size w0 w) (h : Pair w p u q x s N) (hm : Mt w1 p u s') (ho : OnlyP (Two p u) w w1) (hr : RAfter w1 w2 q x s' N') : StepAfter w0 w2 p u q x N' := by
  obtain ⟨x', h1, h2, h3⟩ := hr
  have hp := h.m.box.lt
  have hu := h.m.row.lt
  have hs := ho.size
  have hs0 := hb.size
  refine ⟨s', x', ⟨hm.only h2 ?_ ?_, h1, h.qp, h.qu, ?_, ?_⟩, ?_, ?_⟩
  · rintro (e | e)
    · exact h.qp e.symm
    · exact h.xp e
  · rintro (e | e)
    · exact h.qu e.symm
    · exact h.xu e
  · rcases h3 with e | ⟨k, e, hk⟩
    · rw [e]; exact h.xp
    · rw [e]; intro e2; injection e2 with e2; omega
  · rcases h3 with e | ⟨k, e, hk⟩
    · rw [e]; exact h.xu
    · rw [e]; intro e2; injection e2 with e2; omega
  · exact ((OnlyP.of_below hb).trans (ho.mono (fun k hk => .inl hk))).trans (h2.mono (fun k hk => .inr hk))
  · rcases h3 with e | ⟨k, e, hk⟩
    · exact .inl e
    · exact .inr ⟨k, e, by omega⟩
theorem Pair.rOnly {W W' : World} {p u q : Nat} {x : Value} {s : MS} {N : Nat} (h : Pair W p u q x s N) (ho : OnlyP (Two p u) W W') : Mr W' q x s N :=
  h.r.only ho (by
    rintro k (rfl | e) (e2 | e2)
    · exact h.qp e2
    · exact h.qu e2
    · exact h.xp (by rw [e, e2])
    · exact h.xu (by rw [e, e2]))
theorem RAfter.cel {w w' : World} {q : Nat} {x : Value} {s' : MS} {N' b : Nat} {t : TypeId} {cs : Array Value} (h : RAfter w w' q x s' N') (hc : Cel w b t cs) (h1 : b ≠ q) (h2 : x.ownBlock ≠ some b) : Cel w' b t cs := by
  obtain ⟨x', _, ho, _⟩ := h
  exact hc.only ho (by rintro (e | e); exact h1 e; exact h2 e)
set_option maxRecDepth 100000 in
set_option maxHeartbeats 8000000 in
theorem step_any (p u q : Nat) (x : Value) (s : MS) (N : Nat) (K R Q Wt : Int) (w : World) (h : Pair w p u q x s N) (hN : N ≤ 1000) :
    Calls Try.prog 14 #[.pointer (some ⟨p, 0, none⟩), .pointer (some ⟨q, 0, none⟩), .agg #[.int .i64 K, .int .i64 R, .int .i64 Q, .int .i64 Wt]] w fun e w' => e = .returned (.bool true) ∧ StepAfter w w' p u q x (N + 1) := by
  have hb0 := laidB (Below.refl w.heap.size w) (.cells #[.int .i64 K, .int .i64 R, .int .i64 Q, .int .i64 Wt] 34)
  have hP := h.step hb0
  have hC := Cel.new w 34 #[.int .i64 K, .int .i64 R, .int .i64 Q, .int .i64 Wt]
  have c3 : (w.alloc (.cells #[.int .i64 K, .int .i64 R, .int .i64 Q, .int .i64 Wt] 34)).cell? ⟨q, 3, none⟩ = some (.int .i64 s.tk) := hP.r.box.cell 3
  have hbp : w.heap.size ≠ p := by have := h.m.box.lt; omega
  have hbu : w.heap.size ≠ u := by have := h.m.row.lt; omega
  have hbq : w.heap.size ≠ q := by have := h.r.box.lt; omega
  have hbx : x.ownBlock ≠ some w.heap.size := fun e => by have := h.r.own_lt e; omega
  have HBX := Lib.hid hbx
  clear hbx
  have HP := Lib.hid hP
  have HB0 := Lib.hid hb0
  have HC := Lib.hid hC
  clear hP hb0 hC h
  generalize s.tk = tk at *
  obtain hK | hK | hK : ((K == 0) = true ∧ True) ∨ ((K == 0) = false ∧ (K == 1) = true) ∨ ((K == 0) = false ∧ (K == 1) = false) := by
    by_cases h0 : K = 0
    · exact .inl ⟨by simp [h0], trivial⟩
    · by_cases h1 : K = 1
      · exact .inr (.inl ⟨by simpa using h0, by simp [h1]⟩)
      · exact .inr (.inr ⟨by simpa using h0, by simpa using h1⟩)
  · obtain ⟨k0, -⟩ := hK
    go_enter Try.func14, Try.ntmps14
    go_wp2_with fail
    go_quiet (fail)
    go_wp2_with fail
    generalize wrap64 (tk + Wt) = t
    have hbd := stepB HB0.out (below_drewN (Below.refl _ _) nq)
    have hPd := HP.out.step (below_drewN (Below.refl _ _) nq)
    have hCd := HC.out.step (below_drewN (Below.refl _ _) nq)
    generalize (w.alloc (.cells #[.int .i64 K, .int .i64 R, .int .i64 Q, .int .i64 Wt] 34)).drewN nq = Wd at *
    have htk := take_any p u s R Q t Wd hPd.m
    have hrt := fun w1 h1 => rtake_any q x s N R Q t w1 h1 hN
    generalize s.take R Q t = TT at *
    obtain ⟨A, E, s'⟩ := TT
    dsimp only at htk hrt
    have HRT := Lib.hid hrt
    have HPD := Lib.hid hPd
    have HCD := Lib.hid hCd
    have HBD := Lib.hid hbd
    clear hrt hPd hCd hbd HP HC HB0 c3
    refine htk.mono ?_
    rintro e w1 ⟨rfl, hm, ho⟩
    have hC1 := HCD.out.only ho (by rintro (e | e) <;> omega)
    have k1 := hC1.cell 1
    have k2 := hC1.cell 2
    have HR1 := Lib.hid (HPD.out.rOnly ho)
    have HM := Lib.hid hm
    have HO := Lib.hid ho
    clear hm ho hC1 htk HCD
    dsimp only
    go_wp2_with fail
    refine (HRT.out _ HR1.out).mono ?_
    rintro e w2 ⟨rfl, hr2⟩
    have HA := Lib.hid (stepAfter_of HBD.out HPD.out HM.out HO.out hr2)
    clear hr2 HRT HR1 HM HO HPD
    dsimp only
    go_wp2_with fail
    go_ret
    exact ⟨rfl, HA.out⟩
  · obtain ⟨k0, k00⟩ := hK
    go_enter Try.func14, Try.ntmps14
    go_wp2_with fail
    go_quiet (fail)
    go_wp2_with fail
    generalize wrap64 (tk + Wt) = t
    have hbd := stepB HB0.out (below_drewN (Below.refl _ _) nq)
    have hPd := HP.out.step (below_drewN (Below.refl _ _) nq)
    have hCd := HC.out.step (below_drewN (Below.refl _ _) nq)
    generalize (w.alloc (.cells #[.int .i64 K, .int .i64 R, .int .i64 Q, .int .i64 Wt] 34)).drewN nq = Wd at *
    have hbd2 : Below Wd.heap.size Wd Wd.drew := (Below.refl _ _).drew
    have hPd2 := hPd.step hbd2
    have hCd2 := hCd.step hbd2
    have htk := back_any p u s R Q t Wd.drew hPd2.m
    have hrt := fun w1 h1 => rback_any q x s N R Q t w1 h1 hN
    generalize s.back R Q t = TT at *
    obtain ⟨A, s'⟩ := TT
    dsimp only at htk hrt
    have k1 : Wd.cell? ⟨w.heap.size, 1, none⟩ = some (.int .i64 R) := hCd.cell 1
    have k2 : Wd.cell? ⟨w.heap.size, 2, none⟩ = some (.int .i64 Q) := hCd.cell 2
    have HRT := Lib.hid hrt
    have HTK := Lib.hid htk
    have HPD := Lib.hid hPd2
    have HCD := Lib.hid hCd2
    have HBD := Lib.hid (stepB hbd hbd2)
    clear hrt htk hPd hCd hPd2 hCd2 hbd hbd2 HP HC HB0 c3
    go_region_held3 (fun w' => w'.cell? ⟨w.heap.size, 1, none⟩ = some (.int .i64 R) ∧ w'.cell? ⟨w.heap.size, 2, none⟩ = some (.int .i64 Q)) (first | go_keep) (first
      | (go_at_call 23; refine HTK.out.mono ?_; rintro e w1 ⟨rfl, hm, ho⟩; have hC1 := HCD.out.only ho (by rintro (e | e) <;> omega); have k11 : w1.cell? ⟨w.heap.size, 1, none⟩ = some (.int .i64 R) := hC1.cell 1; have k12 : w1.cell? ⟨w.heap.size, 2, none⟩ = some (.int .i64 Q) := hC1.cell 2; have HR1 := Lib.hid (HPD.out.rOnly ho); have HM := Lib.hid hm; have HO := Lib.hid ho; have HC1 := Lib.hid hC1; clear hm ho hC1; dsimp only)
      | (go_at_call 28; refine (HRT.out _ HR1.out).mono ?_; rintro e w2 ⟨rfl, hr2⟩; have hC2 := hr2.cel HC1.out hbq HBX.out; have k21 : w2.cell? ⟨w.heap.size, 1, none⟩ = some (.int .i64 R) := hC2.cell 1; have k22 : w2.cell? ⟨w.heap.size, 2, none⟩ = some (.int .i64 Q) := hC2.cell 2; have HA := Lib.hid (stepAfter_of HBD.out HPD.out HM.out HO.out hr2); clear hr2 hC2; dsimp only))
    go_wp2_with fail
    go_ret
    exact ⟨rfl, HA.out⟩
  · obtain ⟨k0, k00⟩ := hK
    go_enter Try.func14, Try.ntmps14
    go_wp2_with fail
    go_quiet (fail)
    go_wp2_with fail
    generalize wrap64 (tk + Wt) = t
    have hbd := stepB HB0.out (below_drewN (Below.refl _ _) nq)
    have hPd := HP.out.step (below_drewN (Below.refl _ _) nq)
    have hCd := HC.out.step (below_drewN (Below.refl _ _) nq)
    generalize (w.alloc (.cells #[.int .i64 K, .int .i64 R, .int .i64 Q, .int .i64 Wt] 34)).drewN nq = Wd at *
    have htk := left_any p u s R t Wd hPd.m
    have hrt := fun w1 h1 => rleft_any q x s N R t w1 h1 hN
    generalize s.left R t = TT at *
    obtain ⟨A, E⟩ := TT
    dsimp only at htk hrt
    have HRT := Lib.hid hrt
    have HPD := Lib.hid hPd
    have HCD := Lib.hid hCd
    have HBD := Lib.hid hbd
    clear hrt hPd hCd hbd HP HC HB0 c3
    refine htk.mono ?_
    rintro e w1 ⟨rfl, b1⟩
    have hC1 := HCD.out.step b1
    have k1 := hC1.cell 1
    have HP1 := Lib.hid (HPD.out.step b1)
    have HB1 := Lib.hid (stepB HBD.out b1)
    clear b1 hC1 htk HCD HPD HBD
    dsimp only
    go_wp2_with fail
    refine (HRT.out _ HP1.out.r).mono ?_
    rintro e w2 ⟨rfl, b2⟩
    have HA : Hid (StepAfter w w2 p u q x (N + 1)) := Lib.hid ⟨s, x, (HP1.out.step b2).more (Nat.le_succ _), OnlyP.of_below (stepB HB1.out b2), .inl rfl⟩
    clear b2 HRT HP1 HB1
    dsimp only
    go_wp2_with fail
    go_ret
    exact ⟨rfl, HA.out⟩
end Go.Proofs.Ytcohajmappdckaa
