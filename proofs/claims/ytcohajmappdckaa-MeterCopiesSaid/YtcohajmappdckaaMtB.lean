/- Contracts for package meter: outside, check, usedAt, advance. -/
import Derived.Test.YtcohajmappdckaaMtA
import Derived.Test.YtcohajmappdckaaRefB
import Derived.Lib.SliceRun
namespace Go.Proofs.Ytcohajmappdckaa
open Go.RowKit Go.Shelf
set_option linter.unusedVariables false

/-- Is a number not from a least one to a greatest one? -/
def outB (n lo hi : Int) : Bool := decide (n < lo) || decide (hi < n)
theorem outB_yes {n lo hi : Int} (h : n < lo ∨ hi < n) : outB n lo hi = true := by
  unfold outB; rcases h with h | h <;> simp [h]
theorem outB_no {n lo hi : Int} (h : lo ≤ n) (h2 : n ≤ hi) : outB n lo hi = false := by
  unfold outB; simp; omega
theorem outside_any (n lo hi : Int) (w : World) : Calls Try.prog 27 #[.int .i64 n, .int .i64 lo, .int .i64 hi] w fun e w' => e = .returned (.bool (outB n lo hi)) ∧ w' = w := by
  by_cases h : n < lo
  · have HB := Lib.hid (outB_yes (hi := hi) (.inl h))
    go_enter Try.func27, Try.ntmps27
    go_wp2
    go_ret
    exact ⟨by rw [HB.out]; rfl, rfl⟩
  · by_cases h2 : hi < n
    · have HB := Lib.hid (outB_yes (lo := lo) (.inr h2))
      go_enter Try.func27, Try.ntmps27
      go_wp2
      go_ret
      exact ⟨by rw [HB.out]; rfl, rfl⟩
    · have HB := Lib.hid (outB_no (n := n) (lo := lo) (hi := hi) (by omega) (by omega))
      go_enter Try.func27, Try.ntmps27
      go_wp2
      go_ret
      exact ⟨by rw [HB.out]; rfl, rfl⟩
theorem outside_yes (n lo hi : Int) (w : World) (h : n < lo ∨ hi < n) : Calls Try.prog 27 #[.int .i64 n, .int .i64 lo, .int .i64 hi] w fun e w' => e = .returned (.bool true) ∧ w' = w := by
  have := outside_any n lo hi w
  rwa [outB_yes h] at this
theorem outside_no (n lo hi : Int) (w : World) (h : lo ≤ n) (h2 : n ≤ hi) : Calls Try.prog 27 #[.int .i64 n, .int .i64 lo, .int .i64 hi] w fun e w' => e = .returned (.bool false) ∧ w' = w := by
  have := outside_any n lo hi w
  rwa [outB_no h h2] at this
set_option maxHeartbeats 2000000 in
theorem check_any (p u : Nat) (s : MS) (r n t : Int) (w : World) (h : Mt w p u s) :
    Calls Try.prog 32 #[.pointer (some ⟨p, 0, none⟩), .int .i64 r, .int .i64 n, .int .i64 t] w fun e w' => e = .returned (.int .i64 (s.chk r n t)) ∧ w' = w := by
  have hn0 := h.ok.n0
  have hn1 := h.ok.n1
  have c2 := h.box.cell 2
  have c3 := h.box.cell 3
  obtain ⟨sh, pe, tk, us⟩ := s
  dsimp only at hn0 hn1 c2 c3
  clear h
  generalize hR : MS.chk ⟨sh, pe, tk, us⟩ r n t = R
  unfold MS.chk at hR
  dsimp only at hR
  generalize us.length = L at *
  by_cases h1 : r < 0 ∨ (L : Int) - 1 < r
  · rw [if_pos h1] at hR
    have HR := Lib.hid hR
    clear hR
    have ho := outside_yes r 0 ((L : Int) - 1) w h1
    have HO := Lib.hid ho
    clear ho h1
    go_enter Try.func32, Try.ntmps32
    go_wp2_with fail
    refine HO.out.mono ?_
    rintro e w1 ⟨rfl, hw1⟩
    subst hw1
    dsimp only
    go_wp2_with fail
    go_ret
    exact ⟨by rw [← HR.out]; rfl, rfl⟩
  · rw [if_neg h1] at hR
    have ho := outside_no r 0 ((L : Int) - 1) w (by omega) (by omega)
    have HO := Lib.hid ho
    clear ho h1
    by_cases h2 : n < 0 ∨ 1099511627776 < n
    · rw [if_pos h2] at hR
      have HR := Lib.hid hR
      clear hR
      have ho2 := outside_yes n 0 1099511627776 w h2
      have HO2 := Lib.hid ho2
      clear ho2 h2
      go_enter Try.func32, Try.ntmps32
      go_wp2_with fail
      refine HO.out.mono ?_
      rintro e w1 ⟨rfl, hw1⟩
      subst hw1
      dsimp only
      go_wp2_with fail
      refine HO2.out.mono ?_
      rintro e w1 ⟨rfl, hw1⟩
      subst hw1
      dsimp only
      go_wp2_with fail
      go_ret
      exact ⟨by rw [← HR.out]; rfl, rfl⟩
    · rw [if_neg h2] at hR
      have ho2 := outside_no n 0 1099511627776 w (by omega) (by omega)
      have HO2 := Lib.hid ho2
      clear ho2 h2
      by_cases h3 : t < 0 ∨ 1099511627776 < t
      · rw [if_pos h3] at hR
        have HR := Lib.hid hR
        clear hR
        have ho3 := outside_yes t 0 1099511627776 w h3
        have HO3 := Lib.hid ho3
        clear ho3 h3
        go_enter Try.func32, Try.ntmps32
        go_wp2_with fail
        refine HO.out.mono ?_
        rintro e w1 ⟨rfl, hw1⟩
        subst hw1
        dsimp only
        go_wp2_with fail
        refine HO2.out.mono ?_
        rintro e w1 ⟨rfl, hw1⟩
        subst hw1
        dsimp only
        go_wp2_with fail
        refine HO3.out.mono ?_
        rintro e w1 ⟨rfl, hw1⟩
        subst hw1
        dsimp only
        go_wp2_with fail
        go_ret
        exact ⟨by rw [← HR.out]; rfl, rfl⟩
      · rw [if_neg h3] at hR
        have HR := Lib.hid hR
        clear hR
        have ho3 := outside_no t 0 1099511627776 w (by omega) (by omega)
        have HO3 := Lib.hid ho3
        clear ho3 h3
        by_cases h4 : t < tk
        all_goals
          go_enter Try.func32, Try.ntmps32
          go_wp2_with fail
          refine HO.out.mono ?_
          rintro e w1 ⟨rfl, hw1⟩
          subst hw1
          dsimp only
          go_wp2_with fail
          refine HO2.out.mono ?_
          rintro e w1 ⟨rfl, hw1⟩
          subst hw1
          dsimp only
          go_wp2_with fail
          refine HO3.out.mono ?_
          rintro e w1 ⟨rfl, hw1⟩
          subst hw1
          dsimp only
          go_wp2_with fail
          go_ret
          exact ⟨by rw [← HR.out]; simp [h4] <;> rfl, rfl⟩
set_option maxHeartbeats 2000000 in
theorem usedAt_any (p u : Nat) (s : MS) (r : Nat) (j : Int) (hj : (r : Int) = j) (t : Int) (w : World) (h : Mt w p u s) (hr : r < s.us.length) (h0 : 0 ≤ t) (h1 : t ≤ 1099511627776) :
    Calls Try.prog 35 #[.pointer (some ⟨p, 0, none⟩), .int .i64 j, .int .i64 t] w fun e w' => e = .returned (.int .i64 (s.at r t)) ∧ ∃ k, w' = w.drewN k := by
  subst hj
  have hn1 := h.ok.n1
  have p0 := h.ok.pe0
  have p1 := h.ok.pe1
  have t0 := h.ok.tk0
  have t1 := h.ok.tk1
  have c1 := h.box.cell 1
  have c2 := h.box.cell 2
  have c3 := h.box.cell 3
  have c4 := h.cell r hr
  have hri : (r : Int) < (s.us.length : Int) := by omega
  have hr0 : (0 : Int) ≤ (r : Int) := by omega
  obtain ⟨sh, pe, tk, us⟩ := s
  dsimp only at *
  clear h
  generalize hR : MS.at ⟨sh, pe, tk, us⟩ r t = R
  unfold MS.at MS.fresh at hR
  dsimp only at hR
  generalize us.length = L at *
  generalize us[r]?.getD 0 = x at *
  by_cases h4 : tk / pe < t / pe
  · rw [decide_eq_true h4, if_pos rfl] at hR
    have HR := Lib.hid hR
    clear hR
    go_enter Try.func35, Try.ntmps35
    go_wp2
    go_quiet (fail)
    go_wp2
    go_ret
    exact ⟨by rw [← HR.out]; rfl, _, rfl⟩
  · rw [decide_eq_false h4, if_neg (by decide)] at hR
    have HR := Lib.hid hR
    clear hR
    go_enter Try.func35, Try.ntmps35
    go_wp2
    go_quiet (fail)
    go_wp2
    go_ret
    exact ⟨by rw [← HR.out]; rfl, _, rfl⟩
theorem setCells_keep : ∀ (vs : List Value) (W : World) (u o k : Nat), k ≠ u → (W.setCells u o vs).heap[k]? = W.heap[k]?
  | [], W, u, o, k, h => rfl
  | v :: vs, W, u, o, k, h => by
    show ((W.setCell ⟨u, o, none⟩ v).setCells u (o + 1) vs).heap[k]? = _
    rw [setCells_keep vs _ u (o + 1) k h, Below.heap_setCell _ _ _ _ h]
theorem setCells_rest : ∀ (vs : List Value) (W : World) (u o : Nat), (W.setCells u o vs).os = W.os ∧ (W.setCells u o vs).tape = W.tape ∧ (W.setCells u o vs).output = W.output ∧ (W.setCells u o vs).heap.size = W.heap.size
  | [], W, u, o => ⟨rfl, rfl, rfl, rfl⟩
  | v :: vs, W, u, o => by
    obtain ⟨h1, h2, h3, h4⟩ := setCells_rest vs (W.setCell ⟨u, o, none⟩ v) u (o + 1)
    exact ⟨h1, h2, h3, h4.trans (by simp [World.setCell])⟩
theorem OnlyP.cells (q : Nat → Prop) (W : World) (u o : Nat) (vs : List Value) (h : q u) : OnlyP q W (W.setCells u o vs) := by
  obtain ⟨h1, h2, h3, h4⟩ := setCells_rest vs W u o
  exact ⟨h1, h2, h3, Nat.le_of_eq h4.symm, fun k _ hk => setCells_keep vs W u o k (fun e => hk (e ▸ h))⟩
theorem cel_cells {t : TypeId} : ∀ (vs : List Value) (W : World) (u o : Nat) (cs : Array Value), Cel W u t cs → ∃ ds, Cel (W.setCells u o vs) u t ds ∧ ds.size = cs.size ∧ ∀ i, i < cs.size → ds[i]? = if o ≤ i ∧ i < o + vs.length then vs[i - o]? else cs[i]?
  | [], W, u, o, cs, h => ⟨cs, h, rfl, fun i hi => by rw [if_neg (fun h => by have := h.2; simp at this; omega)]⟩
  | v :: vs, W, u, o, cs, h => by
    obtain ⟨ds, h1, h2, h3⟩ := cel_cells vs (W.setCell ⟨u, o, none⟩ v) u (o + 1) _ (h.set o v)
    refine ⟨ds, h1, by rw [h2]; simp, fun i hi => ?_⟩
    rw [h3 i (by simpa using hi)]
    by_cases e : i = o
    · subst e
      rw [if_neg (by omega), if_pos (by simp), Nat.sub_self]
      simp [hi]
    · rw [Array.getElem?_setIfInBounds_ne (fun h => e h.symm)]
      by_cases h4 : o + 1 ≤ i ∧ i < o + 1 + vs.length
      · rw [if_pos h4, if_pos (by simp; omega), show i - o = i - (o + 1) + 1 from by omega, List.getElem?_cons_succ]
      · rw [if_neg h4, if_neg (by simp; omega)]
theorem cel_zeros {W : World} {u : Nat} {t : TypeId} {cs : Array Value} (n : Nat) (h : Cel W u t cs) (hn : cs.size = n) : Cel (W.setCells u 0 (List.replicate n (.int .i64 0))) u t ((List.replicate n (0 : Int)).map (Value.int .i64)).toArray := by
  obtain ⟨ds, h1, h2, h3⟩ := cel_cells (List.replicate n (.int .i64 0)) W u 0 cs h
  have e : ds = ((List.replicate n (0 : Int)).map (Value.int .i64)).toArray := by
    apply Array.ext_getElem?
    intro i
    by_cases hi : i < cs.size
    · rw [h3 i hi, if_pos (by simp; omega), Nat.sub_zero, List.getElem?_replicate]
      simp [show i < n from by omega]
    · rw [Array.getElem?_eq_none (by omega), Array.getElem?_eq_none (by simp; omega)]
  rw [← e]
  exact h1
set_option maxHeartbeats 2000000 in
theorem advance_any (p u : Nat) (s : MS) (t : Int) (w : World) (h : Mt w p u s) (h0 : 0 ≤ t) (h1 : t ≤ 1099511627776) :
    Calls Try.prog 33 #[.pointer (some ⟨p, 0, none⟩), .int .i64 t] w fun e w' => e = .returned (.tuple #[]) ∧ Mt w' p u (s.adv t) ∧ OnlyP (Two p u) w w' := by
  have hn0 := h.ok.n0
  have hn1 := h.ok.n1
  have p0 := h.ok.pe0
  have p1 := h.ok.pe1
  have t0 := h.ok.tk0
  have t1 := h.ok.tk1
  have c1 := h.box.cell 1
  have c2 := h.box.cell 2
  have c3 := h.box.cell 3
  have f2 := h.box.free 2
  have hok := h.ok.adv t h0 h1
  have hne := h.ne
  have hbox := h.box
  have hrow := h.row
  obtain ⟨sh, pe, tk, us⟩ := s
  dsimp only at *
  clear h
  have HOK := Lib.hid hok
  clear hok
  by_cases h4 : tk / pe < t / pe
  · have e : MS.adv ⟨sh, pe, tk, us⟩ t = ⟨sh, pe, t, List.replicate us.length 0⟩ := by
      unfold MS.adv MS.usAt MS.fresh
      simp only [decide_eq_true h4, if_true]
    rw [e] at HOK
    have fin : ∀ n : Nat, Mt (((w.drewN n).setCells u 0 (List.replicate us.length (.int .i64 0))).setCell ⟨p, 2, none⟩ (.int .i64 t)) p u ⟨sh, pe, t, List.replicate us.length 0⟩ ∧ OnlyP (Two p u) w (((w.drewN n).setCells u 0 (List.replicate us.length (.int .i64 0))).setCell ⟨p, 2, none⟩ (.int .i64 t)) := by
      intro n
      have bd : Below w.heap.size w (w.drewN n) := below_drewN (Below.refl _ _) n
      have hb := (hbox.step bd).only (OnlyP.cells (fun k => k = u) (w.drewN n) u 0 (List.replicate us.length (.int .i64 0)) rfl) hne
      have hz := cel_zeros us.length (hrow.step bd) (by simp)
      refine ⟨⟨hne, ?_, hz.far (p := ⟨p, 2, none⟩) hne.symm _, HOK.out⟩, ((OnlyP.of_below bd).trans (OnlyP.cells _ _ _ _ _ (.inr rfl))).trans (OnlyP.set _ _ _ _ (.inl rfl))⟩
      have := hb.set 2 (.int .i64 t)
      simpa using this
    have hcl : ∀ (n : Nat) (ty : TypeId), (Builtin.clear_ #[22] ty #[.slice (some ⟨u, 0, none⟩) us.length us.length]).run Try.prog (w.drewN n) = .ok (.tuple #[]) ((w.drewN n).setCells u 0 (List.replicate us.length (.int .i64 0))) := fun n ty =>
      Lib.run_clear_slice (P := Try.prog) (w.drewN n) 22 3 ty (.int .i64 0) Try.underlying22 (fun w => by kernel_rfl) rfl rfl u 0 us.length us.length (by omega)
        (fun j hj => by rw [show 0 + j = j from by omega, (hrow.step (below_drewN (Below.refl _ _) n)).cell j]; simp [hj])
        (fun j hj => (hrow.step (below_drewN (Below.refl _ _) n)).free _)
    have hc2 : ∀ n : Nat, ((w.drewN n).setCells u 0 (List.replicate us.length (.int .i64 0))).cell? ⟨p, 2, none⟩ = some (.int .i64 tk) := fun n =>
      ((hbox.step (below_drewN (Below.refl _ _) n)).only (OnlyP.cells (fun k => k = u) (w.drewN n) u 0 (List.replicate us.length (.int .i64 0)) rfl) hne).cell 2
    have hf2 : ∀ n : Nat, ((w.drewN n).setCells u 0 (List.replicate us.length (.int .i64 0))).frozen? ⟨p, 2, none⟩ = false := fun n =>
      ((hbox.step (below_drewN (Below.refl _ _) n)).only (OnlyP.cells (fun k => k = u) (w.drewN n) u 0 (List.replicate us.length (.int .i64 0)) rfl) hne).free 2
    rw [e]
    clear e HOK hbox hrow
    have FIN := Lib.hid fin
    clear fin
    generalize us.length = L at *
    go_enter Try.func33, Try.ntmps33
    go_wp2
    go_quiet (fail)
    go_wp2
    go_end0
    exact ⟨rfl, FIN.out _⟩
  · have e : MS.adv ⟨sh, pe, tk, us⟩ t = ⟨sh, pe, t, us⟩ := by
      unfold MS.adv MS.usAt MS.fresh
      simp only [decide_eq_false h4]
      rfl
    rw [e] at HOK
    have fin : ∀ n : Nat, Mt ((w.drewN n).setCell ⟨p, 2, none⟩ (.int .i64 t)) p u ⟨sh, pe, t, us⟩ ∧ OnlyP (Two p u) w ((w.drewN n).setCell ⟨p, 2, none⟩ (.int .i64 t)) := by
      intro n
      have bd : Below w.heap.size w (w.drewN n) := below_drewN (Below.refl _ _) n
      have hb := hbox.step bd
      refine ⟨⟨hne, ?_, (hrow.step bd).far (p := ⟨p, 2, none⟩) hne.symm _, HOK.out⟩, (OnlyP.of_below bd).trans (OnlyP.set _ _ _ _ (.inl rfl))⟩
      have := hb.set 2 (.int .i64 t)
      simpa using this
    rw [e]
    clear e HOK hbox hrow
    have FIN := Lib.hid fin
    clear fin
    generalize us.length = L at *
    go_enter Try.func33, Try.ntmps33
    go_wp2
    go_quiet (fail)
    go_wp2
    go_end0
    exact ⟨rfl, FIN.out _⟩
end Go.Proofs.Ytcohajmappdckaa
