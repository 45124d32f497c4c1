/- Contracts of the reference model's reader: what stands on Uint. -/
import Derived.Test.YtpoldhblddlcpaaRefRd
namespace Go.Proofs.Ytpoldhblddlcpaa
open Go.RowKit Go.Shelf
set_option linter.unusedVariables false

/-- The first bytes of a row. -/
theorem row_take {k : IntKind} {n₀ : Nat} {W : World} {a : Option Addr} {n cap : Nat} {zs : List Int} (h : Row k n₀ W (.slice a n cap) zs) (j : Nat) (hj : j ≤ zs.length) : Row k n₀ W (.slice a j cap) (zs.take j) := by
  rcases h with ⟨a', cap', e, h2, hn, rfl⟩ | ⟨b, off, cap', e, h1, h2, hb, hc⟩
  · simp at e
    obtain ⟨rfl, rfl, rfl⟩ := e
    have : j = 0 := by simpa using hj
    subst this
    exact .inl ⟨_, _, rfl, h2, hn, rfl⟩
  · simp at e
    obtain ⟨rfl, rfl, rfl⟩ := e
    refine .inr ⟨b, off, cap, by rw [List.length_take, Nat.min_eq_left hj], by rw [List.length_take]; omega, h2, hb, fun i hi => ?_⟩
    rw [List.length_take] at hi
    rw [hc i (by omega), List.getElem?_take]
    rw [if_pos (by omega)]
theorem back_any (n : Nat) (w : World) (hn : n < 18446744073709551616) :
    Calls Try.prog 61 #[.int .u64 n] w fun e w' => e = .returned (.int .i64 (unzig n)) ∧ w' = w := by
  by_cases h : n % 2 = 0
  · have he : unzig n = ((n / 2 : Nat) : Int) := if_pos h
    have h2 : ((n : Int) % 2 == 1) = false := by simp; omega
    have hn2 : (n : Int) < 18446744073709551616 := by omega
    have He := Lib.hid he; clear he
    have H2 := Lib.hid h
    clear h
    go_enter Try.func61, Try.ntmps61
    go_wp2_with fail
    go_ret
    refine ⟨?_, rfl⟩
    rw [He.out]
    congr 2
  · have he : unzig n = -((n / 2 : Nat) : Int) - 1 := if_neg h
    have h2 : ((n : Int) % 2 == 1) = true := by simp; omega
    have hn2 : (n : Int) < 18446744073709551616 := by omega
    have He := Lib.hid he; clear he
    have H2 := Lib.hid h
    clear h
    go_enter Try.func61, Try.ntmps61
    go_wp2_with fail
    go_ret
    refine ⟨?_, rfl⟩
    rw [He.out]
    congr 2
theorem rint_any' (n₀ b : Nat) (zs : List Int) (err : Int) (w : World) (h : RR w n₀ b zs err) (hz : ∀ x ∈ zs, 0 ≤ x ∧ x < 256) :
    Calls Try.prog 50 #[.pointer (some ⟨b, 0, none⟩)] w fun e w' => e = .returned (.int .i64 (rInt zs err).1) ∧ RPost n₀ b w zs (rInt zs err).2.1 (rInt zs err).2.2 w' := by
  have hlim := rUint_lt zs err hz
  have HZ := Lib.hid hz; clear hz
  go_enter Try.func50, Try.ntmps50
  go_wp2_with fail
  refine (ruint_any n₀ b zs err w h HZ.out).mono ?_
  rintro e w1 ⟨rfl, hp⟩
  dsimp only
  go_wp2_with fail
  refine (back_any (rUint zs err).1 _ hlim).mono ?_
  rintro e w2 ⟨rfl, rfl⟩
  dsimp only
  go_wp2_with fail
  go_ret
  exact ⟨rfl, hp⟩
theorem rend_any (n₀ b : Nat) (zs : List Int) (err : Int) (w : World) (h : RR w n₀ b zs err) :
    Calls Try.prog 25 #[.pointer (some ⟨b, 0, none⟩)] w fun e w' => e = .returned (.int .i64 (rEnd zs err)) ∧ w' = w := by
  have hc1 := h.err
  obtain ⟨hnb, v, hv, hr⟩ := h
  have hc0 := rd_cell0 hv
  obtain ⟨a, cap, rfl⟩ := row_slice hr
  by_cases he : err = 0
  · subst he
    by_cases hl : 0 < zs.length
    · have e : rEnd zs 0 = 2 := if_pos ⟨rfl, hl⟩
      rw [e]
      go_enter Try.func25, Try.ntmps25
      go_wp2_with fail
      go_ret
      exact ⟨rfl, rfl⟩
    · have e : rEnd zs 0 = 0 := if_neg (fun h => hl h.2)
      rw [e]
      go_enter Try.func25, Try.ntmps25
      go_wp2_with fail
      go_ret
      exact ⟨rfl, rfl⟩
  · have hb : (err == 0) = false := by simpa using he
    have e : rEnd zs err = err := if_neg (fun h => he h.1)
    rw [e]
    have HE := Lib.hid he
    clear he e
    go_enter Try.func25, Try.ntmps25
    go_wp2_with fail
    go_ret
    exact ⟨rfl, rfl⟩
/-- A length, or 0 with an error. -/
def lenI (zs : List Int) (err : Int) : Int := if (rLen zs err).2.2 = 0 then ((rLen zs err).1 : Int) else 0
set_option maxHeartbeats 1000000 in
theorem rlength_any (n₀ b : Nat) (zs : List Int) (err : Int) (w : World) (h : RR w n₀ b zs err) (hz : ∀ x ∈ zs, 0 ≤ x ∧ x < 256) (hm : zs.length ≤ 10000000) :
    Calls Try.prog 62 #[.pointer (some ⟨b, 0, none⟩)] w fun e w' => e = .returned (.int .i64 (lenI zs err)) ∧ RPost n₀ b w zs (rLen zs err).2.1 (rLen zs err).2.2 w' := by
  have hlim := rUint_lt zs err hz
  have hul := rUint_len zs err
  have HZ := Lib.hid hz; clear hz
  have hlenI : lenI zs err = if (if (rUint zs err).2.1.length < (rUint zs err).1 then failI (rUint zs err).2.2 3 else (rUint zs err).2.2) = 0 then ((rUint zs err).1 : Int) else 0 := rfl
  have hrl : (rLen zs err).2.2 = if (rUint zs err).2.1.length < (rUint zs err).1 then failI (rUint zs err).2.2 3 else (rUint zs err).2.2 := rfl
  have hrf : (rLen zs err).2.1 = (rUint zs err).2.1 := rfl
  generalize lenI zs err = V at *
  generalize (rLen zs err).2.2 = E at *
  generalize (rLen zs err).2.1 = Lf at *
  have HV := Lib.hid hlenI
  have HE0 := Lib.hid hrl
  have HF := Lib.hid hrf
  clear hlenI hrl hrf
  go_enter Try.func62, Try.ntmps62
  go_wp2_with fail
  refine (ruint_any n₀ b zs err w h HZ.out).mono ?_
  generalize rUint zs err = U at *
  obtain ⟨N, left, er⟩ := U
  dsimp only at *
  rintro e w1 ⟨rfl, zs', hR, hleft, hl', hmem, ho⟩
  have hc1 := hR.err
  have hf1 := hR.free 1
  obtain ⟨hnb, v, hv, hr⟩ := id hR
  have hc0 := rd_cell0 hv
  obtain ⟨a, cap, rfl⟩ := row_slice hr
  have hlc := hr.lencap
  unfold maxLen at hlc
  by_cases he : er = 0
  · subst he
    obtain rfl := hleft rfl
    clear hleft
    by_cases hN : zs'.length < N
    · have hNi : (zs'.length : Int) < N := by omega
      have hw : IntKind.u64.wrap (zs'.length : Int) = zs'.length := IntWalk.u64_in _ (by omega)
      have e1 : E = 3 := by rw [HE0.out, if_pos hN]; rfl
      have e2 : V = 0 := by rw [HV.out, if_pos hN]; rfl
      have E1 := Lib.hid e1
      have E2 := Lib.hid e2
      clear e1 e2
      go_wp2_with fail
      go_ret
      rw [E1.out, E2.out]
      exact ⟨rfl, zs', hR.set1 3, (fun e => by cases e), hl', hmem, only_trans ho (only_set _ _ _ _)⟩
    · have hNi : ¬ (zs'.length : Int) < N := by omega
      have hw : IntKind.u64.wrap (zs'.length : Int) = zs'.length := IntWalk.u64_in _ (by omega)
      have hw2 : IntKind.i64.wrap (N : Int) = N := IntWalk.i64_in _ (by omega)
      have e1 : E = 0 := by rw [HE0.out, if_neg hN]
      have e2 : V = N := by rw [HV.out, if_neg hN, if_pos rfl]
      have E1 := Lib.hid e1
      have E2 := Lib.hid e2
      clear e1 e2
      go_wp2_with fail
      go_ret
      rw [E1.out, E2.out]
      refine ⟨?_, zs', hR, fun _ => HF.out.symm, hl', hmem, ho⟩
      rfl
  · have hb : (er == 0) = false := by simpa using he
    have hb2 : (er != 0) = true := by simpa using he
    have hf : (if left.length < N then failI er 3 else er) = er := by
      unfold failI
      rw [if_neg he]
      simp
    have e1 : E = er := by rw [HE0.out, hf]
    have e2 : V = 0 := by rw [HV.out, hf, if_neg he]
    have E1 := Lib.hid e1
    have E2 := Lib.hid e2
    have HE := Lib.hid he
    clear he hf hleft e1 e2
    go_wp2_with fail
    go_ret
    rw [E1.out, E2.out]
    exact ⟨rfl, zs', hR, fun e => absurd e HE.out, hl', hmem, ho⟩
theorem lenI_ok (zs : List Int) (err : Int) (h : (rLen zs err).2.2 = 0) : lenI zs err = ((rLen zs err).1 : Int) := if_pos h
theorem rLen_fit (zs : List Int) (err : Int) (h : (rLen zs err).2.2 = 0) : (rLen zs err).1 ≤ (rLen zs err).2.1.length := by
  rcases Nat.lt_or_ge (rLen zs err).2.1.length (rLen zs err).1 with h1 | h1
  · have e : (rLen zs err).2.2 = failI (rUint zs err).2.2 3 := if_pos h1
    rw [e] at h
    unfold failI at h
    split at h
    · cases h
    · exact absurd h (by assumption)
  · exact h1
set_option maxHeartbeats 1000000 in
theorem rraw_any' (n₀ b : Nat) (zs : List Int) (err : Int) (w : World) (h : RR w n₀ b zs err) (hz : ∀ x ∈ zs, 0 ≤ x ∧ x < 256) (hm : zs.length ≤ 10000000) :
    Calls Try.prog 52 #[.pointer (some ⟨b, 0, none⟩)] w fun e w' => ∃ v, e = .returned v ∧ Row .u8 n₀ w' v (rRaw zs err).1 ∧ RPost n₀ b w zs (rRaw zs err).2.1 (rRaw zs err).2.2 w' := by
  have hlok := lenI_ok zs err
  have hfit := rLen_fit zs err
  have HZ := Lib.hid hz; clear hz
  have hR0 : rRaw zs err = if (rLen zs err).2.2 = 0 then ((rLen zs err).2.1.take (rLen zs err).1, (rLen zs err).2.1.drop (rLen zs err).1, 0) else ([], (rLen zs err).2) := rfl
  generalize rRaw zs err = R at *
  have HR0 := Lib.hid hR0
  clear hR0
  have HLOK := Lib.hid hlok
  have HFIT := Lib.hid hfit
  clear hlok hfit
  go_enter Try.func52, Try.ntmps52
  go_wp2_with fail
  refine (rlength_any n₀ b zs err w h HZ.out hm).mono ?_
  generalize lenI zs err = V at *
  generalize rLen zs err = U at *
  obtain ⟨N, left, er⟩ := U
  dsimp only at *
  rintro e w1 ⟨rfl, zs', hR, hleft, hl', hmem, ho⟩
  have hc1 := hR.err
  have hf0 := hR.free 0
  obtain ⟨hnb, v, hv, hr⟩ := id hR
  have hc0 := rd_cell0 hv
  by_cases he : er = 0
  · subst he
    obtain rfl := hleft rfl
    have hV := HLOK.out rfl
    have hN := HFIT.out rfl
    subst hV
    have e1 : R = (zs'.take N, zs'.drop N, 0) := by rw [HR0.out, if_pos rfl]
    have E1 := Lib.hid e1
    clear hleft e1
    obtain ⟨a, cap, rfl⟩ := row_slice hr
    have hlc := hr.lencap
    unfold maxLen at hlc
    have ht := row_take hr N hN
    have hzl : zs'.length ≤ 10000000 := by omega
    have fin : ∀ v v', Row .u8 n₀ w1 v (zs'.take N) → Row .u8 n₀ w1 v' (zs'.drop N) → ∃ u, Ending.returned v = .returned u ∧ Row .u8 n₀ (w1.setCell ⟨b, 0, none⟩ v') u R.1 ∧ RPost n₀ b w zs R.2.1 R.2.2 (w1.setCell ⟨b, 0, none⟩ v') := by
      intro v v' h1 h2
      rw [E1.out]
      exact ⟨v, rfl, h1.keep (KeepP.setCell _ _ _ _ (by show ¬ b < n₀; omega)), _, hR.set0 h2, fun _ => rfl, by rw [List.length_drop]; omega, fun x hx => hmem x (List.mem_of_mem_drop hx), only_trans ho (only_set _ _ _ _)⟩
    have F := Lib.hid fin
    clear fin
    have hN0 : (0 : Int) ≤ (N : Int) := by omega
    cases a with
    | none =>
      have hn0 : zs' = [] ∧ cap = 0 := by
        rcases hr with ⟨a', cap', e, _, hcap, rfl⟩ | ⟨d, off, cap', e, _⟩
        · simp at e
          obtain ⟨rfl, rfl⟩ := e
          exact ⟨rfl, hcap rfl⟩
        · simp at e
      obtain ⟨rfl, rfl⟩ := hn0
      have hN' : N = 0 := by simpa using hN
      subst hN'
      go_wp2_with fail
      go_ret
      exact F.out _ _ (nil_row _ _ _) (nil_row _ _ _)
    | some ad =>
      by_cases h0 : zs' = []
      · subst h0
        have hN' : N = 0 := by simpa using hN
        subst hN'
        have nr : ∀ (x : Addr) (c : Nat), c ≤ 9223372036854775807 → Row .u8 n₀ w1 (.slice (some x) 0 c) ([] : List Int) := fun x c hc => .inl ⟨_, c, rfl, by unfold maxLen; omega, (fun h => by cases h), rfl⟩
        have NR := Lib.hid nr
        clear nr
        have hcap9 : cap ≤ 9223372036854775807 := by omega
        by_cases hc0' : cap = 0
        · subst hc0'
          go_wp2_with fail
          go_ret
          exact F.out _ _ (NR.out _ _ (by omega)) (NR.out _ _ (by omega))
        · go_wp2_with fail
          go_ret
          exact F.out _ _ (NR.out _ _ (by omega)) (NR.out _ _ (by omega))
      · obtain ⟨d, off, e, hd, _⟩ := hr.at (by cases zs' with | nil => exact absurd rfl h0 | cons x r => simp)
        simp only [Option.some.injEq] at e
        subst e
        have hdr := row_drop hr N hN
        have HDR := Lib.hid hdr
        have HT := Lib.hid ht
        have H0 := Lib.hid h0
        clear hdr ht h0
        have hcn : (N : Int) ≤ cap := by omega
        by_cases hcN : cap = N
        · subst hcN
          have hz : zs'.length = cap := by omega
          have HZ2 := Lib.hid hz
          clear hz
          go_wp2_with fail
          go_ret
          refine F.out _ _ HT.out ?_
          have := HDR.out.2 (by rw [HZ2.out])
          rw [show zs'.length - cap = 0 from by rw [HZ2.out]; omega] at this
          simpa [HZ2.out] using this
        · go_wp2_with fail
          go_ret
          exact F.out _ _ HT.out HDR.out.1
  · have hb2 : (er != 0) = true := by simpa using he
    have e1 : R = ([], left, er) := by rw [HR0.out, if_neg he]
    have E1 := Lib.hid e1
    have HE := Lib.hid he
    clear he hleft e1
    go_wp2_with fail
    go_ret
    rw [E1.out]
    exact ⟨_, rfl, nil_row _ _ _, zs', hR, fun e => absurd e HE.out, hl', hmem, ho⟩
end Go.Proofs.Ytpoldhblddlcpaa
