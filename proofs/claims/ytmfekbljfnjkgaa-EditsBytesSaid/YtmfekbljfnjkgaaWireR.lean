/- Contracts of package wire's Reader. -/
import Derived.Test.YtmfekbljfnjkgaaWire2
import Derived.Outline
import Derived.Test.YtmfekbljfnjkgaaWireMath2
namespace Go.Proofs.Ytmfekbljfnjkgaa
open Go.RowKit Go.Shelf
set_option linter.unusedVariables false

/-- Nothing that was there has turned but block b. -/
abbrev Only (b : Nat) (W W' : World) : Prop := W.grownBy W' (some b)
theorem only_refl (b : Nat) (W : World) : Only b W W := ⟨rfl, rfl, rfl, Nat.le_refl _, fun _ _ _ => rfl⟩
theorem only_trans {b : Nat} {X Y Z : World} (h : Only b X Y) (k : Only b Y Z) : Only b X Z :=
  ⟨k.os.trans h.os, k.tape.trans h.tape, k.output.trans h.output, Nat.le_trans h.size k.size, fun i hi hn => (k.block i (Nat.lt_of_lt_of_le hi h.size) hn).trans (h.block i hi hn)⟩
theorem only_set (W : World) (b o : Nat) (v : Value) : Only b W (W.setCell ⟨b, o, none⟩ v) :=
  ⟨rfl, rfl, rfl, by simp, fun k _ hk => Below.heap_setCell _ _ _ k (fun e => hk (by rw [e]))⟩
theorem only_below {b n : Nat} {W W' : World} (h : Only b W W') (hn : n ≤ b) (hb : b < W.heap.size) : Below n W W' :=
  (Below.refl n W).grown h (by omega) (fun k e => by cases e; exact hn)
theorem only_of_below {b : Nat} {W W' : World} (h : Below W.heap.size W W') : Only b W W' := ⟨h.os, h.tape, h.output, h.size, fun k hk _ => h.block k hk⟩

theorem rowP_keep0 {k : IntKind} {p : Nat → Prop} {A B : World} {v : Value} {zs : List Int} (h : zs = [] ∨ KeepP p A B) (hr : RowP k p A v zs) : RowP k p B v zs := by
  rcases h with rfl | h
  · rcases hr with e | ⟨b, off, cap, e, h1, h2, _⟩
    · exact .inl e
    · exact .inl ⟨_, cap, e, h2, (fun h => by cases h), rfl⟩
  · exact hr.keep h
/-- A Reader at block b: its bytes that are left, in block d; its error. -/
def Rd (W : World) (b d : Nat) (zs : List Int) (err : Int) : Prop :=
  (zs = [] ∨ b ≠ d) ∧ ∃ v, W.heap[b]? = some (.cells #[v, .int .i64 err] 106 (0, 0)) ∧ RowP .u8 (fun q => q = d) W v zs
theorem Rd.lt {W : World} {b d : Nat} {zs : List Int} {err : Int} (h : Rd W b d zs err) : b < W.heap.size := by
  obtain ⟨_, v, hv, _⟩ := h
  exact (Array.getElem?_eq_some_iff.1 hv).1
theorem rd_cell0 {W : World} {b : Nat} {v x : Value} {t : TypeId} (h : W.heap[b]? = some (.cells #[v, x] t (0, 0))) : W.cell? ⟨b, 0, none⟩ = some v := by unfold World.cell?; rw [h]; rfl
theorem rd_cell1 {W : World} {b : Nat} {v x : Value} {t : TypeId} (h : W.heap[b]? = some (.cells #[v, x] t (0, 0))) : W.cell? ⟨b, 1, none⟩ = some x := by unfold World.cell?; rw [h]; rfl
theorem rd_free {W : World} {b : Nat} {v x : Value} {t : TypeId} (h : W.heap[b]? = some (.cells #[v, x] t (0, 0))) (o : Nat) : W.frozen? ⟨b, o, none⟩ = false := by unfold World.frozen?; rw [h]; simp
theorem rd_set0 {W : World} {b : Nat} {v x : Value} {t : TypeId} (h : W.heap[b]? = some (.cells #[v, x] t (0, 0))) (u : Value) : (W.setCell ⟨b, 0, none⟩ u).heap[b]? = some (.cells #[u, x] t (0, 0)) := by
  obtain ⟨hlt, hk⟩ := Array.getElem?_eq_some_iff.1 h
  show (W.heap.modify b _)[b]? = _
  rw [Array.getElem?_eq_getElem (by rw [Array.size_modify]; exact hlt), Array.getElem_modify_self, hk]
  rfl
theorem rd_set1 {W : World} {b : Nat} {v x : Value} {t : TypeId} (h : W.heap[b]? = some (.cells #[v, x] t (0, 0))) (u : Value) : (W.setCell ⟨b, 1, none⟩ u).heap[b]? = some (.cells #[v, u] t (0, 0)) := by
  obtain ⟨hlt, hk⟩ := Array.getElem?_eq_some_iff.1 h
  show (W.heap.modify b _)[b]? = _
  rw [Array.getElem?_eq_getElem (by rw [Array.size_modify]; exact hlt), Array.getElem_modify_self, hk]
  rfl
/-- Another block was turned. -/
theorem Rd.keep {W W' : World} {b d b' : Nat} {zs : List Int} {err : Int} (h : Rd W b d zs err) (ho : Only b' W W') (h1 : b ≠ b') (h2 : d ≠ b') : Rd W' b d zs err := by
  have hlt := h.lt
  obtain ⟨hne, v, hv, hr⟩ := h
  refine ⟨hne, v, (ho.block b hlt (by simpa using h1)).trans hv, ?_⟩
  rcases hr with e | ⟨q, off, cap, e, h3, h4, hp, hc⟩
  · exact .inl e
  · subst hp
    refine .inr ⟨q, off, cap, e, h3, h4, rfl, fun j hj => ?_⟩
    have hq := World.block_lt_of_cell? W _ (hc j hj)
    rw [← hc j hj]
    simp only [World.cell?, ho.block q hq (by simpa using h2)]

set_option maxHeartbeats 1000000 in
theorem fail_any (b d : Nat) (zs : List Int) (err f : Int) (w : World) (h : Rd w b d zs err) :
    Calls Try.prog 76 #[.pointer (some ⟨b, 0, none⟩), .int .i64 f] w fun e w' => e = .returned (.tuple #[]) ∧ Rd w' b d zs (failI err f) ∧ Only b w w' := by
  obtain ⟨hne, v, hv, hr⟩ := h
  have hc := rd_cell1 hv
  have hf := rd_free hv 1
  by_cases he : err = 0
  · subst he
    go_enter Try.func76, Try.ntmps76
    go_wp2
    go_end0
    refine ⟨rfl, ⟨hne, v, rd_set1 hv _, ?_⟩, only_set _ _ _ _⟩
    exact rowP_keep0 (hne.imp id (fun h => KeepP.setCell _ _ _ _ (fun e => h e))) hr
  · have hb : (err == 0) = false := by simpa using he
    have hfi : failI err f = err := if_neg he
    have Hfi := Lib.hid hfi; clear hfi
    go_enter Try.func76, Try.ntmps76
    go_wp2
    go_end0
    exact ⟨rfl, by rw [Hfi.out]; exact ⟨hne, v, hv, hr⟩, only_refl _ _⟩

set_option maxHeartbeats 1000000 in
theorem octet_any (b d : Nat) (zs : List Int) (err : Int) (w : World) (h : Rd w b d zs err) :
    Calls Try.prog 66 #[.pointer (some ⟨b, 0, none⟩)] w fun e w' => e = .returned (.int .u8 (rOct zs err).1) ∧ Rd w' b d (rOct zs err).2.1 (rOct zs err).2.2 ∧ Only b w w' := by
  have h0 := h
  obtain ⟨hne, v, hv, hr⟩ := h
  have hc0 := rd_cell0 hv
  have hc1 := rd_cell1 hv
  have hf := rd_free hv 0
  by_cases he : err = 0
  · subst he
    cases zs with
    | nil =>
      rcases hr with ⟨a, cap, rfl, _, _, _⟩ | ⟨q, off, cap, rfl, _, _, _, _⟩
      all_goals
        go_enter Try.func66, Try.ntmps66
        go_wp2_with (go_at_call 76; refine (fail_any b d [] 0 3 _ h0).mono ?_; rintro e w' ⟨rfl, h1, h2⟩)
        go_ret
        exact ⟨rfl, h1, h2⟩
    | cons x r =>
      rcases hr with ⟨a, cap, rfl, _, _, hz⟩ | ⟨q, off, cap, rfl, h1, h2, hp, hc⟩
      · cases hz
      · subst hp
        replace hne := hne.resolve_left (by simp)
        have hx := hc 0 (by simp)
        simp only [Nat.add_zero, List.getElem?_cons_zero, Option.getD_some] at hx
        unfold maxLen at h2
        simp only [List.length_cons] at h1 hc0
        have hx' : w.cell? ⟨q, off, none⟩ = some (.int .u8 x) := hx
        clear hx h0
        have HC := Lib.hid hc; clear hc
        have Hv := Lib.hid hv; clear hv
        generalize hrl : r.length = rl at *
        have HR := Lib.hid hrl; clear hrl
        rcases Nat.lt_or_ge 1 cap with hcap | hcap
        · go_enter Try.func66, Try.ntmps66
          go_wp2
          go_ret
          refine ⟨rfl, ⟨.inr hne, _, rd_set0 Hv.out _, .inr ⟨q, off + 1, cap - 1, by rw [← HR.out]; rfl, ?_, by unfold maxLen; omega, rfl, ?_⟩⟩, only_set _ _ _ _⟩
          · show r.length ≤ _; rw [HR.out]; omega
          · intro j hj
            have := HC.out (j + 1) (by simp only [List.length_cons]; exact Nat.succ_lt_succ hj)
            rw [show off + 1 + j = off + (j + 1) from by omega, ((KeepP.setCell (fun k => k = q) _ _ _ (fun e => hne e)).cell rfl), this]
            rfl
        · obtain rfl : cap = 1 := by omega
          have hr0 : r = [] := List.eq_nil_of_length_eq_zero (by rw [HR.out]; omega)
          go_enter Try.func66, Try.ntmps66
          go_wp2
          go_ret
          subst hr0
          refine ⟨rfl, ⟨.inr hne, _, rd_set0 Hv.out _, (.inl ⟨_, 0, rfl, Nat.zero_le _, fun _ => rfl, rfl⟩)⟩, only_set _ _ _ _⟩
  · have hb : (err != 0) = true := by simpa using he
    have ho : rOct zs err = (0, zs, err) := by unfold rOct; split; exact absurd rfl he; rfl
    have Ho := Lib.hid ho; clear ho
    go_enter Try.func66, Try.ntmps66
    go_wp2
    go_ret
    rw [Ho.out]
    exact ⟨rfl, h0, only_refl _ _⟩

theorem Rd.zs_lt {W : World} {b d : Nat} {zs : List Int} {err : Int} (h : Rd W b d zs err) : zs.length ≤ maxLen := by
  obtain ⟨_, v, _, hr⟩ := h
  rcases hr with ⟨a, cap, rfl, _, _, rfl⟩ | ⟨q, off, cap, rfl, h1, h2, _⟩
  · exact Nat.zero_le _
  · exact Nat.le_trans h1 h2

theorem octet_nil (b d : Nat) (w : World) (h : Rd w b d [] 0) :
    Calls Try.prog 66 #[.pointer (some ⟨b, 0, none⟩)] w fun e w' => e = .returned (.int .u8 0) ∧ Rd w' b d [] 3 ∧ Only b w w' := octet_any b d [] 0 w h
theorem octet_cons (b d : Nat) (x : Int) (r : List Int) (w : World) (h : Rd w b d (x :: r) 0) :
    Calls Try.prog 66 #[.pointer (some ⟨b, 0, none⟩)] w fun e w' => e = .returned (.int .u8 x) ∧ Rd w' b d r 0 ∧ Only b w w' := octet_any b d (x :: r) 0 w h
theorem octet_err (b d : Nat) (zs : List Int) (err : Int) (w : World) (h : Rd w b d zs err) (he : err ≠ 0) :
    Calls Try.prog 66 #[.pointer (some ⟨b, 0, none⟩)] w fun e w' => e = .returned (.int .u8 0) ∧ Rd w' b d zs err ∧ Only b w w' := by
  have ho : rOct zs err = (0, zs, err) := by unfold rOct; split; exact absurd rfl he; rfl
  have := octet_any b d zs err w h
  rwa [ho] at this
theorem Rd.err {W : World} {b d : Nat} {zs : List Int} {err : Int} (h : Rd W b d zs err) : W.cell? ⟨b, 1, none⟩ = some (.int .i64 err) := by
  obtain ⟨_, v, hv, _⟩ := h
  exact rd_cell1 hv

set_option maxHeartbeats 4000000 in
theorem uint_err (b d : Nat) (zs : List Int) (err : Int) (w : World) (h : Rd w b d zs err) (he : err ≠ 0) :
    Calls Try.prog 74 #[.pointer (some ⟨b, 0, none⟩)] w fun e w' => e = .returned (.int .u64 0) ∧ Rd w' b d zs err ∧ Only b w w' := by
  have hb : (err != 0) = true := by simpa using he
  have HE := Lib.hid he; clear he
  go_enter Try.func74, Try.ntmps74
  go_wp2
  go_loopw [3, 4] (fun n i wr => n = .int .u64 0 ∧ i = .int .i64 0 ∧ wr = w) (fun _ i _ => 10 - (intOf i).toNat)
  case atStart => exact ⟨rfl, rfl, rfl⟩
  case round =>
    obtain ⟨rfl, rfl, rfl⟩ := hrel
    go_wp2_with (go_at_call 66; refine (octet_err b d zs err _ h HE.out).mono ?_; rintro e w' ⟨rfl, h2, ho2⟩; have hc1 := h2.err)
    go_ret
    exact ⟨rfl, h2, ho2⟩

set_option maxHeartbeats 4000000 in
theorem uint_ok (b d : Nat) (zs : List Int) (w : World) (h : Rd w b d zs 0) (hz : ∀ x ∈ zs, 0 ≤ x ∧ x < 256) :
    Calls Try.prog 74 #[.pointer (some ⟨b, 0, none⟩)] w fun e w' => e = .returned (.int .u64 (rU 10 0 0 zs).1) ∧ Rd w' b d (rU 10 0 0 zs).2.1 (rU 10 0 0 zs).2.2 ∧ Only b w w' := by
  have HZ := Lib.hid hz; clear hz
  generalize hT : rU 10 0 0 zs = T
  have HT := Lib.hid hT; clear hT
  go_enter Try.func74, Try.ntmps74
  go_wp2
  go_loopw [3, 4] (fun n i wr => ∃ (k m : Nat) (ys : List Int), k ≤ 9 ∧ n = .int .u64 (m : Int) ∧ i = .int .i64 (k : Int) ∧ m < 128 ^ k ∧ Rd wr b d ys 0 ∧ Hid (∀ x ∈ ys, 0 ≤ x ∧ x < 256) ∧ Hid (rU (10 - k) k m ys = T) ∧ Only b w wr) (fun _ i _ => 10 - (intOf i).toNat)
  case atStart => exact ⟨0, 0, zs, by omega, rfl, rfl, by decide, h, HZ, HT, only_refl _ _⟩
  case round =>
    clear h HZ HT
    obtain ⟨k, m, ys, hk, rfl, rfl, hm, h, HZ, HT, hO⟩ := hrel
    have Hm := Lib.hid hm; clear hm
    cases ys with
    | nil =>
      go_wp2_with (go_at_call 66; refine (octet_nil b d _ h).mono ?_; rintro e w' ⟨rfl, h2, ho2⟩; have hc1 := h2.err)
      go_ret
      have e : rU (10 - k) k m [] = (0, [], 3) := by rw [show 10 - k = (9 - k) + 1 from by omega]; rfl
      rw [← HT.out, e]
      exact ⟨rfl, h2, only_trans hO ho2⟩
    | cons x r =>
      have hx := HZ.out x (List.mem_cons_self ..)
      obtain ⟨hx0, hx1⟩ := hx
      have HZr : Hid (∀ y ∈ r, 0 ≤ y ∧ y < 256) := Lib.hid fun y hy => HZ.out y (List.mem_cons_of_mem _ hy)
      clear HZ
      have hOr := only_trans hO (only_refl b wr)
      go_wp2_with (first
        | (go_at_call 66; refine (octet_cons b d x r _ h).mono ?_; rintro e w' ⟨rfl, h2, ho2⟩; have hc1 := h2.err)
        | (go_at_call 76; refine (fail_any b d r 0 2 _ h2).mono ?_; rintro e w3 ⟨rfl, h3, ho3⟩))
      all_goals by_cases hx00 : x = 0
      all_goals first
        | (exfalso; omega)
        | (exfalso; subst hx00; simp_all; done)
        | (exfalso; simp only [beq_iff_eq] at *; omega)
        | (go_ret
           rw [← HT.out, rU_bad k m x r hk (by first | exact .inr ⟨by omega, hx00⟩ | exact .inl ⟨by omega, by omega⟩)]
           exact ⟨rfl, h3, only_trans hO (only_trans ho2 ho3)⟩)
        | (have hk9 : k = 9 := by omega
           have NB : ¬((k = 9 ∧ 1 < x) ∨ (0 < k ∧ x = 0)) := by omega
           have HU := uor m k x hk Hm.out hx0 hx1 (by omega)
           rw [hk9, show (2 : Int) ^ (7 * 9) = 9223372036854775808 from by decide] at HU
           go_ret
           rw [← HT.out, rU_end k m x r hk NB (by omega) hx0]
           refine ⟨?_, h2, only_trans hO ho2⟩
           rw [hk9, ← HU]
           rfl)
        | (have NB : ¬((k = 9 ∧ 1 < x) ∨ (0 < k ∧ x = 0)) := by omega
           have HU := uor m k x hk Hm.out hx0 hx1 (by omega)
           go_ret
           rw [← HT.out, rU_end k m x r hk NB (by omega) hx0]
           refine ⟨?_, h2, only_trans hO ho2⟩
           rw [← HU]
           rfl)
        | (have NB : ¬((k = 9 ∧ 1 < x) ∨ (0 < k ∧ x = 0)) := by omega
           refine ⟨⟨k + 1, m + x.toNat % 128 * 128 ^ k, r, by omega, by rw [uor m k x hk Hm.out hx0 hx1 (by omega)], by simp, ulim _ _ _ Hm.out (Nat.mod_lt _ (by decide)), h2, HZr, Lib.hid (by rw [← rU_more k m x r hk NB (by omega) hx1]; exact HT.out), only_trans hO ho2⟩, by simp [intOf]; omega⟩)

theorem uint_any (b d : Nat) (zs : List Int) (err : Int) (w : World) (h : Rd w b d zs err) (hz : ∀ x ∈ zs, 0 ≤ x ∧ x < 256) :
    Calls Try.prog 74 #[.pointer (some ⟨b, 0, none⟩)] w fun e w' => e = .returned (.int .u64 (rUint zs err).1) ∧ Rd w' b d (rUint zs err).2.1 (rUint zs err).2.2 ∧ Only b w w' := by
  unfold rUint
  by_cases he : err = 0
  · subst he
    exact uint_ok b d zs w h hz
  · rw [if_neg he]
    exact uint_err b d zs err w h he
end Go.Proofs.Ytmfekbljfnjkgaa
