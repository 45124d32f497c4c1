/- Contracts of package wire's Reader: lists of signed numbers, truth values. -/
import Derived.Test.YtmfekbljfnjkgaaWireR2
namespace Go.Proofs.Ytmfekbljfnjkgaa
open Go.RowKit Go.Shelf
set_option linter.unusedVariables false

theorem info_i64 : (Try.prog.info? 3).map (fun i => (i.zero, i.size, i.bytes)) = some (some (.int .i64 0), 1, 8) := by kernel_rfl
theorem rInt_left (zs : List Int) (e : Int) (p : Int → Prop) (hz : ∀ x ∈ zs, p x) : ∀ x ∈ (rInt zs e).2.1, p x := rUint_left zs e p hz
theorem rInt_len (zs : List Int) (e : Int) : (rInt zs e).2.1.length ≤ zs.length := rUint_len zs e

def rintsT (N : Nat) (ys : List Int) (e : Int) : List Int × List Int × Int :=
  if (if ys.length < N then failI e 3 else e) = 0 then rMany N [] ys 0 else ([], ys, if ys.length < N then failI e 3 else e)
theorem rInts_T (zs : List Int) (e : Int) : rInts zs e = rintsT (rUint zs e).1 (rUint zs e).2.1 (rUint zs e).2.2 := by
  first
    | rfl
    | (unfold rInts rLen rintsT
       dsimp only)
theorem rintsT_more (N : Nat) (ys : List Int) (e : Int) (h : ys.length < N) : rintsT N ys e = ([], ys, failI e 3) := by
  have : failI e 3 ≠ 0 := by unfold failI; split <;> simp_all
  unfold rintsT
  rw [if_pos h, if_neg this]
theorem rintsT_err (N : Nat) (ys : List Int) (e : Int) (h : ¬ ys.length < N) (he : e ≠ 0) : rintsT N ys e = ([], ys, e) := by
  unfold rintsT
  rw [if_neg h, if_neg he]
theorem rintsT_ok (N : Nat) (ys : List Int) (h : ¬ ys.length < N) : rintsT N ys 0 = rMany N [] ys 0 := by
  unfold rintsT
  rw [if_neg h, if_pos rfl]
theorem rMany_next (j : Nat) (acc ys : List Int) (h : (rInt ys 0).2.2 = 0) : rMany (j + 1) acc ys 0 = rMany j (acc ++ [(rInt ys 0).1]) (rInt ys 0).2.1 0 := by
  conv => lhs; unfold rMany
  rw [if_pos h]
theorem rMany_stop (j : Nat) (acc ys : List Int) (h : (rInt ys 0).2.2 ≠ 0) : rMany (j + 1) acc ys 0 = ([], (rInt ys 0).2) := by
  conv => lhs; unfold rMany
  rw [if_neg h]

set_option maxHeartbeats 4000000 in
theorem listInts_any (b d : Nat) (zs : List Int) (err : Int) (w : World) (h : Rd w b d zs err) (hz : ∀ x ∈ zs, 0 ≤ x ∧ x < 256) (hm : zs.length ≤ 10000000) :
    Calls Try.prog 75 #[.pointer (some ⟨b, 0, none⟩), .func (.func 62) #[.pointer (some ⟨b, 0, none⟩)] #[]] w fun e w' => ∃ v, e = .returned v ∧ w'.ownsRow w.heap.size 3 1 v (rInts zs err).1.length ((rInts zs err).1.map (Value.int .i64)) ∧ Rd w' b d (rInts zs err).2.1 (rInts zs err).2.2 ∧ Only b w w' := by
  obtain ⟨i0, hi, hz0, hz1, hz2⟩ := info_parts info_i64
  have hlim := rUint_lt zs err hz
  have hleft := rUint_left zs err (fun x => 0 ≤ x ∧ x < 256) hz
  have hlen : (rUint zs err).2.1.length ≤ zs.length := rUint_len zs err
  have HZ := Lib.hid hz; clear hz
  have hbl := h.lt
  have hd0 := h.dlt
  have hd : (rUint zs err).2.1 = [] ∨ d < w.heap.size := hd0.imp (fun e => by subst e; exact List.eq_nil_of_length_eq_zero (by simpa using hlen)) id
  generalize hR : rInts zs err = R
  rw [rInts_T] at hR
  go_enter Try.func75, Try.ntmps75
  go_wp2_with fail
  refine (uint_any b d zs err _ h HZ.out).mono ?_
  rintro e w1 ⟨rfl, h1, ho1⟩
  dsimp only
  generalize rUint zs err = T at *
  obtain ⟨N, ys, e1⟩ := T
  dsimp only at *
  have HR := Lib.hid hR; clear hR
  have hc1 := h1.err
  obtain ⟨a0, c0, hc0⟩ := h1.slice
  have hyl := h1.zs_lt
  unfold maxLen at hyl
  have HL := Lib.hid hleft; clear hleft
  clear h hd0
  generalize hyL : ys.length = L at *
  have HYL := Lib.hid hyL; clear hyL
  by_cases hN : L < N
  · have hf0 : failI e1 3 ≠ 0 := by unfold failI; split <;> simp_all
    have hfb : (failI e1 3 != 0) = true := by simpa using hf0
    have HR2 : Hid (R = ([], ys, failI e1 3)) := Lib.hid (by rw [← HR.out, rintsT_more _ _ _ (by rw [HYL.out]; exact hN)])
    go_wp2_with (go_at_call 76; refine (fail_any b d ys e1 3 _ h1).mono ?_; rintro e w3 ⟨rfl, h3, ho3⟩; have hc3 := h3.err)
    go_ret
    rw [HR2.out]
    exact ⟨_, rfl, World.ownsRow_nil _ _ _ _, h3, only_trans ho1 ho3⟩
  · by_cases he : e1 = 0
    · subst he
      have HR2 : Hid (rMany N [] ys 0 = R) := Lib.hid (by rw [← HR.out, rintsT_ok _ _ (by rw [HYL.out]; exact hN)])
      have hNL : N ≤ 10000000 := by omega
      have hsz := ho1.size
      go_wp2_with (at_make; refine wpList_make_own _ rfl _ _ 22 rfl w.heap.size 3 i0 (.int .i64 0) 1 Try.underlying22 hi hz0 hz1 _ _ _ N rfl rfl rfl (by rw [hz2]; omega) (by unfold maxLen; omega) hsz ?_; intro w2 hown hgrow)
      have hB2 : Below w.heap.size w1 w2 := (Below.refl w.heap.size w1).grown hgrow hsz (fun k e => by cases e)
      have hO2 := only_belowN ho1 hB2
      have h2 := h1.below hbl hd hB2
      clear hB2 hgrow h1 hc0 hc1 hsz ho1 HR
      generalize (Value.slice (some { block := w1.heap.size, off := 0 }) 0 N) = l0 at hown ⊢
      go_loopw [6, 28] (fun l i wr => ∃ (k : Nat) (acc xs : List Int), k ≤ N ∧ i = .int .u64 (k : Int) ∧ Rd wr b d xs 0 ∧ wr.ownsRow w.heap.size 3 1 l k (acc.map (Value.int .i64)) ∧ Only b w wr ∧ Hid (rMany (N - k) acc xs 0 = R) ∧ Hid (∀ x ∈ xs, 0 ≤ x ∧ x < 256) ∧ Hid (xs = [] ∨ d < w.heap.size)) (fun _ i _ => N - (intOf i).toNat)
      case atStart => exact ⟨0, [], ys, Nat.zero_le _, rfl, h2, by simpa using hown, hO2, HR2, HL, Lib.hid hd⟩
      case round =>
        clear h2 hown hO2 HR2 HL hd
        obtain ⟨k, acc, xs, hk, rfl, h2, hown, hO, HR2, HL, HD⟩ := hrel
        have hszr := hO.size
        by_cases hlt : k < N
        · have HD2 : Hid ((rInt xs 0).2.1 = [] ∨ d < w.heap.size) := Lib.hid (HD.out.imp (fun e => by subst e; exact List.eq_nil_of_length_eq_zero (by simpa using rInt_len [] 0)) id)
          have HL2 : Hid (∀ x ∈ (rInt xs 0).2.1, 0 ≤ x ∧ x < 256) := Lib.hid (rInt_left xs 0 _ HL.out)
          have HN1 : Hid ((rInt xs 0).2.2 = 0 → rMany (N - (k + 1)) (acc ++ [(rInt xs 0).1]) (rInt xs 0).2.1 0 = R) := Lib.hid fun h => by
            rw [← rMany_next _ _ _ h, show N - (k + 1) + 1 = N - k from by omega]; exact HR2.out
          have HN2 : Hid ((rInt xs 0).2.2 ≠ 0 → R = ([], (rInt xs 0).2)) := Lib.hid fun h => by
            rw [← HR2.out, show N - k = N - (k + 1) + 1 from by omega, rMany_stop _ _ _ h]
          have Hcall : ∀ W, wr = W → Calls Try.prog 62 #[.pointer (some ⟨b, 0, none⟩)] W fun e w' => e = .returned (.int .i64 (rInt xs 0).1) ∧ Rd w' b d (rInt xs 0).2.1 (rInt xs 0).2.2 ∧ w'.ownsRow w.heap.size 3 1 u6 k (acc.map (Value.int .i64)) ∧ Only b w w' := fun W e => by
            subst e
            refine (int_any b d xs 0 _ h2 HL.out).mono ?_
            rintro e w' ⟨rfl, h3, ho3⟩
            refine ⟨rfl, h3, hown.kept ho3 ?_, only_trans hO ho3⟩
            refine .inr fun e => ?_
            have := (hown.lt _ e).1
            omega
          have HC := Lib.hid Hcall; clear Hcall
          clear hown h2 hO HR2 HL HD
          generalize rInt xs 0 = T at *
          obtain ⟨x, xs2, e2⟩ := T
          dsimp only at HC HN1 HN2 HL2 HD2
          by_cases he2 : e2 = 0
          · subst he2
            have HR3 : Hid (rMany (N - (k + 1)) (acc ++ [x]) xs2 0 = R) := Lib.hid (HN1.out rfl)
            clear HN1 HN2
            go_wp2_with (first
              | (go_at_call 62; refine (HC.out _ rfl).mono ?_; rintro e w3 ⟨rfl, h3, hown3, hO3⟩; have hc3 := h3.err; have hsz3 := hO3.size)
              | (at_builtin; refine wpList_append_own _ rfl _ _ 22 rfl w.heap.size 3 i0 (.int .i64 0) 1 8 Try.underlying22 hi hz0 hz1 hz2 rfl (by decide) _ _ _ rfl (hown3.alloc _) ⟨w3.heap.size, 0, none⟩ 1 1 [.int .i64 x] rfl rfl (cell_one_new _ _ _) (by simp [Value.oneCell']) (by unfold maxLen; omega) (by omega) (by simp; omega) ?_; intro v' w4 hown4 hgrow4 _))
            have hB4 : Below w.heap.size w3 w4 := ((Below.refl w.heap.size w3).alloc hsz3 _).grown hgrow4 (by simp; omega) (fun k e => (hown3.lt _ e).1)
            go_roundw
            case rel =>
              exact ⟨k + 1, acc ++ [x], xs2, by omega, by go_num, h3.below hbl HD2.out hB4, by rw [List.map_append]; exact hown4, only_belowN hO3 hB4, HR3, HL2, HD2⟩
            case measure => simp [intOf]; omega
          · have hbe : (e2 != 0) = true := by simpa using he2
            have HR3 : Hid (R = ([], (xs2, e2))) := Lib.hid (HN2.out he2)
            clear HN1 HN2
            go_wp2_with (go_at_call 62; refine (HC.out _ rfl).mono ?_; rintro e w3 ⟨rfl, h3, hown3, hO3⟩; have hc3 := h3.err; have hsz3 := hO3.size)
            go_ret
            rw [HR3.out]
            exact ⟨_, rfl, World.ownsRow_nil _ _ _ _, h3, hO3⟩
        · have Htk : Hid (k = N) := Lib.hid (by omega)
          go_wp2_with fail
          go_ret
          have e := Htk.out
          subst e
          have hr := HR2.out
          rw [Nat.sub_self] at hr
          rw [← hr]
          refine ⟨u6, rfl, ?_, h2, hO⟩
          have hl : acc.length = k := by simpa using hown.1
          show wr.ownsRow w.heap.size 3 1 u6 acc.length (acc.map (Value.int .i64))
          rw [hl]
          exact hown
    · have heb : (e1 != 0) = true := by simpa using he
      have HR2 : Hid (R = ([], ys, e1)) := Lib.hid (by rw [← HR.out, rintsT_err _ _ _ (by rw [HYL.out]; exact hN) he])
      go_wp2_with fail
      go_ret
      rw [HR2.out]
      exact ⟨_, rfl, World.ownsRow_nil _ _ _ _, h1, ho1⟩

set_option maxHeartbeats 1000000 in
theorem rints_any (b d : Nat) (zs : List Int) (err : Int) (w : World) (h : Rd w b d zs err) (hz : ∀ x ∈ zs, 0 ≤ x ∧ x < 256) (hm : zs.length ≤ 10000000) :
    Calls Try.prog 63 #[.pointer (some ⟨b, 0, none⟩)] w fun e w' => ∃ v, e = .returned v ∧ w'.ownsRow w.heap.size 3 1 v (rInts zs err).1.length ((rInts zs err).1.map (Value.int .i64)) ∧ Rd w' b d (rInts zs err).2.1 (rInts zs err).2.2 ∧ Only b w w' := by
  have HZ := Lib.hid hz; clear hz
  have Hm := Lib.hid hm; clear hm
  go_enter Try.func63, Try.ntmps63
  go_wp2_with fail
  refine (listInts_any b d zs err w h HZ.out Hm.out).mono ?_
  rintro e w1 ⟨v, rfl, h1, h2, h3⟩
  dsimp only
  go_wp2
  go_ret
  exact ⟨v, rfl, h1, h2, h3⟩

end Go.Proofs.Ytmfekbljfnjkgaa
