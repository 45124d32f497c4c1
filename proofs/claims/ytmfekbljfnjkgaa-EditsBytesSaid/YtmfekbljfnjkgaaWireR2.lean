/- Contracts of package wire's Reader: what stands on Uint. -/
import Derived.Test.YtmfekbljfnjkgaaWireR
import Derived.Laws.BytesArg
namespace Go.Proofs.Ytmfekbljfnjkgaa
open Go.RowKit Go.Shelf
set_option linter.unusedVariables false

set_option maxHeartbeats 1000000 in
theorem int_any (b d : Nat) (zs : List Int) (err : Int) (w : World) (h : Rd w b d zs err) (hz : ∀ x ∈ zs, 0 ≤ x ∧ x < 256) :
    Calls Try.prog 62 #[.pointer (some ⟨b, 0, none⟩)] w fun e w' => e = .returned (.int .i64 (rInt zs err).1) ∧ Rd w' b d (rInt zs err).2.1 (rInt zs err).2.2 ∧ Only b w w' := by
  have HZ := Lib.hid hz; clear hz
  go_enter Try.func62, Try.ntmps62
  go_wp2_with (go_at_call 74; refine (uint_any b d zs err _ h HZ.out).mono ?_; rintro e w' ⟨rfl, h2, ho2⟩)
  go_ret
  refine ⟨?_, h2, ho2⟩
  show _ = Ending.returned (.int .i64 (unzig (rUint zs err).1))
  rw [← unzigI _ (rUint_lt zs err HZ.out)]
  rfl

set_option maxHeartbeats 1000000 in
theorem end_any (b d : Nat) (zs : List Int) (err : Int) (w : World) (h : Rd w b d zs err) :
    Calls Try.prog 64 #[.pointer (some ⟨b, 0, none⟩)] w fun e w' => e = .returned (.int .i64 (rEnd zs err)) ∧ w' = w := by
  have hc1 := h.err
  obtain ⟨hne, v, hv, hr⟩ := h
  have hc0 := rd_cell0 hv
  have hsv : ∃ a cap, v = .slice a zs.length cap := by
    rcases hr with ⟨a, cap, rfl, _, _, rfl⟩ | ⟨q, off, cap, rfl, _⟩
    · exact ⟨_, _, rfl⟩
    · exact ⟨_, _, rfl⟩
  obtain ⟨a, cap, rfl⟩ := hsv
  by_cases he : err = 0
  · subst he
    by_cases hl : 0 < zs.length
    · have e : rEnd zs 0 = 2 := if_pos ⟨rfl, hl⟩
      rw [e]
      go_enter Try.func64, Try.ntmps64
      go_wp2
      go_ret
      exact ⟨rfl, rfl⟩
    · have e : rEnd zs 0 = 0 := if_neg (fun h => hl h.2)
      rw [e]
      go_enter Try.func64, Try.ntmps64
      go_wp2
      go_ret
      exact ⟨rfl, rfl⟩
  · have hb : (err == 0) = false := by simpa using he
    have e : rEnd zs err = err := if_neg (fun h => he h.1)
    rw [e]
    go_enter Try.func64, Try.ntmps64
    go_wp2
    go_ret
    exact ⟨rfl, rfl⟩

set_option maxHeartbeats 1000000 in
theorem read_any (v : Value) (zs : List Int) (w : World) (hr : Row .u8 w.heap.size w v zs) (hm : zs.length ≤ 10000000) :
    Calls Try.prog 36 #[v] w fun e w' => ∃ b d, e = .returned (.pointer (some ⟨b, 0, none⟩)) ∧ w.heap.size ≤ b ∧ w.heap.size ≤ d ∧ Rd w' b d zs 0 ∧ Below w.heap.size w w' := by
  go_enter Try.func36, Try.ntmps36
  go_wp2_with fail
  refine (cloneBytes_any v _ zs w hr hm).mono ?_
  rintro e w' ⟨a, cap, rfl, h1, h2, h3⟩
  dsimp only
  go_wp2
  go_ret
  have hcell : ∀ d, d ≠ w'.heap.size → RowP .u8 (fun q => q = d) w' (.slice a zs.length cap) zs → RowP .u8 (fun q => q = d) (w'.alloc (.cells #[.slice a zs.length cap, .int .i64 0] 106)) (.slice a zs.length cap) zs := fun d hd hr => hr.keep ⟨fun k hk => by
    subst hk
    rcases Nat.lt_or_ge k w'.heap.size with h | h
    · exact (laidB (Below.refl w'.heap.size w') _).block k h
    · show (w'.heap.push _)[k]? = _
      rw [Array.getElem?_eq_none (by simp; omega), Array.getElem?_eq_none (by omega)]⟩
  have hnew : (w'.alloc (.cells #[.slice a zs.length cap, .int .i64 0] 106)).heap[w'.heap.size]? = some (.cells #[.slice a zs.length cap, .int .i64 0] 106 (0, 0)) := by
    show (w'.heap.push _)[w'.heap.size]? = _
    simp
  rcases h2 with ⟨a', cap', e, hc, hn, rfl⟩ | ⟨q, off, cap', e, h4, h5, hq, hcs⟩
  · refine ⟨w'.heap.size, w'.heap.size, rfl, h3.size, h3.size, ⟨.inl rfl, _, hnew, .inl ⟨a', cap', e, hc, hn, rfl⟩⟩, laidB h3 _⟩
  · have hqb : w.heap.size ≤ q ∨ zs = [] := by
      rcases Nat.eq_zero_or_pos zs.length with h0 | h0
      · exact .inr (List.eq_nil_of_length_eq_zero h0)
      · obtain ⟨g, hg, hbg, _⟩ := owns_at h1 h0
        simp only [Value.slice.injEq] at e
        rw [hg] at e
        simp at e
        exact .inl (by omega)
    rcases hqb with hqb | rfl
    · exact ⟨w'.heap.size, q, rfl, h3.size, hqb, ⟨.inr (by omega), _, hnew, hcell q (by omega) (.inr ⟨q, off, cap', e, h4, h5, rfl, hcs⟩)⟩, laidB h3 _⟩
    · refine ⟨w'.heap.size, w'.heap.size, rfl, h3.size, h3.size, ⟨.inl rfl, _, hnew, .inl ⟨some ⟨q, off, none⟩, cap', e, h5, (fun h => by cases h), rfl⟩⟩, laidB h3 _⟩

theorem Rd.dlt {W : World} {b d : Nat} {zs : List Int} {err : Int} (h : Rd W b d zs err) : zs = [] ∨ d < W.heap.size := by
  obtain ⟨_, v, _, hr⟩ := h
  rcases hr with ⟨_, _, _, _, _, e⟩ | ⟨q, off, cap, _, _, _, hq, hc⟩
  · exact .inl e
  · cases zs with
    | nil => exact .inl rfl
    | cons x r =>
      subst hq
      exact .inr (World.block_lt_of_cell? W _ (hc 0 (by simp)))
theorem Rd.below {W W' : World} {b d n : Nat} {zs : List Int} {err : Int} (h : Rd W b d zs err) (hb : b < n) (hd : zs = [] ∨ d < n) (hB : Below n W W') : Rd W' b d zs err := by
  obtain ⟨hne, v, hv, hr⟩ := h
  exact ⟨hne, v, (hB.block b hb).trans hv, rowP_keep0 (hd.imp id fun hd => ⟨fun k hk => by subst hk; exact hB.block k hd⟩) hr⟩
theorem Rd.slice {W : World} {b d : Nat} {zs : List Int} {err : Int} (h : Rd W b d zs err) : ∃ a cap, W.cell? ⟨b, 0, none⟩ = some (.slice a zs.length cap) := by
  obtain ⟨_, v, hv, hr⟩ := h
  have hc0 := rd_cell0 hv
  rcases hr with ⟨a, cap, rfl, _, _, rfl⟩ | ⟨q, off, cap, rfl, _⟩
  · exact ⟨_, _, hc0⟩
  · exact ⟨_, _, hc0⟩
theorem only_belowN {b : Nat} {w W W' : World} (h : Only b w W) (hB : Below w.heap.size W W') : Only b w W' :=
  ⟨hB.os.trans h.os, hB.tape.trans h.tape, hB.output.trans h.output, Nat.le_trans h.size hB.size, fun i hi hn => (hB.block i hi).trans (h.block i hi hn)⟩

set_option maxHeartbeats 4000000 in
theorem listBytes_any (b d : Nat) (zs : List Int) (err : Int) (w : World) (h : Rd w b d zs err) (hz : ∀ x ∈ zs, 0 ≤ x ∧ x < 256) (hm : zs.length ≤ 10000000) :
    Calls Try.prog 65 #[.pointer (some ⟨b, 0, none⟩), .func (.func 66) #[.pointer (some ⟨b, 0, none⟩)] #[]] w fun e w' => ∃ v, e = .returned v ∧ w'.ownsRow w.heap.size 5 1 v (rRaw zs err).1.length ((rRaw zs err).1.map (Value.int .u8)) ∧ Rd w' b d (rRaw zs err).2.1 (rRaw zs err).2.2 ∧ Only b w w' := by
  obtain ⟨i0, hi, hz0, hz1, hz2⟩ := info_parts info_byte
  have hlim := rUint_lt zs err hz
  have hleft := rUint_left zs err (fun x => 0 ≤ x ∧ x < 256) hz
  have hlen : (rUint zs err).2.1.length ≤ zs.length := rUint_len zs err
  have HZ := Lib.hid hz; clear hz
  have hbl := h.lt
  have hd0 := h.dlt
  have hd : (rUint zs err).2.1 = [] ∨ d < w.heap.size := hd0.imp (fun e => by subst e; exact List.eq_nil_of_length_eq_zero (by simpa using hlen)) id
  generalize hR : rRaw zs err = R
  rw [rRaw_T] at hR
  go_enter Try.func65, Try.ntmps65
  go_wp2_with fail
  refine (uint_any b d zs err _ h HZ.out).mono ?_
  rintro e w1 ⟨rfl, h1, ho1⟩
  dsimp only
  generalize rUint zs err = T at *
  obtain ⟨N, ys, e1⟩ := T
  dsimp only at *
  have HR := Lib.hid hR; clear hR
  have hc1 := h1.err
  obtain ⟨a0, c0, hc0⟩ := h1.slice
  have hyl := h1.zs_lt
  unfold maxLen at hyl
  have HL := Lib.hid hleft; clear hleft
  clear h hd0
  generalize hyL : ys.length = L at *
  have HYL := Lib.hid hyL; clear hyL
  by_cases hN : L < N
  · have hf0 : failI e1 3 ≠ 0 := by unfold failI; split <;> simp_all
    have hfb : (failI e1 3 != 0) = true := by simpa using hf0
    have HR2 : Hid (R = ([], ys, failI e1 3)) := Lib.hid (by rw [← HR.out, rawT_more _ _ _ (by rw [HYL.out]; exact hN)])
    go_wp2_with (go_at_call 76; refine (fail_any b d ys e1 3 _ h1).mono ?_; rintro e w3 ⟨rfl, h3, ho3⟩; have hc3 := h3.err)
    go_ret
    rw [HR2.out]
    exact ⟨_, rfl, World.ownsRow_nil _ _ _ _, h3, only_trans ho1 ho3⟩
  · by_cases he : e1 = 0
    · subst he
      have HR2 : Hid (R = (ys.take N, ys.drop N, 0)) := Lib.hid (by rw [← HR.out, rawT_ok _ _ (by rw [HYL.out]; exact hN)])
      have hNL : N ≤ 10000000 := by omega
      have hsz := ho1.size
      go_wp2_with (at_make; refine wpList_make_own _ rfl _ _ 64 rfl w.heap.size 5 i0 (.int .u8 0) 1 Try.underlying64 hi hz0 hz1 _ _ _ N rfl rfl rfl (by rw [hz2]; omega) (by unfold maxLen; omega) hsz ?_; intro w2 hown hgrow)
      have hB2 : Below w.heap.size w1 w2 := (Below.refl w.heap.size w1).grown hgrow hsz (fun k e => by cases e)
      have hO2 := only_belowN ho1 hB2
      have h2 := h1.below hbl hd hB2
      clear hB2 hgrow h1 hc0 hc1 hsz ho1 HR
      generalize (Value.slice (some { block := w1.heap.size, off := 0 }) 0 N) = l0 at hown ⊢
      go_loopw [6, 28] (fun l i wr => ∃ k : Nat, k ≤ N ∧ i = .int .u64 (k : Int) ∧ Rd wr b d (ys.drop k) 0 ∧ wr.ownsRow w.heap.size 5 1 l k ((ys.take k).map (Value.int .u8)) ∧ Only b w wr) (fun _ i _ => N - (intOf i).toNat)
      case atStart => exact ⟨0, Nat.zero_le _, rfl, h2, by simpa using hown, hO2⟩
      case round =>
        clear h2 hown hO2
        obtain ⟨k, hk, rfl, h2, hown, hO⟩ := hrel
        have hszr := hO.size
        by_cases hlt : k < N
        · have hky : k < ys.length := by rw [HYL.out]; omega
          have hxs : ys.drop k = ys[k] :: ys.drop (k + 1) := List.drop_eq_getElem_cons hky
          have htk : ys.take (k + 1) = ys.take k ++ [ys[k]] := List.take_succ_eq_append_getElem hky
          rw [hxs] at h2
          have Htk := Lib.hid htk; clear htk hxs
          generalize ys[k] = x at h2 Htk
          clear hky
          have Hcall : ∀ W, wr = W → Calls Try.prog 66 #[.pointer (some ⟨b, 0, none⟩)] W fun e w' => e = .returned (.int .u8 x) ∧ Rd w' b d (ys.drop (k + 1)) 0 ∧ w'.ownsRow w.heap.size 5 1 u6 k ((ys.take k).map (Value.int .u8)) ∧ Only b w w' := fun W e => by
            subst e
            refine (octet_cons b d x _ _ h2).mono ?_
            rintro e w' ⟨rfl, h3, ho3⟩
            refine ⟨rfl, h3, hown.kept ho3 ?_, only_trans hO ho3⟩
            refine .inr fun e => ?_
            have := (hown.lt _ e).1
            omega
          have HC := Lib.hid Hcall; clear Hcall
          clear hown h2 hO
          go_wp2_with (first
            | (go_at_call 66; refine (HC.out _ rfl).mono ?_; rintro e w3 ⟨rfl, h3, hown3, hO3⟩; have hc3 := h3.err; have hsz3 := hO3.size)
            | (at_builtin; refine wpList_append_own _ rfl _ _ 64 rfl w.heap.size 5 i0 (.int .u8 0) 1 1 Try.underlying64 hi hz0 hz1 hz2 rfl (by decide) _ _ _ rfl (hown3.alloc _) ⟨w3.heap.size, 0, none⟩ 1 1 [.int .u8 x] rfl rfl (cell_one_new _ _ _) (by simp [Value.oneCell']) (by unfold maxLen; omega) (by omega) (by simp; omega) ?_; intro v' w4 hown4 hgrow4 _))
          have hB4 : Below w.heap.size w3 w4 := ((Below.refl w.heap.size w3).alloc hsz3 _).grown hgrow4 (by simp; omega) (fun k e => (hown3.lt _ e).1)
          go_roundw
          case rel =>
            refine ⟨k + 1, by omega, by go_num, h3.below hbl ?_ hB4, by rw [Htk.out, List.map_append]; exact hown4, only_belowN hO3 hB4⟩
            rcases hd with rfl | hd
            · exact .inl (by simp)
            · exact .inr hd
          case measure => simp [intOf]; omega
        · have Htk : Hid (k = N) := Lib.hid (by omega)
          go_wp2_with fail
          go_ret
          have e := Htk.out
          subst e
          rw [HR2.out]
          have hl : (ys.take k).length = k := by rw [List.length_take, HYL.out]; omega
          refine ⟨u6, rfl, ?_, h2, hO⟩
          dsimp only
          rw [hl]
          exact hown
    · have heb : (e1 != 0) = true := by simpa using he
      have HR2 : Hid (R = ([], ys, e1)) := Lib.hid (by rw [← HR.out, rawT_err _ _ _ (by rw [HYL.out]; exact hN) he])
      go_wp2_with fail
      go_ret
      rw [HR2.out]
      exact ⟨_, rfl, World.ownsRow_nil _ _ _ _, h1, ho1⟩

set_option maxHeartbeats 1000000 in
theorem raw_any (b d : Nat) (zs : List Int) (err : Int) (w : World) (h : Rd w b d zs err) (hz : ∀ x ∈ zs, 0 ≤ x ∧ x < 256) (hm : zs.length ≤ 10000000) :
    Calls Try.prog 41 #[.pointer (some ⟨b, 0, none⟩)] w fun e w' => ∃ v, e = .returned v ∧ w'.ownsRow w.heap.size 5 1 v (rRaw zs err).1.length ((rRaw zs err).1.map (Value.int .u8)) ∧ Rd w' b d (rRaw zs err).2.1 (rRaw zs err).2.2 ∧ Only b w w' := by
  have HZ := Lib.hid hz; clear hz
  have Hm := Lib.hid hm; clear hm
  go_enter Try.func41, Try.ntmps41
  go_wp2_with fail
  refine (listBytes_any b d zs err w h HZ.out Hm.out).mono ?_
  rintro e w1 ⟨v, rfl, h1, h2, h3⟩
  dsimp only
  go_wp2
  go_ret
  exact ⟨v, rfl, h1, h2, h3⟩

theorem bytesI_str (zs : List Int) (hz : ∀ x ∈ zs, 0 ≤ x ∧ x < 256) : bytesI (strOfNums zs) = zs := by
  unfold bytesI
  rw [strOfNums_data, List.map_map]
  conv => rhs; rw [← List.map_id zs]
  refine List.map_congr_left fun x hx => ?_
  have := hz x hx
  simp only [Function.comp, id]
  rw [UInt8.toNat_ofNat']
  omega
theorem conv_owns {w : World} {base : Nat} {v : Value} {n : Nat} {zs : List Int} (h : w.ownsRow base 5 1 v n (zs.map (Value.int .u8))) :
    (convert 64 9 v).run Try.prog w = .ok (.string (strOfNums zs)) w := by
  have h0 := h
  have hn : n = zs.length := by simpa using h.1.symm
  rcases h.2 with ⟨rfl, he⟩ | ⟨g, cap, cur, rfl, _⟩
  · obtain rfl : zs = [] := List.eq_nil_of_length_eq_zero (by omega)
    exact run_convert_bytes_nil w 64 5 Try.underlying64 Try.underlying5 0 0 9 Try.underlying9
  · refine run_convert_bytes_arg w 64 5 Try.underlying64 Try.underlying5 g 0 n cap zs hn.symm (fun i hi => ?_) 9 Try.underlying9
    have := owns_cell h0 i hi
    rw [Nat.zero_add, this]
    rfl
end Go.Proofs.Ytmfekbljfnjkgaa
