/- The reference's encoder of numbers and the math of reading back, for the edits seat (from RefEnc, VRead, VWrite, VBack). -/
import Derived.Test.YtmfekbljfnjkgaaWireR3
import Derived.Test.YtmfekbljfnjkgaaWireMath4
import Derived.Test.YtmfekbljfnjkgaaAppRow
namespace Go.Proofs.Ytmfekbljfnjkgaa
open Go.RowKit Go.Shelf
set_option linter.unusedVariables false
set_option maxRecDepth 100000

/-- What lies from a block on lies from an earlier one on. -/
theorem owns_base {w : World} {base base' : Nat} {e : TypeId} {size : Nat} {v : Value} {n : Nat} {xs : List Value} (h : w.ownsRow base e size v n xs) (hb : base' ≤ base) : w.ownsRow base' e size v n xs := by
  refine ⟨h.1, ?_⟩
  rcases h.2 with hn | ⟨g, cap, cur, rfl, h1, rest⟩
  · exact .inl hn
  · exact .inr ⟨g, cap, cur, rfl, Nat.le_trans hb h1, rest⟩
theorem rOct_len (zs : List Int) (e : Int) : (rOct zs e).2.1.length ≤ zs.length := by
  unfold rOct
  split
  · split <;> simp
  · simp
theorem rMany_len (n : Nat) (l zs : List Int) (e : Int) : (rMany n l zs e).2.1.length ≤ zs.length := by
  induction n generalizing l zs e with
  | zero => simp [rMany]
  | succ n ih =>
    unfold rMany
    have h := rInt_len zs e
    split
    · exact Nat.le_trans (ih _ _ _) h
    · exact h
theorem rLen_len (zs : List Int) (e : Int) : (rLen zs e).2.1.length ≤ zs.length := rUint_len zs e
theorem rRaw_len (zs : List Int) (e : Int) : (rRaw zs e).2.1.length ≤ zs.length := by
  unfold rRaw
  have := rLen_len zs e
  split
  · simp only [List.length_drop]; omega
  · exact this
theorem rInts_len (zs : List Int) (e : Int) : (rInts zs e).2.1.length ≤ zs.length := by
  unfold rInts
  have := rLen_len zs e
  split
  · exact Nat.le_trans (rMany_len _ _ _ _) this
  · exact this
/-- A row of the call's own, by its block. -/
theorem row_own2 {k : IntKind} {w : World} {base : Nat} {e : TypeId} {v : Value} {n : Nat} {zs : List Int} (h : w.ownsRow base e 1 v n (zs.map (Value.int k))) : RowP k (fun g => base ≤ g ∧ g < w.heap.size) w v zs := by
  obtain ⟨hl, h⟩ := h
  have hn : n = zs.length := by simpa using hl.symm
  subst hn
  rcases h with ⟨rfl, h0⟩ | ⟨g, cap, cur, rfl, hb, hg, hc, hm, hs, ht⟩
  · exact .inl ⟨none, 0, rfl, Nat.zero_le _, fun _ => rfl, by simpa using h0⟩
  · refine .inr ⟨g, 0, cap, rfl, hc, hm, ⟨hb, (Array.getElem?_eq_some_iff.1 hg).1⟩, fun j hj => ?_⟩
    have hcell : w.cell? ⟨g, 0 + j, none⟩ = cur[0 + j]? := by unfold World.cell?; rw [hg]; rfl
    rw [hcell, Nat.zero_add]
    have h1 : (cur.toList.take (zs.length * 1))[j]? = some (.int k (zs[j]?.getD 0)) := by rw [ht]; simp [hj]
    rw [List.getElem?_take] at h1
    simpa [hj] using h1
theorem rRaw_rng (zs : List Int) (e : Int) (h : ∀ x ∈ zs, 0 ≤ x ∧ x < 256) : ∀ x ∈ (rRaw zs e).1, 0 ≤ x ∧ x < 256 := by
  unfold rRaw
  split
  · intro x hx
    have hx' := List.mem_of_mem_take hx
    exact rUint_left zs e (fun x => 0 ≤ x ∧ x < 256) h x hx'
  · simp
theorem rRaw_len1 (zs : List Int) (e : Int) : (rRaw zs e).1.length ≤ zs.length := by
  unfold rRaw
  have := rLen_len zs e
  split
  · rw [List.length_take]; omega
  · simp
/-- A call returns bytes of its own, at least one. -/
def OwnBytes (w : World) (zs : List Int) (e : Ending) (w' : World) : Prop :=
  ∃ g cap, e = .returned (.slice (some ⟨g, 0, none⟩) zs.length cap) ∧ w'.ownsRow w.heap.size 5 1 (.slice (some ⟨g, 0, none⟩) zs.length cap) zs.length (zs.map (Value.int .u8)) ∧ Below w.heap.size w w'
set_option maxHeartbeats 1000000 in
theorem refUint_any (n : Nat) (w : World) (hn : n < 18446744073709551616) :
    Calls Try.prog 72 #[.int .u64 n] w (OwnBytes w (vint n)) := by
  obtain ⟨i0, hi, hz0, hz1, hz2⟩ := info_parts info_byte
  go_enter Try.func72, Try.ntmps72
  go_wp2
  go_loopw [0, 3] (fun m v wr => ∃ (f k : Nat) (ys : List Int), m = .int .u64 (k : Int) ∧ vint n = ys ++ vintF f k ∧ ys.length + f = 10 ∧ 1 ≤ f ∧ k < 2 * 128 ^ (f - 1) ∧ k < 18446744073709551616 ∧ wr.ownsRow w.heap.size 5 1 v ys.length (ys.map (Value.int .u8)) ∧ Below w.heap.size w wr) (fun m _ _ => (intOf m).toNat)
  case atStart => exact ⟨10, n, [], rfl, rfl, rfl, by decide, by simpa using hn, hn, World.ownsRow_nil _ _ _ _, Below.refl _ _⟩
  case round =>
    obtain ⟨f, k, ys, rfl, hvn, hyl, hf, hk, hk64, hr, hB⟩ := hrel
    have hyn : ys.length ≤ 10 := by omega
    have hsr := hB.size
    have Hvn := Lib.hid hvn; clear hvn
    have Hyl := Lib.hid hyl; clear hyl
    by_cases h8 : 128 ≤ k
    · have h8i : (127 : Int) < (k : Int) := by omega
      have hk64i : (k : Int) < 18446744073709551616 := by omega
      have hf2 : 2 ≤ f := by
        rcases Nat.lt_or_ge f 2 with h | h
        · have : f = 1 := by omega
          subst this
          simp at hk
          omega
        · exact h
      have hkf : k / 128 < 2 * 128 ^ (f - 1 - 1) := by
        have e : 128 ^ (f - 1) = 128 ^ (f - 1 - 1) * 128 := by rw [← Nat.pow_succ]; congr 1; omega
        rw [e] at hk
        omega
      clear hk
      go_wp2_with (at_builtin; refine wpList_append_own _ rfl _ _ 64 rfl w.heap.size 5 i0 (.int .u8 0) 1 1 Try.underlying64 hi hz0 hz1 hz2 rfl (by decide) _ _ _ rfl (hr.alloc _) ⟨wr.heap.size, 0, none⟩ 1 1 [.int .u8 (128 + (k : Int) % 128)] rfl rfl (cell_one_new _ _ _) (by simp [Value.oneCell']) (by unfold maxLen; omega) (by omega) (by simp; omega) ?_; intro v2 w2 hown2 hgrow2 _)
      have hb2 : Below w.heap.size wr w2 := ((Below.refl w.heap.size wr).alloc hsr _).grown hgrow2 (by simp; omega) (fun k e => (hr.lt _ e).1)
      go_roundw
      case rel =>
        refine ⟨f - 1, k / 128, ys ++ [(k : Int) % 128 + 128], by simp, ?_, ?_, by omega, hkf, by omega, ?_, hB.trans hb2⟩
        · rw [Hvn.out, show f = f - 1 + 1 from by omega, vintF_next _ _ h8, List.append_assoc]
          rfl
        · have := Hyl.out
          simp
          omega
        · rw [List.map_append, List.length_append, Int.add_comm ((k : Int) % 128) 128]
          exact hown2
      case measure => simp [intOf]; omega
    · have h8i : ¬ (127 : Int) < (k : Int) := by omega
      clear hk
      go_wp2_with (at_builtin; refine wpList_append_own _ rfl _ _ 64 rfl w.heap.size 5 i0 (.int .u8 0) 1 1 Try.underlying64 hi hz0 hz1 hz2 rfl (by decide) _ _ _ rfl (hr.alloc _) ⟨wr.heap.size, 0, none⟩ 1 1 [.int .u8 ((k : Int))] rfl rfl (cell_one_new _ _ _) (by simp [Value.oneCell']) (by unfold maxLen; omega) (by omega) (by simp; omega) ?_; intro v2 w2 hown2 hgrow2 _)
      have hb2 : Below w.heap.size wr w2 := ((Below.refl w.heap.size wr).alloc hsr _).grown hgrow2 (by simp; omega) (fun k e => (hr.lt _ e).1)
      obtain ⟨g, cap, rfl⟩ := ownsRow_succ hown2
      have e1 : vint n = ys ++ [(k : Int)] := by rw [Hvn.out, vintF_stop _ _ (by omega)]
      go_ret
      refine ⟨g, cap, ?_, ?_, hB.trans hb2⟩
      · rw [e1, List.length_append]; rfl
      · rw [e1, List.map_append, List.length_append]
        exact hown2
theorem refUint_int (n : Int) (w : World) (h0 : 0 ≤ n) (hn : n < 18446744073709551616) :
    Calls Try.prog 72 #[.int .u64 n] w (OwnBytes w (vint n.toNat)) := by
  obtain ⟨m, rfl⟩ := Int.eq_ofNat_of_zero_le h0
  exact refUint_any m w (by omega)
theorem zigzag_any (n : Int) (w : World) (hn : (Lit.int .i64 n).wf = true) :
    Calls Try.prog 73 #[.int .i64 n] w fun e w' => e = .returned (.int .u64 (zig n)) ∧ w' = w := by
  have hb := i64_rng hn
  obtain ⟨h1, h2⟩ := hb
  by_cases h : n < 0
  · have he : (zig n : Int) = 2 * (-(n + 1)) + 1 := by unfold zig; rw [if_pos h]; omega
    have He := Lib.hid he; clear he
    go_enter Try.func73, Try.ntmps73
    go_wp2_with fail
    go_ret
    refine ⟨?_, rfl⟩
    rw [He.out]
    rfl
  · have he : (zig n : Int) = 2 * n := by unfold zig; rw [if_neg h]; omega
    have He := Lib.hid he; clear he
    go_enter Try.func73, Try.ntmps73
    go_wp2_with fail
    go_ret
    refine ⟨?_, rfl⟩
    rw [He.out]
    rfl
theorem refInt_any (n : Int) (w : World) (hn : (Lit.int .i64 n).wf = true) :
    Calls Try.prog 60 #[.int .i64 n] w (OwnBytes w (sint n)) := by
  have hz := zig_lt n (i64_rng hn)
  go_enter Try.func60, Try.ntmps60
  go_wp2_with fail
  refine (zigzag_any n w hn).mono ?_
  rintro e w1 ⟨rfl, rfl⟩
  dsimp only
  go_wp2_with fail
  refine (refUint_any (zig n) _ hz).mono ?_
  rintro e w2 ⟨g, cap, rfl, ho, hb⟩
  dsimp only
  go_wp2_with fail
  go_ret
  exact ⟨g, cap, rfl, ho, hb⟩
set_option maxHeartbeats 1000000 in
theorem refInts_any (a : Option Addr) (cap : Nat) (l : List Int) (w : World) (hr : Row .i64 w.heap.size w (.slice a l.length cap) l) (hm : l.length ≤ 100000) (hwf : ∀ n ∈ l, (Lit.int .i64 n).wf = true) :
    Calls Try.prog 61 #[.slice a l.length cap] w (OwnBytes w (sints l)) := by
  obtain ⟨i0, hi, hz0, hz1, hz2⟩ := info_parts info_byte
  have hvl := vint_length l.length
  have hlc := hr.lencap
  unfold maxLen at hlc
  go_enter Try.func61, Try.ntmps61
  go_wp2_with fail
  refine (refUint_any l.length w (by omega)).mono ?_
  rintro e w1 ⟨g, cp, rfl, ho, hb⟩
  have hs1 := hb.size
  dsimp only
  go_wp2_with fail
  go_loopw [3, 4] (fun v i wr => ∃ (k : Nat), k ≤ l.length ∧ i = .int .i64 (k : Int) ∧ wr.ownsRow w.heap.size 5 1 v (vint l.length ++ ((l.take k).map sint).flatten).length ((vint l.length ++ ((l.take k).map sint).flatten).map (Value.int .u8)) ∧ Below w.heap.size w wr) (fun _ i _ => l.length - (intOf i).toNat)
  case atStart => exact ⟨0, Nat.zero_le _, rfl, by simpa using ho, hb⟩
  case round =>
    clear ho hb
    obtain ⟨k, hk, rfl, ho, hb⟩ := hrel
    have hsr := hb.size
    have hlk := sints_le (l.take k)
    have hlk2 : (l.take k).length ≤ k := List.length_take_le _ _
    have hzl : (vint l.length ++ ((l.take k).map sint).flatten).length ≤ 1200000 := by rw [List.length_append]; omega
    by_cases hlt : k < l.length
    · obtain ⟨b, off, rfl, hbn, hc⟩ := hr.at (by omega)
      have c0 : wr.cell? ⟨b, off + k, none⟩ = some (.int .i64 (l[k]?.getD 0)) := (hb.cell (p := ⟨b, off + k, none⟩) hbn).trans (hc k hlt)
      have hx : (Lit.int .i64 (l[k]?.getD 0)).wf = true := by
        rw [List.getElem?_eq_getElem hlt]; exact hwf _ (List.getElem_mem hlt)
      have ht := sints_take l k hlt
      generalize l[k]?.getD 0 = x at c0 hx ht
      have HT : Hid (vint l.length ++ ((l.take (k + 1)).map sint).flatten = (vint l.length ++ ((l.take k).map sint).flatten) ++ sint x) := Lib.hid (by rw [ht, List.append_assoc])
      have hxl := vint_length (zig x)
      have hxl2 : (sint x).length ≤ 11 := hxl.2
      generalize vint l.length ++ ((l.take k).map sint).flatten = acc at *
      clear hc ht
      have hi1 : (k : Int) < l.length := by omega
      go_wp2_with fail
      refine (refInt_any x wr hx).mono ?_
      rintro e w2 ⟨g2, cp2, rfl, ho2, hb2⟩
      have ho' := owns_kept_below ho hb2
      have hr2 := (row_of_owns ho2).1
      have hs2 := hb2.size
      dsimp only
      go_wp2_with (at_builtin; refine wpList_append_row rfl _ _ 64 rfl w.heap.size 5 i0 .u8 _ 1 Try.underlying64 hi hz0 hz1 hz2 rfl _ _ acc rfl ho' _ (sint x) _ rfl hr2 (by unfold maxLen; omega) (by omega) (by omega) ?_; intro v3 w3 hown3 hgrow3 hb3)
      go_roundw
      case rel => exact ⟨k + 1, by omega, by go_num, by rw [HT.out]; exact hown3, (stepB hb hb2).trans hb3⟩
      case measure => simp [intOf]; omega
    · have ht : l.take k = l := List.take_of_length_le (by omega)
      rw [ht] at ho
      obtain ⟨a2, l2, c2, rfl⟩ := owns_slice ho
      obtain ⟨g2, rfl, _, rfl⟩ := owns_at ho (by rw [List.length_append]; omega)
      have HT := Lib.hid ht
      clear ht
      go_wp2_with fail
      go_ret
      exact ⟨g2, c2, rfl, ho, hb⟩
theorem pow_split (i q c : Nat) (hi : i ≤ 8) (hq : q * 128 ^ (i + 1) < 18446744073709551616) (hc : c < 128) : (c + 128 * q) * 128 ^ i < 18446744073709551616 := by
  have hp : 2 * 128 ^ (8 - i) * 128 ^ (i + 1) = 18446744073709551616 := by
    rw [Nat.mul_assoc, ← Nat.pow_add, show 8 - i + (i + 1) = 9 from by omega]
  rw [← hp] at hq ⊢
  have hq2 := Nat.lt_of_mul_lt_mul_right hq
  have h1 : (c + 128 * q) * 128 ^ i < (128 * (q + 1)) * 128 ^ i := Nat.mul_lt_mul_of_pos_right (by omega) (Nat.pow_pos (by decide))
  have h2 : (128 * (q + 1)) * 128 ^ i = (q + 1) * 128 ^ (i + 1) := by rw [Nat.pow_succ, Nat.mul_comm (128 ^ i) 128, ← Nat.mul_assoc, Nat.mul_comm (q + 1) 128]
  have h3 : (q + 1) * 128 ^ (i + 1) ≤ 2 * 128 ^ (8 - i) * 128 ^ (i + 1) := Nat.mul_le_mul_right _ hq2
  omega
theorem rU_back (g i m n : Nat) (zs rest : List Int) (hi : i ≤ 9) (hg : g = 10 - i) (hz : ∀ x ∈ zs, 0 ≤ x ∧ x < 256) (h : rU g i m zs = (n, rest, 0)) :
    ∃ q, n = m + q * 128 ^ i ∧ zs = vintF g q ++ rest ∧ q * 128 ^ i < 18446744073709551616 ∧ (i = 0 ∨ 0 < q) := by
  subst hg
  induction hk : 9 - i generalizing i m zs with
  | zero =>
    obtain rfl : i = 9 := by omega
    cases zs with
    | nil => cases h
    | cons c r =>
      have hc := hz c (List.mem_cons_self ..)
      by_cases hb : (9 = 9 ∧ 1 < c) ∨ (0 < 9 ∧ c = 0)
      · rw [rU_bad 9 m c r hi hb] at h
        cases h
      · obtain rfl : c = 1 := by omega
        rw [rU_end 9 m 1 r hi hb (by decide) (by decide)] at h
        injection h with h1 h2
        injection h2 with h2 _
        subst h2
        exact ⟨1, by rw [← h1]; rfl, rfl, by decide, .inr (by decide)⟩
  | succ k ih =>
    cases zs with
    | nil =>
      rw [show 10 - i = (9 - i) + 1 from by omega] at h
      cases h
    | cons c r =>
      have hc := hz c (List.mem_cons_self ..)
      have hr : ∀ x ∈ r, 0 ≤ x ∧ x < 256 := fun x hx => hz x (List.mem_cons_of_mem _ hx)
      by_cases hb : (i = 9 ∧ 1 < c) ∨ (0 < i ∧ c = 0)
      · rw [rU_bad i m c r hi hb] at h
        cases h
      · by_cases h1 : c < 128
        · rw [rU_end i m c r hi hb h1 hc.1] at h
          injection h with h2 h3
          injection h3 with h3 _
          subst h3
          obtain ⟨d, rfl⟩ := Int.eq_ofNat_of_zero_le hc.1
          refine ⟨d, by rw [← h2]; congr 1; congr 1; omega, ?_, ?_, by omega⟩
          · rw [vintF_stop _ _ (by omega)]; rfl
          · have := pow_split i 0 d (by omega) (by simp) (by omega)
            simpa using this
        · rw [rU_more i m c r hi hb (by omega) hc.2] at h
          have h9 : 9 - i = 10 - (i + 1) := by omega
          try rw [h9] at h
          obtain ⟨q, hq1, hq2, hq3, hq4⟩ := ih (i + 1) _ r (by omega) hr h (by omega)
          obtain ⟨d, rfl⟩ := Int.eq_ofNat_of_zero_le hc.1
          have hq0 : 0 < q := by omega
          refine ⟨d % 128 + 128 * q, ?_, ?_, pow_split i q (d % 128) (by omega) hq3 (by omega), .inr (by omega)⟩
          · rw [hq1, Int.toNat_natCast, Nat.add_mul, Nat.pow_succ, Nat.mul_comm (128 ^ i) 128, ← Nat.mul_assoc, Nat.mul_comm q 128]
            omega
          · rw [show 10 - i = (10 - (i + 1)) + 1 from by omega, vintF_next _ _ (by omega), hq2, show (d % 128 + 128 * q) / 128 = q from by omega]
            rw [List.cons_append]
            congr 1
            omega
theorem rUint_back (n : Nat) (zs rest : List Int) (hz : ∀ x ∈ zs, 0 ≤ x ∧ x < 256) (h : rUint zs 0 = (n, rest, 0)) : zs = vint n ++ rest ∧ n < 18446744073709551616 := by
  unfold rUint at h
  rw [if_pos rfl] at h
  obtain ⟨q, h1, h2, h3, _⟩ := rU_back 10 0 0 n zs rest (by decide) rfl hz h
  obtain rfl : n = q := by rw [h1]; simp
  exact ⟨h2, by simpa using h3⟩
theorem rUint_back' (zs : List Int) (hz : ∀ x ∈ zs, 0 ≤ x ∧ x < 256) (h : (rUint zs 0).2.2 = 0) : zs = vint (rUint zs 0).1 ++ (rUint zs 0).2.1 ∧ (rUint zs 0).1 < 18446744073709551616 :=
  rUint_back _ _ _ hz (Prod.ext rfl (Prod.ext rfl h))
theorem zig_unzig (n : Nat) (h : n < 18446744073709551616) : zig (unzig n) = n ∧ -9223372036854775808 ≤ unzig n ∧ unzig n ≤ 9223372036854775807 := by
  unfold zig unzig
  split <;> split <;> omega
theorem rInt_back' (zs : List Int) (hz : ∀ x ∈ zs, 0 ≤ x ∧ x < 256) (h : (rInt zs 0).2.2 = 0) : zs = sint (rInt zs 0).1 ++ (rInt zs 0).2.1 ∧ -9223372036854775808 ≤ (rInt zs 0).1 ∧ (rInt zs 0).1 ≤ 9223372036854775807 := by
  have h1 := rUint_back' zs hz h
  have h2 := zig_unzig _ h1.2
  refine ⟨?_, h2.2⟩
  show zs = vint (zig (unzig (rUint zs 0).1)) ++ (rUint zs 0).2.1
  rw [h2.1]
  exact h1.1
theorem rMany_back (n : Nat) (acc zs : List Int) (hz : ∀ x ∈ zs, 0 ≤ x ∧ x < 256) (h : (rMany n acc zs 0).2.2 = 0) :
    ∃ l, (rMany n acc zs 0).1 = acc ++ l ∧ l.length = n ∧ zs = (l.map sint).flatten ++ (rMany n acc zs 0).2.1 ∧ ∀ x ∈ l, -9223372036854775808 ≤ x ∧ x ≤ 9223372036854775807 := by
  induction n generalizing acc zs with
  | zero => exact ⟨[], by simp [rMany], rfl, by simp [rMany], by simp⟩
  | succ n ih =>
    by_cases he : (rInt zs 0).2.2 = 0
    · rw [rMany_next n acc zs he] at h ⊢
      have hb := rInt_back' zs hz he
      obtain ⟨l, h1, h2, h3, h4⟩ := ih _ _ (rInt_left zs 0 (fun x => 0 ≤ x ∧ x < 256) hz) h
      refine ⟨(rInt zs 0).1 :: l, by rw [h1]; simp, by simp [h2], ?_, ?_⟩
      · rw [List.map_cons, List.flatten_cons, List.append_assoc, ← h3]
        exact hb.1
      · intro x hx
        rcases List.mem_cons.1 hx with rfl | hx
        · exact hb.2
        · exact h4 x hx
    · rw [rMany_stop n acc zs he] at h
      exact absurd h he
theorem rRaw_back (zs : List Int) (hz : ∀ x ∈ zs, 0 ≤ x ∧ x < 256) (h : (rRaw zs 0).2.2 = 0) :
    zs = vint (rRaw zs 0).1.length ++ (rRaw zs 0).1 ++ (rRaw zs 0).2.1 ∧ (rRaw zs 0).1.length ≤ zs.length := by
  rw [rRaw_T] at h ⊢
  by_cases he : (rUint zs 0).2.2 = 0
  · have h1 := rUint_back' zs hz he
    have h2 := rUint_len zs 0
    rw [he] at h ⊢
    by_cases hn : (rUint zs 0).2.1.length < (rUint zs 0).1
    · rw [rawT_more _ _ _ hn] at h
      cases h
    · rw [rawT_ok _ _ hn]
      dsimp only
      rw [List.length_take, Nat.min_eq_left (by omega), List.append_assoc, List.take_append_drop]
      exact ⟨h1.1, by omega⟩
  · exfalso
    by_cases hn : (rUint zs 0).2.1.length < (rUint zs 0).1
    · rw [rawT_more _ _ _ hn] at h
      unfold failI at h
      rw [if_neg he] at h
      exact he h
    · rw [rawT_err _ _ _ hn he] at h
      exact he h
theorem rInts_back (zs : List Int) (hz : ∀ x ∈ zs, 0 ≤ x ∧ x < 256) (h : (rInts zs 0).2.2 = 0) :
    zs = sints (rInts zs 0).1 ++ (rInts zs 0).2.1 ∧ (rInts zs 0).1.length ≤ zs.length ∧ ∀ x ∈ (rInts zs 0).1, -9223372036854775808 ≤ x ∧ x ≤ 9223372036854775807 := by
  rw [rInts_T] at h ⊢
  by_cases he : (rUint zs 0).2.2 = 0
  · have h1 := rUint_back' zs hz he
    have h2 := rUint_len zs 0
    have h3 := rUint_left zs 0 (fun x => 0 ≤ x ∧ x < 256) hz
    rw [he] at h ⊢
    by_cases hn : (rUint zs 0).2.1.length < (rUint zs 0).1
    · rw [rintsT_more _ _ _ hn] at h
      cases h
    · rw [rintsT_ok _ _ hn] at h ⊢
      obtain ⟨l, k1, k2, k3, k4⟩ := rMany_back _ [] _ h3 h
      rw [List.nil_append] at k1
      rw [k1]
      refine ⟨?_, by omega, k4⟩
      unfold sints
      rw [List.append_assoc, ← k3, k2]
      exact h1.1
  · exfalso
    by_cases hn : (rUint zs 0).2.1.length < (rUint zs 0).1
    · rw [rintsT_more _ _ _ hn] at h
      unfold failI at h
      rw [if_neg he] at h
      exact he h
    · rw [rintsT_err _ _ _ hn he] at h
      exact he h
theorem wf_i64 {n : Int} (h : -9223372036854775808 ≤ n ∧ n ≤ 9223372036854775807) : (Lit.int .i64 n).wf = true := by
  simp [Lit.wf, IntKind.min, IntKind.max, IntKind.signed, IntKind.bits]
  omega
theorem wf0 : (Lit.int .i64 0).wf = true := wf_i64 (by omega)
end Go.Proofs.Ytmfekbljfnjkgaa
