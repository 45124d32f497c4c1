/- Contracts of the reference model's encoder (package rexmillref02). -/
import Derived.Test.YtpoldhblddlcpaaVMath
import Derived.Test.YtpoldhblddlcpaaAppRow
namespace Go.Proofs.Ytpoldhblddlcpaa
open Go.RowKit Go.Shelf
set_option linter.unusedVariables false

/-- A call returns bytes of its own, at least one. -/
def OwnBytes (w : World) (zs : List Int) (e : Ending) (w' : World) : Prop :=
  ∃ g cap, e = .returned (.slice (some ⟨g, 0, none⟩) zs.length cap) ∧ w'.ownsRow w.heap.size 5 1 (.slice (some ⟨g, 0, none⟩) zs.length cap) zs.length (zs.map (Value.int .u8)) ∧ Below w.heap.size w w'
set_option maxHeartbeats 1000000 in
theorem refUint_any (n : Nat) (w : World) (hn : n < 18446744073709551616) :
    Calls Try.prog 40 #[.int .u64 n] w (OwnBytes w (vint n)) := by
  obtain ⟨i0, hi, hz0, hz1, hz2⟩ := info_parts info_byte
  go_enter Try.func40, Try.ntmps40
  go_wp2
  go_loopw [0, 3] (fun m v wr => ∃ (f k : Nat) (ys : List Int), m = .int .u64 (k : Int) ∧ vint n = ys ++ vintF f k ∧ ys.length + f = 10 ∧ 1 ≤ f ∧ k < 2 * 128 ^ (f - 1) ∧ k < 18446744073709551616 ∧ wr.ownsRow w.heap.size 5 1 v ys.length (ys.map (Value.int .u8)) ∧ Below w.heap.size w wr) (fun m _ _ => (intOf m).toNat)
  case atStart => exact ⟨10, n, [], rfl, rfl, rfl, by decide, by simpa using hn, hn, World.ownsRow_nil _ _ _ _, Below.refl _ _⟩
  case round =>
    obtain ⟨f, k, ys, rfl, hvn, hyl, hf, hk, hk64, hr, hB⟩ := hrel
    have hyn : ys.length ≤ 10 := by omega
    have hsr := hB.size
    have Hvn := Lib.hid hvn; clear hvn
    have Hyl := Lib.hid hyl; clear hyl
    by_cases h8 : 128 ≤ k
    · have h8i : (127 : Int) < (k : Int) := by omega
      have hk64i : (k : Int) < 18446744073709551616 := by omega
      have hf2 : 2 ≤ f := by
        rcases Nat.lt_or_ge f 2 with h | h
        · have : f = 1 := by omega
          subst this
          simp at hk
          omega
        · exact h
      have hkf : k / 128 < 2 * 128 ^ (f - 1 - 1) := by
        have e : 128 ^ (f - 1) = 128 ^ (f - 1 - 1) * 128 := by rw [← Nat.pow_succ]; congr 1; omega
        rw [e] at hk
        omega
      clear hk
      go_wp2_with (at_builtin; refine wpList_append_own _ rfl _ _ 24 rfl w.heap.size 5 i0 (.int .u8 0) 1 1 Try.underlying24 hi hz0 hz1 hz2 rfl (by decide) _ _ _ rfl (hr.alloc _) ⟨wr.heap.size, 0, none⟩ 1 1 [.int .u8 (128 + (k : Int) % 128)] rfl rfl (cell_one_new _ _ _) (by simp [Value.oneCell']) (by unfold maxLen; omega) (by omega) (by simp; omega) ?_; intro v2 w2 hown2 hgrow2 _)
      have hb2 : Below w.heap.size wr w2 := ((Below.refl w.heap.size wr).alloc hsr _).grown hgrow2 (by simp; omega) (fun k e => (hr.lt _ e).1)
      go_roundw
      case rel =>
        refine ⟨f - 1, k / 128, ys ++ [(k : Int) % 128 + 128], by simp, ?_, ?_, by omega, hkf, by omega, ?_, hB.trans hb2⟩
        · rw [Hvn.out, show f = f - 1 + 1 from by omega, vintF_next _ _ h8, List.append_assoc]
          rfl
        · have := Hyl.out
          simp
          omega
        · rw [List.map_append, List.length_append, Int.add_comm ((k : Int) % 128) 128]
          exact hown2
      case measure => simp [intOf]; omega
    · have h8i : ¬ (127 : Int) < (k : Int) := by omega
      clear hk
      go_wp2_with (at_builtin; refine wpList_append_own _ rfl _ _ 24 rfl w.heap.size 5 i0 (.int .u8 0) 1 1 Try.underlying24 hi hz0 hz1 hz2 rfl (by decide) _ _ _ rfl (hr.alloc _) ⟨wr.heap.size, 0, none⟩ 1 1 [.int .u8 ((k : Int))] rfl rfl (cell_one_new _ _ _) (by simp [Value.oneCell']) (by unfold maxLen; omega) (by omega) (by simp; omega) ?_; intro v2 w2 hown2 hgrow2 _)
      have hb2 : Below w.heap.size wr w2 := ((Below.refl w.heap.size wr).alloc hsr _).grown hgrow2 (by simp; omega) (fun k e => (hr.lt _ e).1)
      obtain ⟨g, cap, rfl⟩ := ownsRow_succ hown2
      have e1 : vint n = ys ++ [(k : Int)] := by rw [Hvn.out, vintF_stop _ _ (by omega)]
      go_ret
      refine ⟨g, cap, ?_, ?_, hB.trans hb2⟩
      · rw [e1, List.length_append]; rfl
      · rw [e1, List.map_append, List.length_append]
        exact hown2
theorem refUint_int (n : Int) (w : World) (h0 : 0 ≤ n) (hn : n < 18446744073709551616) :
    Calls Try.prog 40 #[.int .u64 n] w (OwnBytes w (vint n.toNat)) := by
  obtain ⟨m, rfl⟩ := Int.eq_ofNat_of_zero_le h0
  exact refUint_any m w (by omega)
theorem zigzag_any (n : Int) (w : World) (hn : (Lit.int .i64 n).wf = true) :
    Calls Try.prog 59 #[.int .i64 n] w fun e w' => e = .returned (.int .u64 (zig n)) ∧ w' = w := by
  have hb := i64_rng hn
  obtain ⟨h1, h2⟩ := hb
  by_cases h : n < 0
  · have he : (zig n : Int) = 2 * (-(n + 1)) + 1 := by unfold zig; rw [if_pos h]; omega
    have He := Lib.hid he; clear he
    go_enter Try.func59, Try.ntmps59
    go_wp2_with fail
    go_ret
    refine ⟨?_, rfl⟩
    rw [He.out]
    rfl
  · have he : (zig n : Int) = 2 * n := by unfold zig; rw [if_neg h]; omega
    have He := Lib.hid he; clear he
    go_enter Try.func59, Try.ntmps59
    go_wp2_with fail
    go_ret
    refine ⟨?_, rfl⟩
    rw [He.out]
    rfl
theorem refInt_any (n : Int) (w : World) (hn : (Lit.int .i64 n).wf = true) :
    Calls Try.prog 41 #[.int .i64 n] w (OwnBytes w (sint n)) := by
  have hz := zig_lt n (i64_rng hn)
  go_enter Try.func41, Try.ntmps41
  go_wp2_with fail
  refine (zigzag_any n w hn).mono ?_
  rintro e w1 ⟨rfl, rfl⟩
  dsimp only
  go_wp2_with fail
  refine (refUint_any (zig n) _ hz).mono ?_
  rintro e w2 ⟨g, cap, rfl, ho, hb⟩
  dsimp only
  go_wp2_with fail
  go_ret
  exact ⟨g, cap, rfl, ho, hb⟩
theorem refBool_any (b : Bool) (w : World) :
    Calls Try.prog 42 #[.bool b] w (OwnBytes w [if b then 1 else 0]) := by
  cases b
  all_goals
    go_enter Try.func42, Try.ntmps42
    go_wp2_with fail
    go_ret
    exact ⟨_, _, rfl, World.ownsRow_lit w _ 1 (Nat.le_refl _) (by simp [maxLen]) rfl, laidB (Below.refl _ _) _⟩
set_option maxHeartbeats 1000000 in
theorem refRaw_any (a : Option Addr) (cap : Nat) (bs : List Int) (w : World) (hr : Row .u8 w.heap.size w (.slice a bs.length cap) bs) (hbm : bs.length ≤ 1000000) :
    Calls Try.prog 43 #[.slice a bs.length cap] w (OwnBytes w (vint bs.length ++ bs)) := by
  obtain ⟨i0, hi, hz0, hz1, hz2⟩ := info_parts info_byte
  have hvl := vint_length bs.length
  have hlc := hr.lencap
  unfold maxLen at hlc
  go_enter Try.func43, Try.ntmps43
  go_wp2_with fail
  refine (refUint_any bs.length w (by omega)).mono ?_
  rintro e w1 ⟨g, cp, rfl, ho, hb⟩
  have hr1 := rowB hr hb
  have hs1 := hb.size
  generalize hvn : vint bs.length = vn at *
  have HVN := Lib.hid hvn
  clear hvn hr
  dsimp only
  go_wp2_with (at_builtin; refine wpList_append_row rfl _ _ 24 rfl w.heap.size 5 i0 .u8 _ 1 Try.underlying24 hi hz0 hz1 hz2 rfl _ _ vn rfl ho _ bs _ rfl hr1 (by unfold maxLen; omega) (by omega) hs1 ?_; intro v2 w2 hown2 hgrow2 hb2)
  obtain ⟨a2, l2, c2, rfl⟩ := owns_slice hown2
  obtain ⟨g2, rfl, _, rfl⟩ := owns_at hown2 (by rw [List.length_append]; omega)
  go_ret
  exact ⟨g2, c2, rfl, hown2, hb.trans hb2⟩
set_option maxHeartbeats 1000000 in
theorem refInts_any (a : Option Addr) (cap : Nat) (l : List Int) (w : World) (hr : Row .i64 w.heap.size w (.slice a l.length cap) l) (hm : l.length ≤ 100000) (hwf : ∀ n ∈ l, (Lit.int .i64 n).wf = true) :
    Calls Try.prog 44 #[.slice a l.length cap] w (OwnBytes w (sints l)) := by
  obtain ⟨i0, hi, hz0, hz1, hz2⟩ := info_parts info_byte
  have hvl := vint_length l.length
  have hlc := hr.lencap
  unfold maxLen at hlc
  go_enter Try.func44, Try.ntmps44
  go_wp2_with fail
  refine (refUint_any l.length w (by omega)).mono ?_
  rintro e w1 ⟨g, cp, rfl, ho, hb⟩
  have hs1 := hb.size
  dsimp only
  go_wp2_with fail
  go_loopw [3, 4] (fun v i wr => ∃ (k : Nat), k ≤ l.length ∧ i = .int .i64 (k : Int) ∧ wr.ownsRow w.heap.size 5 1 v (vint l.length ++ ((l.take k).map sint).flatten).length ((vint l.length ++ ((l.take k).map sint).flatten).map (Value.int .u8)) ∧ Below w.heap.size w wr) (fun _ i _ => l.length - (intOf i).toNat)
  case atStart => exact ⟨0, Nat.zero_le _, rfl, by simpa using ho, hb⟩
  case round =>
    clear ho hb
    obtain ⟨k, hk, rfl, ho, hb⟩ := hrel
    have hsr := hb.size
    have hlk := sints_le (l.take k)
    have hlk2 : (l.take k).length ≤ k := List.length_take_le _ _
    have hzl : (vint l.length ++ ((l.take k).map sint).flatten).length ≤ 1200000 := by rw [List.length_append]; omega
    by_cases hlt : k < l.length
    · obtain ⟨b, off, rfl, hbn, hc⟩ := hr.at (by omega)
      have c0 : wr.cell? ⟨b, off + k, none⟩ = some (.int .i64 (l[k]?.getD 0)) := (hb.cell (p := ⟨b, off + k, none⟩) hbn).trans (hc k hlt)
      have hx : (Lit.int .i64 (l[k]?.getD 0)).wf = true := by
        rw [List.getElem?_eq_getElem hlt]; exact hwf _ (List.getElem_mem hlt)
      have ht := sints_take l k hlt
      generalize l[k]?.getD 0 = x at c0 hx ht
      have HT : Hid (vint l.length ++ ((l.take (k + 1)).map sint).flatten = (vint l.length ++ ((l.take k).map sint).flatten) ++ sint x) := Lib.hid (by rw [ht, List.append_assoc])
      have hxl := vint_length (zig x)
      have hxl2 : (sint x).length ≤ 11 := hxl.2
      generalize vint l.length ++ ((l.take k).map sint).flatten = acc at *
      clear hc ht
      have hi1 : (k : Int) < l.length := by omega
      go_wp2_with fail
      refine (refInt_any x wr hx).mono ?_
      rintro e w2 ⟨g2, cp2, rfl, ho2, hb2⟩
      have ho' := owns_kept_below ho hb2
      have hr2 := (row_of_owns ho2).1
      have hs2 := hb2.size
      dsimp only
      go_wp2_with (at_builtin; refine wpList_append_row rfl _ _ 24 rfl w.heap.size 5 i0 .u8 _ 1 Try.underlying24 hi hz0 hz1 hz2 rfl _ _ acc rfl ho' _ (sint x) _ rfl hr2 (by unfold maxLen; omega) (by omega) (by omega) ?_; intro v3 w3 hown3 hgrow3 hb3)
      go_roundw
      case rel => exact ⟨k + 1, by omega, by go_num, by rw [HT.out]; exact hown3, (stepB hb hb2).trans hb3⟩
      case measure => simp [intOf]; omega
    · have ht : l.take k = l := List.take_of_length_le (by omega)
      rw [ht] at ho
      obtain ⟨a2, l2, c2, rfl⟩ := owns_slice ho
      obtain ⟨g2, rfl, _, rfl⟩ := owns_at ho (by rw [List.length_append]; omega)
      have HT := Lib.hid ht
      clear ht
      go_wp2_with fail
      go_ret
      exact ⟨g2, c2, rfl, ho, hb⟩

/-- A value's bytes, by the reference model. -/
theorem refEncode_len (l : List VM) (h : (vsbytes l).length ≤ 900000) (k : Nat) : (vsbytes (l.take k)).length ≤ 900000 := Nat.le_trans (vsbytes_take_le l k) h
theorem vbytes_sub (l : List VM) (k : Nat) (v : VM) (h : l[k]? = some v) : (vbytes v).length ≤ (vsbytes l).length := by
  have h1 := vsbytes_take l k v h
  have h2 := vsbytes_take_le l (k + 1)
  rw [h1, List.length_append] at h2
  omega
set_option maxRecDepth 100000 in
set_option maxHeartbeats 4000000 in
theorem refEncode_any (x : Value) (l : List VM) (w : World) (h : VRow w.heap.size w x l) (ho : ∀ v ∈ l, v.okL) (hvl : (vsbytes l).length ≤ 900000) :
    Calls Try.prog 17 #[x] w fun e w' => ∃ v, e = .returned v ∧ w'.ownsRow w.heap.size 5 1 v (vsbytes l).length ((vsbytes l).map (Value.int .u8)) ∧ Below w.heap.size w w' := by
  obtain ⟨i0, hi, hz0, hz1, hz2⟩ := info_parts info_byte
  obtain ⟨a, cap, rfl, h1, h2, h3⟩ := h
  unfold maxLen at h2
  go_enter Try.func17, Try.ntmps17
  go_wp2_with fail
  go_loopw [3, 4] (fun v i wr => ∃ k : Nat, k ≤ l.length ∧ i = .int .i64 (k : Int) ∧ wr.ownsRow w.heap.size 5 1 v (vsbytes (l.take k)).length ((vsbytes (l.take k)).map (Value.int .u8)) ∧ Below w.heap.size w wr) (fun _ i _ => l.length - (intOf i).toNat)
  case atStart => exact ⟨0, Nat.zero_le _, rfl, World.ownsRow_nil _ _ _ _, Below.refl _ _⟩
  case round =>
    obtain ⟨k, hk, rfl, hoA, hB⟩ := hrel
    have hsr := hB.size
    by_cases hlt : k < l.length
    · obtain ⟨b, off, rfl, hbn, hc⟩ := h3.resolve_left (by rintro rfl; simp at hlt)
      have hgk : l[k]? = some l[k] := List.getElem?_eq_getElem hlt
      obtain ⟨sb, sl, r1, r2, c0, c1, c2, c3, c4⟩ := hc k _ hgk
      have hok := ho _ (List.mem_of_getElem? hgk)
      have ht := vsbytes_take l k _ hgk
      have hvb := vbytes_sub l k _ hgk
      have hlk := refEncode_len l hvl k
      generalize l[k] = v at *
      obtain ⟨kind, u, n, B, L⟩ := v
      dsimp only at *
      obtain ⟨u0, u1, hn, hBr, hBl, hLr, hLl, hcan⟩ := hok
      dsimp only [VM.canon] at *
      have hs0 : w.heap.size ≤ wr.heap.size := hsr
      replace r1 := RowP.mono (q := fun g => g < wr.heap.size) (fun g hg => by omega) (RowP.below hB r1)
      replace r2 := RowP.mono (q := fun g => g < wr.heap.size) (fun g hg => by omega) (RowP.below hB r2)
      replace c0 := (hB.cell (p := ⟨b, _, none⟩) hbn).trans c0
      replace c1 := (hB.cell (p := ⟨b, _, none⟩) hbn).trans c1
      replace c2 := (hB.cell (p := ⟨b, _, none⟩) hbn).trans c2
      replace c3 := (hB.cell (p := ⟨b, _, none⟩) hbn).trans c3
      replace c4 := (hB.cell (p := ⟨b, _, none⟩) hbn).trans c4
      obtain ⟨ab, cb, rfl⟩ := row_slice r1
      obtain ⟨al, cl, rfl⟩ := row_slice r2
      have HT := Lib.hid ht
      have HG := Lib.hid hgk
      have hi1 : (k : Int) < l.length := by omega
      generalize vsbytes (l.take k) = acc at *
      clear hgk ht hc h3
      rcases hcan with ⟨rfl, rfl, rfl, rfl⟩ | ⟨rfl, rfl, rfl, rfl⟩ | ⟨rfl, hn1, rfl, rfl, rfl⟩ | ⟨hk34, rfl, rfl, rfl⟩ | ⟨rfl, rfl, rfl, rfl⟩
      · go_wp2_with fail
        refine (refUint_int u wr u0 u1).mono ?_
        rintro e w2 ⟨g2, cp2, rfl, ho2, hb2⟩
        have ho' := owns_kept_below hoA hb2
        have hr2 := (row_of_owns ho2).1
        have hs2 := hb2.size
        have hvb' : (vint u.toNat).length ≤ 900000 := Nat.le_trans hvb hvl
        have HT' : Hid (vsbytes (l.take (k + 1)) = acc ++ vint u.toNat) := HT
        clear c0 c1 c2 c3 c4 hvb HT HG ho2 r1 r2
        generalize vint u.toNat = vb at *
        dsimp only
        go_wp2_with (at_builtin; refine wpList_append_row rfl _ _ 24 rfl w.heap.size 5 i0 .u8 _ 1 Try.underlying24 hi hz0 hz1 hz2 rfl _ _ acc rfl ho' _ vb _ rfl hr2 (by unfold maxLen; omega) (by omega) (by omega) ?_; intro v3 w3 hown3 hgrow3 hb3)
        go_roundw
        case rel => exact ⟨k + 1, by omega, by go_num, by rw [HT'.out]; exact hown3, (stepB hB hb2).trans hb3⟩
        case measure => simp [intOf]; omega
      · go_wp2_with fail
        refine (refInt_any n wr hn).mono ?_
        rintro e w2 ⟨g2, cp2, rfl, ho2, hb2⟩
        have ho' := owns_kept_below hoA hb2
        have hr2 := (row_of_owns ho2).1
        have hs2 := hb2.size
        have hvb' : (sint n).length ≤ 900000 := Nat.le_trans hvb hvl
        have HT' : Hid (vsbytes (l.take (k + 1)) = acc ++ sint n) := HT
        clear c0 c1 c2 c3 c4 hvb HT HG ho2 r1 r2
        generalize sint n = vb at *
        dsimp only
        go_wp2_with (at_builtin; refine wpList_append_row rfl _ _ 24 rfl w.heap.size 5 i0 .u8 _ 1 Try.underlying24 hi hz0 hz1 hz2 rfl _ _ acc rfl ho' _ vb _ rfl hr2 (by unfold maxLen; omega) (by omega) (by omega) ?_; intro v3 w3 hown3 hgrow3 hb3)
        go_roundw
        case rel => exact ⟨k + 1, by omega, by go_num, by rw [HT'.out]; exact hown3, (stepB hB hb2).trans hb3⟩
        case measure => simp [intOf]; omega
      · rcases hn1 with rfl | rfl
        · go_wp2_with fail
          refine (refBool_any false wr).mono ?_
          rintro e w2 ⟨g2, cp2, rfl, ho2, hb2⟩
          have ho' := owns_kept_below hoA hb2
          have hr2 := (row_of_owns ho2).1
          have hs2 := hb2.size
          have hvb' : ([(if false then 1 else 0 : Int)]).length ≤ 900000 := Nat.le_trans hvb hvl
          have HT' : Hid (vsbytes (l.take (k + 1)) = acc ++ [(if false then 1 else 0 : Int)]) := HT
          clear c0 c1 c2 c3 c4 hvb HT HG ho2 r1 r2
          generalize [(if false then 1 else 0 : Int)] = vb at *
          dsimp only
          go_wp2_with (at_builtin; refine wpList_append_row rfl _ _ 24 rfl w.heap.size 5 i0 .u8 _ 1 Try.underlying24 hi hz0 hz1 hz2 rfl _ _ acc rfl ho' _ vb _ rfl hr2 (by unfold maxLen; omega) (by omega) (by omega) ?_; intro v3 w3 hown3 hgrow3 hb3)
          go_roundw
          case rel => exact ⟨k + 1, by omega, by go_num, by rw [HT'.out]; exact hown3, (stepB hB hb2).trans hb3⟩
          case measure => simp [intOf]; omega
        · go_wp2_with fail
          refine (refBool_any true wr).mono ?_
          rintro e w2 ⟨g2, cp2, rfl, ho2, hb2⟩
          have ho' := owns_kept_below hoA hb2
          have hr2 := (row_of_owns ho2).1
          have hs2 := hb2.size
          have hvb' : ([(if true then 1 else 0 : Int)]).length ≤ 900000 := Nat.le_trans hvb hvl
          have HT' : Hid (vsbytes (l.take (k + 1)) = acc ++ [(if true then 1 else 0 : Int)]) := HT
          clear c0 c1 c2 c3 c4 hvb HT HG ho2 r1 r2
          generalize [(if true then 1 else 0 : Int)] = vb at *
          dsimp only
          go_wp2_with (at_builtin; refine wpList_append_row rfl _ _ 24 rfl w.heap.size 5 i0 .u8 _ 1 Try.underlying24 hi hz0 hz1 hz2 rfl _ _ acc rfl ho' _ vb _ rfl hr2 (by unfold maxLen; omega) (by omega) (by omega) ?_; intro v3 w3 hown3 hgrow3 hb3)
          go_roundw
          case rel => exact ⟨k + 1, by omega, by go_num, by rw [HT'.out]; exact hown3, (stepB hB hb2).trans hb3⟩
          case measure => simp [intOf]; omega
      · rcases hk34 with rfl | rfl
        · go_wp2_with fail
          refine (refRaw_any ab cb B wr r1 (by omega)).mono ?_
          rintro e w2 ⟨g2, cp2, rfl, ho2, hb2⟩
          have ho' := owns_kept_below hoA hb2
          have hr2 := (row_of_owns ho2).1
          have hs2 := hb2.size
          have hvb' : (vint B.length ++ B).length ≤ 900000 := Nat.le_trans hvb hvl
          have HT' : Hid (vsbytes (l.take (k + 1)) = acc ++ (vint B.length ++ B)) := HT
          clear c0 c1 c2 c3 c4 hvb HT HG ho2 r1 r2
          generalize vint B.length ++ B = vb at *
          dsimp only
          go_wp2_with (at_builtin; refine wpList_append_row rfl _ _ 24 rfl w.heap.size 5 i0 .u8 _ 1 Try.underlying24 hi hz0 hz1 hz2 rfl _ _ acc rfl ho' _ vb _ rfl hr2 (by unfold maxLen; omega) (by omega) (by omega) ?_; intro v3 w3 hown3 hgrow3 hb3)
          go_roundw
          case rel => exact ⟨k + 1, by omega, by go_num, by rw [HT'.out]; exact hown3, (stepB hB hb2).trans hb3⟩
          case measure => simp [intOf]; omega
        · go_wp2_with fail
          refine (refRaw_any ab cb B wr r1 (by omega)).mono ?_
          rintro e w2 ⟨g2, cp2, rfl, ho2, hb2⟩
          have ho' := owns_kept_below hoA hb2
          have hr2 := (row_of_owns ho2).1
          have hs2 := hb2.size
          have hvb' : (vint B.length ++ B).length ≤ 900000 := Nat.le_trans hvb hvl
          have HT' : Hid (vsbytes (l.take (k + 1)) = acc ++ (vint B.length ++ B)) := HT
          clear c0 c1 c2 c3 c4 hvb HT HG ho2 r1 r2
          generalize vint B.length ++ B = vb at *
          dsimp only
          go_wp2_with (at_builtin; refine wpList_append_row rfl _ _ 24 rfl w.heap.size 5 i0 .u8 _ 1 Try.underlying24 hi hz0 hz1 hz2 rfl _ _ acc rfl ho' _ vb _ rfl hr2 (by unfold maxLen; omega) (by omega) (by omega) ?_; intro v3 w3 hown3 hgrow3 hb3)
          go_roundw
          case rel => exact ⟨k + 1, by omega, by go_num, by rw [HT'.out]; exact hown3, (stepB hB hb2).trans hb3⟩
          case measure => simp [intOf]; omega
      · go_wp2_with fail
        refine (refInts_any al cl L wr r2 (by omega) hLr).mono ?_
        rintro e w2 ⟨g2, cp2, rfl, ho2, hb2⟩
        have ho' := owns_kept_below hoA hb2
        have hr2 := (row_of_owns ho2).1
        have hs2 := hb2.size
        have hvb' : (sints L).length ≤ 900000 := Nat.le_trans hvb hvl
        have HT' : Hid (vsbytes (l.take (k + 1)) = acc ++ sints L) := HT
        clear c0 c1 c2 c3 c4 hvb HT HG ho2 r1 r2
        generalize sints L = vb at *
        dsimp only
        go_wp2_with (at_builtin; refine wpList_append_row rfl _ _ 24 rfl w.heap.size 5 i0 .u8 _ 1 Try.underlying24 hi hz0 hz1 hz2 rfl _ _ acc rfl ho' _ vb _ rfl hr2 (by unfold maxLen; omega) (by omega) (by omega) ?_; intro v3 w3 hown3 hgrow3 hb3)
        go_roundw
        case rel => exact ⟨k + 1, by omega, by go_num, by rw [HT'.out]; exact hown3, (stepB hB hb2).trans hb3⟩
        case measure => simp [intOf]; omega
    · have ht : l.take k = l := List.take_of_length_le (by omega)
      rw [ht] at hoA
      go_wp2_with fail
      go_ret
      exact ⟨_, rfl, hoA, hB⟩
end Go.Proofs.Ytpoldhblddlcpaa
