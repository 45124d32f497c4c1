/- Contracts of the reference model's Sum, Bytes, Pair (package rexmillref01). -/
import Derived.Test.YtjgeefnackhnpaaRefHash
namespace Go.Proofs.Ytjgeefnackhnpaa
open Go.RowKit Go.Shelf
set_option linter.unusedVariables false

theorem foldl_take (f : Int → Int → Int) (st : Int) (ws : List Int) (k : Nat) (h : k < ws.length) : (ws.take (k + 1)).foldl f st = f ((ws.take k).foldl f st) (ws[k]?.getD 0) := by
  rw [List.take_succ_eq_append_getElem h, List.foldl_append]
  simp [h]
theorem bytesI_rng (s : ByteArray) (i : Nat) : 0 ≤ (bytesI s)[i]?.getD 0 ∧ (bytesI s)[i]?.getD 0 < 256 := by
  unfold bytesI
  rw [List.getElem?_map]
  cases h : s.data.toList[i]? with
  | none => simp
  | some b => simp; have := b.toNat_lt; omega

set_option maxHeartbeats 2000000 in
theorem rsum_any (s : ByteArray) (a : Option Addr) (len cap : Nat) (ws : List Int) (hs : s.size ≤ 1000000) (w : World) (hr : Row .i64 w.heap.size w (.slice a len cap) ws) :
    Calls Try.prog 14 #[.string s, .slice a len cap] w fun e W' => e = .returned (.int .u64 (sumI (bytesI s) ws)) ∧ Below w.heap.size w W' := by
  have hwl := hr.len
  have hlc := hr.lencap
  subst hwl
  unfold maxLen at hlc
  have hbl := bytesI_length s
  have Hbl := Lib.hid hbl; clear hbl
  have hcv := fun (w : World) => run_bytes_of_string (P := Try.prog) w 9 30 5 s Try.underlying9 Try.underlying30 Try.underlying5
  go_enter Try.func14, Try.ntmps14
  go_wp2_with fail
  clear hcv
  generalize hgc : grownCap w s.size 0 5 = gc
  have hge : s.size ≤ gc := by rw [← hgc]; exact grownCap_ge _ _ _ _
  have hgm : gc ≤ maxLen := by rw [← hgc]; exact grownCap_le_maxLen _ _ _ _ (by unfold maxLen; omega)
  clear hgc
  have hB0 : Below w.heap.size w (w.drew.alloc (.cells (bytesRow s gc) 5 ((bytesRow s gc).size, (bytesRow s gc).size + 1))) := laidB ((Below.refl _ _).drew) _
  have hrow : Row .u8 (w.drew.alloc (.cells (bytesRow s gc) 5 ((bytesRow s gc).size, (bytesRow s gc).size + 1))).heap.size (w.drew.alloc (.cells (bytesRow s gc) 5 ((bytesRow s gc).size, (bytesRow s gc).size + 1))) (.slice (some ⟨w.heap.size, 0, none⟩) s.size gc) (bytesI s) := by
    refine .inr ⟨w.heap.size, 0, gc, by rw [Hbl.out], by rw [Hbl.out]; exact hge, hgm, by simp, fun j hj => ?_⟩
    rw [Hbl.out] at hj
    rw [Nat.zero_add]
    exact (cell_alloc_marked w.drew (bytesRow s gc) 5 _ j).trans (bytesRow_get s gc j hj)
  refine (words_any _ _ _ (bytesI s) _ hrow (by rw [Hbl.out]; exact hs) (bytesI_rng s)).mono ?_
  rintro e w1 ⟨v, rfl, hown, hB1⟩
  have hB2 := stepB hB0 hB1
  clear hB0 hB1 hrow
  have hwl := wordsOf_length (bytesI s)
  rw [Hbl.out] at hwl
  have hwl2 : (wordsOf (bytesI s)).length ≤ 1000000 := by omega
  clear hwl
  have hr1 := (row_of_owns hown).1
  obtain ⟨av, lv, cv, rfl⟩ := owns_slice hown
  clear hown
  have hlv := hr1.len
  have hlc1 := hr1.lencap
  have hr2 := hr.below hB2
  obtain ⟨W, hW⟩ : ∃ W, W = wordsOf (bytesI s) := ⟨_, rfl⟩
  rw [← hW] at hr1 hlv hwl2
  subst hlv
  unfold maxLen at hlc1
  have HW := Lib.hid hW; clear hW
  dsimp only
  go_wp2_with fail
  go_loopw [5, 7] (fun st i wr => ∃ k : Nat, k ≤ W.length ∧ i = .int .i64 (k : Int) ∧ st = .int .u64 ((W.take k).foldl mixI 0) ∧ wr = w1) (fun _ i _ => W.length - (intOf i).toNat)
  case atStart => exact ⟨0, Nat.zero_le _, rfl, rfl, rfl⟩
  case round =>
    obtain ⟨k, hk, rfl, rfl, rfl⟩ := hrel
    by_cases hlt : k < W.length
    · obtain ⟨bw, ow, rfl, hpw, hcw⟩ := hr1.at (by omega)
      have c1 := hcw k hlt
      have HT := Lib.hid (foldl_take mixI 0 W k hlt)
      clear hcw hr1
      generalize W[k]?.getD 0 = x at c1 HT
      go_wp2_with (go_at_call 27; refine (rmix_any _ _ _).mono ?_; rintro e w' ⟨rfl, rfl⟩)
      go_roundw
      case rel => exact ⟨k + 1, by omega, by go_num, by rw [HT.out], trivial⟩
      case measure => simp [intOf]; omega
    · have HT := Lib.hid (show (W.take k).foldl mixI 0 = W.foldl mixI 0 from by rw [List.take_of_length_le (by omega)])
      generalize (W.take k).foldl mixI 0 = s0 at HT
      clear hr1
      go_wp2_with (go_at_call 27; refine (rmix_any _ _ _).mono ?_; rintro e w' ⟨rfl, rfl⟩)
      generalize hS : mixI (mixI s0 s.size) ws.length = S1
      have HS := Lib.hid hS; clear hS
      go_loopw [5, 8] (fun st i wr => ∃ k : Nat, k ≤ ws.length ∧ i = .int .i64 (k : Int) ∧ st = .int .u64 (sumTail S1 (ws.take k)) ∧ wr = w') (fun _ i _ => ws.length - (intOf i).toNat)
      case atStart => exact ⟨0, Nat.zero_le _, rfl, rfl, rfl⟩
      case round =>
        obtain ⟨k', hk', rfl, rfl, rfl⟩ := hrel
        by_cases hlt' : k' < ws.length
        · obtain ⟨bw, ow, rfl, hpw, hcw⟩ := hr2.at (by omega)
          have c1 := hcw k' hlt'
          have HT' := Lib.hid (sumTail_take S1 ws k' hlt')
          clear hcw hr2 hr
          generalize ws[k']?.getD 0 = x at c1 HT'
          go_wp2_with (go_at_call 27; refine (rmix_any _ _ _).mono ?_; rintro e w' ⟨rfl, rfl⟩)
          go_roundw
          case rel => exact ⟨k' + 1, by omega, by go_num, by rw [HT'.out], trivial⟩
          case measure => simp [intOf]; omega
        · have HT' := Lib.hid (sumTail_all S1 ws k' (by omega))
          clear hr2 hr
          go_wp2_with (go_at_call 27; refine (rmix_any _ _ _).mono ?_; rintro e w' ⟨rfl, rfl⟩)
          go_ret
          refine ⟨?_, hB2⟩
          have e0 := HT.out
          have e1 := HS.out
          have e2 := HW.out
          rw [HT'.out, ← e1, e0, e2]
          unfold sumI
          rw [Hbl.out]
          rfl

set_option maxHeartbeats 2000000 in
theorem rbytes_any (s : ByteArray) (a : Option Addr) (len cap : Nat) (zs : List Int) (hs : s.size ≤ 1000000) (w : World) (hr : Row .u8 w.heap.size w (.slice a len cap) zs) (hwm : zs.length ≤ 1000000) (hz : ∀ i : Nat, 0 ≤ zs[i]?.getD 0 ∧ zs[i]?.getD 0 < 256) :
    Calls Try.prog 18 #[.string s, .slice a len cap] w fun e W' => e = .returned (.int .u64 (sumI (bytesI s) ((wordsOf zs).map wrap64 ++ [(zs.length : Int)]))) ∧ Below w.heap.size w W' := by
  have hwl := hr.len
  have hlc := hr.lencap
  subst hwl
  obtain ⟨i0, hi, hz0, hz1, hz2⟩ := info_parts info_ints
  go_enter Try.func18, Try.ntmps18
  go_wp2_with fail
  refine (words_any _ _ _ zs _ hr hwm hz).mono ?_
  rintro e w1 ⟨v, rfl, hown, hB1⟩
  have hwl := wordsOf_length zs
  have hwl2 : (wordsOf zs).length ≤ 1000000 := by omega
  clear hwl
  have hr1 := (row_of_owns hown).1
  obtain ⟨av, lv, cv, rfl⟩ := owns_slice hown
  clear hown
  have hlv := hr1.len
  have hlc1 := hr1.lencap
  obtain ⟨W, hW⟩ : ∃ W, W = wordsOf zs := ⟨_, rfl⟩
  rw [← hW] at hr1 hlv hwl2
  subst hlv
  unfold maxLen at hlc1
  have HW := Lib.hid hW; clear hW
  dsimp only
  go_wp2_with fail
  go_loopw [6, 7] (fun v i wr => ∃ k : Nat, k ≤ W.length ∧ i = .int .i64 (k : Int) ∧ wr.ownsRow w1.heap.size 3 1 v k (((W.take k).map wrap64).map (Value.int .i64)) ∧ Below w1.heap.size w1 wr) (fun _ i _ => W.length - (intOf i).toNat)
  case atStart => exact ⟨0, Nat.zero_le _, rfl, World.ownsRow_nil _ _ _ _, Below.refl _ _⟩
  case round =>
    obtain ⟨k, hk, rfl, hown, hB⟩ := hrel
    have hsz := hB.size
    by_cases hlt : k < W.length
    · obtain ⟨bw, ow, rfl, hpw, hcw⟩ := hr1.at (by omega)
      have c1 : wr.cell? ⟨bw, ow + k, none⟩ = some (.int .u64 (W[k]?.getD 0)) := (hB.cell (p := ⟨bw, ow + k, none⟩) hpw).trans (hcw k hlt)
      have HT := Lib.hid (show (W.take (k + 1)).map wrap64 = (W.take k).map wrap64 ++ [wrap64 (W[k]?.getD 0)] from by rw [List.take_succ_eq_append_getElem hlt, List.map_append, List.map_singleton, List.getElem?_eq_getElem hlt, Option.getD_some])
      clear hcw hr1
      generalize W[k]?.getD 0 = x at c1 HT
      go_wp2_with (at_builtin; refine wpList_append_own _ rfl _ _ 22 rfl w1.heap.size 3 i0 (.int .i64 0) 1 8 Try.underlying22 hi hz0 hz1 hz2 rfl (by decide) _ _ _ rfl (hown.alloc _) ⟨wr.heap.size, 0, none⟩ 1 1 [.int .i64 (wrap64 x)] rfl rfl (cell_one_new _ _ _) (by simp [Value.oneCell']) (by unfold maxLen; omega) (by omega) (by have := hB.size; simp; omega) ?_; intro v' w2 hown' hgrow' _)
      go_roundw
      case rel => exact ⟨k + 1, by omega, by go_num, by rw [HT.out, List.map_append]; exact hown', (laidB hB _).grown hgrow' (by have := hB.size; simp; omega) (fun q e => own_base hown e)⟩
      case measure => simp [intOf]; omega
    · have HT := Lib.hid (show W.take k = W from by rw [List.take_of_length_le (by omega)])
      have hB3 := stepB hB1 hB
      have hown2 : wr.ownsRow w1.heap.size 3 1 u6 k ((W.map wrap64).map (Value.int .i64)) := by have := hown; rwa [HT.out] at this
      have hkl : k = W.length := by omega
      have Hk := Lib.hid hkl
      clear hown hr1 hkl
      go_wp2_with (at_builtin; refine wpList_append_own _ rfl _ _ 22 rfl w1.heap.size 3 i0 (.int .i64 0) 1 8 Try.underlying22 hi hz0 hz1 hz2 rfl (by decide) _ _ _ rfl (hown2.alloc _) ⟨wr.heap.size, 0, none⟩ 1 1 [.int .i64 zs.length] rfl rfl (cell_one_new _ _ _) (by simp [Value.oneCell']) (by unfold maxLen; omega) (by omega) (by have := hB.size; simp; omega) ?_; intro v' w2 hown' hgrow' _; obtain ⟨g', cap', rfl⟩ := ownsRow_succ hown')
      have hB4 : Below w.heap.size w w2 := (laidB hB3 _).grown hgrow' (by have := hB3.size; simp; omega) (fun q e => by have := own_base hown2 e; have := hB1.size; omega)
      have hrw := row_of_owns (k := .i64) (zs := W.map wrap64 ++ [(zs.length : Int)]) (by rw [List.map_append]; exact hown')
      refine (rsum_any s _ _ _ (W.map wrap64 ++ [(zs.length : Int)]) hs _ hrw.1).mono ?_
      rintro e W3 ⟨rfl, hB5⟩
      dsimp only
      go_wp2_with fail
      go_ret
      have e2 := HW.out
      exact ⟨by rw [← e2]; rfl, stepB hB4 hB5⟩

theorem rpair_any (a b : Int) (w : World) :
    Calls Try.prog 20 #[.int .u64 a, .int .u64 b] w fun e W' => e = .returned (.int .u64 (pairI a b)) ∧ Below w.heap.size w W' := by
  go_enter Try.func20, Try.ntmps20
  go_wp2_with fail
  have b0 := laidB (Below.refl w.heap.size w) (.cells #[.int .i64 (wrap64 a), .int .i64 (wrap64 b)] 3)
  refine (rsum_any _ _ _ _ [wrap64 a, wrap64 b] (by decide) _ (two_ints w _ _)).mono ?_
  rintro e W3 ⟨rfl, hB3⟩
  go_wp2
  go_ret
  exact ⟨rfl, stepB b0 hB3⟩
end Go.Proofs.Ytjgeefnackhnpaa
