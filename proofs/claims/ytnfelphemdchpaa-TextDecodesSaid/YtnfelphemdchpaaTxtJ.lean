/- Contracts of the reference: Splice. -/
import Derived.Test.YtnfelphemdchpaaTxtI
namespace Go.Proofs.Ytnfelphemdchpaa
open Go.RowKit Go.Shelf
set_option linter.unusedVariables false

theorem take_succ_get (l : List Int) (k : Nat) (h : k < l.length) : l.take (k + 1) = l.take k ++ [l[k]?.getD 0] := by
  rw [List.take_succ_eq_append_getElem h]
  simp [h]
theorem take_drop_succ (l : List Int) (s k : Nat) (h : s + k < l.length) : (l.drop s).take (k + 1) = (l.drop s).take k ++ [l[s + k]?.getD 0] := by
  rw [take_succ_get _ _ (by simp; omega), List.getElem?_drop]
set_option maxRecDepth 100000 in
set_option maxHeartbeats 4000000 in
theorem refSplice_any (a : Option Addr) (cap : Nat) (l : List Int) (p q : Nat) (ai : Option Addr) (ci : Nat) (ins : List Int) (w : World) (hr : Row .i64 w.heap.size w (.slice a l.length cap) l) (hri : Row .i64 w.heap.size w (.slice ai ins.length ci) ins)
    (hl : l.length ≤ 100000) (hil : ins.length ≤ 100000) (hpq : p + q ≤ l.length) :
    Calls Try.prog 35 #[.slice a l.length cap, .agg #[.int .i64 (p : Int), .int .i64 (q : Int), .slice ai ins.length ci]] w fun e w' => ∃ v, e = .returned v ∧ w'.ownsRow w.heap.size 3 1 v (l.take p ++ ins ++ l.drop (p + q)).length ((l.take p ++ ins ++ l.drop (p + q)).map (Value.int .i64)) ∧ Below w.heap.size w w' := by
  obtain ⟨i0, hi, hz0, hz1, hz2⟩ := info_parts info_int
  have b0 := laidB (Below.refl w.heap.size w) (.cells #[.int .i64 (p : Int), .int .i64 (q : Int), .slice ai ins.length ci] 43)
  have C0 := Cel.new w 43 #[.int .i64 (p : Int), .int .i64 (q : Int), .slice ai ins.length ci]
  have hr0 := rowB hr b0
  have hri0 := rowB hri b0
  have hlc := hr.lencap
  unfold maxLen at hlc
  clear hr hri
  generalize hL : l.take p ++ ins ++ l.drop (p + q) = L
  have HL := Lib.hid hL
  clear hL
  go_enter Try.func35, Try.ntmps35
  go_wp2_with fail
  generalize w.alloc (.cells #[.int .i64 (p : Int), .int .i64 (q : Int), .slice ai ins.length ci] 43) = w1 at *
  have hlt1 := C0.lt
  go_loopw [5, 6] (fun v i wr => ∃ k : Nat, k ≤ p ∧ i = .int .i64 (k : Int) ∧ wr.ownsRow w1.heap.size 3 1 v (l.take k).length ((l.take k).map (Value.int .i64)) ∧ Below w1.heap.size w1 wr) (fun _ i _ => p - (intOf i).toNat)
  case atStart => exact ⟨0, Nat.zero_le _, rfl, World.ownsRow_nil _ _ _ _, Below.refl _ _⟩
  case round =>
    obtain ⟨k, hk, rfl, hown, hb⟩ := hrel
    have hsr := hb.size
    have C1 := C0.keep hb hlt1
    have x0 : wr.cell? ⟨w.heap.size, 0, none⟩ = some (.int .i64 (p : Int)) := C1.cell 0
    have x1 : wr.cell? ⟨w.heap.size, 1, none⟩ = some (.int .i64 (q : Int)) := C1.cell 1
    have x2 : wr.cell? ⟨w.heap.size, 2, none⟩ = some (.slice ai ins.length ci) := C1.cell 2
    by_cases hlt : k < p
    · obtain ⟨b, off, rfl, c0⟩ := row_cell (rowB hr0 hb) k (by omega)
      have hi1 : (k : Int) < l.length := by omega
      have hi2 : (k : Int) < p := by omega
      have hi0 : (0 : Int) ≤ (k : Int) := by omega
      have hw1 : IntKind.i64.wrap ((k : Int) + 1) = (k : Int) + 1 := IntWalk.i64_in _ (by omega)
      have hy := take_succ_get l k (by omega)
      have hAl : (l.take k).length = k := by rw [List.length_take]; omega
      have HY := Lib.hid hy
      clear hy
      generalize l[k]?.getD 0 = x at *
      generalize l.take k = A at *
      have hAb : A.length ≤ 100000 := by omega
      clear hAl
      go_wp2_with (at_builtin; refine wpList_append_own _ rfl _ _ 22 rfl w1.heap.size 3 i0 (.int .i64 0) 1 8 Try.underlying22 hi hz0 hz1 hz2 rfl (by decide) _ _ _ rfl (hown.alloc _) ⟨wr.heap.size, 0, none⟩ 1 1 [.int .i64 x] rfl rfl (cell_one_new _ _ _) (by simp [Value.oneCell']) (by unfold maxLen; omega) (by omega) (by simp; omega) ?_; intro v3 w3 hown3 hgrow3 _)
      have hb3 : Below w1.heap.size w1 w3 := (laidB hb _).grown hgrow3 (by simp; omega) (fun j ej => own_base hown ej)
      go_roundw
      case rel => exact ⟨k + 1, by omega, by go_num, by rw [HY.out, List.length_append, List.map_append]; exact hown3, hb3⟩
      case measure => simp [intOf]; omega
    · obtain rfl : k = p := by omega
      have hri1 := rowB hri0 hb
      have hAl : (l.take k).length ≤ 100000 := by rw [List.length_take]; omega
      have hw1 : IntKind.i64.wrap ((k : Int) + (q : Int)) = ((k + q : Nat) : Int) := by rw [IntWalk.i64_in _ (by omega)]; omega
      have hnk : ¬ ((k : Int) < (k : Int)) := by omega
      have hT : l.drop (k + q) = (l.drop (k + q)).take (l.length - (k + q)) := by rw [List.take_of_length_le (by simp)]
      have HT := Lib.hid hT
      clear hT
      generalize hAA : l.take k = A at *
      clear hAA
      obtain ⟨w7, e7⟩ : ∃ X : World, X = wr := ⟨wr, rfl⟩
      subst e7
      generalize hss : k + q = s0 at *
      have HSS := Lib.hid hss
      clear hss
      go_wp2_with (at_builtin; refine wpList_append_row rfl _ _ 22 rfl w1.heap.size 3 i0 .i64 _ 8 Try.underlying22 hi hz0 hz1 hz2 rfl _ _ A rfl hown _ ins _ rfl hri1 (by unfold maxLen; omega) (by omega) hsr ?_; intro v3 w3 hown3 hgrow3 hb3; have z0 := (hb3.cell (p := ⟨w.heap.size, 0, none⟩) hlt1).trans x0; have z1 := (hb3.cell (p := ⟨w.heap.size, 1, none⟩) hlt1).trans x1; have z2 := (hb3.cell (p := ⟨w.heap.size, 2, none⟩) hlt1).trans x2)
      have hB := hb.trans hb3
      have hAi : (A ++ ins).length ≤ 200000 := by rw [List.length_append]; omega
      clear x0 x1 x2 z0 z1 z2 hgrow3 hb3 hown hri1 hb C1
      generalize A ++ ins = G at *
      go_loopw [5, 7] (fun v i wr => ∃ j : Nat, s0 + j ≤ l.length ∧ i = .int .i64 ((s0 + j : Nat) : Int) ∧ wr.ownsRow w1.heap.size 3 1 v (G ++ (l.drop s0).take j).length ((G ++ (l.drop s0).take j).map (Value.int .i64)) ∧ Below w1.heap.size w1 wr) (fun _ i _ => l.length - (intOf i).toNat)
      case atStart => exact ⟨0, by omega, rfl, by simpa using hown3, hB⟩
      case round =>
        clear hown3 hB
        obtain ⟨j, hj, rfl, hown, hb⟩ := hrel
        have hsr2 := hb.size
        have hjl : ((l.drop s0).take j).length ≤ 100000 := by rw [List.length_take]; omega
        by_cases hlt2 : s0 + j < l.length
        · obtain ⟨b, off, rfl, c0⟩ := row_cell (rowB hr0 hb) (s0 + j) hlt2
          have hy := take_drop_succ l s0 j hlt2
          have HY := Lib.hid hy
          clear hy
          generalize l[s0 + j]?.getD 0 = x at *
          generalize hE : (l.drop s0).take j = E at *
          have hGE : (G ++ E).length ≤ 300000 := by rw [List.length_append]; omega
          have HA : Hid (G ++ (l.drop s0).take (j + 1) = (G ++ E) ++ [x]) := Lib.hid (by rw [HY.out, List.append_assoc])
          clear hE HY hjl
          generalize G ++ E = GE at *
          generalize hjj : s0 + j = jj at *
          have hi1 : (jj : Int) < l.length := by omega
          have hi0 : (0 : Int) ≤ (jj : Int) := by omega
          have hw2 : IntKind.i64.wrap ((jj : Int) + 1) = (jj : Int) + 1 := IntWalk.i64_in _ (by omega)
          have HJ := Lib.hid hjj
          clear hjj
          go_wp2_with (at_builtin; refine wpList_append_own _ rfl _ _ 22 rfl w1.heap.size 3 i0 (.int .i64 0) 1 8 Try.underlying22 hi hz0 hz1 hz2 rfl (by decide) _ _ _ rfl (hown.alloc _) ⟨wr.heap.size, 0, none⟩ 1 1 [.int .i64 x] rfl rfl (cell_one_new _ _ _) (by simp [Value.oneCell']) (by unfold maxLen; omega) (by omega) (by simp; omega) ?_; intro v4 w4 hown4 hgrow4 _)
          have hb4 : Below w1.heap.size w1 w4 := (laidB hb _).grown hgrow4 (by simp; omega) (fun j ej => own_base hown ej)
          have hJ := HJ.out
          go_roundw
          case rel => exact ⟨j + 1, by omega, by rw [← hJ]; go_num, by rw [HA.out, List.length_append, List.map_append]; exact hown4, hb4⟩
          case measure => simp [intOf]; omega
        · have hjn : j = l.length - s0 := by omega
          have hR : G ++ (l.drop s0).take j = G ++ l.drop s0 := by rw [hjn, ← HT.out]
          rw [hR] at hown
          have hni : ¬ (((s0 + j : Nat) : Int) < (l.length : Int)) := by omega
          have HO := Lib.hid hown
          clear hown hR hjn
          generalize s0 + j = jj at *
          go_wp2_with fail
          go_ret
          exact ⟨_, rfl, by rw [← HL.out]; exact owns_base' HO.out (Nat.le_of_lt hlt1), stepB b0 hb⟩
end Go.Proofs.Ytnfelphemdchpaa
