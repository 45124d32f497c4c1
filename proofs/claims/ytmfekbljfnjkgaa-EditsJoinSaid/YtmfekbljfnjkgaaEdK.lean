/- Contracts for package edits: the reference's Formed, begin, end, Move. -/
import Derived.Test.YtmfekbljfnjkgaaEdE
namespace Go.Proofs.Ytmfekbljfnjkgaa
open Go.RowKit Go.Shelf
set_option linter.unusedVariables false

set_option maxHeartbeats 2000000 in
theorem begin_any (x p q : Int) (bi : Option Addr) (n di : Nat) (w : World) (hx : 0 ≤ x ∧ x ≤ 65536) (hp : 0 ≤ p ∧ p ≤ 65536) (hq : 0 ≤ q ∧ q ≤ 65536) (hn : n ≤ 65536) :
    Calls Try.prog 46 #[.int .i64 x, .agg #[.int .i64 p, .int .i64 q, .slice bi n di]] w fun e w' => e = .returned (.int .i64 (movAt x p q n)) ∧ Below w.heap.size w w' := by
  have b0 := laidB (Below.refl w.heap.size w) (.cells #[.int .i64 p, .int .i64 q, .slice bi n di] 25)
  obtain ⟨hx0, hx1⟩ := hx
  obtain ⟨hp0, hp1⟩ := hp
  obtain ⟨hq0, hq1⟩ := hq
  obtain ⟨N, hN⟩ : ∃ N : Int, (n : Int) = N := ⟨_, rfl⟩
  have hN1 : 0 ≤ N ∧ N ≤ 65536 := by omega
  generalize hR : movAt x p q n = R
  rw [hN] at hR
  have s1 : IntKind.i64.wrap (p + q) = p + q := IntWalk.i64_in _ (by omega)
  by_cases h1 : x < p
  · have hR2 : R = x := by rw [← hR]; unfold movAt; (repeat' split) <;> omega
    subst hR2
    clear hR
    go_enter Try.func46, Try.ntmps46
    go_wp2_with fail
    go_ret
    exact ⟨rfl, b0⟩
  · by_cases h2 : p + q ≤ x
    · have hR2 : x - q + N = R := by rw [← hR]; unfold movAt; (repeat' split) <;> omega
      clear hR
      go_enter Try.func46, Try.ntmps46
      go_wp2_with fail
      go_ret
      exact ⟨by first | rfl | (rw [hR2]) | (rw [hN, hR2]), b0⟩
    · have hR2 : p + N = R := by rw [← hR]; unfold movAt; (repeat' split) <;> omega
      clear hR
      go_enter Try.func46, Try.ntmps46
      go_wp2_with fail
      go_ret
      exact ⟨by first | rfl | (rw [hR2]) | (rw [hN, hR2]), b0⟩
set_option maxHeartbeats 2000000 in
theorem end_any (x p q : Int) (bi : Option Addr) (n di : Nat) (w : World) (hx : 0 ≤ x ∧ x ≤ 131072) (hp : 0 ≤ p ∧ p ≤ 65536) (hq : 0 ≤ q ∧ q ≤ 65536) (hn : n ≤ 65536) :
    Calls Try.prog 47 #[.int .i64 x, .agg #[.int .i64 p, .int .i64 q, .slice bi n di]] w fun e w' => e = .returned (.int .i64 (movTo x p q n)) ∧ Below w.heap.size w w' := by
  have b0 := laidB (Below.refl w.heap.size w) (.cells #[.int .i64 p, .int .i64 q, .slice bi n di] 25)
  obtain ⟨hx0, hx1⟩ := hx
  obtain ⟨hp0, hp1⟩ := hp
  obtain ⟨hq0, hq1⟩ := hq
  obtain ⟨N, hN⟩ : ∃ N : Int, (n : Int) = N := ⟨_, rfl⟩
  have hN1 : 0 ≤ N ∧ N ≤ 65536 := by omega
  generalize hR : movTo x p q n = R
  rw [hN] at hR
  have s1 : IntKind.i64.wrap (p + q) = p + q := IntWalk.i64_in _ (by omega)
  by_cases h1 : x ≤ p
  · have hR2 : R = x := by rw [← hR]; unfold movTo; (repeat' split) <;> omega
    subst hR2
    clear hR
    go_enter Try.func47, Try.ntmps47
    go_wp2_with fail
    go_ret
    exact ⟨rfl, b0⟩
  · by_cases h2 : p + q ≤ x
    · have hR2 : x - q + N = R := by rw [← hR]; unfold movTo; (repeat' split) <;> omega
      clear hR
      go_enter Try.func47, Try.ntmps47
      go_wp2_with fail
      go_ret
      exact ⟨by first | rfl | (rw [hR2]) | (rw [hN, hR2]), b0⟩
    · have hR2 : R = p := by rw [← hR]; unfold movTo; (repeat' split) <;> omega
      subst hR2
      clear hR
      go_enter Try.func47, Try.ntmps47
      go_wp2_with fail
      go_ret
      exact ⟨rfl, b0⟩
set_option maxRecDepth 100000 in
set_option maxHeartbeats 2000000 in
theorem refMove_any (x y : Int) (ai : Option Addr) (ni ci : Nat) (p q : Int) (bi : Option Addr) (n di : Nat) (w : World) (hx : 0 ≤ x ∧ x ≤ 65536) (hy : 0 ≤ y ∧ y ≤ 65536) (hp : 0 ≤ p ∧ p ≤ 65536) (hq : 0 ≤ q ∧ q ≤ 65536) (hn : n ≤ 65536) :
    Calls Try.prog 16 #[.agg #[.int .i64 x, .int .i64 y, .slice ai ni ci], .agg #[.int .i64 p, .int .i64 q, .slice bi n di]] w fun e w' => e = .returned (.agg #[.int .i64 (movAt x p q n), .int .i64 (movDel x y p q n), .slice ai ni ci]) ∧ Below w.heap.size w w' := by
  have b0 := laidB (laidB (laidB (Below.refl w.heap.size w) (.cells #[.int .i64 x, .int .i64 y, .slice ai ni ci] 25)) (.cells #[.int .i64 p, .int .i64 q, .slice bi n di] 25)) (.cells #[.int .i64 0, .int .i64 0, .slice none 0 0] 25)
  have C0 := ((Cel.new w 25 #[.int .i64 x, .int .i64 y, .slice ai ni ci]).alloc (.cells #[.int .i64 p, .int .i64 q, .slice bi n di] 25)).alloc (.cells #[.int .i64 0, .int .i64 0, .slice none 0 0] 25)
  have D0 := (Cel.new (w.alloc (.cells #[.int .i64 x, .int .i64 y, .slice ai ni ci] 25)) 25 #[.int .i64 p, .int .i64 q, .slice bi n di]).alloc (.cells #[.int .i64 0, .int .i64 0, .slice none 0 0] 25)
  have F0 := Cel.new ((w.alloc (.cells #[.int .i64 x, .int .i64 y, .slice ai ni ci] 25)).alloc (.cells #[.int .i64 p, .int .i64 q, .slice bi n di] 25)) 25 #[.int .i64 0, .int .i64 0, .slice none 0 0]
  rw [show (w.alloc (.cells #[.int .i64 x, .int .i64 y, .slice ai ni ci] 25)).heap.size = w.heap.size + 1 from by simp] at D0
  rw [show ((w.alloc (.cells #[.int .i64 x, .int .i64 y, .slice ai ni ci] 25)).alloc (.cells #[.int .i64 p, .int .i64 q, .slice bi n di] 25)).heap.size = w.heap.size + 2 from by simp] at F0
  go_enter Try.func16, Try.ntmps16
  go_wp2_with fail
  have hs0 : w.heap.size + 3 ≤ (((w.alloc (.cells #[.int .i64 x, .int .i64 y, .slice ai ni ci] 25)).alloc (.cells #[.int .i64 p, .int .i64 q, .slice bi n di] 25)).alloc (.cells #[.int .i64 0, .int .i64 0, .slice none 0 0] 25)).heap.size := by simp
  generalize ((w.alloc (.cells #[.int .i64 x, .int .i64 y, .slice ai ni ci] 25)).alloc (.cells #[.int .i64 p, .int .i64 q, .slice bi n di] 25)).alloc (.cells #[.int .i64 0, .int .i64 0, .slice none 0 0] 25) = W1 at *
  refine (begin_any x p q bi n di W1 hx hp hq hn).mono ?_
  rintro e W2 ⟨rfl, hb2⟩
  have b2 := stepB b0 hb2
  have C2 := C0.step hb2
  have D2 := D0.step hb2
  have F2 := F0.step hb2
  have hs2 := Nat.le_trans hs0 hb2.size
  clear b0 C0 D0 F0 hb2 hs0
  have hdl : movDel x y p q n = if 0 < y then max 0 (movTo (x + y) p q n - movAt x p q n) else 0 := rfl
  have hrA : -65536 ≤ movAt x p q n ∧ movAt x p q n ≤ 200000 := by unfold movAt; (repeat' split) <;> omega
  have hrT : -65536 ≤ movTo (x + y) p q n ∧ movTo (x + y) p q n ≤ 300000 := by unfold movTo; (repeat' split) <;> omega
  have hen := fun W => end_any (x + y) p q bi n di W (by omega) hp hq hn
  have HEN := Lib.hid hen
  generalize hA : movAt x p q n = A at *
  generalize hT : movTo (x + y) p q n = T at *
  generalize hD : movDel x y p q n = D at *
  have HDL := Lib.hid hdl
  have HA := Lib.hid hA
  have HD := Lib.hid hD
  have sxy : IntKind.i64.wrap (x + y) = x + y := IntWalk.i64_in _ (by omega)
  have sta : IntKind.i64.wrap (T - A) = T - A := IntWalk.i64_in _ (by omega)
  obtain ⟨hrA1, hrA2⟩ := hrA
  obtain ⟨hrT1, hrT2⟩ := hrT
  clear hdl hT hA hD hen hx hp hq hn
  have c0 : W2.cell? ⟨w.heap.size, 0, none⟩ = some (.int .i64 x) := C2.cell 0
  have c1 : W2.cell? ⟨w.heap.size, 1, none⟩ = some (.int .i64 y) := C2.cell 1
  have c2 : W2.cell? ⟨w.heap.size, 2, none⟩ = some (.slice ai ni ci) := C2.cell 2
  have d0 : W2.cell? ⟨w.heap.size + 1, 0, none⟩ = some (.int .i64 p) := D2.cell 0
  have d1 : W2.cell? ⟨w.heap.size + 1, 1, none⟩ = some (.int .i64 q) := D2.cell 1
  have d2 : W2.cell? ⟨w.heap.size + 1, 2, none⟩ = some (.slice bi n di) := D2.cell 2
  dsimp only
  by_cases hy0 : 0 < y
  · go_wp2_with fail
    refine (HEN.out _).mono ?_
    rintro e W3 ⟨rfl, hb3⟩
    have b3 := stepB b2 hb3
    have C3 := C2.step hb3
    have F3 := F2.step hb3
    have hs3 := Nat.le_trans hs2 hb3.size
    clear b2 C2 D2 F2 hb3 hs2 c0 c1 c2 d0 d1 d2
    have c2 : W3.cell? ⟨w.heap.size, 2, none⟩ = some (.slice ai ni ci) := C3.cell 2
    have e0 : W3.cell? ⟨w.heap.size + 2, 0, none⟩ = some (.int .i64 0) := F3.cell 0
    have e1 : W3.cell? ⟨w.heap.size + 2, 1, none⟩ = some (.int .i64 0) := F3.cell 1
    have e2 : W3.cell? ⟨w.heap.size + 2, 2, none⟩ = some (.slice none 0 0) := F3.cell 2
    have z0 : W3.frozen? ⟨w.heap.size + 2, 0, none⟩ = false := F3.free 0
    have z1 : W3.frozen? ⟨w.heap.size + 2, 1, none⟩ = false := F3.free 1
    have z2 : W3.frozen? ⟨w.heap.size + 2, 2, none⟩ = false := F3.free 2
    dsimp only
    go_wp2_with fail
    refine bodyPost_ret (results_cell_row rfl _ _ (w.heap.size + 2) 25 _ (0, 0) _ rfl (((F3.set 0 (.int .i64 A)).set 1 (.int .i64 (max 0 (T - A)))).set 2 (.slice ai ni ci)) Try.underlying25 rfl rfl) rfl ?_
    rw [HA.out, HD.out, show D = max 0 (T - A) from by rw [HDL.out, if_pos hy0]]
    exact ⟨rfl, ((b3.setCell (by dsimp only; omega) _).setCell (by dsimp only; omega) _).setCell (by dsimp only; omega) _⟩
  · have e0 : W2.cell? ⟨w.heap.size + 2, 0, none⟩ = some (.int .i64 0) := F2.cell 0
    have e1 : W2.cell? ⟨w.heap.size + 2, 1, none⟩ = some (.int .i64 0) := F2.cell 1
    have e2 : W2.cell? ⟨w.heap.size + 2, 2, none⟩ = some (.slice none 0 0) := F2.cell 2
    have z0 : W2.frozen? ⟨w.heap.size + 2, 0, none⟩ = false := F2.free 0
    have z1 : W2.frozen? ⟨w.heap.size + 2, 1, none⟩ = false := F2.free 1
    have z2 : W2.frozen? ⟨w.heap.size + 2, 2, none⟩ = false := F2.free 2
    go_wp2_with fail
    refine bodyPost_ret (results_cell_row rfl _ _ (w.heap.size + 2) 25 _ (0, 0) _ rfl (((F2.set 0 (.int .i64 A)).set 1 (.int .i64 0)).set 2 (.slice ai ni ci)) Try.underlying25 rfl rfl) rfl ?_
    rw [HA.out, HD.out, show D = 0 from by rw [HDL.out, if_neg (by omega)]]
    exact ⟨rfl, ((b2.setCell (by dsimp only; omega) _).setCell (by dsimp only; omega) _).setCell (by dsimp only; omega) _⟩
theorem any_take_succ (l : List Int) (k : Nat) (h : k < l.length) : (l.take (k + 1)).any strangeB = ((l.take k).any strangeB || strangeB (l[k]?.getD 0)) := by
  rw [List.take_succ_eq_append_getElem h, List.any_append]
  simp [h]
theorem any_of_at (l : List Int) (k : Nat) (h : k < l.length) (hs : strangeB (l[k]?.getD 0) = true) : l.any strangeB = true := by
  rw [List.any_eq_true]
  refine ⟨l[k], List.getElem_mem h, ?_⟩
  simpa [h] using hs
set_option maxHeartbeats 2000000 in
theorem refFormed_any (x y : Int) (ai : Option Addr) (ci : Nat) (ins : List Int) (w : World) (hri : Row .i64 w.heap.size w (.slice ai ins.length ci) ins) (hl : ins.length ≤ 65536) :
    Calls Try.prog 14 #[.agg #[.int .i64 x, .int .i64 y, .slice ai ins.length ci]] w fun e w' => e = .returned (.bool (wfE x y ins)) ∧ Below w.heap.size w w' := by
  have b0 := laidB (Below.refl w.heap.size w) (.cells #[.int .i64 x, .int .i64 y, .slice ai ins.length ci] 25)
  have C0 := Cel.new w 25 #[.int .i64 x, .int .i64 y, .slice ai ins.length ci]
  have hr0 := rowB hri b0
  have c0 : (w.alloc (.cells #[.int .i64 x, .int .i64 y, .slice ai ins.length ci] 25)).cell? ⟨w.heap.size, 0, none⟩ = some (.int .i64 x) := C0.cell 0
  have c1 : (w.alloc (.cells #[.int .i64 x, .int .i64 y, .slice ai ins.length ci] 25)).cell? ⟨w.heap.size, 1, none⟩ = some (.int .i64 y) := C0.cell 1
  have c2 : (w.alloc (.cells #[.int .i64 x, .int .i64 y, .slice ai ins.length ci] 25)).cell? ⟨w.heap.size, 2, none⟩ = some (.slice ai ins.length ci) := C0.cell 2
  obtain ⟨K, hK⟩ : ∃ K : Int, (ins.length : Int) = K := ⟨_, rfl⟩
  have hK2 : K ≤ 65536 := by omega
  have hK0 : 0 ≤ K := by omega
  generalize hR : wfE x y ins = R
  unfold wfE at hR
  rw [show decide (ins.length ≤ 65536) = true from decide_eq_true hl, Bool.true_and] at hR
  have HR := Lib.hid hR
  clear hR hl hri
  by_cases h1 : 0 ≤ x ∧ x ≤ 65536
  · by_cases h2 : 0 ≤ y ∧ y ≤ 65536
    · have HF : Hid ((!ins.any strangeB) = R) := Lib.hid (by rw [← HR.out, decide_eq_true h1, decide_eq_true h2]; rfl)
      obtain ⟨g1, g2⟩ := h1
      obtain ⟨g3, g4⟩ := h2
      clear HR
      go_enter Try.func14, Try.ntmps14
      go_wp2_with fail
      generalize w.alloc (.cells #[.int .i64 x, .int .i64 y, .slice ai ins.length ci] 25) = W1 at *
      go_loopw [3] (fun i wr => ∃ k : Nat, k ≤ ins.length ∧ i = .int .i64 (k : Int) ∧ (ins.take k).any strangeB = false ∧ wr = W1) (fun i _ => ins.length - (intOf i).toNat)
      case atStart => exact ⟨0, Nat.zero_le _, rfl, by simp, rfl⟩
      case round =>
        obtain ⟨k, hk, rfl, hsame, hwr⟩ := hrel
        subst hwr
        have hkI : (0 : Int) ≤ (k : Int) := by omega
        by_cases hlt : k < ins.length
        · obtain ⟨bx, ox, rfl, cx⟩ := row_cell hr0 k hlt
          have hk1 : (k : Int) < ins.length := by omega
          have hkK : (k : Int) < K := by omega
          have hw1 : IntKind.i64.wrap ((k : Int) + 1) = (k : Int) + 1 := IntWalk.i64_in _ (by omega)
          by_cases hs : strangeB (ins[k]?.getD 0) = true
          · have hF : R = false := by rw [← HF.out, any_of_at ins k hlt hs]; rfl
            have hcase : ins[k]?.getD 0 < 0 ∨ ¬ ins[k]?.getD 0 < 0 ∧ 1114111 < ins[k]?.getD 0 := by
              have := of_decide_eq_true hs
              omega
            have HFF := Lib.hid hF
            clear hs hsame HF hF
            generalize ins[k]?.getD 0 = u at *
            rcases hcase with h | ⟨h, h'⟩
            · go_wp2_with fail
              go_ret
              exact ⟨by rw [HFF.out]; rfl, b0⟩
            · go_wp2_with fail
              go_ret
              exact ⟨by rw [HFF.out]; rfl, b0⟩
          · have hs' : strangeB (ins[k]?.getD 0) = false := by simpa using hs
            have hnx : (ins.take (k + 1)).any strangeB = false := by rw [any_take_succ ins k hlt, hsame, hs']; rfl
            have hc1 : ¬ ins[k]?.getD 0 < 0 := by have := of_decide_eq_false hs'; omega
            have hc2 : ¬ 1114111 < ins[k]?.getD 0 := by have := of_decide_eq_false hs'; omega
            have HN := Lib.hid hnx
            clear hs hs' hsame hnx
            generalize ins[k]?.getD 0 = u at *
            go_wp2_with fail
            go_roundw
            case rel => exact ⟨k + 1, by omega, by go_num, HN.out, by first | trivial | rfl⟩
            case measure => simp [intOf]; omega
        · obtain rfl : k = ins.length := by omega
          have hF : R = true := by
            rw [← HF.out]
            rw [List.take_of_length_le (Nat.le_refl _)] at hsame
            rw [hsame]
            rfl
          have HFF := Lib.hid hF
          clear hsame HF hF
          go_wp2_with fail
          go_ret
          exact ⟨by rw [HFF.out]; rfl, b0⟩
    · have hF : R = false := by rw [← HR.out, decide_eq_true h1, decide_eq_false h2]; rfl
      have HFF := Lib.hid hF
      clear HR hF
      obtain ⟨g1, g2⟩ := h1
      have h3 : y < 0 ∨ ¬ y < 0 ∧ 65536 < y := by omega
      clear h2
      rcases h3 with h | ⟨h, h'⟩
      · go_enter Try.func14, Try.ntmps14
        go_wp2_with fail
        go_ret
        exact ⟨by rw [HFF.out]; rfl, b0⟩
      · go_enter Try.func14, Try.ntmps14
        go_wp2_with fail
        go_ret
        exact ⟨by rw [HFF.out]; rfl, b0⟩
  · have hF : R = false := by rw [← HR.out, decide_eq_false h1]; rfl
    have HFF := Lib.hid hF
    clear HR hF
    have h3 : x < 0 ∨ ¬ x < 0 ∧ 65536 < x := by omega
    clear h1
    rcases h3 with h | ⟨h, h'⟩
    · go_enter Try.func14, Try.ntmps14
      go_wp2_with fail
      go_ret
      exact ⟨by rw [HFF.out]; rfl, b0⟩
    · go_enter Try.func14, Try.ntmps14
      go_wp2_with fail
      go_ret
      exact ⟨by rw [HFF.out]; rfl, b0⟩
end Go.Proofs.Ytmfekbljfnjkgaa
