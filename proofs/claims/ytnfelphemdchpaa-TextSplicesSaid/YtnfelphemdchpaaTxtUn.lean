/- Contracts of the reference: Undo. -/
import Derived.Test.YtnfelphemdchpaaTxtF
import Derived.Test.YtnfelphemdchpaaTxtH
import Derived.Test.YtnfelphemdchpaaTxtT
import Derived.Deep.AppendLies
import Derived.Deep.RegionLaw
namespace Go.Proofs.Ytnfelphemdchpaa
open Go.RowKit Go.Shelf
set_option linter.unusedVariables false

set_option maxRecDepth 100000 in
set_option maxHeartbeats 2000000 in
theorem refUndo_aux (Z : List Int) (a : Option Addr) (cap : Nat) (l : List Int) (p q : Nat) (ai : Option Addr) (ci : Nat) (ins : List Int) (w : World) (hr : Row .i64 w.heap.size w (.slice a l.length cap) l) (hri : Row .i64 w.heap.size w (.slice ai ins.length ci) ins)
    (hl : l.length ≤ 100000) (hil : ins.length ≤ 100000) (hpq : p + q ≤ l.length) (hZe : (l.drop p).take q = Z) :
    Calls Try.prog 36 #[.slice a l.length cap, .agg #[.int .i64 (p : Int), .int .i64 (q : Int), .slice ai ins.length ci]] w fun e w' => ∃ a2 c2, e = .returned (.agg #[.int .i64 (p : Int), .int .i64 (ins.length : Int), .slice a2 Z.length c2]) ∧ Row .i64 w'.heap.size w' (.slice a2 Z.length c2) Z ∧ Below w.heap.size w w' := by
  have HZE := Lib.hid hZe
  clear hZe
  obtain ⟨i0, hi, hz0, hz1, hz2⟩ := info_parts info_int
  have b0 := laidB (laidB (Below.refl w.heap.size w) (.cells #[.int .i64 (p : Int), .int .i64 (q : Int), .slice ai ins.length ci] 43)) (.cells #[.int .i64 0, .int .i64 0, .slice none 0 0] 43)
  have C0 := (Cel.new w 43 #[.int .i64 (p : Int), .int .i64 (q : Int), .slice ai ins.length ci]).alloc (.cells #[.int .i64 0, .int .i64 0, .slice none 0 0] 43)
  have D0 := Cel.new (w.alloc (.cells #[.int .i64 (p : Int), .int .i64 (q : Int), .slice ai ins.length ci] 43)) 43 #[.int .i64 0, .int .i64 0, .slice none 0 0]
  rw [show (w.alloc (.cells #[.int .i64 (p : Int), .int .i64 (q : Int), .slice ai ins.length ci] 43)).heap.size = w.heap.size + 1 from by simp] at D0
  go_enter Try.func36, Try.ntmps36
  go_wp2_with fail
  have hr0 := rowB hr b0
  have W2e : ∃ W2, ((w.alloc (.cells #[.int .i64 (p : Int), .int .i64 (q : Int), .slice ai ins.length ci] 43)).alloc (.cells #[.int .i64 0, .int .i64 0, .slice none 0 0] 43)) = W2 := ⟨_, rfl⟩
  obtain ⟨W2, hW2⟩ := W2e
  have hs2 : W2.heap.size = w.heap.size + 2 := by rw [← hW2]; simp
  rw [hW2] at b0 C0 D0 hr0 ⊢
  have F0 := Cel.new W2 43 #[.int .i64 (p : Int), .int .i64 (ins.length : Int), .slice none 0 0]
  have b1 := laidB b0 (.cells #[.int .i64 (p : Int), .int .i64 (ins.length : Int), .slice none 0 0] 43)
  have C1 := C0.alloc (.cells #[.int .i64 (p : Int), .int .i64 (ins.length : Int), .slice none 0 0] 43)
  have D1 := D0.alloc (.cells #[.int .i64 (p : Int), .int .i64 (ins.length : Int), .slice none 0 0] 43)
  rw [hs2] at F0
  have hlc := hr.lencap
  unfold maxLen at hlc
  clear hW2 hr0
  have hws2 : w.heap.size + 3 = (W2.alloc (.cells #[.int .i64 (p : Int), .int .i64 (ins.length : Int), .slice none 0 0] 43)).heap.size := by simp; omega
  go_loopw [6] (fun i wr => ∃ (k : Nat) (v : Value), k ≤ q ∧ i = .int .i64 (k : Int) ∧ Cel wr (w.heap.size + 2) 43 #[.int .i64 (p : Int), .int .i64 (ins.length : Int), v] ∧ wr.ownsRow (w.heap.size + 3) 3 1 v k (((l.drop p).take k).map (Value.int .i64)) ∧ Cel wr w.heap.size 43 #[.int .i64 (p : Int), .int .i64 (q : Int), .slice ai ins.length ci] ∧ Cel wr (w.heap.size + 1) 43 #[.int .i64 0, .int .i64 0, .slice none 0 0] ∧ Below w.heap.size w wr ∧ w.heap.size + 3 ≤ wr.heap.size) (fun i _ => q - (intOf i).toNat)
  case atStart => exact ⟨0, _, Nat.zero_le _, rfl, F0, World.ownsRow_nil _ _ _ _, C1, D1, b1, by omega⟩
  case round =>
    obtain ⟨k, v, hk, rfl, F, hown, C, D, hB, hsz⟩ := hrel
    clear F0 C1 D1 b1 hws2 b0 C0 D0
    have x1 : wr.cell? ⟨w.heap.size, 1, none⟩ = some (.int .i64 (q : Int)) := C.cell 1
    by_cases hlt : k < q
    · obtain ⟨b, off, rfl, c0⟩ := row_cell (rowB hr hB) (p + k) (by omega)
      have htk : (l.drop p).take (k + 1) = (l.drop p).take k ++ [l[p + k]?.getD 0] := by
        rw [List.take_succ_eq_append_getElem (by simp; omega)]
        congr 2
        rw [List.getElem_drop, List.getElem?_eq_getElem (by omega), Option.getD_some]
      have HTK := Lib.hid htk
      clear htk
      generalize l[p + k]?.getD 0 = x at *
      have hkq : (k : Int) < (q : Int) := by omega
      have hk0 : (0 : Int) ≤ (k : Int) := by omega
      have e1 : IntKind.i64.wrap ((p : Int) + (k : Int)) = (p : Int) + (k : Int) := IntWalk.i64_in _ (by omega)
      have e2 : (0 : Int) ≤ (p : Int) + (k : Int) := by omega
      have e3 : ((p : Int) + (k : Int)).toNat = p + k := by omega
      have e4 : (p : Int) + (k : Int) < (l.length : Int) := by omega
      have x0 : wr.cell? ⟨w.heap.size, 0, none⟩ = some (.int .i64 (p : Int)) := C.cell 0
      have y2 : wr.cell? ⟨w.heap.size + 2, 2, none⟩ = some v := F.cell 2
      have ax0 : ∀ o, (wr.alloc o).cell? ⟨w.heap.size, 0, none⟩ = some (.int .i64 (p : Int)) := fun o => (C.alloc o).cell 0
      have ay2 : ∀ o, (wr.alloc o).cell? ⟨w.heap.size + 2, 2, none⟩ = some v := fun o => (F.alloc o).cell 2
      have ac0 : ∀ o, (wr.alloc o).cell? ⟨b, off + (p + k), none⟩ = some (.int .i64 x) := fun o => cellB c0 (laidB (Below.refl wr.heap.size wr) o)
      have hfz := F.free 2
      have hvb := fun g e => hown.lt g e
      have HVB := Lib.hid hvb
      clear hvb
      go_wp2_with fail
      go_region_law ((refine step_append_lies _ (by rfl) _ _ _ (by rfl) (w.heap.size + 3) 3 i0 _ 1 8 Try.underlying22 hi hz0 hz1 hz2 rfl (by omega) v k (((l.drop p).take k).map (Value.int .i64)) (by rfl) ((hown.alloc _).drew) ⟨wr.heap.size, 0, none⟩ 1 1 [.int .i64 x] (by rfl) (by rfl) (World.news_of_block (cs := #[.int .i64 x]) (heap_alloc_new wr _)) (by simp [Value.oneCell']) (by omega) (by unfold maxLen; omega) (by omega) (by simp; omega) (wr.heap.size + 1) (by simp) ?_; intro gg cap3 w3 hown3 hgrow3 hat hlt3; have F3 : Cel w3 (w.heap.size + 2) 43 #[.int .i64 (p : Int), .int .i64 (ins.length : Int), v] := Cel.grown (W := (wr.alloc _).drew) (F.alloc _) hgrow3 (fun e => by have := (HVB.out _ e).1; omega); have hfz3 := F3.free 2; have c3' := F3.cell 2))
      all_goals
        have hb3 : Below w.heap.size wr w3 := (((Below.refl w.heap.size wr).alloc hB.size _).drew).grown hgrow3 (by simp; have := hB.size; omega) (fun g e => by have := (HVB.out g e).1; omega)
        have C3 : Cel w3 w.heap.size 43 #[.int .i64 (p : Int), .int .i64 (q : Int), .slice ai ins.length ci] := Cel.grown (W := (wr.alloc (.cells #[.int .i64 x] 3)).drew) (C.alloc _) hgrow3 (fun e => by have := (HVB.out _ e).1; omega)
        have D3 : Cel w3 (w.heap.size + 1) 43 #[.int .i64 0, .int .i64 0, .slice none 0 0] := Cel.grown (W := (wr.alloc (.cells #[.int .i64 x] 3)).drew) (D.alloc _) hgrow3 (fun e => by have := (HVB.out _ e).1; omega)
        have hs3 := hgrow3.size
        have hown4 : (w3.setCell ⟨w.heap.size + 2, 2, none⟩ (.slice (some ⟨gg, 0, none⟩) (k + 1) cap3)).ownsRow (w.heap.size + 3) 3 1 (.slice (some ⟨gg, 0, none⟩) (k + 1) cap3) (k + 1) (((l.drop p).take (k + 1)).map (Value.int .i64)) := by
          rw [HTK.out, List.map_append]
          exact owns_other (row := some (w.heap.size + 2)) hown3 ⟨rfl, rfl, rfl, by simp, fun j _ hj => Below.heap_setCell _ _ _ j (fun e => hj (by rw [e]))⟩ (fun r e => by cases e; exact .inr (by omega))
        clear x0 y2 ax0 ay2 ac0 hfz c3' c0
        go_wp2_with fail
        go_roundw
        case rel => exact ⟨k + 1, _, by omega, by go_num, F3.set 2 _, hown4, C3.far (by dsimp only; omega) _, D3.far (by dsimp only; omega) _, (hB.trans hb3).setCell (by dsimp only; omega) _, by simp at hs3 ⊢; omega⟩
        case measure => simp [intOf]; omega
    · obtain rfl : k = q := by omega
      have f0 : wr.cell? ⟨w.heap.size + 2, 0, none⟩ = some (.int .i64 (p : Int)) := F.cell 0
      have f1 : wr.cell? ⟨w.heap.size + 2, 1, none⟩ = some (.int .i64 (ins.length : Int)) := F.cell 1
      have f2 : wr.cell? ⟨w.heap.size + 2, 2, none⟩ = some v := F.cell 2
      have g0 := D.cell 0
      have g1 := D.cell 1
      have g2 := D.cell 2
      have h0 := D.free 0
      have h1 := D.free 1
      have h2 := D.free 2
      have hws := D.lt
      have hkq : ¬ (k : Int) < (k : Int) := by omega
      have hZ : ((l.drop p).take k).length = k := by simp; omega
      rw [HZE.out] at hZ hown
      have HZ := Lib.hid hZ
      clear hZ HZE
      obtain ⟨av, nv, cv, rfl⟩ := owns_slice hown
      have hrow : nv = k := by
        rcases hown.2 with ⟨e, h⟩ | ⟨g, cp, cur, e, _⟩
        · simp at e; omega
        · simp at e; omega
      subst hrow
      go_wp2_with fail
      refine bodyPost_ret (results_cell_row rfl _ _ (w.heap.size + 1) 43 _ (0, 0) _ rfl (((D.set 0 (.int .i64 (p : Int))).set 1 (.int .i64 (ins.length : Int))).set 2 (.slice av nv cv)) Try.underlying43 rfl rfl) rfl ?_
      refine ⟨av, cv, by rw [HZ.out]; rfl, ?_, ?_⟩
      · rw [HZ.out]
        refine RowP.mono (fun g hg => ?_) (RowP.keep (((KeepP.setCell (fun g => w.heap.size + 3 ≤ g ∧ g < wr.heap.size) wr ⟨w.heap.size + 1, 0, none⟩ _ ?_).trans (KeepP.setCell _ _ ⟨w.heap.size + 1, 1, none⟩ _ ?_)).trans (KeepP.setCell _ _ ⟨w.heap.size + 1, 2, none⟩ _ ?_)) (row_own2' hown))
        · simp; omega
        all_goals exact fun h => by have := h.1; dsimp only at this; omega
      · exact ((hB.setCell (by dsimp only; omega) _).setCell (by dsimp only; omega) _).setCell (by dsimp only; omega) _
theorem refUndo_any (a : Option Addr) (cap : Nat) (l : List Int) (p q : Nat) (ai : Option Addr) (ci : Nat) (ins : List Int) (w : World) (hr : Row .i64 w.heap.size w (.slice a l.length cap) l) (hri : Row .i64 w.heap.size w (.slice ai ins.length ci) ins)
    (hl : l.length ≤ 100000) (hil : ins.length ≤ 100000) (hpq : p + q ≤ l.length) :
    Calls Try.prog 36 #[.slice a l.length cap, .agg #[.int .i64 (p : Int), .int .i64 (q : Int), .slice ai ins.length ci]] w fun e w' => ∃ a2 c2, e = .returned (.agg #[.int .i64 (p : Int), .int .i64 (ins.length : Int), .slice a2 ((l.drop p).take q).length c2]) ∧ Row .i64 w'.heap.size w' (.slice a2 ((l.drop p).take q).length c2) ((l.drop p).take q) ∧ Below w.heap.size w w' :=
  refUndo_aux _ a cap l p q ai ci ins w hr hri hl hil hpq rfl
end Go.Proofs.Ytnfelphemdchpaa
