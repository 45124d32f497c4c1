/- Contracts of the reference: Text, the generator. -/
import Derived.Test.YtnfelphemdchpaaTxtG
namespace Go.Proofs.Ytnfelphemdchpaa
open Go.RowKit Go.Shelf
set_option linter.unusedVariables false

def symA : List Int := [97, 98, 99, 97, 90, 48, 95, 10, 32, 98, 228, 255, 0, 128]
def symB : List Int := [127, 128, 2047, 2048, 55295, 57344, 65535, 65536, 1114111, 8364]
/-- The symbol that a number makes. -/
def symT (runes : Bool) (x : Int) : Int :=
  if runes = true ∧ (aroundI x 1048576).toNat / 14 % 4 = 0 then symB[(aroundI x 1048576).toNat / 56 % 10]?.getD 0 else symA[(aroundI x 1048576).toNat % 14]?.getD 0
/-- The text that numbers make. -/
def textT (l : List Int) (most : Nat) (runes : Bool) : List Int := (l.take most).map (symT runes)
theorem textT_len (l : List Int) (most : Nat) (runes : Bool) : (textT l most runes).length ≤ most := by
  unfold textT
  rw [List.length_map, List.length_take]
  omega
theorem take_map_succ (l : List Int) (k : Nat) (r : Bool) (h : k < l.length) : (l.take (k + 1)).map (symT r) = (l.take k).map (symT r) ++ [symT r (l[k]?.getD 0)] := by
  rw [List.take_succ_eq_append_getElem h, List.map_append]
  simp [h]
theorem symA_cell (w : World) (t : TypeId) (j : Nat) (h : j < 14) : (w.alloc (.cells #[.int .i64 97, .int .i64 98, .int .i64 99, .int .i64 97, .int .i64 90, .int .i64 48, .int .i64 95, .int .i64 10, .int .i64 32, .int .i64 98, .int .i64 228, .int .i64 255, .int .i64 0, .int .i64 128] t)).cell? ⟨w.heap.size, j, none⟩ = some (.int .i64 (symA[j]?.getD 0)) := by
  rw [World.cell?_alloc_new]
  match j, h with
  | 0, _ => rfl
  | 1, _ => rfl
  | 2, _ => rfl
  | 3, _ => rfl
  | 4, _ => rfl
  | 5, _ => rfl
  | 6, _ => rfl
  | 7, _ => rfl
  | 8, _ => rfl
  | 9, _ => rfl
  | 10, _ => rfl
  | 11, _ => rfl
  | 12, _ => rfl
  | 13, _ => rfl
theorem symB_cell (w : World) (t : TypeId) (j : Nat) (h : j < 10) : (w.alloc (.cells #[.int .i64 127, .int .i64 128, .int .i64 2047, .int .i64 2048, .int .i64 55295, .int .i64 57344, .int .i64 65535, .int .i64 65536, .int .i64 1114111, .int .i64 8364] t)).cell? ⟨w.heap.size, j, none⟩ = some (.int .i64 (symB[j]?.getD 0)) := by
  rw [World.cell?_alloc_new]
  match j, h with
  | 0, _ => rfl
  | 1, _ => rfl
  | 2, _ => rfl
  | 3, _ => rfl
  | 4, _ => rfl
  | 5, _ => rfl
  | 6, _ => rfl
  | 7, _ => rfl
  | 8, _ => rfl
  | 9, _ => rfl
theorem cell_one_at (W : World) (x : Value) (t : TypeId) (g : Nat) (hg : g = W.heap.size) : ∀ j u, [x][j]? = some u → (W.alloc (.cells #[x] t)).cell? ((⟨g, 0, none⟩ : Addr).add j) = some u := by
  subst hg
  exact cell_one_new W x t
theorem arith_m (m : Nat) (h : (m : Int) < 1048576) : Int.tmod (m : Int) 14 = ((m % 14 : Nat) : Int) ∧ IntKind.i64.wrap ((m % 14 : Nat) : Int) = ((m % 14 : Nat) : Int) ∧ ((m % 14 : Nat) : Int) < 14 ∧ (0 : Int) ≤ ((m % 14 : Nat) : Int) ∧
    wrap64 ((m : Int) / 14) = ((m / 14 : Nat) : Int) ∧ Int.tmod ((m / 14 : Nat) : Int) 4 = ((m / 14 % 4 : Nat) : Int) ∧ wrap64 ((m : Int) / 56) = ((m / 56 : Nat) : Int) ∧ Int.tmod ((m / 56 : Nat) : Int) 10 = ((m / 56 % 10 : Nat) : Int) ∧ ((m / 56 % 10 : Nat) : Int) < 10 ∧ (0 : Int) ≤ ((m / 56 % 10 : Nat) : Int) := by
  refine ⟨?_, ?_, by omega, by omega, ?_, ?_, ?_, ?_, by omega, by omega⟩
  · rw [Int.tmod_eq_emod_of_nonneg (by omega)]; omega
  · exact IntWalk.i64_in _ (by omega)
  · rw [IntWalk.wrap64_in _ (by omega)]; omega
  · rw [Int.tmod_eq_emod_of_nonneg (by omega)]; omega
  · rw [IntWalk.wrap64_in _ (by omega)]; omega
  · rw [Int.tmod_eq_emod_of_nonneg (by omega)]; omega
def Fin1 (w : World) (f : Int → Int) (l : List Int) (k : Nat) (v : Value) (w' : World) : Prop := w'.ownsRow w.heap.size 3 1 v ((l.take k).map f).length (((l.take k).map f).map (Value.int .i64)) ∧ Below w.heap.size w w'
set_option maxRecDepth 100000 in
set_option maxHeartbeats 2000000 in
theorem text_any (a : Option Addr) (cap : Nat) (l : List Int) (most : Nat) (runes : Bool) (w : World) (hr : Row .i64 w.heap.size w (.slice a l.length cap) l) (hm : most ≤ 1000) (hw : ∀ x ∈ l, (Lit.int .i64 x).wf = true) :
    Calls Try.prog 11 #[.slice a l.length cap, .int .i64 (most : Int), .bool runes] w fun e w' => ∃ v, e = .returned v ∧ w'.ownsRow w.heap.size 3 1 v (textT l most runes).length ((textT l most runes).map (Value.int .i64)) ∧ Below w.heap.size w w' := by
  obtain ⟨i0, hi, hz0, hz1, hz2⟩ := info_parts info_int
  have hlc := hr.lencap
  unfold maxLen at hlc
  go_enter Try.func11, Try.ntmps11
  go_wp2_with fail
  go_loopw [7, 8] (fun v i wr => ∃ k : Nat, k ≤ l.length ∧ k ≤ most ∧ i = .int .i64 (k : Int) ∧ wr.ownsRow w.heap.size 3 1 v ((l.take k).map (symT runes)).length (((l.take k).map (symT runes)).map (Value.int .i64)) ∧ Below w.heap.size w wr) (fun _ i _ => l.length - (intOf i).toNat)
  case atStart => exact ⟨0, Nat.zero_le _, Nat.zero_le _, rfl, World.ownsRow_nil _ _ _ _, Below.refl _ _⟩
  case round =>
    obtain ⟨k, hk, hkm, rfl, hown, hb⟩ := hrel
    have hsr := hb.size
    by_cases hlt : k < l.length
    · by_cases hlm : k < most
      · obtain ⟨b, off, rfl, c0⟩ := row_cell (rowB hr hb) k hlt
        have hi1 : (k : Int) < l.length := by omega
        have hi2 : (k : Int) < most := by omega
        have hi0 : (0 : Int) ≤ (k : Int) := by omega
        have hw1 : IntKind.i64.wrap ((k : Int) + 1) = (k : Int) + 1 := IntWalk.i64_in _ (by omega)
        have hy := take_map_succ l k runes hlt
        have hx : (Lit.int .i64 (l[k]?.getD 0)).wf = true := hw _ (by rw [List.getElem?_eq_getElem hlt]; exact List.getElem_mem hlt)
        have HY := Lib.hid hy
        clear hy
        generalize l[k]?.getD 0 = x at *
        generalize hA : (l.take k).map (symT runes) = A at *
        have hAl : A.length = k := by rw [← hA, List.length_map, List.length_take]; omega
        have HA := Lib.hid hAl
        have hAb : A.length ≤ 1000 := by omega
        clear hA hAl
        go_wp2_with fail
        refine (around_any x 1048576 _ hx (by decide) (by decide)).mono ?_
        rintro e W ⟨rfl, rfl⟩
        have ha0 := aroundI_lo x 1048576 (by decide)
        have ha1 := aroundI_hi x 1048576 (by decide)
        have hS : symT runes x = if runes = true ∧ (aroundI x 1048576).toNat / 14 % 4 = 0 then symB[(aroundI x 1048576).toNat / 56 % 10]?.getD 0 else symA[(aroundI x 1048576).toNat % 14]?.getD 0 := rfl
        generalize aroundI x 1048576 = N at *
        obtain ⟨m, rfl⟩ := Int.eq_ofNat_of_zero_le ha0
        rw [Int.toNat_natCast] at hS
        have HSS := Lib.hid hS
        clear hS
        obtain ⟨hq0, hq1, hj1, hj0, hd1, hd2, he1, he2, hk1, hk0⟩ := arith_m m ha1
        have hj := symA_cell W 3 (m % 14) (Nat.mod_lt _ (by decide))
        have hjB := fun X : Obj => symB_cell (W.alloc X) 3 (m / 56 % 10) (Nat.mod_lt _ (by decide))
        simp only [World.size_alloc] at hjB
        generalize symA[m % 14]?.getD 0 = sA at *
        generalize symB[m / 56 % 10]?.getD 0 = sB at *
        generalize m % 14 = j at *
        generalize m / 56 % 10 = j2 at *
        generalize m / 56 = g at *
        generalize hS2 : symT runes x = S at *
        clear ha1 ha0 hS2 hx
        have hS := HSS.out
        clear HSS
        generalize m / 14 % 4 = c at *
        generalize m / 14 = d at *
        have hfin : ∀ v3 w3, w3.ownsRow w.heap.size 3 1 v3 (A.length + 1) (A.map (Value.int .i64) ++ [.int .i64 S]) → Below w.heap.size w w3 → Fin1 w (symT runes) l (k + 1) v3 w3 := by
          intro v3 w3 h1 h2
          refine ⟨?_, h2⟩
          rw [HY.out, List.length_append, List.map_append]
          exact h1
        have HF := Lib.hid hfin
        clear hfin HY HA
        cases runes
        · have hSA : S = sA := by rw [hS, if_neg (by simp)]
          subst hSA
          clear hS hjB hd1 hd2 he1 he2 hk1 hk0
          dsimp only
          go_wp2_with (at_builtin; refine wpList_append_own _ rfl _ _ 22 rfl w.heap.size 3 i0 (.int .i64 0) 1 8 Try.underlying22 hi hz0 hz1 hz2 rfl (by decide) _ _ _ rfl ((hown.alloc _).alloc _) ⟨W.heap.size + 1, 0, none⟩ 1 1 [.int .i64 S] rfl rfl (cell_one_at (W.alloc _) _ _ _ (by simp)) (by simp [Value.oneCell']) (by unfold maxLen; omega) (by omega) (by simp; omega) ?_; intro v3 w3 hown3 hgrow3 _)
          have hb3 : Below w.heap.size w w3 := (laidB (laidB hb _) _).grown hgrow3 (by simp; omega) (fun j ej => own_base hown ej)
          have hf := HF.out _ _ hown3 hb3
          go_roundw
          case rel => exact ⟨k + 1, by omega, by omega, by go_num, hf.1, hf.2⟩
          case measure => simp [intOf]; omega
        · by_cases hc : c = 0
          · have hSA : S = sB := by rw [hS, if_pos ⟨rfl, hc⟩]
            have hcI : (c : Int) = 0 := by omega
            subst hSA
            clear hS hc
            dsimp only
            go_wp2_with (at_builtin; refine wpList_append_own _ rfl _ _ 22 rfl w.heap.size 3 i0 (.int .i64 0) 1 8 Try.underlying22 hi hz0 hz1 hz2 rfl (by decide) _ _ _ rfl (((hown.alloc _).alloc _).alloc _) ⟨W.heap.size + 2, 0, none⟩ 1 1 [.int .i64 S] rfl rfl (cell_one_at ((W.alloc _).alloc _) _ _ _ (by simp)) (by simp [Value.oneCell']) (by unfold maxLen; omega) (by omega) (by simp; omega) ?_; intro v3 w3 hown3 hgrow3 _)
            have hb3 : Below w.heap.size w w3 := (laidB (laidB (laidB hb _) _) _).grown hgrow3 (by simp; omega) (fun j ej => own_base hown ej)
            have hf := HF.out _ _ hown3 hb3
            go_roundw
            case rel => exact ⟨k + 1, by omega, by omega, by go_num, hf.1, hf.2⟩
            case measure => simp [intOf]; omega
          · have hSA : S = sA := by rw [hS, if_neg (by simp [hc])]
            have hcI : ((c : Int) == 0) = false := by simp; omega
            subst hSA
            clear hS hc hjB he1 he2 hk1 hk0
            dsimp only
            go_wp2_with (at_builtin; refine wpList_append_own _ rfl _ _ 22 rfl w.heap.size 3 i0 (.int .i64 0) 1 8 Try.underlying22 hi hz0 hz1 hz2 rfl (by decide) _ _ _ rfl ((hown.alloc _).alloc _) ⟨W.heap.size + 1, 0, none⟩ 1 1 [.int .i64 S] rfl rfl (cell_one_at (W.alloc _) _ _ _ (by simp)) (by simp [Value.oneCell']) (by unfold maxLen; omega) (by omega) (by simp; omega) ?_; intro v3 w3 hown3 hgrow3 _)
            have hb3 : Below w.heap.size w w3 := (laidB (laidB hb _) _).grown hgrow3 (by simp; omega) (fun j ej => own_base hown ej)
            have hf := HF.out _ _ hown3 hb3
            go_roundw
            case rel => exact ⟨k + 1, by omega, by omega, by go_num, hf.1, hf.2⟩
            case measure => simp [intOf]; omega
      · obtain rfl : k = most := by omega
        have hnm : ¬ ((k : Int) < (k : Int)) := by omega
        have hi1 : (k : Int) < l.length := by omega
        have hT : textT l k runes = (l.take k).map (symT runes) := rfl
        have HT := Lib.hid hT
        clear hT
        go_wp2_with fail
        go_ret
        exact ⟨_, rfl, by rw [HT.out]; exact hown, hb⟩
    · obtain rfl : k = l.length := by omega
      have hT : textT l most runes = (l.take l.length).map (symT runes) := by unfold textT; rw [List.take_of_length_le (Nat.le_refl _), List.take_of_length_le hkm]
      have HT := Lib.hid hT
      clear hT
      go_wp2_with fail
      go_ret
      exact ⟨_, rfl, by rw [HT.out]; exact hown, hb⟩
end Go.Proofs.Ytnfelphemdchpaa
