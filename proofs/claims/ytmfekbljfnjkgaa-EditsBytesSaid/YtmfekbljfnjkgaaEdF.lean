/- Contracts for package edits: the reference's Text (of layer 5), the generator. -/
import Derived.Test.YtmfekbljfnjkgaaEdA
import Derived.Test.YtmfekbljfnjkgaaTxtF
namespace Go.Proofs.Ytmfekbljfnjkgaa
open Go.RowKit Go.Shelf
set_option linter.unusedVariables false

def sym5 : List Int := [97, 97, 97, 98, 98, 99, 97, 98, 10, 32, 65, 200]
def sym5F (x : Int) : Int := sym5[(aroundI x 12).toNat]?.getD 0
def text5 (l : List Int) (most : Nat) : List Int := (l.take most).map sym5F
theorem text5_len (l : List Int) (most : Nat) : (text5 l most).length ≤ most := by
  unfold text5
  rw [List.length_map, List.length_take]
  omega
theorem take_map5 (l : List Int) (k : Nat) (h : k < l.length) : (l.take (k + 1)).map sym5F = (l.take k).map sym5F ++ [sym5F (l[k]?.getD 0)] := by
  rw [List.take_succ_eq_append_getElem h, List.map_append]
  simp [h]
theorem sym5_ok (x : Int) : 10 ≤ sym5F x ∧ sym5F x ≤ 200 := by
  unfold sym5F
  have h0 := aroundI_lo x 12 (by decide)
  have h1 := aroundI_hi x 12 (by decide)
  have h : (aroundI x 12).toNat < 12 := by omega
  generalize (aroundI x 12).toNat = j at *
  match j, h with
  | 0, _ | 1, _ | 2, _ | 3, _ | 4, _ | 5, _ | 6, _ | 7, _ | 8, _ | 9, _ | 10, _ | 11, _ => decide
theorem text5_ok (l : List Int) (most : Nat) : ∀ x ∈ text5 l most, 10 ≤ x ∧ x ≤ 200 := by
  intro x hx
  unfold text5 at hx
  obtain ⟨y, _, rfl⟩ := List.mem_map.1 hx
  exact sym5_ok y
theorem text5_plain (l : List Int) (most : Nat) : (text5 l most).any strangeB = false := by
  rw [List.any_eq_false]
  intro x hx
  have h := text5_ok l most x hx
  rw [show strangeB x = false from by unfold strangeB; exact decide_eq_false (by omega)]
  decide
theorem sym5_cell (w : World) (t : TypeId) (j : Nat) (h : j < 12) : (w.alloc (.cells #[.int .i64 97, .int .i64 97, .int .i64 97, .int .i64 98, .int .i64 98, .int .i64 99, .int .i64 97, .int .i64 98, .int .i64 10, .int .i64 32, .int .i64 65, .int .i64 200] t)).cell? ⟨w.heap.size, j, none⟩ = some (.int .i64 (sym5[j]?.getD 0)) := by
  rw [World.cell?_alloc_new]
  match j, h with
  | 0, _ => rfl
  | 1, _ => rfl
  | 2, _ => rfl
  | 3, _ => rfl
  | 4, _ => rfl
  | 5, _ => rfl
  | 6, _ => rfl
  | 7, _ => rfl
  | 8, _ => rfl
  | 9, _ => rfl
  | 10, _ => rfl
  | 11, _ => rfl
theorem cell_one_at5 (W : World) (x : Value) (t : TypeId) (g : Nat) (hg : g = W.heap.size) : ∀ j u, [x][j]? = some u → (W.alloc (.cells #[x] t)).cell? ((⟨g, 0, none⟩ : Addr).add j) = some u := by
  subst hg
  exact cell_one_new W x t
theorem info_int5 : (Try.prog.info? 3).map (fun i => (i.zero, i.size, i.bytes)) = some (some (.int .i64 0), 1, 8) := by kernel_rfl
set_option maxRecDepth 100000 in
set_option maxHeartbeats 2000000 in
theorem text5_any (a : Option Addr) (cap : Nat) (l : List Int) (most : Nat) (w : World) (hr : Row .i64 w.heap.size w (.slice a l.length cap) l) (hm : most ≤ 1000) (hw : ∀ x ∈ l, (Lit.int .i64 x).wf = true) :
    Calls Try.prog 18 #[.slice a l.length cap, .int .i64 (most : Int)] w fun e w' => ∃ v, e = .returned v ∧ w'.ownsRow w.heap.size 3 1 v (text5 l most).length ((text5 l most).map (Value.int .i64)) ∧ Below w.heap.size w w' := by
  obtain ⟨i0, hi, hz0, hz1, hz2⟩ := info_parts info_int5
  have hlc := hr.lencap
  unfold maxLen at hlc
  go_enter Try.func18, Try.ntmps18
  go_wp2_with fail
  go_loopw [5, 6] (fun v i wr => ∃ k : Nat, k ≤ l.length ∧ k ≤ most ∧ i = .int .i64 (k : Int) ∧ wr.ownsRow w.heap.size 3 1 v ((l.take k).map sym5F).length (((l.take k).map sym5F).map (Value.int .i64)) ∧ Below w.heap.size w wr) (fun _ i _ => l.length - (intOf i).toNat)
  case atStart => exact ⟨0, Nat.zero_le _, Nat.zero_le _, rfl, World.ownsRow_nil _ _ _ _, Below.refl _ _⟩
  case round =>
    obtain ⟨k, hk, hkm, rfl, hown, hb⟩ := hrel
    have hsr := hb.size
    by_cases hlt : k < l.length
    · by_cases hlm : k < most
      · have hi1 : (k : Int) < l.length := by omega
        have hi2 : (k : Int) < most := by omega
        have hi0 : (0 : Int) ≤ (k : Int) := by omega
        have hw1 : IntKind.i64.wrap ((k : Int) + 1) = (k : Int) + 1 := IntWalk.i64_in _ (by omega)
        have hy := take_map5 l k hlt
        have HY := Lib.hid hy
        clear hy
        have hpk := fun W h => pick_any a cap l k 12 W (rowB hr h) hw (by omega) (by decide) (by decide)
        have hpe : pickI l k 12 = aroundI (l[k]?.getD 0) 12 := by unfold pickI; rw [if_pos hlt]
        have ha0 := aroundI_lo (l[k]?.getD 0) 12 (by decide)
        have ha1 := aroundI_hi (l[k]?.getD 0) 12 (by decide)
        have hS : sym5F (l[k]?.getD 0) = sym5[(aroundI (l[k]?.getD 0) 12).toNat]?.getD 0 := rfl
        rw [hpe] at hpk
        generalize l[k]?.getD 0 = x at *
        generalize hA : (l.take k).map sym5F = A at *
        have hAl : A.length = k := by rw [← hA, List.length_map, List.length_take]; omega
        have HA := Lib.hid hAl
        have hAb : A.length ≤ 1000 := by omega
        clear hA hAl hpe
        generalize hS2 : sym5F x = S at *
        clear hS2
        generalize aroundI x 12 = N at *
        obtain ⟨m, rfl⟩ := Int.eq_ofNat_of_zero_le ha0
        rw [Int.toNat_natCast] at hS
        have hj := sym5_cell wr 3 m (by omega)
        rw [← hS] at hj
        have HP := Lib.hid hpk
        clear hpk hS
        go_wp2_with fail
        refine (HP.out _ (laidB hb _)).mono ?_
        rintro e W ⟨rfl, hWe⟩
        subst hWe
        have hfin : ∀ v3 w3, w3.ownsRow w.heap.size 3 1 v3 (A.length + 1) (A.map (Value.int .i64) ++ [.int .i64 S]) → Below w.heap.size w w3 → w3.ownsRow w.heap.size 3 1 v3 ((l.take (k + 1)).map sym5F).length (((l.take (k + 1)).map sym5F).map (Value.int .i64)) ∧ Below w.heap.size w w3 := by
          intro v3 w3 h1 h2
          refine ⟨?_, h2⟩
          rw [HY.out, List.length_append, List.map_append]
          exact h1
        have HF := Lib.hid hfin
        clear hfin HY HA HP
        dsimp only
        go_wp2_with (at_builtin; refine wpList_append_own _ rfl _ _ 22 rfl w.heap.size 3 i0 (.int .i64 0) 1 8 Try.underlying22 hi hz0 hz1 hz2 rfl (by decide) _ _ _ rfl ((hown.alloc _).alloc _) ⟨wr.heap.size + 1, 0, none⟩ 1 1 [.int .i64 S] rfl rfl (cell_one_at5 (wr.alloc _) _ _ _ (by simp)) (by simp [Value.oneCell']) (by unfold maxLen; omega) (by omega) (by simp; omega) ?_; intro v3 w3 hown3 hgrow3 _)
        have hb3 : Below w.heap.size w w3 := (laidB (laidB hb _) _).grown hgrow3 (by simp; omega) (fun j ej => own_base hown ej)
        have hf := HF.out _ _ hown3 hb3
        go_roundw
        case rel => exact ⟨k + 1, by omega, by omega, by go_num, hf.1, hf.2⟩
        case measure => simp [intOf]; omega
      · obtain rfl : k = most := by omega
        have hnm : ¬ ((k : Int) < (k : Int)) := by omega
        have hi1 : (k : Int) < l.length := by omega
        have hT : text5 l k = (l.take k).map sym5F := rfl
        have HT := Lib.hid hT
        clear hT
        go_wp2_with fail
        go_ret
        exact ⟨_, rfl, by rw [HT.out]; exact hown, hb⟩
    · obtain rfl : k = l.length := by omega
      have hT : text5 l most = (l.take l.length).map sym5F := by unfold text5; rw [List.take_of_length_le (Nat.le_refl _), List.take_of_length_le hkm]
      have HT := Lib.hid hT
      clear hT
      go_wp2_with fail
      go_ret
      exact ⟨_, rfl, by rw [HT.out]; exact hown, hb⟩
end Go.Proofs.Ytmfekbljfnjkgaa
