/- Contracts of the reference: Text, the generator. -/
import Derived.Test.YtmfekbljfnjkgaaTxtG
namespace Go.Proofs.Ytmfekbljfnjkgaa
open Go.RowKit Go.Shelf
set_option linter.unusedVariables false

def symA : List Int := [97, 98, 99, 97, 90, 48, 95, 10, 32, 98, 228, 255, 0, 128]
def symB : List Int := [127, 128, 2047, 2048, 55295, 57344, 65535, 65536, 1114111, 8364]
/-- The symbol that a number makes. -/
def symT (runes : Bool) (x : Int) : Int :=
  if runes = true ∧ (aroundI x 1048576).toNat / 14 % 4 = 0 then symB[(aroundI x 1048576).toNat / 56 % 10]?.getD 0 else symA[(aroundI x 1048576).toNat % 14]?.getD 0
/-- The text that numbers make. -/
def textT (l : List Int) (most : Nat) (runes : Bool) : List Int := (l.take most).map (symT runes)
theorem textT_len (l : List Int) (most : Nat) (runes : Bool) : (textT l most runes).length ≤ most := by
  unfold textT
  rw [List.length_map, List.length_take]
  omega
theorem take_map_succ (l : List Int) (k : Nat) (r : Bool) (h : k < l.length) : (l.take (k + 1)).map (symT r) = (l.take k).map (symT r) ++ [symT r (l[k]?.getD 0)] := by
  rw [List.take_succ_eq_append_getElem h, List.map_append]
  simp [h]
theorem symA_cell (w : World) (t : TypeId) (j : Nat) (h : j < 14) : (w.alloc (.cells #[.int .i64 97, .int .i64 98, .int .i64 99, .int .i64 97, .int .i64 90, .int .i64 48, .int .i64 95, .int .i64 10, .int .i64 32, .int .i64 98, .int .i64 228, .int .i64 255, .int .i64 0, .int .i64 128] t)).cell? ⟨w.heap.size, j, none⟩ = some (.int .i64 (symA[j]?.getD 0)) := by
  rw [World.cell?_alloc_new]
  match j, h with
  | 0, _ => rfl
  | 1, _ => rfl
  | 2, _ => rfl
  | 3, _ => rfl
  | 4, _ => rfl
  | 5, _ => rfl
  | 6, _ => rfl
  | 7, _ => rfl
  | 8, _ => rfl
  | 9, _ => rfl
  | 10, _ => rfl
  | 11, _ => rfl
  | 12, _ => rfl
  | 13, _ => rfl
theorem symB_cell (w : World) (t : TypeId) (j : Nat) (h : j < 10) : (w.alloc (.cells #[.int .i64 127, .int .i64 128, .int .i64 2047, .int .i64 2048, .int .i64 55295, .int .i64 57344, .int .i64 65535, .int .i64 65536, .int .i64 1114111, .int .i64 8364] t)).cell? ⟨w.heap.size, j, none⟩ = some (.int .i64 (symB[j]?.getD 0)) := by
  rw [World.cell?_alloc_new]
  match j, h with
  | 0, _ => rfl
  | 1, _ => rfl
  | 2, _ => rfl
  | 3, _ => rfl
  | 4, _ => rfl
  | 5, _ => rfl
  | 6, _ => rfl
  | 7, _ => rfl
  | 8, _ => rfl
  | 9, _ => rfl
theorem cell_one_at (W : World) (x : Value) (t : TypeId) (g : Nat) (hg : g = W.heap.size) : ∀ j u, [x][j]? = some u → (W.alloc (.cells #[x] t)).cell? ((⟨g, 0, none⟩ : Addr).add j) = some u := by
  subst hg
  exact cell_one_new W x t
theorem arith_m (m : Nat) (h : (m : Int) < 1048576) : Int.tmod (m : Int) 14 = ((m % 14 : Nat) : Int) ∧ IntKind.i64.wrap ((m % 14 : Nat) : Int) = ((m % 14 : Nat) : Int) ∧ ((m % 14 : Nat) : Int) < 14 ∧ (0 : Int) ≤ ((m % 14 : Nat) : Int) ∧
    wrap64 ((m : Int) / 14) = ((m / 14 : Nat) : Int) ∧ Int.tmod ((m / 14 : Nat) : Int) 4 = ((m / 14 % 4 : Nat) : Int) ∧ wrap64 ((m : Int) / 56) = ((m / 56 : Nat) : Int) ∧ Int.tmod ((m / 56 : Nat) : Int) 10 = ((m / 56 % 10 : Nat) : Int) ∧ ((m / 56 % 10 : Nat) : Int) < 10 ∧ (0 : Int) ≤ ((m / 56 % 10 : Nat) : Int) := by
  refine ⟨?_, ?_, by omega, by omega, ?_, ?_, ?_, ?_, by omega, by omega⟩
  · rw [Int.tmod_eq_emod_of_nonneg (by omega)]; omega
  · exact IntWalk.i64_in _ (by omega)
  · rw [IntWalk.wrap64_in _ (by omega)]; omega
  · rw [Int.tmod_eq_emod_of_nonneg (by omega)]; omega
  · rw [IntWalk.wrap64_in _ (by omega)]; omega
  · rw [Int.tmod_eq_emod_of_nonneg (by omega)]; omega
def Fin1 (w : World) (f : Int → Int) (l : List Int) (k : Nat) (v : Value) (w' : World) : Prop := w'.ownsRow w.heap.size 3 1 v ((l.take k).map f).length (((l.take k).map f).map (Value.int .i64)) ∧ Below w.heap.size w w'
end Go.Proofs.Ytmfekbljfnjkgaa
