/- Contracts of the reference model of package hash (package rexmillref01). -/
import Derived.Test.YtjgeefnackhnpaaRefB
import Derived.Test.YtjgeefnackhnpaaHashLives
import Derived.Outline
namespace Go.Proofs.Ytjgeefnackhnpaa
open Go.RowKit Go.Shelf
set_option linter.unusedVariables false

theorem rmix_any (a b : Int) (w : World) :
    Calls Try.prog 27 #[.int .u64 a, .int .u64 b] w fun e w' => e = .returned (.int .u64 (mixI a b)) ∧ w' = w := by
  have h0 : 0 ≤ IntKind.u64.wrap (bits .xor .u64 a b * 11400714819323198485) := by rw [IntKind.wrap_u64]; omega
  have h1 : IntKind.u64.wrap (bits .xor .u64 a b * 11400714819323198485) < 18446744073709551616 := by rw [IntKind.wrap_u64]; omega
  have e2 : IntKind.u64.wrap ((IntKind.u64.wrap (bits .xor .u64 a b * 11400714819323198485)).tdiv 4294967296) = IntKind.u64.wrap (bits .xor .u64 a b * 11400714819323198485) / 4294967296 := by
    rw [Int.tdiv_eq_ediv_of_nonneg h0, IntKind.wrap_u64 (_ / _)]
    omega
  have H := Lib.hid e2
  clear h0 h1 e2
  go_enter Try.func27, Try.ntmps27
  go_wp2
  go_ret
  refine ⟨?_, rfl⟩
  unfold mixI
  rw [← H.out]
  rfl

theorem info_u64 : (Try.prog.info? 25).map (fun i => (i.zero, i.size, i.bytes)) = some (some (.int .u64 0), 1, 8) := by kernel_rfl

set_option maxHeartbeats 2000000 in
theorem words_any (a : Option Addr) (la ca : Nat) (zs : List Int) (w : World) (hr : Row .u8 w.heap.size w (.slice a la ca) zs) (hwm : zs.length ≤ 1000000) (hz : ∀ i : Nat, 0 ≤ zs[i]?.getD 0 ∧ zs[i]?.getD 0 < 256) :
    Calls Try.prog 23 #[.slice a la ca] w fun e w' => ∃ v', e = .returned v' ∧ w'.ownsRow w.heap.size 25 1 v' (wordsOf zs).length ((wordsOf zs).map (Value.int .u64)) ∧ Below w.heap.size w w' := by
  obtain ⟨i0, hi, hz0, hz1, hz2⟩ := info_parts info_u64
  have hla := hr.len
  have h1 := hr.lencap
  subst hla
  unfold maxLen at h1
  go_enter Try.func23, Try.ntmps23
  go_wp2
  go_loopw [3, 4] (fun v i wr => ∃ k : Nat, 8 * k ≤ zs.length + 7 ∧ i = .int .i64 (8 * (k : Int)) ∧ wr.ownsRow w.heap.size 25 1 v k ((wordsUpto zs zs.length k).map (Value.int .u64)) ∧ Below w.heap.size w wr)
    (fun _ i _ => zs.length + 8 - (intOf i).toNat)
  case atStart => exact ⟨0, by omega, rfl, World.ownsRow_nil _ _ _ _, Below.refl _ _⟩
  case round =>
    obtain ⟨k, hk, rfl, hown, hB⟩ := hrel
    by_cases hlt : 8 * k < zs.length
    · obtain ⟨ba, oa, rfl, hpa, hca⟩ := hr.at (by omega)
      have hrow : ∀ x : Int, wordTo zs (8 * k) (min 8 (zs.length - 8 * k)) = x → wordsUpto zs zs.length (k + 1) = wordsUpto zs zs.length k ++ [x] := fun x hx => by rw [wordsUpto_succ, hx]
      have Hz := Lib.hid hz
      clear hz
      by_cases hm : 8 * k + 8 ≤ zs.length
      · have HR := Lib.hid (hrow (refTo zs (8 * k) 8 8) (by rw [show min 8 (zs.length - 8 * k) = 8 from by omega]; exact wordTo_refTo zs (8 * k) 8 (by omega) Hz.out))
        clear hrow
        go_wp2
        go_loop [5, 6] (fun v q => ∃ j : Nat, j ≤ 8 ∧ q = .int .i64 (8 * (k : Int) + 8 - 1 - (j : Int)) ∧ v = .int .u64 (refTo zs (8 * k) 8 j)) (fun _ q => (intOf q + 1 - 8 * (k : Int)).toNat)
        case atStart => exact ⟨0, by omega, by simp, rfl⟩
        case round =>
          obtain ⟨j, hj, rfl, rfl⟩ := hrel
          by_cases hj8 : j < 8
          · have hcj : wr.cell? ⟨ba, oa + (8 * k + 7 - j), none⟩ = some (.int .u8 (zs[8 * k + (8 - 1 - j)]?.getD 0)) := by
              have := (hB.cell (p := ⟨ba, oa + (8 * k + (8 - 1 - j)), none⟩) hpa).trans (hca (8 * k + (8 - 1 - j)) (by omega))
              rwa [show 8 * k + (8 - 1 - j) = 8 * k + 7 - j from by omega] at this ⊢
            go_wp2
            exact ⟨⟨j + 1, by omega, by simp; omega, rfl⟩, by simp [intOf]; omega⟩
          · have HR2 := Lib.hid (show wordsUpto zs zs.length (k + 1) = wordsUpto zs zs.length k ++ [refTo zs (8 * k) 8 j] from by rw [show j = 8 from by omega]; exact HR.out)
            clear HR
            go_wp2_with (at_builtin; refine wpList_append_own _ rfl _ _ 40 rfl w.heap.size 25 i0 (.int .u64 0) 1 8 Try.underlying40 hi hz0 hz1 hz2 rfl (by decide) _ _ _ rfl (hown.alloc _) ⟨wr.heap.size, 0, none⟩ 1 1 [.int .u64 (refTo zs (8 * k) 8 j)] rfl rfl (cell_one_new _ _ _) (by simp [Value.oneCell']) (by unfold maxLen; omega) (by omega) (by have := hB.size; simp; omega) ?_; intro v' w2 hown' hgrow' _)
            go_roundw
            case rel => exact ⟨k + 1, by omega, by simp; omega, by rw [HR2.out, List.map_append]; exact hown', (laidB hB _).grown hgrow' (by have := hB.size; simp; omega) (fun q e => own_base hown e)⟩
            case measure => simp [intOf]; omega
      · have HR := Lib.hid (hrow (refTo zs (8 * k) (zs.length - 8 * k) (zs.length - 8 * k)) (by rw [show min 8 (zs.length - 8 * k) = zs.length - 8 * k from by omega]; exact wordTo_refTo zs (8 * k) _ (by omega) Hz.out))
        clear hrow
        go_wp2
        go_loop [5, 6] (fun v q => ∃ j : Nat, j ≤ zs.length - 8 * k ∧ q = .int .i64 ((zs.length : Int) - 1 - (j : Int)) ∧ v = .int .u64 (refTo zs (8 * k) (zs.length - 8 * k) j)) (fun _ q => (intOf q + 1 - 8 * (k : Int)).toNat)
        case atStart => exact ⟨0, by omega, by simp, rfl⟩
        case round =>
          obtain ⟨j, hj, rfl, rfl⟩ := hrel
          by_cases hj8 : j < zs.length - 8 * k
          · have hcj : wr.cell? ⟨ba, oa + (zs.length - 1 - j), none⟩ = some (.int .u8 (zs[8 * k + (zs.length - 8 * k - 1 - j)]?.getD 0)) := by
              rw [show 8 * k + (zs.length - 8 * k - 1 - j) = zs.length - 1 - j from by omega]
              exact (hB.cell (p := ⟨ba, oa + (zs.length - 1 - j), none⟩) hpa).trans (hca (zs.length - 1 - j) (by omega))
            go_wp2
            exact ⟨⟨j + 1, by omega, by simp; omega, rfl⟩, by simp [intOf]; omega⟩
          · have HR2 := Lib.hid (show wordsUpto zs zs.length (k + 1) = wordsUpto zs zs.length k ++ [refTo zs (8 * k) (zs.length - 8 * k) j] from by rw [show j = zs.length - 8 * k from by omega]; exact HR.out)
            clear HR
            go_wp2_with (at_builtin; refine wpList_append_own _ rfl _ _ 40 rfl w.heap.size 25 i0 (.int .u64 0) 1 8 Try.underlying40 hi hz0 hz1 hz2 rfl (by decide) _ _ _ rfl (hown.alloc _) ⟨wr.heap.size, 0, none⟩ 1 1 [.int .u64 (refTo zs (8 * k) (zs.length - 8 * k) j)] rfl rfl (cell_one_new _ _ _) (by simp [Value.oneCell']) (by unfold maxLen; omega) (by omega) (by have := hB.size; simp; omega) ?_; intro v' w2 hown' hgrow' _)
            go_roundw
            case rel => exact ⟨k + 1, by omega, by simp; omega, by rw [HR2.out, List.map_append]; exact hown', (laidB hB _).grown hgrow' (by have := hB.size; simp; omega) (fun q e => own_base hown e)⟩
            case measure => simp [intOf]; omega
    · have HW := Lib.hid (show wordsOf zs = wordsUpto zs zs.length k from by unfold wordsOf; rw [show (zs.length + 7) / 8 = k from by omega])
      go_wp2
      go_ret
      exact ⟨_, rfl, by rw [HW.out, wordsUpto_length]; exact hown, hB⟩
end Go.Proofs.Ytjgeefnackhnpaa
