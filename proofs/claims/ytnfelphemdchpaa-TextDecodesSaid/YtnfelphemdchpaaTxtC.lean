/- Contracts of package text: concatenation. -/
import Derived.Test.YtnfelphemdchpaaTxtB
namespace Go.Proofs.Ytnfelphemdchpaa
open Go.RowKit Go.Shelf
set_option linter.unusedVariables false

/-- Rows whose headers lie side by side. -/
def RowsAt (W : World) (g : Nat) (zss : List (List Int)) : Prop := ∀ (k : Nat) (z : List Int), zss[k]? = some z → ∃ a cap, W.cell? ⟨g, k, none⟩ = some (.slice a z.length cap) ∧ Row .i64 W.heap.size W (.slice a z.length cap) z
theorem flat_take (zss : List (List Int)) (k : Nat) (z : List Int) (h : zss[k]? = some z) : (zss.take (k + 1)).flatten = (zss.take k).flatten ++ z := by
  obtain ⟨hk, rfl⟩ := List.getElem?_eq_some_iff.1 h
  rw [List.take_succ_eq_append_getElem hk, List.flatten_append]
  simp
theorem flat_take_le (zss : List (List Int)) (k : Nat) : ((zss.take k).flatten).length ≤ zss.flatten.length := by
  have h : zss.flatten = (zss.take k).flatten ++ (zss.drop k).flatten := by rw [← List.flatten_append, List.take_append_drop]
  rw [h, List.length_append]
  omega
set_option maxRecDepth 100000 in
set_option maxHeartbeats 2000000 in
theorem concat_any (g : Nat) (zss : List (List Int)) (w : World) (hg : g < w.heap.size) (hR : RowsAt w g zss) (hn : zss.length ≤ 1000) (hl : zss.flatten.length ≤ 300000) :
    Calls Try.prog 55 #[.slice (some ⟨g, 0, none⟩) zss.length zss.length] w fun e w' => ∃ v, e = .returned v ∧ w'.ownsRow w.heap.size 3 1 v zss.flatten.length (zss.flatten.map (Value.int .i64)) ∧ Below w.heap.size w w' := by
  obtain ⟨i0, hi, hz0, hz1, hz2⟩ := info_parts info_int
  have HR := Lib.hid hR
  clear hR
  go_enter Try.func55, Try.ntmps55
  go_wp2_with fail
  go_loopw [3, 11] (fun n i wr => ∃ k : Nat, k ≤ zss.length ∧ n = .int .i64 (((zss.take k).flatten).length : Int) ∧ i = .int .i64 (k : Int) ∧ wr = w) (fun _ i _ => zss.length - (intOf i).toNat)
  case atStart => exact ⟨0, Nat.zero_le _, rfl, rfl, rfl⟩
  case round =>
    obtain ⟨k, hk, rfl, rfl, rfl⟩ := hrel
    have hlk := flat_take_le zss k
    have hlk1 := flat_take_le zss (k + 1)
    by_cases hlt : k < zss.length
    · have hgk : zss[k]? = some zss[k] := List.getElem?_eq_getElem hlt
      obtain ⟨a, cap, c0, hr⟩ := HR.out k _ hgk
      have ht := flat_take zss k _ hgk
      have hl1 := congrArg List.length ht
      rw [List.length_append] at hl1
      generalize zss[k] = z at *
      have hlc := hr.lencap
      unfold maxLen at hlc
      have hi1 : (k : Int) < zss.length := by omega
      have hi0 : (0 : Int) ≤ (k : Int) := by omega
      have HL1 := Lib.hid hl1
      have hsum : ((zss.take k).flatten).length + z.length ≤ 300000 := by omega
      clear hgk ht hl1
      generalize ((zss.take k).flatten).length = S at *
      clear hlk1
      have hneg : ¬ ((S : Int) + (z.length : Int)) < 0 := by omega
      go_wp2_with fail
      go_roundw
      case rel => exact ⟨k + 1, by omega, by rw [HL1.out]; go_num, by go_num, by first | rfl | trivial⟩
      case measure => simp [intOf]; omega
    · have ht : zss.take k = zss := List.take_of_length_le (by omega)
      rw [ht]
      have hS0 : zss.flatten.length ≤ 300000 := hl
      generalize hS : zss.flatten.length = S0 at *
      have HS := Lib.hid hS
      clear hS
      obtain ⟨wo, ewo⟩ : ∃ X : World, X = wr := ⟨wr, rfl⟩
      subst ewo
      clear ht hlk hlk1
      go_wp2_with fail
      refine (grow_nil (S0 : Int) _ (by omega) (by omega)).mono ?_
      rintro e w1 ⟨v, rfl, hown, hb⟩
      dsimp only
      go_wp2_with fail
      go_loopw [6, 27] (fun v i wr => ∃ k : Nat, k ≤ zss.length ∧ i = .int .i64 (k : Int) ∧ wr.ownsRow wo.heap.size 3 1 v ((zss.take k).flatten).length (((zss.take k).flatten).map (Value.int .i64)) ∧ Below wo.heap.size wo wr) (fun _ i _ => zss.length - (intOf i).toNat)
      case atStart => exact ⟨0, Nat.zero_le _, rfl, by simpa using hown, hb⟩
      case round =>
        clear hown hb
        obtain ⟨k2, hk2, rfl, hown, hb⟩ := hrel
        have hlk := flat_take_le zss k2
        have hsr := hb.size
        by_cases hlt2 : k2 < zss.length
        · have hgk : zss[k2]? = some zss[k2] := List.getElem?_eq_getElem hlt2
          obtain ⟨a, cap, c0, hr⟩ := HR.out k2 _ hgk
          have ht := flat_take zss k2 _ hgk
          have hlk1 := flat_take_le zss (k2 + 1)
          rw [ht, List.length_append, HS.out] at hlk1
          rw [HS.out] at hlk
          generalize zss[k2] = z at *
          have c1 := (hb.cell (p := ⟨g, k2, none⟩) hg).trans c0
          have hr1 := RowP.below hb hr
          have hi1 : (k2 : Int) < zss.length := by omega
          have hi0 : (0 : Int) ≤ (k2 : Int) := by omega
          have HT := Lib.hid ht
          clear hgk ht c0 hr
          generalize (zss.take k2).flatten = acc at *
          go_wp2_with (at_builtin; refine wpList_append_row rfl _ _ 22 rfl wo.heap.size 3 i0 .i64 _ 8 Try.underlying22 hi hz0 hz1 hz2 rfl _ _ acc rfl hown _ z _ rfl hr1 (by unfold maxLen; omega) (by omega) hsr ?_; intro v3 w3 hown3 hgrow3 hb3)
          go_roundw
          case rel => exact ⟨k2 + 1, by omega, by go_num, by rw [HT.out]; exact hown3, hb.trans hb3⟩
          case measure => simp [intOf]; omega
        · have ht : zss.take k2 = zss := List.take_of_length_le (by omega)
          rw [ht] at hown
          go_wp2_with fail
          go_ret
          exact ⟨_, rfl, hown, hb⟩
end Go.Proofs.Ytnfelphemdchpaa
