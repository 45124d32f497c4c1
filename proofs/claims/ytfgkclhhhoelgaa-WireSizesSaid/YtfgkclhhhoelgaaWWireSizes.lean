/- WireSizes: the walk. -/
import Derived.Test.YtfgkclhhhoelgaaWireLives
namespace Go.Proofs.Ytfgkclhhhoelgaa
open Go.RowKit Go.Shelf
set_option linter.unusedVariables false

set_option maxHeartbeats 1000000 in
theorem bound_any (n m : Int) (w : World) (hn : (Lit.int .i64 n).wf = true) (hm : 1 ≤ m) (hm2 : m ≤ 1000000) :
    Calls Try.prog 28 #[.int .i64 n, .int .i64 m] w fun e w' => ∃ x, e = .returned (.int .i64 x) ∧ -m ≤ x ∧ x ≤ m ∧ w' = w := by
  go_enter Try.func28, Try.ntmps28
  go_wp2_with fail
  refine (around_any n (2 * m + 1) _ hn (by omega) (by omega)).mono ?_
  rintro e W ⟨rfl, rfl⟩
  have hK0 := aroundI_lo n (2 * m + 1) (by omega)
  have hK1 := aroundI_hi n (2 * m + 1) (by omega)
  generalize aroundI n (2 * m + 1) = K at hK0 hK1 ⊢
  dsimp only
  go_wp2_with fail
  go_ret
  exact ⟨K - m, rfl, by omega, by omega, rfl⟩

theorem tdiv128 (k : Nat) (h : k < 18446744073709551616) : IntKind.u64.wrap ((k : Int).tdiv 128) = ((k / 128 : Nat) : Int) := by
  rw [IntKind.wrap_u64, Int.tdiv_eq_ediv_of_nonneg (by omega)]
  omega
theorem sint_small (m : Int) (h : -63 ≤ m ∧ m ≤ 63) : (sint m).length = 1 := by
  unfold sint vint
  have : zig m < 128 := by unfold zig; split <;> omega
  rw [vintF_stop _ _ this]
  rfl

set_option maxHeartbeats 2000000 in
theorem wireSizes_walk (a0 : Int) (a1 : Int) (a2 : Int) (h0 : (Lit.int .u64 a0).wf = true) (h1 : (Lit.int .i64 a1).wf = true) (h2 : (Lit.int .i64 a2).wf = true) (w : World) :
    Calls Try.prog 8 #[.int .u64 a0, .int .i64 a1, .int .i64 a2] w fun e w' => e = .returned (.bool true) ∧ Below w.heap.size w w' := by
  have hu : 0 ≤ a0 ∧ a0 < 18446744073709551616 := by
    simp [Lit.wf, IntKind.min, IntKind.max, IntKind.signed, IntKind.bits] at h0; omega
  go_enter Try.func8, Try.ntmps8
  go_wp2_with fail
  refine (around_any a2 64 _ h2 (by omega) (by omega)).mono ?_
  rintro e W4 ⟨rfl, rfl⟩
  dsimp only
  have hK0 := aroundI_lo a2 64 (by omega)
  have hK1 := aroundI_hi a2 64 (by omega)
  generalize aroundI a2 64 = K at hK0 hK1 ⊢
  obtain ⟨s, rfl⟩ := Int.eq_ofNat_of_zero_le hK0
  obtain ⟨hu0, hu1⟩ := hu
  obtain ⟨u, rfl⟩ := Int.eq_ofNat_of_zero_le hu0
  go_wp2_with fail
  have e1 : (u : Int) / 2 ^ s = ((u / 2 ^ s : Nat) : Int) := by simp
  have hk : u / 2 ^ s < 18446744073709551616 := Nat.lt_of_le_of_lt (Nat.div_le_self _ _) (by omega)
  rw [e1, tdiv128 _ hk]
  generalize u / 2 ^ s = k at hk ⊢
  clear e1 h0 hu0 hu1 hK0 hK1
  go_loopw [8, 9] (fun n r wr => ∃ (c q f : Nat), n = .int .i64 (c : Int) ∧ r = .int .u64 (q : Int) ∧ wr = W4 ∧ c + f = 10 ∧ q * 128 < 2 * 128 ^ f ∧ q < 18446744073709551616 ∧ Hid ((vint k).length = c + (if q = 0 then 0 else (vintF f q).length))) (fun _ r _ => (intOf r).toNat)
  case atStart =>
    refine ⟨1, k / 128, 9, rfl, rfl, rfl, rfl, by omega, by omega, Lib.hid ?_⟩
    rcases Nat.lt_or_ge k 128 with h | h
    · rw [if_pos (by omega)]
      unfold vint
      rw [vintF_stop _ _ h]
      rfl
    · rw [if_neg (by omega)]
      unfold vint
      rw [vintF_next _ _ h, List.length_cons]
      omega
  case round =>
    obtain ⟨c, q, f, rfl, rfl, rfl, hcf, hq, hql, HV⟩ := hrel
    have e2 := tdiv128 q hql
    by_cases h0 : 0 < q
    · have hc10 : c ≤ 9 := by
        rcases Nat.lt_or_ge c 10 with h | h
        · omega
        · have : f = 0 := by omega
          subst this
          omega
      have HQ := Lib.hid hq; clear hq
      go_wp2_with fail
      go_roundw
      case rel =>
        have hq := HQ.out
        have hp : 128 ^ f = 128 ^ (f - 1) * 128 := by rw [← Nat.pow_succ]; congr 1; omega
        refine ⟨c + 1, q / 128, f - 1, by simp, rfl, by simp, by omega, by omega, by omega, Lib.hid ?_⟩
        rw [HV.out, if_neg (by omega)]
        rcases Nat.lt_or_ge q 128 with h | h
        · rw [if_pos (by omega), vintF_stop _ _ h]
          rfl
        · rw [if_neg (by omega), show f = f - 1 + 1 from by omega, vintF_next _ _ h, List.length_cons]
          simp only [Nat.add_sub_cancel]
          omega
      case measure => simp [intOf]; omega
    · have HL : Hid ((vint k).length = c) := Lib.hid (by rw [HV.out, if_pos (by omega)]; omega)
      clear HV hq
      go_wp2_with fail
      have b0 := laidB (Below.refl wr.heap.size wr) (.cells #[.slice none 0 0] 32)
      refine (wuint_int wr.heap.size wr.heap.size [] k _ (Wr.new wr) (Nat.le_refl _) (by simp) (by omega) (by omega)).mono ?_
      rintro e w1 ⟨rfl, hw1, hb⟩
      replace b0 := b0.trans hb; clear hb
      rw [Int.toNat_natCast, List.nil_append] at hw1
      generalize vint k = V at hw1 HL
      dsimp only
      go_wp2_with fail
      have c0 := laidB (Below.refl w1.heap.size w1) (.cells #[.slice none 0 0] 32)
      refine (bound_any a1 63 _ h1 (by decide) (by decide)).mono ?_
      rintro e w2 ⟨m, rfl, hm0, hm1, rfl⟩
      dsimp only
      have hwm : (Lit.int .i64 m).wf = true := by simp [Lit.wf, IntKind.min, IntKind.max, IntKind.signed, IntKind.bits]; omega
      have hwn : (Lit.int .i64 (-m)).wf = true := by simp [Lit.wf, IntKind.min, IntKind.max, IntKind.signed, IntKind.bits]; omega
      have s1 := sint_small m (by omega)
      have s2 := sint_small (-m) (by omega)
      go_wp2_with fail
      refine (wint_any w1.heap.size w1.heap.size [] m _ (Wr.new w1) (Nat.le_refl _) (by simp) hwm).mono ?_
      rintro e w3 ⟨rfl, hw3, hb⟩
      replace c0 := c0.trans hb; clear hb
      rw [List.nil_append] at hw3
      dsimp only
      go_wp2_with fail
      refine (wint_any w1.heap.size w1.heap.size _ (-m) _ hw3 (Nat.le_refl _) (by omega) hwn).mono ?_
      rintro e w4 ⟨rfl, hw4, hb⟩
      replace c0 := c0.trans hb; clear hb hw3
      dsimp only
      go_wp2_with fail
      refine (wbool_any w1.heap.size w1.heap.size _ (decide (0 < m)) _ hw4 (Nat.le_refl _) (by simp [s1, s2])).mono ?_
      rintro e w5 ⟨rfl, hw5, hb⟩
      replace c0 := c0.trans hb; clear hb hw4
      have hl5 : (sint m ++ sint (-m) ++ [if decide (0 < m) = true then 1 else 0]).length = 3 := by simp [s1, s2]
      generalize sint m ++ sint (-m) ++ [if decide (0 < m) = true then (1 : Int) else 0] = X at hw5 hl5
      have hw6 := hw1.keep c0 (Nat.le_refl _)
      dsimp only
      have HX := Lib.hid hl5; clear hl5
      have hVl : V.length ≤ 11 := by rw [HL.out]; omega
      have hXl : X.length ≤ 11 := by rw [HX.out]; omega
      go_wp2_with fail
      refine (done_any wr.heap.size wr.heap.size V _ hw6 (by omega)).mono ?_
      rintro e w7 ⟨a, cap, rfl, _, _, hb⟩
      rw [HL.out]
      have hw7 := hw5.keep hb (Nat.le_refl _)
      replace c0 := stepB c0 hb; clear hb
      dsimp only
      go_wp2_with fail
      refine (done_any w1.heap.size w1.heap.size X _ hw7 (by omega)).mono ?_
      rintro e w8 ⟨a', cap', rfl, _, _, hb⟩
      rw [HX.out]
      replace c0 := stepB c0 hb; clear hb
      dsimp only
      go_wp2_with fail
      refine (lives2_any _).mono ?_
      rintro e w9 ⟨rfl, hb⟩
      replace c0 := stepB c0 hb; clear hb
      dsimp only
      go_wp2_with fail
      go_ret
      exact ⟨rfl, stepB b0 c0⟩
end Go.Proofs.Ytfgkclhhhoelgaa
