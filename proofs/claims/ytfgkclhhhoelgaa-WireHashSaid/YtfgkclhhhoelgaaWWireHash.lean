/- WireHash: the walk. -/
import Derived.Test.YtfgkclhhhoelgaaWireLives
import Derived.Test.YtfgkclhhhoelgaaWireMath3
import Derived.Test.YtfgkclhhhoelgaaHashBytes
import Derived.Deep.RegionWith
namespace Go.Proofs.Ytfgkclhhhoelgaa
open Go.RowKit Go.Shelf
set_option linter.unusedVariables false

set_option maxHeartbeats 2000000 in
theorem wireHash_walk (a0 : Int) (a1 : Int) (a2 : Int) (a3 : ByteArray) (h0 : (Lit.int .u64 a0).wf = true) (h1 : (Lit.int .u64 a1).wf = true) (h2 : (Lit.int .i64 a2).wf = true) (h3 : a3.size ≤ maxLen) (w : World) :
    Calls Try.prog 10 #[.int .u64 a0, .int .u64 a1, .int .i64 a2, .string a3] w fun e w' => e = .returned (.bool true) ∧ Below w.heap.size w w' := by
  have hu : 0 ≤ a0 ∧ a0 < 18446744073709551616 := by
    simp [Lit.wf, IntKind.min, IntKind.max, IntKind.signed, IntKind.bits] at h0; omega
  have hv : 0 ≤ a1 ∧ a1 < 18446744073709551616 := by
    simp [Lit.wf, IntKind.min, IntKind.max, IntKind.signed, IntKind.bits] at h1; omega
  go_enter Try.func10, Try.ntmps10
  go_wp2_with fail
  refine (around_any a2 56 _ h2 (by omega) (by omega)).mono ?_
  rintro e W4 ⟨rfl, rfl⟩
  dsimp only
  have hK0 := aroundI_lo a2 56 (by omega)
  have hK1 := aroundI_hi a2 56 (by omega)
  generalize aroundI a2 56 = K at hK0 hK1 ⊢
  obtain ⟨s, rfl⟩ := Int.eq_ofNat_of_zero_le hK0
  obtain ⟨hu0, hu1⟩ := hu
  obtain ⟨u, rfl⟩ := Int.eq_ofNat_of_zero_le hu0
  obtain ⟨hv0, hv1⟩ := hv
  obtain ⟨v, rfl⟩ := Int.eq_ofNat_of_zero_le hv0
  go_wp2_with fail
  have e1 : (u : Int) / 2 ^ (8 + s) = ((u / 2 ^ (8 + s) : Nat) : Int) := by simp
  have e2 : (v : Int) / 2 ^ (8 + s) = ((v / 2 ^ (8 + s) : Nat) : Int) := by simp
  have hp : 2 ^ 8 ≤ 2 ^ (8 + s) := Nat.pow_le_pow_right (by decide) (by omega)
  have hm : u / 2 ^ (8 + s) < 72057594037927936 := Nat.div_lt_of_lt_mul (Nat.lt_of_lt_of_le (by omega : u < 2 ^ 8 * 72057594037927936) (Nat.mul_le_mul_right _ hp))
  have hn : v / 2 ^ (8 + s) < 72057594037927936 := Nat.div_lt_of_lt_mul (Nat.lt_of_lt_of_le (by omega : v < 2 ^ 8 * 72057594037927936) (Nat.mul_le_mul_right _ hp))
  rw [e1, e2]
  generalize u / 2 ^ (8 + s) = m at hm ⊢
  generalize v / 2 ^ (8 + s) = n at hn ⊢
  clear e1 e2 hp hu0 hu1 hv0 hv1 h0 h1 hK0 hK1 h2
  have VH : Hid (∀ l, (vint m).length = (vint n).length → ((sumI l ((wordsOf (vint m)).map wrap64 ++ [((vint m).length : Int)]) == sumI l ((wordsOf (vint n)).map wrap64 ++ [((vint n).length : Int)])) == decide (m = n)) = true) := Lib.hid fun l hl => vint_hash l m n hm hn hl
  have VN : Hid (¬ (vint m).length = (vint n).length → ¬ m = n) := Lib.hid fun h e => h (by rw [e])
  have hlP := vint_len8 m hm
  have hlQ := vint_len8 n hn
  refine (wuint_int W4.heap.size W4.heap.size [] m _ (Wr.new W4) (Nat.le_refl _) (by simp) (by omega) (by omega)).mono ?_
  rintro e w1 ⟨rfl, hw1, hb⟩
  have b0 := (laidB (Below.refl W4.heap.size W4) (.cells #[.slice none 0 0] 32)).trans hb; clear hb
  rw [Int.toNat_natCast, List.nil_append] at hw1
  dsimp only
  go_wp2_with fail
  have c0 := laidB (Below.refl w1.heap.size w1) (.cells #[.slice none 0 0] 32)
  refine (wuint_int w1.heap.size w1.heap.size [] n _ (Wr.new w1) (Nat.le_refl _) (by simp) (by omega) (by omega)).mono ?_
  rintro e w2 ⟨rfl, hw2, hb⟩
  replace c0 := c0.trans hb; clear hb
  rw [Int.toNat_natCast, List.nil_append] at hw2
  have hw3 := hw1.keep c0 (Nat.le_refl _)
  generalize vint m = P at hw3 VH VN hlP
  generalize vint n = Q at hw2 VH VN hlQ
  clear hw1
  dsimp only
  go_wp2_with fail
  refine (done_any W4.heap.size W4.heap.size P _ hw3 (by omega)).mono ?_
  rintro e w4 ⟨a, cap, rfl, _, hrP, hb⟩
  have hw4 := hw2.keep hb (Nat.le_refl _)
  replace c0 := stepB c0 hb; clear hb hw2 hw3
  dsimp only
  go_wp2_with fail
  refine (done_any w1.heap.size w1.heap.size Q _ hw4 (by omega)).mono ?_
  rintro e w5 ⟨a', cap', rfl, _, hrQ, hb⟩
  have hrP5 := rowB hrP hb
  replace c0 := stepB c0 hb; clear hb hw4 hrP
  dsimp only
  go_wp2_with fail
  refine (short_int a3 20 _ h3 (by decide) (by decide)).mono ?_
  rintro e w6 ⟨rfl, rfl⟩
  have hs := short_size a3 20 (by decide)
  generalize a3.extract 0 (20 : Int).toNat = l at hs
  have hs1 : l.size ≤ 20 := by omega
  dsimp only
  by_cases hl : P.length = Q.length
  · have VM := VH.out (bytesI l) hl
    have hq : decide (m = n) = ((m : Int) == (n : Int)) := by
      rw [Bool.eq_iff_iff, decide_eq_true_iff, beq_iff_eq]; omega
    rw [hq] at VM
    have hle : P.length ≤ Q.length := by omega
    have hge : Q.length ≤ P.length := by omega
    clear hl hq VH VN
    go_wp2_with fail
    refine (bytes_any l a P.length cap P (by omega) _ hrP5 rfl (by omega)).mono ?_
    rintro e w7 ⟨rfl, hb⟩
    have hrQ7 := rowB hrQ hb
    replace c0 := stepB c0 hb; clear hb hrQ hrP5
    generalize sumI (bytesI l) ((wordsOf P).map wrap64 ++ [(P.length : Int)]) = X at VM ⊢
    dsimp only
    go_wp2_with fail
    refine (bytes_any l a' Q.length cap' Q (by omega) _ hrQ7 rfl (by omega)).mono ?_
    rintro e w8 ⟨rfl, hb⟩
    replace c0 := stepB c0 hb; clear hb hrQ7
    generalize sumI (bytesI l) ((wordsOf Q).map wrap64 ++ [(Q.length : Int)]) = Y at VM ⊢
    dsimp only
    go_wp2_with fail
    refine (lives2_any _).mono ?_
    rintro e w9 ⟨rfl, hb⟩
    replace c0 := stepB c0 hb; clear hb
    dsimp only
    go_wp2_with fail
    go_ret
    exact ⟨rfl, stepB b0 c0⟩
  · have hmn := VN.out hl
    have hb : ((m : Int) != (n : Int)) = true := by
      rw [bne_iff_ne]; omega
    have hd : P.length < Q.length ∨ Q.length < P.length := by omega
    clear hl VH VN hmn
    rcases hd with hd | hd
    all_goals
      go_wp2_with (go_at_call 18; refine (lives2_any _).mono ?_; rintro e w9 ⟨rfl, hb9⟩; have c9 := stepB c0 hb9)
      go_ret
      exact ⟨rfl, stepB b0 c9⟩
end Go.Proofs.Ytfgkclhhhoelgaa
