/- Plain facts on reading variable-length integers. -/
import Derived.Test.YtmfekbljfnjkgaaWireMath
import Derived.Test.YtmfekbljfnjkgaaHashMath
import Derived.Laws.Bits64b
namespace Go.Proofs.Ytmfekbljfnjkgaa
open Go.RowKit

theorem pow128 (k : Nat) : 128 ^ k = 2 ^ (7 * k) := by rw [Nat.pow_mul]
theorem uor (m k : Nat) (x : Int) (hk : k ≤ 9) (hm : m < 128 ^ k) (h0 : 0 ≤ x) (h1 : x < 256) (h9 : k = 9 → x ≤ 1) :
    bits .or .u64 (m : Int) (IntKind.u64.wrap (IntKind.u64.wrap (bits .and .u8 x 127) * 2 ^ (7 * k))) = ((m + x.toNat % 128 * 128 ^ k : Nat) : Int) := by
  obtain ⟨y, rfl⟩ := Int.eq_ofNat_of_zero_le h0
  rw [pow128] at hm ⊢
  have e1 : bits .and .u8 (y : Int) 127 = ((y % 128 : Nat) : Int) := by
    rw [show (127 : Int) = ((127 : Nat) : Int) from rfl, u8_and_nat _ _ (by omega) (by omega)]
    congr 1
    exact Nat.and_two_pow_sub_one_eq_mod y 7
  have hb : y % 128 * 2 ^ (7 * k) < 18446744073709551616 := by
    rcases Nat.lt_or_ge k 9 with h | h
    · have hp : 2 ^ (7 * k) ≤ 2 ^ 56 := Nat.pow_le_pow_right (by decide) (by omega)
      have : y % 128 * 2 ^ (7 * k) ≤ 127 * 2 ^ (7 * k) := Nat.mul_le_mul_right _ (by omega)
      omega
    · have hp : 2 ^ (7 * k) ≤ 2 ^ 63 := Nat.pow_le_pow_right (by decide) (by omega)
      have hy : y ≤ 1 := by have := h9 (by omega); omega
      have : y % 128 * 2 ^ (7 * k) ≤ 1 * 2 ^ (7 * k) := Nat.mul_le_mul_right _ (by omega)
      omega
  have hml : m < 18446744073709551616 := by
    have hp : 2 ^ (7 * k) ≤ 2 ^ 63 := Nat.pow_le_pow_right (by decide) (by omega)
    omega
  rw [e1]
  have e2 : IntKind.u64.wrap (IntKind.u64.wrap ((y % 128 : Nat) : Int) * 2 ^ (7 * k)) = ((y % 128 * 2 ^ (7 * k) : Nat) : Int) := by
    rw [IntKind.wrap_u64 (((y % 128 : Nat) : Int)), show (((y % 128 : Nat) : Int) % 18446744073709551616) = ((y % 128 : Nat) : Int) from by omega,
      show (((y % 128 : Nat) : Int) * 2 ^ (7 * k)) = ((y % 128 * 2 ^ (7 * k) : Nat) : Int) from by simp, IntKind.wrap_u64]
    omega
  rw [e2, orI _ _ hml hb]
  congr 1
  rw [Nat.or_comm, ← Nat.shiftLeft_eq, ← Nat.shiftLeft_add_eq_or_of_lt hm, Nat.add_comm]
  simp [Nat.shiftLeft_eq]
theorem ulim (m k : Nat) (y : Nat) (hm : m < 128 ^ k) (hy : y < 128) : m + y * 128 ^ k < 128 ^ (k + 1) := by
  have : y * 128 ^ k ≤ 127 * 128 ^ k := Nat.mul_le_mul_right _ (by omega)
  rw [Nat.pow_succ]
  omega
theorem rU_nil (k m : Nat) (hk : k ≤ 9) : rU (10 - k) k m [] = (0, [], 3) := by
  rw [show 10 - k = (9 - k) + 1 from by omega]; rfl
theorem rU_cons (k m : Nat) (x : Int) (r : List Int) (hk : k ≤ 9) : rU (10 - k) k m (x :: r) = if (k = 9 ∧ 1 < x) ∨ (0 < k ∧ x = 0) then (0, r, 2) else if x < 128 then (m + x.toNat * 128 ^ k, r, 0) else rU (10 - (k + 1)) (k + 1) (m + (x.toNat - 128) * 128 ^ k) r := by
  rw [show 10 - k = (10 - (k + 1)) + 1 from by omega]; rfl
theorem rU_bad (k m : Nat) (x : Int) (r : List Int) (hk : k ≤ 9) (h : (k = 9 ∧ 1 < x) ∨ (0 < k ∧ x = 0)) : rU (10 - k) k m (x :: r) = (0, r, 2) := by
  rw [rU_cons _ _ _ _ hk, if_pos h]
theorem rU_end (k m : Nat) (x : Int) (r : List Int) (hk : k ≤ 9) (h : ¬((k = 9 ∧ 1 < x) ∨ (0 < k ∧ x = 0))) (hx : x < 128) (h0 : 0 ≤ x) : rU (10 - k) k m (x :: r) = (m + x.toNat % 128 * 128 ^ k, r, 0) := by
  rw [rU_cons _ _ _ _ hk, if_neg h, if_pos hx, show x.toNat % 128 = x.toNat from Nat.mod_eq_of_lt (by omega)]
theorem rU_more (k m : Nat) (x : Int) (r : List Int) (hk : k ≤ 9) (h : ¬((k = 9 ∧ 1 < x) ∨ (0 < k ∧ x = 0))) (hx : ¬ x < 128) (h1 : x < 256) : rU (10 - k) k m (x :: r) = rU (10 - (k + 1)) (k + 1) (m + x.toNat % 128 * 128 ^ k) r := by
  rw [rU_cons _ _ _ _ hk, if_neg h, if_neg hx, show x.toNat % 128 = x.toNat - 128 from by omega]
theorem rU_lt (f i m : Nat) (ys : List Int) (hf : f + i = 10) (hm : m < 128 ^ i) (hz : ∀ x ∈ ys, 0 ≤ x ∧ x < 256) : (rU f i m ys).1 < 18446744073709551616 := by
  induction f generalizing i m ys with
  | zero => show 0 < _; decide
  | succ f ih =>
    cases ys with
    | nil => show 0 < _; decide
    | cons c r =>
      have hc := hz c (List.mem_cons_self ..)
      unfold rU
      split
      · show 0 < _; decide
      · rename_i hb
        split
        · rename_i h
          show m + c.toNat * 128 ^ i < _
          rcases Nat.lt_or_ge i 9 with h9 | h9
          · have h1 := ulim m i c.toNat hm (by omega)
            have h2 : 128 ^ (i + 1) ≤ 128 ^ 9 := Nat.pow_le_pow_right (by decide) (by omega)
            omega
          · have h3 : i = 9 := by omega
            subst h3
            have h4 : c.toNat ≤ 1 := by omega
            have h5 : c.toNat * 128 ^ 9 ≤ 1 * 128 ^ 9 := Nat.mul_le_mul_right _ h4
            omega
        · rename_i h
          exact ih (i + 1) _ r (by omega) (ulim _ _ _ hm (by omega)) (fun x hx => hz x (List.mem_cons_of_mem _ hx))
theorem rUint_lt (zs : List Int) (e : Int) (hz : ∀ x ∈ zs, 0 ≤ x ∧ x < 256) : (rUint zs e).1 < 18446744073709551616 := by
  unfold rUint
  split
  · exact rU_lt 10 0 0 zs rfl (by decide) hz
  · show 0 < _; decide
theorem rU_left (f i m : Nat) (ys : List Int) (p : Int → Prop) (hz : ∀ x ∈ ys, p x) : ∀ x ∈ (rU f i m ys).2.1, p x := by
  induction f generalizing i m ys with
  | zero => exact hz
  | succ f ih =>
    cases ys with
    | nil => exact hz
    | cons c r =>
      have hr : ∀ x ∈ r, p x := fun x hx => hz x (List.mem_cons_of_mem _ hx)
      unfold rU
      split
      · exact hr
      · split
        · exact hr
        · exact ih _ _ _ hr
theorem rUint_left (zs : List Int) (e : Int) (p : Int → Prop) (hz : ∀ x ∈ zs, p x) : ∀ x ∈ (rUint zs e).2.1, p x := by
  unfold rUint
  split
  · exact rU_left _ _ _ _ _ hz
  · exact hz
theorem rU_len (f i m : Nat) (ys : List Int) : (rU f i m ys).2.1.length ≤ ys.length := by
  induction f generalizing i m ys with
  | zero => exact Nat.le_refl _
  | succ f ih =>
    cases ys with
    | nil => exact Nat.le_refl _
    | cons c r =>
      unfold rU
      split
      · simp
      · split
        · simp
        · exact Nat.le_trans (ih _ _ _) (by simp)
theorem rUint_len (zs : List Int) (e : Int) : (rUint zs e).2.1.length ≤ zs.length := by
  unfold rUint
  split
  · exact rU_len _ _ _ _
  · exact Nat.le_refl _
def rawT (N : Nat) (ys : List Int) (e : Int) : List Int × List Int × Int :=
  if (if ys.length < N then failI e 3 else e) = 0 then (ys.take N, ys.drop N, 0) else ([], ys, if ys.length < N then failI e 3 else e)
theorem rRaw_T (zs : List Int) (e : Int) : rRaw zs e = rawT (rUint zs e).1 (rUint zs e).2.1 (rUint zs e).2.2 := rfl
theorem rawT_more (N : Nat) (ys : List Int) (e : Int) (h : ys.length < N) : rawT N ys e = ([], ys, failI e 3) := by
  have : failI e 3 ≠ 0 := by unfold failI; split <;> simp_all
  unfold rawT
  rw [if_pos h, if_neg this]
theorem rawT_err (N : Nat) (ys : List Int) (e : Int) (h : ¬ ys.length < N) (he : e ≠ 0) : rawT N ys e = ([], ys, e) := by
  unfold rawT
  rw [if_neg h, if_neg he]
theorem rawT_ok (N : Nat) (ys : List Int) (h : ¬ ys.length < N) : rawT N ys 0 = (ys.take N, ys.drop N, 0) := by
  unfold rawT
  rw [if_neg h, if_pos rfl]
theorem i64_xor0 (a : Nat) (ha : a < 9223372036854775808) : bits .xor .i64 (a : Int) 0 = a := by
  show IntKind.i64.wrap ((BitVec.ofInt 64 (a : Int) ^^^ BitVec.ofInt 64 0).toNat : Int) = _
  rw [show BitVec.ofInt 64 0 = 0#64 from by decide, BitVec.xor_zero, BitVec.ofInt_natCast, BitVec.toNat_ofNat, Nat.mod_eq_of_lt (by omega)]
  simp only [IntKind.wrap, IntKind.bits, IntKind.signed]
  simp
  omega
theorem i64_xorm (a : Nat) (ha : a < 9223372036854775808) : bits .xor .i64 (a : Int) (-1) = -(a : Int) - 1 := by
  show IntKind.i64.wrap ((BitVec.ofInt 64 (a : Int) ^^^ BitVec.ofInt 64 (-1)).toNat : Int) = _
  rw [show BitVec.ofInt 64 (-1) = BitVec.allOnes 64 from by decide, BitVec.xor_allOnes, BitVec.toNat_not, BitVec.ofInt_natCast, BitVec.toNat_ofNat, Nat.mod_eq_of_lt (by omega)]
  simp only [IntKind.wrap, IntKind.bits, IntKind.signed]
  simp
  omega
theorem unzigI (N : Nat) (h : N < 18446744073709551616) : bits .xor .i64 (wrap64 ((N : Int) / 2)) (wrap64 (-wrap64 (bits .and .u64 (N : Int) 1))) = unzig N := by
  have e1 : wrap64 ((N : Int) / 2) = ((N / 2 : Nat) : Int) := by unfold wrap64; omega
  have e2 : bits .and .u64 (N : Int) 1 = ((N % 2 : Nat) : Int) := by
    rw [show (1 : Int) = ((1 : Nat) : Int) from rfl, bits_and_u64_nat _ _ h (by decide), Nat.and_one_is_mod]
  rw [e1, e2]
  unfold unzig
  rcases Nat.mod_two_eq_zero_or_one N with h2 | h2
  · rw [if_pos h2, h2, show wrap64 (-wrap64 ((0 : Nat) : Int)) = 0 from by decide, i64_xor0 _ (by omega)]
  · rw [if_neg (by omega), h2, show wrap64 (-wrap64 ((1 : Nat) : Int)) = -1 from by decide, i64_xorm _ (by omega)]
end Go.Proofs.Ytmfekbljfnjkgaa
