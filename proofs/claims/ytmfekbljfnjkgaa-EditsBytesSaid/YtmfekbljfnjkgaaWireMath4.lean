/- Reading back what was written. -/
import Derived.Test.YtmfekbljfnjkgaaWireMath3
namespace Go.Proofs.Ytmfekbljfnjkgaa
open Go.RowKit

theorem rU_vintF (g i m n : Nat) (rest : List Int) (hi : i ≤ 9) (hg : g = 10 - i) (hn : n * 128 ^ i < 18446744073709551616) (h0 : i = 0 ∨ 0 < n) :
    rU g i m (vintF g n ++ rest) = (m + n * 128 ^ i, rest, 0) := by
  subst hg
  induction hk : 9 - i generalizing i m n with
  | zero =>
    have : i = 9 := by omega
    subst this
    have hn1 : n = 1 := by
      have : n * 128 ^ 9 < 2 * 128 ^ 9 := by omega
      have := Nat.lt_of_mul_lt_mul_right this
      omega
    subst hn1
    rw [vintF_stop _ _ (by omega), List.cons_append, List.nil_append, rU_end _ _ _ _ hi (by omega) (by omega) (by omega)]
    rfl
  | succ k ih =>
    rcases Nat.lt_or_ge n 128 with h1 | h1
    · rw [vintF_stop _ _ h1, List.cons_append, List.nil_append, rU_end _ _ _ _ hi (by omega) (by omega) (by omega)]
      rw [Int.toNat_natCast, Nat.mod_eq_of_lt h1]
    · rw [show 10 - i = (10 - (i + 1)) + 1 from by omega, vintF_next _ _ h1, List.cons_append, ← show 10 - i = (10 - (i + 1)) + 1 from by omega,
        rU_more _ _ _ _ hi (by omega) (by omega) (by omega)]
      have hp : 128 ^ (i + 1) = 128 ^ i * 128 := Nat.pow_succ ..
      have hd : n / 128 * 128 ^ (i + 1) ≤ n * 128 ^ i := by
        rw [hp, Nat.mul_comm (128 ^ i), ← Nat.mul_assoc]
        exact Nat.mul_le_mul_right _ (Nat.div_mul_le_self _ _)
      rw [ih (i + 1) _ (n / 128) (by omega) (by omega) (.inr (by omega)) (by omega)]
      have e : ((n : Int) % 128 + 128).toNat % 128 = n % 128 := by omega
      rw [e]
      congr 1
      rw [hp]
      have : n * 128 ^ i = (n % 128 + n / 128 * 128) * 128 ^ i := by congr 1; omega
      rw [this, Nat.add_mul, Nat.mul_assoc (n / 128), Nat.mul_comm 128 (128 ^ i)]
      omega
theorem rUint_vint (n : Nat) (rest : List Int) (h : n < 18446744073709551616) : rUint (vint n ++ rest) 0 = (n, rest, 0) := by
  unfold rUint vint
  rw [if_pos rfl, rU_vintF 10 0 0 n rest (by decide) rfl (by omega) (.inl rfl)]
  simp
theorem unzig_zig (n : Int) (h : -9223372036854775808 ≤ n ∧ n ≤ 9223372036854775807) : unzig (zig n) = n := by
  unfold unzig zig
  split <;> split <;> omega
theorem rInt_sint (n : Int) (rest : List Int) (h : -9223372036854775808 ≤ n ∧ n ≤ 9223372036854775807) : rInt (sint n ++ rest) 0 = (n, rest, 0) := by
  unfold rInt sint
  rw [rUint_vint _ _ (zig_lt n h), unzig_zig n h]
theorem rRaw_raw (bs rest : List Int) (h : bs.length < 18446744073709551616) : rRaw (vint bs.length ++ bs ++ rest) 0 = (bs, rest, 0) := by
  rw [rRaw_T, List.append_assoc, rUint_vint _ _ h]
  rw [rawT_ok _ _ (by simp)]
  simp
theorem rMany_sints (l acc rest : List Int) (h : ∀ n ∈ l, -9223372036854775808 ≤ n ∧ n ≤ 9223372036854775807) : rMany l.length acc ((l.map sint).flatten ++ rest) 0 = (acc ++ l, rest, 0) := by
  induction l generalizing acc with
  | nil => simp [rMany]
  | cons x l ih =>
    simp only [List.length_cons, List.map_cons, List.flatten_cons, List.append_assoc]
    unfold rMany
    rw [rInt_sint x _ (h x (List.mem_cons_self ..)), if_pos rfl]
    simp only
    rw [ih _ (fun n hn => h n (List.mem_cons_of_mem _ hn))]
    simp
theorem sint_pos (n : Int) : 1 ≤ (sint n).length := (vint_length (zig n)).1
theorem sints_ge (l : List Int) : l.length ≤ ((l.map sint).flatten).length := by
  induction l with
  | nil => simp
  | cons x l ih =>
    have := sint_pos x
    simp only [List.map_cons, List.flatten_cons, List.length_append, List.length_cons]
    omega
theorem rInts_sints (l rest : List Int) (hl : l.length < 18446744073709551616) (h : ∀ n ∈ l, -9223372036854775808 ≤ n ∧ n ≤ 9223372036854775807) : rInts (sints l ++ rest) 0 = (l, rest, 0) := by
  unfold rInts rLen sints
  rw [List.append_assoc, rUint_vint _ _ hl]
  have := sints_ge l
  have hn : ¬ ((l.map sint).flatten ++ rest).length < l.length := by rw [List.length_append]; omega
  dsimp only
  simp only [hn, ↓reduceIte]
  rw [rMany_sints l [] rest h]
  simp
end Go.Proofs.Ytmfekbljfnjkgaa
