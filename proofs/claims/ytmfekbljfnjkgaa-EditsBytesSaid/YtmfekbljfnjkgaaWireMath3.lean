/- Varints: lengths, and what they say. -/
import Derived.Test.YtmfekbljfnjkgaaWireMath2
import Derived.Test.YtmfekbljfnjkgaaHashMath3
namespace Go.Proofs.Ytmfekbljfnjkgaa
open Go.RowKit

/-- The number that a varint says. -/
def vval : List Int → Nat
  | [] => 0
  | c :: r => if c < 128 then c.toNat else (c.toNat - 128) + 128 * vval r
theorem vval_vintF (f n : Nat) (h : n < 128 ^ (f + 1)) : vval (vintF f n) = n := by
  induction f generalizing n with
  | zero =>
    have : n < 128 := by simpa using h
    rw [vintF_stop _ _ this]
    show (if (n : Int) < 128 then (n : Int).toNat else _) = n
    rw [if_pos (by omega)]
    omega
  | succ f ih =>
    rcases Nat.lt_or_ge n 128 with h1 | h1
    · rw [vintF_stop _ _ h1]
      show (if (n : Int) < 128 then (n : Int).toNat else _) = n
      rw [if_pos (by omega)]
      omega
    · rw [vintF_next _ _ h1]
      show (if (n : Int) % 128 + 128 < 128 then _ else ((n : Int) % 128 + 128).toNat - 128 + 128 * vval (vintF f (n / 128))) = n
      have hp : 128 ^ (f + 1 + 1) = 128 ^ (f + 1) * 128 := Nat.pow_succ ..
      rw [if_neg (by omega), ih _ (by omega)]
      omega
theorem vval_vint (n : Nat) (h : n < 18446744073709551616) : vval (vint n) = n := vval_vintF 10 n (by omega)
theorem vint_inj (m n : Nat) (hm : m < 18446744073709551616) (hn : n < 18446744073709551616) (h : vint m = vint n) : m = n := by
  rw [← vval_vint m hm, h, vval_vint n hn]
theorem vintF_len (f j n : Nat) (hj : 1 ≤ j) (h : n < 128 ^ j) : (vintF f n).length ≤ j := by
  induction f generalizing j n with
  | zero => unfold vintF; simpa using hj
  | succ f ih =>
    rcases Nat.lt_or_ge n 128 with h1 | h1
    · rw [vintF_stop _ _ h1]; simpa using hj
    · rw [vintF_next _ _ h1, List.length_cons]
      have hj2 : 2 ≤ j := by
        rcases Nat.lt_or_ge j 2 with h2 | h2
        · have : j = 1 := by omega
          subst this
          omega
        · exact h2
      have hp : 128 ^ j = 128 ^ (j - 1) * 128 := by rw [← Nat.pow_succ]; congr 1; omega
      have := ih (j - 1) (n / 128) (by omega) (by omega)
      omega
theorem vint_len8 (n : Nat) (h : n < 72057594037927936) : (vint n).length ≤ 8 := vintF_len 10 8 n (by decide) (by omega)
theorem vintF_rng (f n : Nat) : ∀ x ∈ vintF f n, 0 ≤ x ∧ x < 256 := by
  induction f generalizing n with
  | zero => intro x hx; simp [vintF] at hx; omega
  | succ f ih =>
    intro x hx
    rcases Nat.lt_or_ge n 128 with h1 | h1
    · rw [vintF_stop _ _ h1] at hx; simp at hx; omega
    · rw [vintF_next _ _ h1] at hx
      rcases List.mem_cons.1 hx with h | h
      · omega
      · exact ih _ _ h
theorem bytes_of_mem {zs : List Int} (h : ∀ x ∈ zs, 0 ≤ x ∧ x < 256) : AreBytes zs := by
  intro i
  cases e : zs[i]? with
  | none => simp
  | some x => simpa using h x (List.mem_of_getElem? e)
theorem vint_bytes (n : Nat) : AreBytes (vint n) := bytes_of_mem (vintF_rng 10 n)
/-- Two varints of one length, of at most eight bytes: their hashes are equal just if the numbers are. -/
theorem vint_hash (l : List Int) (m n : Nat) (hm : m < 72057594037927936) (hn : n < 72057594037927936) (hl : (vint m).length = (vint n).length) :
    ((sumI l ((wordsOf (vint m)).map wrap64 ++ [((vint m).length : Int)]) == sumI l ((wordsOf (vint n)).map wrap64 ++ [((vint n).length : Int)])) == decide (m = n)) = true := by
  have h8 := vint_len8 m hm
  have h9 := vint_len8 n hn
  have hd : ∀ i, i / 8 ≠ 0 → (vint m)[i]?.getD 0 = (vint n)[i]?.getD 0 := by
    intro i hi
    rw [List.getElem?_eq_none (by omega), List.getElem?_eq_none (by omega)]
  have h := oneGroup l (vint m) (vint n) 0 hl hd (vint_bytes m) (vint_bytes n)
  rw [h]
  by_cases e : m = n
  · subst e; simp
  · have : ¬ vint m = vint n := fun h => e (vint_inj m n (by omega) (by omega) h)
    simp [e, this]
end Go.Proofs.Ytmfekbljfnjkgaa
