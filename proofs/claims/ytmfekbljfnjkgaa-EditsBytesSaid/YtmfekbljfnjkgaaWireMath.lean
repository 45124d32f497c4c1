/- Plain facts on variable-length integers. -/
import Derived.Laws.Bits64
import Derived.Laws.BitsAllLaws
import Derived.RowKit
namespace Go.Proofs.Ytmfekbljfnjkgaa
open Go.RowKit

/-- The bytes of a varint, at most so many. -/
def vintF : Nat → Nat → List Int
  | 0, n => [(n : Int) % 256]
  | f + 1, n => if n < 128 then [(n : Int)] else ((n : Int) % 128 + 128) :: vintF f (n / 128)
/-- The varint of a number below 2^64. -/
def vint (n : Nat) : List Int := vintF 10 n
theorem vintF_length (f n : Nat) : 1 ≤ (vintF f n).length ∧ (vintF f n).length ≤ f + 1 := by
  induction f generalizing n with
  | zero => simp [vintF]
  | succ f ih =>
    unfold vintF
    split
    · simp
    · have := ih (n / 128); simp; omega
theorem vint_length (n : Nat) : 1 ≤ (vint n).length ∧ (vint n).length ≤ 11 := vintF_length 10 n
theorem vintF_stop (f n : Nat) (h : n < 128) : vintF f n = [(n : Int)] := by
  cases f with
  | zero => unfold vintF; congr 1; omega
  | succ f => unfold vintF; rw [if_pos h]
theorem vintF_next (f n : Nat) (h : 128 ≤ n) : vintF (f + 1) n = ((n : Int) % 128 + 128) :: vintF f (n / 128) := by
  conv => lhs; unfold vintF
  rw [if_neg (by omega)]
/-- The zigzag form. -/
def zig (n : Int) : Nat := if n < 0 then (2 * (-(n + 1)) + 1).toNat else (2 * n).toNat
/-- The bytes of a signed number. -/
def sint (n : Int) : List Int := vint (zig n)
/-- The bytes of a list of signed numbers. -/
def sints (l : List Int) : List Int := vint l.length ++ (l.map sint).flatten

theorem or128 (n : Nat) : bits .or .u8 ((n : Int) % 256) 128 = (n : Int) % 128 + 128 := by
  have h : (n : Int) % 256 = ((n % 256 : Nat) : Int) := by simp
  rw [h, show (128 : Int) = ((128 : Nat) : Int) from rfl, u8_or_nat _ _ (by omega) (by omega)]
  have : n % 256 ||| 128 = n % 128 + 128 := by
    have hb : ∀ k, k < 256 → k ||| 128 = k % 128 + 128 := by decide +kernel
    rw [hb _ (Nat.mod_lt _ (by decide))]
    omega
  rw [this]
  omega
theorem zig_eq (n : Int) (h : -9223372036854775808 ≤ n ∧ n ≤ 9223372036854775807) :
    bits .xor .u64 (IntKind.u64.wrap (IntKind.u64.wrap n * 2)) (IntKind.u64.wrap (n / 9223372036854775808)) = (zig n : Int) := by
  by_cases hn : n < 0
  · have e1 : IntKind.u64.wrap (n / 9223372036854775808) = ((18446744073709551615 : Nat) : Int) := by
      rw [show n / 9223372036854775808 = -1 from by omega]; decide
    obtain ⟨m, hm⟩ : ∃ m : Nat, n = -(m : Int) - 1 := ⟨(-n - 1).toNat, by omega⟩
    have hm2 : m < 9223372036854775808 := by omega
    have e2 : IntKind.u64.wrap (IntKind.u64.wrap n * 2) = ((18446744073709551615 - (2 * m + 1) : Nat) : Int) := by
      rw [IntKind.wrap_u64, IntKind.wrap_u64]; omega
    rw [e1, e2, bits_xor_u64_nat _ _ (by omega) (by omega)]
    have e3 : (18446744073709551615 - (2 * m + 1)) ^^^ 18446744073709551615 = 2 * m + 1 := by
      have hk : 2 * m + 1 < 2 ^ 64 := by omega
      have e4 : BitVec.ofNat 64 (18446744073709551615 - (2 * m + 1)) = ~~~ BitVec.ofNat 64 (2 * m + 1) := by
        apply BitVec.eq_of_toNat_eq
        rw [BitVec.toNat_not, BitVec.toNat_ofNat, BitVec.toNat_ofNat, Nat.mod_eq_of_lt hk, Nat.mod_eq_of_lt (by omega)]
      have e5 := congrArg BitVec.toNat (show BitVec.ofNat 64 (18446744073709551615 - (2 * m + 1)) ^^^ BitVec.ofNat 64 18446744073709551615 = BitVec.ofNat 64 (2 * m + 1) from by
        rw [e4, show BitVec.ofNat 64 18446744073709551615 = BitVec.allOnes 64 from by decide, BitVec.xor_allOnes, BitVec.not_not])
      rw [BitVec.toNat_xor, BitVec.toNat_ofNat, BitVec.toNat_ofNat, BitVec.toNat_ofNat, Nat.mod_eq_of_lt hk, Nat.mod_eq_of_lt (by omega), Nat.mod_eq_of_lt (by decide)] at e5
      exact e5
    rw [e3]
    unfold zig
    rw [if_pos hn]
    omega
  · have e1 : IntKind.u64.wrap (n / 9223372036854775808) = ((0 : Nat) : Int) := by
      rw [show n / 9223372036854775808 = 0 from by omega]; decide
    obtain ⟨m, rfl⟩ := Int.eq_ofNat_of_zero_le (show 0 ≤ n by omega)
    have e2 : IntKind.u64.wrap (IntKind.u64.wrap (m : Int) * 2) = ((2 * m : Nat) : Int) := by
      rw [IntKind.wrap_u64, IntKind.wrap_u64]; omega
    rw [e1, e2, bits_xor_u64_nat _ _ (by omega) (by decide), Nat.xor_zero]
    unfold zig
    rw [if_neg hn]
    omega
theorem zig_lt (n : Int) (h : -9223372036854775808 ≤ n ∧ n ≤ 9223372036854775807) : zig n < 18446744073709551616 := by
  unfold zig; split <;> omega

/-! Reading: (what is returned, what is left, the error). -/
def rOct : List Int → Int → Int × List Int × Int
  | zs, 0 => match zs with
    | [] => (0, [], 3)
    | x :: r => (x, r, 0)
  | zs, e => (0, zs, e)
def rU : Nat → Nat → Nat → List Int → Nat × List Int × Int
  | 0, _, _, zs => (0, zs, 2)
  | _ + 1, _, _, [] => (0, [], 3)
  | f + 1, i, n, c :: r => if (i = 9 ∧ 1 < c) ∨ (0 < i ∧ c = 0) then (0, r, 2) else if c < 128 then (n + c.toNat * 128 ^ i, r, 0) else rU f (i + 1) (n + (c.toNat - 128) * 128 ^ i) r
def rUint (zs : List Int) (e : Int) : Nat × List Int × Int := if e = 0 then rU 10 0 0 zs else (0, zs, e)
/-- The number with a zigzag form. -/
def unzig (n : Nat) : Int := if n % 2 = 0 then ((n / 2 : Nat) : Int) else -((n / 2 : Nat) : Int) - 1
def rInt (zs : List Int) (e : Int) : Int × List Int × Int := (unzig (rUint zs e).1, (rUint zs e).2)
def failI (e f : Int) : Int := if e = 0 then f else e
def rBool (zs : List Int) (e : Int) : Bool × List Int × Int := ((rOct zs e).1 == 1, (rOct zs e).2.1, if 1 < (rOct zs e).1 then failI (rOct zs e).2.2 2 else (rOct zs e).2.2)
/-- A length, which cannot be greater than what is left. -/
def rLen (zs : List Int) (e : Int) : Nat × List Int × Int := ((rUint zs e).1, (rUint zs e).2.1, if (rUint zs e).2.1.length < (rUint zs e).1 then failI (rUint zs e).2.2 3 else (rUint zs e).2.2)
def rRaw (zs : List Int) (e : Int) : List Int × List Int × Int :=
  if (rLen zs e).2.2 = 0 then ((rLen zs e).2.1.take (rLen zs e).1, (rLen zs e).2.1.drop (rLen zs e).1, 0) else ([], (rLen zs e).2)
/-- So many signed numbers, behind those that were read. -/
def rMany : Nat → List Int → List Int → Int → List Int × List Int × Int
  | 0, l, zs, e => (l, zs, e)
  | n + 1, l, zs, e => if (rInt zs e).2.2 = 0 then rMany n (l ++ [(rInt zs e).1]) (rInt zs e).2.1 0 else ([], (rInt zs e).2)
def rInts (zs : List Int) (e : Int) : List Int × List Int × Int :=
  if (rLen zs e).2.2 = 0 then rMany (rLen zs e).1 [] (rLen zs e).2.1 0 else ([], (rLen zs e).2)
def rEnd (zs : List Int) (e : Int) : Int := if e = 0 ∧ 0 < zs.length then 2 else e
end Go.Proofs.Ytmfekbljfnjkgaa
