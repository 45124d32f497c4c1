/- Plain facts on the hash: no Go in sight. -/
import Derived.Laws.Bits64
namespace Go.Proofs.Ytjgeefnackhnpaa

/-- Mixing, on 64 bits. -/
def mixB (a b : BitVec 64) : BitVec 64 := ((a ^^^ b) * 11400714819323198485#64) ^^^ (((a ^^^ b) * 11400714819323198485#64) >>> 32)

/-- Mixing, as the model has the numbers. -/
def mixI (a b : Int) : Int :=
  bits .xor .u64 (IntKind.u64.wrap (bits .xor .u64 a b * 11400714819323198485)) (IntKind.u64.wrap (bits .xor .u64 a b * 11400714819323198485) / 4294967296)

theorem xorI (a b : Int) : bits .xor .u64 a b = ((BitVec.ofInt 64 a ^^^ BitVec.ofInt 64 b).toNat : Int) := by
  show IntKind.u64.wrap ((BitVec.ofInt 64 a ^^^ BitVec.ofInt 64 b).toNat : Int) = _
  rw [IntKind.wrap_u64]
  have := (BitVec.ofInt 64 a ^^^ BitVec.ofInt 64 b).isLt
  omega

theorem wrapI (n : Int) : IntKind.u64.wrap n = ((BitVec.ofInt 64 n).toNat : Int) := by
  rw [IntKind.wrap_u64, BitVec.toNat_ofInt]
  omega

theorem ofInt_toNat (x : BitVec 64) : BitVec.ofInt 64 (x.toNat : Int) = x := by
  rw [BitVec.ofInt_natCast, BitVec.ofNat_toNat, BitVec.setWidth_eq]

theorem mixI_eq (a b : Int) : mixI a b = ((mixB (BitVec.ofInt 64 a) (BitVec.ofInt 64 b)).toNat : Int) := by
  unfold mixI mixB
  have h : IntKind.u64.wrap (bits .xor .u64 a b * 11400714819323198485) = (((BitVec.ofInt 64 a ^^^ BitVec.ofInt 64 b) * 11400714819323198485#64).toNat : Int) := by
    rw [xorI, IntKind.wrap_u64, BitVec.toNat_mul]
    generalize (BitVec.ofInt 64 a ^^^ BitVec.ofInt 64 b).toNat = n
    simp
  rw [h]
  generalize (BitVec.ofInt 64 a ^^^ BitVec.ofInt 64 b) * 11400714819323198485#64 = m
  have h2 : ((m.toNat : Int) / (4294967296 : Int)) = ((m >>> 32).toNat : Int) := by
    rw [BitVec.toNat_ushiftRight, Nat.shiftRight_eq_div_pow]
    simp
  rw [h2, xorI, ofInt_toNat, ofInt_toNat]

theorem mixI_lo (a b : Int) : 0 ≤ mixI a b := by rw [mixI_eq]; omega
theorem mixI_hi (a b : Int) : mixI a b < 18446744073709551616 := by
  rw [mixI_eq]; have := (mixB (BitVec.ofInt 64 a) (BitVec.ofInt 64 b)).isLt; omega

/-- A number and itself, moved down by 32 bits: whoever knows both together knows the number. -/
theorem shift_inj (x y : BitVec 64) (h : x ^^^ (x >>> 32) = y ^^^ (y >>> 32)) : x = y := by
  have hx : ∀ z : BitVec 64, (z ^^^ (z >>> 32)) ^^^ ((z ^^^ (z >>> 32)) >>> 32) = z := by
    intro z
    rw [BitVec.ushiftRight_xor_distrib, ← BitVec.shiftRight_add]
    have : z >>> (32 + 32) = 0#64 := by
      apply BitVec.eq_of_toNat_eq
      rw [BitVec.toNat_ushiftRight, Nat.shiftRight_eq_div_pow]
      have := z.isLt
      simp
      omega
    rw [this, BitVec.xor_zero, BitVec.xor_assoc, BitVec.xor_self, BitVec.xor_zero]
  rw [← hx x, h, hx y]

theorem mul_inj (x y : BitVec 64) (h : x * 11400714819323198485#64 = y * 11400714819323198485#64) : x = y := by
  have k : (11400714819323198485#64) * 17428512612931826493#64 = 1#64 := by decide
  have := congrArg (· * 17428512612931826493#64) h
  simpa [BitVec.mul_assoc, k] using this

theorem xor_inj_left (a b c : BitVec 64) (h : a ^^^ c = b ^^^ c) : a = b := by
  have := congrArg (· ^^^ c) h
  simpa [BitVec.xor_assoc] using this

theorem mixB_left (a b c : BitVec 64) (h : mixB a c = mixB b c) : a = b := xor_inj_left _ _ _ (mul_inj _ _ (shift_inj _ _ h))
theorem mixB_right (a b c : BitVec 64) (h : mixB c a = mixB c b) : a = b := by
  unfold mixB at h
  rw [BitVec.xor_comm c a, BitVec.xor_comm c b] at h
  exact mixB_left a b c h

theorem ofInt_inj (a b : Int) (ha : 0 ≤ a) (ha' : a < 18446744073709551616) (hb : 0 ≤ b) (hb' : b < 18446744073709551616) (h : BitVec.ofInt 64 a = BitVec.ofInt 64 b) : a = b := by
  have := congrArg BitVec.toNat h
  simp only [BitVec.toNat_ofInt] at this
  omega

theorem mixI_left (a b c : Int) (ha : 0 ≤ a) (ha' : a < 18446744073709551616) (hb : 0 ≤ b) (hb' : b < 18446744073709551616) (h : mixI a c = mixI b c) : a = b := by
  rw [mixI_eq, mixI_eq] at h
  exact ofInt_inj a b ha ha' hb hb' (mixB_left _ _ (BitVec.ofInt 64 c) (BitVec.eq_of_toNat_eq (by omega)))
theorem mixI_right (a b c : Int) (ha : 0 ≤ a) (ha' : a < 18446744073709551616) (hb : 0 ≤ b) (hb' : b < 18446744073709551616) (h : mixI c a = mixI c b) : a = b := by
  rw [mixI_eq, mixI_eq] at h
  exact ofInt_inj a b ha ha' hb hb' (mixB_right _ _ (BitVec.ofInt 64 c) (BitVec.eq_of_toNat_eq (by omega)))

/-- The word of the first j bytes from o on, as the program puts it together. -/
def wordTo (zs : List Int) (o : Nat) : Nat → Int
  | 0 => 0
  | j + 1 => bits .or .u64 (wordTo zs o j) (IntKind.u64.wrap (IntKind.u64.wrap (zs[o + j]?.getD 0) * 2 ^ (8 * j)))
/-- The first k words of a byte slice of a length. -/
def wordsUpto (zs : List Int) (len k : Nat) : List Int := (List.range k).map fun i => wordTo zs (8 * i) (min 8 (len - 8 * i))
theorem wordsUpto_length (zs : List Int) (len k : Nat) : (wordsUpto zs len k).length = k := by simp [wordsUpto]
theorem wordsUpto_succ (zs : List Int) (len k : Nat) : wordsUpto zs len (k + 1) = wordsUpto zs len k ++ [wordTo zs (8 * k) (min 8 (len - 8 * k))] := by simp [wordsUpto, List.range_succ]
/-- The words of a byte slice. -/
def wordsOf (zs : List Int) : List Int := wordsUpto zs zs.length ((zs.length + 7) / 8)
end Go.Proofs.Ytjgeefnackhnpaa
