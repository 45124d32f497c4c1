/- Plain facts on the hash: no Go in sight. -/
import Derived.Laws.Bits64
namespace Go.Proofs.Ytafmapcblcnccaa

/-- Mixing, on 64 bits. -/
def mixB (a b : BitVec 64) : BitVec 64 := ((a ^^^ b) * 11400714819323198485#64) ^^^ (((a ^^^ b) * 11400714819323198485#64) >>> 32)

/-- Mixing, as the model has the numbers. -/
def mixI (a b : Int) : Int :=
  bits .xor .u64 (IntKind.u64.wrap (bits .xor .u64 a b * 11400714819323198485)) (IntKind.u64.wrap (bits .xor .u64 a b * 11400714819323198485) / 4294967296)

theorem xorI (a b : Int) : bits .xor .u64 a b = ((BitVec.ofInt 64 a ^^^ BitVec.ofInt 64 b).toNat : Int) := by
  show IntKind.u64.wrap ((BitVec.ofInt 64 a ^^^ BitVec.ofInt 64 b).toNat : Int) = _
  rw [IntKind.wrap_u64]
  have := (BitVec.ofInt 64 a ^^^ BitVec.ofInt 64 b).isLt
  omega

theorem wrapI (n : Int) : IntKind.u64.wrap n = ((BitVec.ofInt 64 n).toNat : Int) := by
  rw [IntKind.wrap_u64, BitVec.toNat_ofInt]
  omega

theorem ofInt_toNat (x : BitVec 64) : BitVec.ofInt 64 (x.toNat : Int) = x := by
  rw [BitVec.ofInt_natCast, BitVec.ofNat_toNat, BitVec.setWidth_eq]

theorem mixI_eq (a b : Int) : mixI a b = ((mixB (BitVec.ofInt 64 a) (BitVec.ofInt 64 b)).toNat : Int) := by
  unfold mixI mixB
  have h : IntKind.u64.wrap (bits .xor .u64 a b * 11400714819323198485) = (((BitVec.ofInt 64 a ^^^ BitVec.ofInt 64 b) * 11400714819323198485#64).toNat : Int) := by
    rw [xorI, IntKind.wrap_u64, BitVec.toNat_mul]
    generalize (BitVec.ofInt 64 a ^^^ BitVec.ofInt 64 b).toNat = n
    simp
  rw [h]
  generalize (BitVec.ofInt 64 a ^^^ BitVec.ofInt 64 b) * 11400714819323198485#64 = m
  have h2 : ((m.toNat : Int) / (4294967296 : Int)) = ((m >>> 32).toNat : Int) := by
    rw [BitVec.toNat_ushiftRight, Nat.shiftRight_eq_div_pow]
    simp
  rw [h2, xorI, ofInt_toNat, ofInt_toNat]

theorem mixI_lo (a b : Int) : 0 ≤ mixI a b := by rw [mixI_eq]; omega
theorem mixI_hi (a b : Int) : mixI a b < 18446744073709551616 := by
  rw [mixI_eq]; have := (mixB (BitVec.ofInt 64 a) (BitVec.ofInt 64 b)).isLt; omega

/-- A number and itself, moved down by 32 bits: whoever knows both together knows the number. -/
theorem shift_inj (x y : BitVec 64) (h : x ^^^ (x >>> 32) = y ^^^ (y >>> 32)) : x = y := by
  have hx : ∀ z : BitVec 64, (z ^^^ (z >>> 32)) ^^^ ((z ^^^ (z >>> 32)) >>> 32) = z := by
    intro z
    rw [BitVec.ushiftRight_xor_distrib, ← BitVec.shiftRight_add]
    have : z >>> (32 + 32) = 0#64 := by
      apply BitVec.eq_of_toNat_eq
      rw [BitVec.toNat_ushiftRight, Nat.shiftRight_eq_div_pow]
      have := z.isLt
      simp
      omega
    rw [this, BitVec.xor_zero, BitVec.xor_assoc, BitVec.xor_self, BitVec.xor_zero]
  rw [← hx x, h, hx y]

theorem mul_inj (x y : BitVec 64) (h : x * 11400714819323198485#64 = y * 11400714819323198485#64) : x = y := by
  have k : (11400714819323198485#64) * 17428512612931826493#64 = 1#64 := by decide
  have := congrArg (· * 17428512612931826493#64) h
  simpa [BitVec.mul_assoc, k] using this

theorem xor_inj_left (a b c : BitVec 64) (h : a ^^^ c = b ^^^ c) : a = b := by
  have := congrArg (· ^^^ c) h
  simpa [BitVec.xor_assoc] using this

theorem mixB_left (a b c : BitVec 64) (h : mixB a c = mixB b c) : a = b := xor_inj_left _ _ _ (mul_inj _ _ (shift_inj _ _ h))
theorem mixB_right (a b c : BitVec 64) (h : mixB c a = mixB c b) : a = b := by
  unfold mixB at h
  rw [BitVec.xor_comm c a, BitVec.xor_comm c b] at h
  exact mixB_left a b c h

theorem ofInt_inj (a b : Int) (ha : 0 ≤ a) (ha' : a < 18446744073709551616) (hb : 0 ≤ b) (hb' : b < 18446744073709551616) (h : BitVec.ofInt 64 a = BitVec.ofInt 64 b) : a = b := by
  have := congrArg BitVec.toNat h
  simp only [BitVec.toNat_ofInt] at this
  omega

theorem mixI_left (a b c : Int) (ha : 0 ≤ a) (ha' : a < 18446744073709551616) (hb : 0 ≤ b) (hb' : b < 18446744073709551616) (h : mixI a c = mixI b c) : a = b := by
  rw [mixI_eq, mixI_eq] at h
  exact ofInt_inj a b ha ha' hb hb' (mixB_left _ _ (BitVec.ofInt 64 c) (BitVec.eq_of_toNat_eq (by omega)))
theorem mixI_right (a b c : Int) (ha : 0 ≤ a) (ha' : a < 18446744073709551616) (hb : 0 ≤ b) (hb' : b < 18446744073709551616) (h : mixI c a = mixI c b) : a = b := by
  rw [mixI_eq, mixI_eq] at h
  exact ofInt_inj a b ha ha' hb hb' (mixB_right _ _ (BitVec.ofInt 64 c) (BitVec.eq_of_toNat_eq (by omega)))

/-- The word of the first j bytes from o on, as the program puts it together. -/
def wordTo (zs : List Int) (o : Nat) : Nat → Int
  | 0 => 0
  | j + 1 => bits .or .u64 (wordTo zs o j) (IntKind.u64.wrap (IntKind.u64.wrap (zs[o + j]?.getD 0) * 2 ^ (8 * j)))
/-- The first k words of a byte slice of a length. -/
def wordsUpto (zs : List Int) (len k : Nat) : List Int := (List.range k).map fun i => wordTo zs (8 * i) (min 8 (len - 8 * i))
theorem wordsUpto_length (zs : List Int) (len k : Nat) : (wordsUpto zs len k).length = k := by simp [wordsUpto]
theorem wordsUpto_succ (zs : List Int) (len k : Nat) : wordsUpto zs len (k + 1) = wordsUpto zs len k ++ [wordTo zs (8 * k) (min 8 (len - 8 * k))] := by simp [wordsUpto, List.range_succ]
/-- The words of a byte slice. -/
def wordsOf (zs : List Int) : List Int := wordsUpto zs zs.length ((zs.length + 7) / 8)
/-- The word of the m bytes from o on, as the reference model puts it together, from the last byte on: j bytes are done. -/
def refTo (zs : List Int) (o m : Nat) : Nat → Int
  | 0 => 0
  | j + 1 => IntKind.u64.wrap (IntKind.u64.wrap (256 * refTo zs o m j) + IntKind.u64.wrap (zs[o + (m - 1 - j)]?.getD 0))

theorem wordsOf_length (zs : List Int) : (wordsOf zs).length = (zs.length + 7) / 8 := wordsUpto_length _ _ _
/-- Little-endian. -/
def leN (f : Nat → Nat) : Nat → Nat
  | 0 => 0
  | j + 1 => leN f j + f j * 2 ^ (8 * j)
theorem leN_lt (f : Nat → Nat) (j : Nat) (h : ∀ i, f i < 256) : leN f j < 2 ^ (8 * j) := by
  induction j with
  | zero => simp [leN]
  | succ j ih =>
    have h1 := h j
    have h2 : f j * 2 ^ (8 * j) ≤ 255 * 2 ^ (8 * j) := Nat.mul_le_mul_right _ (by omega)
    have h3 : 2 ^ (8 * (j + 1)) = 256 * 2 ^ (8 * j) := by rw [Nat.mul_succ, Nat.pow_add, Nat.mul_comm]
    simp only [leN]
    omega
theorem leN_front (f : Nat → Nat) (j : Nat) : leN f (j + 1) = f 0 + 256 * leN (fun i => f (i + 1)) j := by
  induction j with
  | zero => simp [leN]
  | succ j ih =>
    have h3 : 2 ^ (8 * (j + 1)) = 256 * 2 ^ (8 * j) := by rw [Nat.mul_succ, Nat.pow_add, Nat.mul_comm]
    rw [leN, ih, h3]
    simp only [leN]
    rw [Nat.mul_add, ← Nat.mul_assoc, Nat.mul_comm (f (j + 1)) 256, Nat.mul_assoc, Nat.add_assoc]
theorem leN_congr (f g : Nat → Nat) (j : Nat) (h : ∀ i, i < j → f i = g i) : leN f j = leN g j := by
  induction j with
  | zero => rfl
  | succ j ih => rw [leN, leN, ih (fun i hi => h i (by omega)), h j (by omega)]
theorem orI (a b : Nat) (ha : a < 18446744073709551616) (hb : b < 18446744073709551616) : bits .or .u64 (a : Int) (b : Int) = ((a ||| b : Nat) : Int) := by
  have h1 : (BitVec.ofInt 64 (a : Int)).toNat = a := by
    rw [BitVec.ofInt_natCast, BitVec.toNat_ofNat]; exact Nat.mod_eq_of_lt (by omega)
  have h2 : (BitVec.ofInt 64 (b : Int)).toNat = b := by
    rw [BitVec.ofInt_natCast, BitVec.toNat_ofNat]; exact Nat.mod_eq_of_lt (by omega)
  have hx : a ||| b < 2 ^ 64 := Nat.or_lt_two_pow (by omega) (by omega)
  show IntKind.u64.wrap ((BitVec.ofInt 64 (a : Int) ||| BitVec.ofInt 64 (b : Int)).toNat : Int) = _
  rw [BitVec.toNat_or, h1, h2, IntKind.wrap_u64]
  omega
theorem wordTo_eq (zs : List Int) (o j : Nat) (hj : j ≤ 8) (hz : ∀ i : Nat, 0 ≤ zs[i]?.getD 0 ∧ zs[i]?.getD 0 < 256) : wordTo zs o j = ((leN (fun i => (zs[o + i]?.getD 0).toNat) j : Nat) : Int) := by
  induction j with
  | zero => rfl
  | succ j ih =>
    have hl := leN_lt (fun i => (zs[o + i]?.getD 0).toNat) j (fun i => by have := hz (o + i); omega)
    have hl2 := leN_lt (fun i => (zs[o + i]?.getD 0).toNat) (j + 1) (fun i => by have := hz (o + i); omega)
    have hp : 2 ^ (8 * (j + 1)) ≤ 2 ^ 64 := Nat.pow_le_pow_right (by decide) (by omega)
    have hp2 : 2 ^ (8 * j) ≤ 2 ^ 56 := Nat.pow_le_pow_right (by decide) (by omega)
    obtain ⟨hx0, hx1⟩ := hz (o + j)
    simp only [wordTo, ih (by omega)]
    simp only [leN] at hl2 ⊢
    obtain ⟨x, hx⟩ := Int.eq_ofNat_of_zero_le hx0
    rw [hx] at hx1 hl2 ⊢
    simp only [Int.toNat_natCast] at hl2 ⊢
    have hxn : x < 256 := by omega
    have e1 : IntKind.u64.wrap (IntKind.u64.wrap (x : Int) * 2 ^ (8 * j)) = ((x * 2 ^ (8 * j) : Nat) : Int) := by
      rw [IntKind.wrap_u64 (x : Int), IntKind.wrap_u64]
      have e2 : (x : Int) % 18446744073709551616 = x := by omega
      rw [e2, show ((x : Int) * 2 ^ (8 * j)) = ((x * 2 ^ (8 * j) : Nat) : Int) from by simp]
      have : x * 2 ^ (8 * j) < 18446744073709551616 := by omega
      omega
    rw [e1, orI _ _ (by omega) (by omega)]
    congr 1
    rw [Nat.or_comm, ← Nat.shiftLeft_eq, ← Nat.shiftLeft_add_eq_or_of_lt hl, Nat.add_comm]
theorem refTo_eq (zs : List Int) (o m j : Nat) (hj : j ≤ m) (hm : m ≤ 8) (hz : ∀ i : Nat, 0 ≤ zs[i]?.getD 0 ∧ zs[i]?.getD 0 < 256) : refTo zs o m j = ((leN (fun i => (zs[o + (m - j + i)]?.getD 0).toNat) j : Nat) : Int) := by
  induction j with
  | zero => rfl
  | succ j ih =>
    have hl := leN_lt (fun i => (zs[o + (m - j + i)]?.getD 0).toNat) j (fun i => by have := hz (o + (m - j + i)); omega)
    have hp2 : 2 ^ (8 * j) ≤ 2 ^ 56 := Nat.pow_le_pow_right (by decide) (by omega)
    obtain ⟨hx0, hx1⟩ := hz (o + (m - 1 - j))
    rw [leN_front]
    simp only [refTo, ih (by omega)]
    have e3 : (fun i => (zs[o + (m - (j + 1) + (i + 1))]?.getD 0).toNat) = (fun i => (zs[o + (m - j + i)]?.getD 0).toNat) := by
      funext i; rw [show m - (j + 1) + (i + 1) = m - j + i from by omega]
    rw [e3, show o + (m - (j + 1) + 0) = o + (m - 1 - j) from by omega]
    obtain ⟨x, hx⟩ := Int.eq_ofNat_of_zero_le hx0
    rw [hx] at hx1 ⊢
    generalize leN (fun i => (zs[o + (m - j + i)]?.getD 0).toNat) j = y at hl ⊢
    simp only [IntKind.wrap_u64, Int.toNat_natCast]
    omega
theorem wordTo_refTo (zs : List Int) (o m : Nat) (hm : m ≤ 8) (hz : ∀ i : Nat, 0 ≤ zs[i]?.getD 0 ∧ zs[i]?.getD 0 < 256) : wordTo zs o m = refTo zs o m m := by
  rw [wordTo_eq zs o m hm hz, refTo_eq zs o m m (Nat.le_refl _) hm hz]
  congr 1
  apply leN_congr
  intro i _
  rw [show m - m + i = i from by omega]
end Go.Proofs.Ytafmapcblcnccaa
