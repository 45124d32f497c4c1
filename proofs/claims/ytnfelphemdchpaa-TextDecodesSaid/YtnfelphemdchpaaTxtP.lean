/- Plain facts on the bytes of code points. -/
import Derived.Test.YtnfelphemdchpaaTxtL
import Derived.Laws.Bits64
import Derived.Laws.Bits64b
import Derived.Laws.BitsAllLaws
namespace Go.Proofs.Ytnfelphemdchpaa
open Go.RowKit Go.Shelf
set_option linter.unusedVariables false

theorem orI64 (a b : Nat) (h : a ||| b < 9223372036854775808) (ha : a < 9223372036854775808) (hb : b < 9223372036854775808) : bits .or .i64 (a : Int) (b : Int) = ((a ||| b : Nat) : Int) := by
  have h1 : (BitVec.ofInt 64 (a : Int)).toNat = a := by
    rw [BitVec.ofInt_natCast, BitVec.toNat_ofNat]; exact Nat.mod_eq_of_lt (by omega)
  have h2 : (BitVec.ofInt 64 (b : Int)).toNat = b := by
    rw [BitVec.ofInt_natCast, BitVec.toNat_ofNat]; exact Nat.mod_eq_of_lt (by omega)
  show IntKind.i64.wrap ((BitVec.ofInt 64 (a : Int) ||| BitVec.ofInt 64 (b : Int)).toNat : Int) = _
  rw [BitVec.toNat_or, h1, h2]
  exact IntWalk.i64_in _ (by omega)
theorem or_low (s c : Nat) (hc : c < 64) : s * 64 ||| c = s * 64 + c := by
  rw [show s * 64 = s <<< 6 from by rw [Nat.shiftLeft_eq]]
  exact (Nat.shiftLeft_add_eq_or_of_lt (i := 6) hc s).symm
/-- The first byte of the form k, the limits, and how great the number in its first byte can be. -/
def limA : Nat → Int
  | 0 => 128 | 1 => 2048 | 2 => 65536 | 3 => 1114112 | _ => 0
def leadA : Nat → Int
  | 0 => 0 | 1 => 192 | 2 => 224 | 3 => 240 | _ => 0
def leastA : Nat → Int
  | 0 => 0 | 1 => 128 | 2 => 2048 | 3 => 65536 | _ => 1114112
def capA : Nat → Int
  | 0 => 127 | 1 => 31 | 2 => 15 | 3 => 4 | _ => 0
def contB (c : Int) : Bool := decide (128 ≤ c ∧ c < 192)
def contsI : Int → List Int → Option Int
  | s, [] => some s
  | s, c :: cs => if contB c then contsI (64 * s + (c - 128)) cs else none
def tryA (b : List Int) (k : Nat) : Option (Int × Int) :=
  if 0 ≤ b[0]?.getD 0 - leadA k ∧ b[0]?.getD 0 - leadA k ≤ capA k ∧ k < b.length then
    some (match contsI (b[0]?.getD 0 - leadA k) ((b.drop 1).take k) with
      | none => (0, 0)
      | some t => if t < leastA k ∨ limA k ≤ t ∨ isSymB t true = false then (0, 0) else (t, 1 + (k : Int)))
  else none
def nextN (b : List Int) : Nat → Int × Int
  | 0 => (0, 0)
  | n + 1 => (tryA b (3 - n)).getD (nextN b n)
/-- The code point that bytes begin with, and the number of its bytes. -/
def nextI (b : List Int) : Int × Int := nextN b 4
theorem nextN_step (b : List Int) (k : Nat) (h : k < 4) : nextN b (4 - k) = (tryA b k).getD (nextN b (4 - (k + 1))) := by
  rw [show 4 - k = (4 - (k + 1)) + 1 from by omega]
  show (tryA b (3 - (4 - (k + 1)))).getD _ = _
  rw [show 3 - (4 - (k + 1)) = k from by omega]
theorem limA_rng (k : Nat) (h : k < 4) : 128 ≤ limA k ∧ limA k ≤ 1114112 ∧ 0 ≤ leadA k ∧ leadA k ≤ 240 := by
  match k, h with
  | 0, _ => decide
  | 1, _ => decide
  | 2, _ => decide
  | 3, _ => decide
theorem capA_eq (k : Nat) (h : k < 4) : (limA k - 1) / 2 ^ (6 * k) = capA k := by
  match k, h with
  | 0, _ => decide
  | 1, _ => decide
  | 2, _ => decide
  | 3, _ => decide
theorem capA_pow (k : Nat) (h : k < 4) : capA k < 128 ∧ (capA k + 1) * 64 ^ k ≤ 2097152 := by
  match k, h with
  | 0, _ => decide
  | 1, _ => decide
  | 2, _ => decide
  | 3, _ => decide
theorem leastA_succ (k : Nat) (h : k < 4) : leastA (k + 1) = limA k := by
  match k, h with
  | 0, _ => rfl
  | 1, _ => rfl
  | 2, _ => rfl
  | 3, _ => rfl
theorem tryA_no (l : List Int) (k : Nat) (h : ¬ (leadA k ≤ l[0]?.getD 0 ∧ l[0]?.getD 0 - leadA k ≤ capA k ∧ k < l.length)) : tryA l k = none := by
  unfold tryA
  rw [if_neg (by rintro ⟨h1, h2, h3⟩; exact h ⟨by omega, h2, h3⟩)]
def outA (k : Nat) : Option Int → Int × Int
  | none => (0, 0)
  | some t => if t < leastA k ∨ limA k ≤ t ∨ isSymB t true = false then (0, 0) else (t, 1 + (k : Int))
theorem tryA_yes (l : List Int) (k : Nat) (h1 : leadA k ≤ l[0]?.getD 0) (h2 : l[0]?.getD 0 - leadA k ≤ capA k) (h3 : k < l.length) : tryA l k = some (outA k (contsI (l[0]?.getD 0 - leadA k) ((l.drop 1).take k))) := by
  unfold tryA
  rw [if_pos ⟨by omega, h2, h3⟩]
  unfold outA
  rfl
theorem contsI_step (s : Int) (l : List Int) (k j : Nat) (hj : j < k) (hk : k < l.length) : contsI s (((l.drop 1).take k).drop j) = if contB (l[1 + j]?.getD 0) then contsI (64 * s + (l[1 + j]?.getD 0 - 128)) (((l.drop 1).take k).drop (j + 1)) else none := by
  have hl : j < ((l.drop 1).take k).length := by simp; omega
  rw [List.drop_eq_getElem_cons hl]
  have e : ((l.drop 1).take k)[j] = l[1 + j]?.getD 0 := by
    rw [List.getElem_take, List.getElem_drop, List.getElem?_eq_getElem (by omega), Option.getD_some]
  rw [e]
  rfl
theorem contsI_all (s : Int) (l : List Int) (k : Nat) : contsI s (((l.drop 1).take k).drop k) = some s := by
  rw [List.drop_eq_nil_of_le (by simp; omega)]; rfl
theorem low63 (c : Nat) (h : c < 256) : bits .and .u8 (c : Int) 63 = ((c % 64 : Nat) : Int) := by
  rw [show (63 : Int) = ((63 : Nat) : Int) from rfl, u8_and_nat _ _ (by omega) (by omega)]
  congr 1
  exact Nat.and_two_pow_sub_one_eq_mod c 6
theorem pow64 (j : Nat) (h : j ≤ 2) : (64 : Int) ^ j ≤ 4096 := by
  match j, h with
  | 0, _ => decide
  | 1, _ => decide
  | 2, _ => decide
theorem joinA (S c : Int) (h0 : 0 ≤ S) (h1 : S ≤ 1000000) (hc : contB c = true) : bits .or .i64 (S * 64) (c % 64) = 64 * S + (c - 128) := by
  have hc' : 128 ≤ c ∧ c < 192 := by unfold contB at hc; simpa using hc
  obtain ⟨s, rfl⟩ := Int.eq_ofNat_of_zero_le h0
  obtain ⟨x, rfl⟩ := Int.eq_ofNat_of_zero_le (show 0 ≤ c by omega)
  rw [show ((x : Int) % 64) = ((x % 64 : Nat) : Int) from by simp, show ((s : Int) * 64) = ((s * 64 : Nat) : Int) from by simp]
  have e := or_low s (x % 64) (Nat.mod_lt _ (by decide))
  have h2 : s * 64 ||| x % 64 < 9223372036854775808 := by rw [e]; omega
  rw [orI64 _ _ h2 (by omega) (by omega), e]
  omega
end Go.Proofs.Ytnfelphemdchpaa
