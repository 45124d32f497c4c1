/- Package disk: a file that is appended to beside a list of the same bytes; what a crash leaves of it, and the bits that it turns. -/
import Derived.Test.YtafmapcblcnccaaDkS
import Derived.Laws.BitsAllLaws
namespace Go.Proofs.Ytafmapcblcnccaa
open Go.RowKit Go.Shelf
set_option linter.unusedVariables false

/-- File 9 with these bytes, F of them durable. -/
def stF (A : List Int) (F : Nat) : Option (Int × List Int × Nat) := if A.length = 0 then none else some (9, A, F)
def stD (A : List Int) (F : Nat) : DS := ⟨1000, -1, false, stF A F⟩
theorem stF_new (A b : List Int) (F : Nat) (hF : F ≤ A.length) : newF (stF A F) 9 b = stF (A ++ b) F := by
  unfold stF
  by_cases hA : A.length = 0
  · have e := List.eq_nil_of_length_eq_zero hA
    have hF0 : F = 0 := by omega
    subst e hF0
    rfl
  · rw [if_neg hA, if_neg (by rw [List.length_append]; omega)]
    simp [newF]
theorem stF_settle (A : List Int) (F : Nat) : settleF (stF A F) = stF A A.length := by
  unfold stF
  by_cases hA : A.length = 0
  · rw [if_pos hA, if_pos hA]; rfl
  · rw [if_neg hA, if_neg hA]; rfl
theorem stF_len (A : List Int) (F : Nat) : lenD (stF A F) = A.length := by
  unfold stF
  by_cases hA : A.length = 0
  · rw [if_pos hA, hA]; rfl
  · rw [if_neg hA]; rfl
theorem stF_key (A : List Int) (F : Nat) : keyD (stF A F) := by
  unfold stF
  by_cases hA : A.length = 0
  · rw [if_pos hA]; trivial
  · rw [if_neg hA]; exact ⟨by decide, by decide⟩
theorem stD_app (A b : List Int) (F : Nat) (hF : F ≤ A.length) (hl : A.length + b.length ≤ 1000) : (stD A F).app 9 b = (0, stD (A ++ b) F) := by
  unfold DS.app
  have e1 : ¬ (stD A F).room < (lenD (stD A F).f : Int) + b.length := by
    show ¬ (1000 : Int) < (lenD (stF A F) : Int) + b.length
    rw [stF_len]
    omega
  rw [if_neg (by decide), if_neg (by unfold stD; simp), if_neg e1]
  show ((0 : Int), (⟨1000, -1, false, newF (stF A F) 9 b⟩ : DS)) = _
  rw [stF_new A b F hF]
  rfl
theorem stD_sync (A : List Int) (F : Nat) : (stD A F).sync = (0, stD A A.length) := by
  unfold DS.sync
  rw [if_neg (by unfold stD; simp), if_neg (by unfold stD DS.stepOk; simp)]
  show ((0 : Int), (⟨1000, -1, false, settleF (stF A F)⟩ : DS)) = _
  rw [stF_settle]
  rfl
/-- The disk with D, beside it the list A in a row. -/
structure PX (w W : World) (p : Nat) (all : Value) (A D : List Int) (F : Nat) (v : Value) : Prop where
  dk : Dk W w.heap.size p w.heap.size (stD D F) v
  row : W.ownsRow w.heap.size 5 1 all A.length (A.map (Value.int .u8))
  apart : ∀ b, all.ownBlock = some b → ¬ DkB p w.heap.size v b
  below : Below w.heap.size w W
  firm : F ≤ D.length
  bytes : ∀ x ∈ A, 0 ≤ x ∧ x < 256
section
variable {w W W' : World} {p : Nat} {all v : Value} {A D : List Int} {F : Nat}
theorem PX.step (h : PX w W p all A D F v) (hb : Below W.heap.size W W') : PX w W' p all A D F v :=
  ⟨h.dk.step hb, owns_kept_below h.row hb, h.apart, stepB h.below hb, h.firm, h.bytes⟩
/-- The list is appended to. -/
theorem PX.grown {all' : Value} {b : List Int} (h : PX w W p all A D F v) (hr : W'.ownsRow w.heap.size 5 1 all' (A ++ b).length ((A ++ b).map (Value.int .u8))) (hg : W.grownBy W' all.ownBlock) (hv : all'.ownBlock = all.ownBlock ∨ all'.ownBlock = some W.heap.size) (hb : ∀ x ∈ b, 0 ≤ x ∧ x < 256) : PX w W' p all' (A ++ b) D F v := by
  have ho : OnlyP (fun k => all.ownBlock = some k) W W' := OnlyP.of_grown hg (fun k e => e)
  refine ⟨h.dk.only ho (fun k hk e => h.apart k e hk), hr, fun k hk hd => ?_, h.below.trans (ho.below (by have := h.below.size; omega) (fun k e => own_base h.row e)), h.firm, fun x hx => ?_⟩
  · rcases hv with e | e
    · exact h.apart k (by rw [← e]; exact hk) hd
    · rw [e] at hk
      injection hk with hk
      have := (h.dk.blk hd).2
      omega
  · rcases List.mem_append.1 hx with hx | hx
    · exact h.bytes x hx
    · exact hb x hx
/-- A call on the disk. -/
theorem PX.after {D' : List Int} {F' : Nat} (h : PX w W p all A D F v) (hA : DkAfter W W' w.heap.size p w.heap.size (stD D' F') v) (hF : F' ≤ D'.length) : ∃ v', PX w W' p all A D' F' v' ∧ OnlyP (DkB p w.heap.size v) W W' := by
  obtain ⟨v', h1, h2, h3⟩ := hA
  refine ⟨v', ⟨h1, owns_same h.row (fun b hb => h2.block b (owns_lt' h.row hb) (h.apart b hb)), fun b hb hd => ?_, h.below.trans (h.dk.below h2 (Nat.le_refl _)), hF, h.bytes⟩, h2⟩
  rcases hd with hd | hd | hd
  · exact h.apart b hb (.inl hd)
  · exact h.apart b hb (.inr (.inl hd))
  · rcases h3 with q | q | ⟨k, q, q'⟩
    · exact h.apart b hb (.inr (.inr (by rw [← q]; exact hd)))
    · rw [q] at hd; cases hd
    · rw [q] at hd
      injection hd with hd
      have := owns_lt' h.row hb
      omega
end
theorem pfxApp {w W : World} {p : Nat} {all v : Value} {A : List Int} {F : Nat} (h : PX w W p all A A F v) (a : Option Addr) (L c : Nat) (b : List Int) (hL : L = b.length) (base : Nat) (hr : W.ownsRow base 5 1 (.slice a L c) L (b.map (Value.int .u8))) (hq : ∀ k, DkB p w.heap.size v k → k < base) (hz : ∀ x ∈ b, 0 ≤ x ∧ x < 256) (hl : A.length + b.length ≤ 1000) :
    Calls Try.prog 21 #[.pointer (some ⟨p, 0, none⟩), .int .i64 9, .slice a L c] W fun e W' => e = .returned (.int .i64 0) ∧ W'.ownsRow base 5 1 (.slice a L c) L (b.map (Value.int .u8)) ∧ ∃ v', PX w W' p all A (A ++ b) F v' := by
  have hone : ∀ n' bs d, (stD A F).f = some (n', bs, d) → (9 : Int) ≠ n' → b = [] := by
    intro n' bs d hf hn
    have hf' : stF A F = some (n', bs, d) := hf
    unfold stF at hf'
    split at hf'
    · cases hf'
    · cases hf'; exact absurd rfl hn
  refine (append_is (s' := stD (A ++ b) F) W h.dk 9 a L c b hL (row_of_owns hr).1 (by omega) hz hone 0 (stD_app A b F h.firm hl)).mono ?_
  rintro e W' ⟨rfl, hA⟩
  obtain ⟨v', h1, h2⟩ := h.after hA (by rw [List.length_append]; have := h.firm; omega)
  exact ⟨rfl, owns_only hr h2 (fun k k1 k2 k3 => by have := hq k k3; omega), v', h1⟩
theorem pfxSync {w W : World} {p : Nat} {all v : Value} {A : List Int} {F : Nat} (h : PX w W p all A A F v) :
    Calls Try.prog 29 #[.pointer (some ⟨p, 0, none⟩)] W fun e W' => e = .returned (.int .i64 0) ∧ ∃ v', PX w W' p all A A A.length v' := by
  refine (sync_is (s' := stD A A.length) W h.dk (stF_key A F) 0 (stD_sync A F)).mono ?_
  rintro e W' ⟨rfl, hA⟩
  obtain ⟨v', h1, _⟩ := h.after hA (Nat.le_refl _)
  exact ⟨rfl, v', h1⟩
theorem crash_bytes (A : List Int) (F : Nat) (hF : F ≤ A.length) (keep : List Int) (flip : Int) : bytesAt (crashF (stF A F) keep flip) 9 = crashB A F keep flip ∧ lenD (crashF (stF A F) keep flip) ≤ A.length ∧ (crashB A F keep flip).length = F + surv keep A.length F := by
  have hs := surv_le keep A.length F hF
  have hlen : (crashB A F keep flip).length = F + surv keep A.length F := by
    unfold crashB
    split
    · rw [turn_len, List.length_take]; omega
    · rw [List.length_take]; omega
  have hnil : F + surv keep A.length F = 0 → crashB A F keep flip = [] := fun h => List.eq_nil_of_length_eq_zero (by rw [hlen]; exact h)
  unfold stF
  by_cases hA : A.length = 0
  · rw [if_pos hA]
    refine ⟨?_, by show lenD none ≤ _; rw [len_none]; omega, hlen⟩
    rw [hnil (by omega)]
    rfl
  · rw [if_neg hA]
    show bytesAt (if F + surv keep A.length F = 0 then none else some (9, crashB A F keep flip, (crashB A F keep flip).length)) 9 = _ ∧ lenD (if F + surv keep A.length F = 0 then none else some (9, crashB A F keep flip, (crashB A F keep flip).length)) ≤ _ ∧ _
    by_cases h0 : F + surv keep A.length F = 0
    · rw [if_pos h0, hnil h0]
      exact ⟨rfl, Nat.zero_le _, by rw [h0]; rfl⟩
    · rw [if_neg h0]
      refine ⟨by simp [bytesAt], ?_, hlen⟩
      show (crashB A F keep flip).length ≤ _
      omega
theorem xor8_self (x : Int) (h1 : 0 ≤ x) (h2 : x < 256) : bits .xor .u8 x x = 0 := by
  rw [u8_xor x x h1 h2 h1 h2, Nat.xor_self]
  rfl
theorem xor8_back (x y : Int) (h1 : 0 ≤ x) (h2 : x < 256) (h3 : 0 ≤ y) (h4 : y < 256) : bits .xor .u8 (bits .xor .u8 x y) x = y := by
  have hr := xor8_rng' x y
  rw [u8_xor _ x hr.1 hr.2 h1 h2, u8_xor x y h1 h2 h3 h4, Int.toNat_natCast, Nat.xor_comm x.toNat y.toNat, Nat.xor_assoc, Nat.xor_self, Nat.xor_zero]
  omega
/-- The mask is a power of two. -/
theorem mask_pow (b : Nat) : ∃ j : Nat, j ≤ 7 ∧ (128 : Int) / 2 ^ min (b % 8) 8 = 2 ^ j := by
  have h : b % 8 < 8 := Nat.mod_lt _ (by decide)
  refine ⟨7 - b % 8, by omega, ?_⟩
  generalize b % 8 = r at h
  rcases r with _ | _ | _ | _ | _ | _ | _ | _ | r
  all_goals first | omega | decide
/-- Was a bit turned? -/
def isTurn (F K : Nat) (flip : Int) : Prop := 0 ≤ flip ∧ 0 < K
/-- The place of the byte that is turned. -/
def turnAt (F K : Nat) (flip : Int) : Nat := bitAt flip K F / 8
theorem turnAt_lo (F K : Nat) (flip : Int) : F ≤ turnAt F K flip := by
  unfold turnAt bitAt; omega
theorem turnAt_hi (F K : Nat) (flip : Int) (hK : 0 < K) : turnAt F K flip < F + K := by
  unfold turnAt bitAt
  have h1 : 0 ≤ flip % (8 * (K : Int)) := Int.emod_nonneg _ (by omega)
  have h2 : flip % (8 * (K : Int)) < 8 * (K : Int) := Int.emod_lt_of_pos _ (by omega)
  omega
/-- What differs at place i. -/
theorem crash_diffs (A : List Int) (F : Nat) (hF : F ≤ A.length) (keep : List Int) (flip : Int) (hz : ∀ x ∈ A, 0 ≤ x ∧ x < 256) (K : Nat) (hK : K = surv keep A.length F) (i : Nat) (hi : i < F + K) :
    ∃ y : Int, bits .xor .u8 ((crashB A F keep flip)[i]?.getD 0) (A[i]?.getD 0) = y ∧ ((isTurn F K flip ∧ i = turnAt F K flip ∧ ∃ j : Nat, j ≤ 7 ∧ y = 2 ^ j) ∨ (¬ (isTurn F K flip ∧ i = turnAt F K flip) ∧ y = 0)) := by
  have hs := surv_le keep A.length F hF
  rw [← hK] at hs
  have hiA : i < A.length := by omega
  have hb : 0 ≤ A[i]?.getD 0 ∧ A[i]?.getD 0 < 256 := by
    rw [List.getElem?_eq_getElem hiA]
    exact hz _ (List.getElem_mem _)
  have ht : (A.take (F + K))[i]?.getD 0 = A[i]?.getD 0 := by rw [List.getElem?_take, if_pos hi]
  refine ⟨_, rfl, ?_⟩
  unfold crashB
  rw [← hK]
  by_cases hT : 0 ≤ flip ∧ 0 < K
  · rw [if_pos hT]
    unfold turnB
    by_cases hx : i = turnAt F K flip
    · left
      refine ⟨hT, hx, ?_⟩
      have hx' : bitAt flip K F / 8 = i := hx.symm
      rw [hx', List.getElem?_set_self (by rw [List.length_take]; omega), Option.getD_some, ht]
      obtain ⟨j, h1, h2⟩ := mask_pow (bitAt flip K F)
      rw [h2]
      refine ⟨j, h1, ?_⟩
      have hp : (0 : Int) ≤ 2 ^ j ∧ (2 : Int) ^ j < 256 := by
        rcases j with _ | _ | _ | _ | _ | _ | _ | _ | j
        all_goals first | omega | decide
      exact xor8_back _ _ hb.1 hb.2 hp.1 hp.2
    · right
      refine ⟨fun h => hx h.2, ?_⟩
      rw [List.getElem?_set_ne (fun e => hx (by rw [← e]; rfl)), ht]
      exact xor8_self _ hb.1 hb.2
  · rw [if_neg hT, ht]
    exact .inr ⟨fun h => hT h.1, xor8_self _ hb.1 hb.2⟩
/-- The bits turned before place i. -/
def turnsTo (F K : Nat) (flip : Int) (i : Nat) : Int := if (0 ≤ flip ∧ 0 < K) ∧ turnAt F K flip < i then 1 else 0
theorem turns_at {F K : Nat} {flip : Int} {i : Nat} (h : isTurn F K flip ∧ i = turnAt F K flip) : turnsTo F K flip i = 0 ∧ turnsTo F K flip (i + 1) = 1 := by
  unfold turnsTo
  exact ⟨if_neg (fun g => by have := g.2; omega), if_pos ⟨h.1, by omega⟩⟩
theorem turns_not {F K : Nat} {flip : Int} {i : Nat} (h : ¬ (isTurn F K flip ∧ i = turnAt F K flip)) : turnsTo F K flip (i + 1) = turnsTo F K flip i := by
  unfold turnsTo
  by_cases h1 : 0 ≤ flip ∧ 0 < K
  · by_cases h2 : turnAt F K flip < i
    · rw [if_pos ⟨h1, by omega⟩, if_pos ⟨h1, h2⟩]
    · have h3 : ¬ turnAt F K flip < i + 1 := fun h3 => h ⟨h1, by omega⟩
      rw [if_neg (fun g => h3 g.2), if_neg (fun g => h2 g.2)]
  · rw [if_neg (fun g => h1 g.1), if_neg (fun g => h1 g.1)]
theorem turns_zero (F K : Nat) (flip : Int) : turnsTo F K flip 0 = 0 := by unfold turnsTo; exact if_neg (fun g => by have := g.2; omega)
theorem turns_all (F K : Nat) (flip : Int) : turnsTo F K flip (F + K) = if 0 ≤ flip ∧ 0 < K then 1 else 0 := by
  unfold turnsTo
  by_cases h1 : 0 ≤ flip ∧ 0 < K
  · rw [if_pos ⟨h1, turnAt_hi F K flip h1.2⟩, if_pos h1]
  · rw [if_neg (fun g => h1 g.1), if_neg h1]
theorem turns_rng (F K : Nat) (flip : Int) (i : Nat) : 0 ≤ turnsTo F K flip i ∧ turnsTo F K flip i ≤ 1 := by
  unfold turnsTo
  split <;> exact ⟨by decide, by decide⟩
/-- One bit of a byte. -/
def Pow8 (y : Int) : Prop := y = 1 ∨ y = 2 ∨ y = 4 ∨ y = 8 ∨ y = 16 ∨ y = 32 ∨ y = 64 ∨ y = 128
theorem pow8_of (j : Nat) (h : j ≤ 7) : Pow8 (2 ^ j) := by
  unfold Pow8
  rcases j with _ | _ | _ | _ | _ | _ | _ | _ | j
  all_goals first | omega | decide
/-- What stands at place i, and how many bits are turned behind it. -/
theorem crash_step (A : List Int) (F : Nat) (hF : F ≤ A.length) (keep : List Int) (flip : Int) (hz : ∀ x ∈ A, 0 ≤ x ∧ x < 256) (K : Nat) (hK : K = surv keep A.length F) (i : Nat) (hi : i < F + K) :
    ∃ y : Int, bits .xor .u8 ((crashB A F keep flip)[i]?.getD 0) (A[i]?.getD 0) = y ∧ ((Pow8 y ∧ turnsTo F K flip i = turnsTo F K flip (i + 1) - 1) ∨ (y = 0 ∧ turnsTo F K flip i = turnsTo F K flip (i + 1))) := by
  obtain ⟨y, hy, h⟩ := crash_diffs A F hF keep flip hz K hK i hi
  refine ⟨y, hy, ?_⟩
  rcases h with ⟨h1, h2, j, h3, h4⟩ | ⟨h1, h2⟩
  · left
    obtain ⟨t1, t2⟩ := turns_at ⟨h1, h2⟩
    exact ⟨by rw [h4]; exact pow8_of j h3, by rw [t1, t2]; rfl⟩
  · exact .inr ⟨h2, (turns_not h1).symm⟩
/-- What is durable stays. -/
theorem crash_firm (A : List Int) (F : Nat) (hF : F ≤ A.length) (keep : List Int) (flip : Int) : (crashB A F keep flip).take F = A.take F := by
  have hs := surv_le keep A.length F hF
  unfold crashB
  split
  · unfold turnB
    have h : F ≤ bitAt flip (surv keep A.length F) F / 8 := turnAt_lo F (surv keep A.length F) flip
    rw [List.take_set_of_le h, List.take_take, Nat.min_eq_left (by omega)]
  · rw [List.take_take, Nat.min_eq_left (by omega)]
theorem below_drewP {n : Nat} {A B : World} (h : Below n A B) (k : Nat) : Below n A (B.drewN k) := ⟨h.os, h.tape, h.output, h.size, h.block⟩
theorem row_takeP {k : IntKind} {n₀ : Nat} {W : World} {a : Option Addr} {n cap : Nat} {zs : List Int} (h : Row k n₀ W (.slice a n cap) zs) (j : Nat) (hj : j ≤ zs.length) : Row k n₀ W (.slice a j cap) (zs.take j) := by
  rcases h with ⟨a', cap', e, h1, h2, rfl⟩ | ⟨b, off, cap', e, h1, h2, hb, hc⟩
  · simp at hj
    subst hj
    injection e with e1 _ e3
    subst e1 e3
    exact .inl ⟨_, _, rfl, h1, h2, rfl⟩
  · injection e with e1 _ e3
    subst e1 e3
    have hl : (zs.take j).length = j := by rw [List.length_take]; omega
    by_cases h0 : j = 0
    · subst h0
      exact .inl ⟨_, _, rfl, h2, (fun h => by cases h), rfl⟩
    · refine .inr ⟨b, off, cap, by rw [hl], by omega, h2, hb, fun i hi => ?_⟩
      rw [hl] at hi
      rw [hc i (by omega), List.getElem?_take, if_pos hi]
end Go.Proofs.Ytafmapcblcnccaa
