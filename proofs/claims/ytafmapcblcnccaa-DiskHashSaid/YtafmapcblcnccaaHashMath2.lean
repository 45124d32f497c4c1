/- Plain facts on the hash, for the laws on one word, one group, one byte of the label. -/
import Derived.Test.YtafmapcblcnccaaHashSum
namespace Go.Proofs.Ytafmapcblcnccaa
open Go.RowKit

theorem wrap_lo (n : Int) : 0 ≤ IntKind.u64.wrap n := by rw [IntKind.wrap_u64]; omega
theorem wrap_hi (n : Int) : IntKind.u64.wrap n < 18446744073709551616 := by rw [IntKind.wrap_u64]; omega
def InR (s : Int) : Prop := 0 ≤ s ∧ s < 18446744073709551616
theorem InR.mix (a b : Int) : InR (mixI a b) := ⟨mixI_lo _ _, mixI_hi _ _⟩
theorem InR.fold (l : List Int) : ∀ s, InR s → InR (l.foldl mixI s) := by
  induction l with
  | nil => exact fun _ h => h
  | cons x l ih => exact fun s _ => ih _ (InR.mix _ _)
theorem InR.tail (l : List Int) : ∀ s, InR s → InR (sumTail s l) := by
  unfold sumTail
  induction l with
  | nil => exact fun _ h => h
  | cons x l ih => exact fun s _ => ih _ (InR.mix _ _)
theorem fold_inj (l : List Int) : ∀ s t, InR s → InR t → l.foldl mixI s = l.foldl mixI t → s = t := by
  induction l with
  | nil => exact fun _ _ _ _ h => h
  | cons x l ih => exact fun s t hs ht h => mixI_left _ _ _ hs.1 hs.2 ht.1 ht.2 (ih _ _ (InR.mix _ _) (InR.mix _ _) h)
theorem tail_inj (l : List Int) : ∀ s t, InR s → InR t → sumTail s l = sumTail t l → s = t := by
  unfold sumTail
  induction l with
  | nil => exact fun _ _ _ _ h => h
  | cons x l ih => exact fun s t hs ht h => mixI_left _ _ _ hs.1 hs.2 ht.1 ht.2 (ih _ _ (InR.mix _ _) (InR.mix _ _) h)
theorem set_split (ws : List Int) (k : Nat) (v : Int) (h : k < ws.length) : ws.set k v = ws.take k ++ v :: ws.drop (k + 1) := by
  rw [List.set_eq_take_append_cons_drop, if_pos h]
theorem self_split (ws : List Int) (k : Nat) (h : k < ws.length) : ws = ws.take k ++ (ws[k]?.getD 0) :: ws.drop (k + 1) := by
  rw [List.getElem?_eq_getElem h, Option.getD_some, ← List.drop_eq_getElem_cons h, List.take_append_drop]
/-- One word turned: the sum turns just if the word did. -/
theorem sumI_set (l ws : List Int) (k : Nat) (v : Int) (h : k < ws.length) : sumI l ws = sumI l (ws.set k v) ↔ IntKind.u64.wrap (ws[k]?.getD 0) = IntKind.u64.wrap v := by
  unfold sumI
  rw [List.length_set]
  generalize hS : mixI (mixI ((wordsOf l).foldl mixI 0) (l.length : Int)) (ws.length : Int) = S
  have hSr : InR S := by rw [← hS]; exact InR.mix _ _
  have e1 : sumTail S ws = sumTail (mixI (sumTail S (ws.take k)) (IntKind.u64.wrap (ws[k]?.getD 0))) (ws.drop (k + 1)) := by
    conv => lhs; rw [self_split ws k h]
    unfold sumTail
    rw [List.foldl_append, List.foldl_cons]
  have e2 : sumTail S (ws.set k v) = sumTail (mixI (sumTail S (ws.take k)) (IntKind.u64.wrap v)) (ws.drop (k + 1)) := by
    rw [set_split ws k v h]
    unfold sumTail
    rw [List.foldl_append, List.foldl_cons]
  rw [e1, e2]
  constructor
  · intro h1
    have h2 := mixI_left _ _ _ (InR.tail _ _ (InR.mix _ _)).1 (InR.tail _ _ (InR.mix _ _)).2 (InR.tail _ _ (InR.mix _ _)).1 (InR.tail _ _ (InR.mix _ _)).2 h1
    have h3 := tail_inj _ _ _ (InR.mix _ _) (InR.mix _ _) h2
    exact mixI_right _ _ _ (wrap_lo _) (wrap_hi _) (wrap_lo _) (wrap_hi _) h3
  · intro h1
    rw [h1]
theorem wrap_inj (a b : Int) (ha : -9223372036854775808 ≤ a ∧ a ≤ 9223372036854775807) (hb : -9223372036854775808 ≤ b ∧ b ≤ 9223372036854775807) (h : IntKind.u64.wrap a = IntKind.u64.wrap b) : a = b := by
  rw [IntKind.wrap_u64, IntKind.wrap_u64] at h
  omega
theorem i64_rng {a : Int} (h : (Lit.int .i64 a).wf = true) : -9223372036854775808 ≤ a ∧ a ≤ 9223372036854775807 := by
  simp [Lit.wf, IntKind.min, IntKind.max, IntKind.signed, IntKind.bits] at h
  omega
theorem u8_rng1 {a : Int} (h : (Lit.int .u8 a).wf = true) : 0 ≤ a ∧ a ≤ 255 := by
  simp [Lit.wf, IntKind.min, IntKind.max, IntKind.signed, IntKind.bits] at h
  omega
/-- The sums of two lists that differ at most in one place. -/
theorem oneWord (l ws : List Int) (k : Nat) (v : Int) (h : k < ws.length) (hw : ∀ n ∈ ws, (Lit.int .i64 n).wf = true) (hv : (Lit.int .i64 v).wf = true) : (sumI l ws == sumI l (ws.set k v)) = (ws[k]?.getD 0 == v) := by
  rw [Bool.eq_iff_iff, beq_iff_eq, beq_iff_eq, sumI_set l ws k v h]
  constructor
  · intro h1
    refine wrap_inj _ _ ?_ (i64_rng hv) h1
    rw [List.getElem?_eq_getElem h, Option.getD_some]
    exact i64_rng (hw _ (List.getElem_mem h))
  · intro h1
    rw [h1]
end Go.Proofs.Ytafmapcblcnccaa
