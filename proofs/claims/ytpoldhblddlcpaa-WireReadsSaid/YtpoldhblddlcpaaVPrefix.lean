/- Reading a proper prefix of what was written. -/
import Derived.Test.YtpoldhblddlcpaaVMath
namespace Go.Proofs.Ytpoldhblddlcpaa
open Go.RowKit Go.Shelf

theorem rU_prefix (g i m n j : Nat) (hi : i ≤ 9) (hg : g = 10 - i) (hn : n * 128 ^ i < 18446744073709551616) (h0 : i = 0 ∨ 0 < n) (hj : j < (vintF g n).length) :
    rU g i m ((vintF g n).take j) = (0, [], 3) := by
  subst hg
  induction hk : 9 - i generalizing i m n j with
  | zero =>
    have : i = 9 := by omega
    subst this
    have hn1 : n = 1 := by
      have : n * 128 ^ 9 < 2 * 128 ^ 9 := by omega
      have := Nat.lt_of_mul_lt_mul_right this
      omega
    subst hn1
    rw [vintF_stop _ _ (by omega)] at hj ⊢
    have : j = 0 := by simpa using hj
    subst this
    rfl
  | succ k ih =>
    rcases Nat.lt_or_ge n 128 with h1 | h1
    · rw [vintF_stop _ _ h1] at hj ⊢
      have : j = 0 := by simpa using hj
      subst this
      rw [show 10 - i = (9 - i) + 1 from by omega]
      rfl
    · have e : 10 - i = (10 - (i + 1)) + 1 := by omega
      rw [e, vintF_next _ _ h1] at hj ⊢
      cases j with
      | zero => rfl
      | succ j =>
        rw [List.take_succ_cons, ← e, rU_more _ _ _ _ hi (by omega) (by omega) (by omega)]
        have hp : 128 ^ (i + 1) = 128 ^ i * 128 := Nat.pow_succ ..
        have hd : n / 128 * 128 ^ (i + 1) ≤ n * 128 ^ i := by
          rw [hp, Nat.mul_comm (128 ^ i), ← Nat.mul_assoc]
          exact Nat.mul_le_mul_right _ (Nat.div_mul_le_self _ _)
        have h9 : 9 - i = 10 - (i + 1) := by omega
        have h10 := ih (i + 1) (m + ((n : Int) % 128 + 128).toNat % 128 * 128 ^ i) (n / 128) j (by omega) (by omega) (.inr (by omega)) (by simpa using hj) (by omega)
        rw [← h9] at h10 ⊢
        exact h10
theorem rUint_prefix (n j : Nat) (h : n < 18446744073709551616) (hj : j < (vint n).length) : rUint ((vint n).take j) 0 = (0, [], 3) := by
  unfold rUint vint
  rw [if_pos rfl]
  exact rU_prefix 10 0 0 n j (by decide) rfl (by omega) (.inl rfl) hj
theorem rUint_err (zs : List Int) (e : Int) (he : e ≠ 0) : rUint zs e = (0, zs, e) := if_neg he
theorem rMany_prefix (l acc : List Int) (j : Nat) (h : ∀ n ∈ l, -9223372036854775808 ≤ n ∧ n ≤ 9223372036854775807) (hj : j < ((l.map sint).flatten).length) : (rMany l.length acc (((l.map sint).flatten).take j) 0).2.2 = 3 := by
  induction l generalizing acc j with
  | nil => simp at hj
  | cons x l ih =>
    have hx := h x (List.mem_cons_self ..)
    simp only [List.length_cons, List.map_cons, List.flatten_cons] at hj ⊢
    unfold rMany
    rcases Nat.lt_or_ge j (sint x).length with h1 | h1
    · rw [List.take_append_of_le_length (by omega)]
      unfold rInt
      have hs : rUint ((sint x).take j) 0 = (0, [], 3) := rUint_prefix (zig x) j (zig_lt x hx) h1
      rw [hs]
      rfl
    · rw [List.take_append, List.take_of_length_le h1, rInt_sint x _ hx, if_pos rfl]
      exact ih _ _ (fun n hn => h n (List.mem_cons_of_mem _ hn)) (by rw [List.length_append] at hj; omega)
theorem rRaw_prefix (bs : List Int) (j : Nat) (h : bs.length < 18446744073709551616) (hj : j < (vint bs.length ++ bs).length) : (rRaw ((vint bs.length ++ bs).take j) 0).2.2 = 3 := by
  rw [rRaw_T]
  rcases Nat.lt_or_ge j (vint bs.length).length with h1 | h1
  · rw [List.take_append_of_le_length (by omega), rUint_prefix _ _ h h1]
    rfl
  · rw [List.take_append, List.take_of_length_le h1, rUint_vint _ _ h, rawT_more _ _ _ (by rw [List.length_take]; rw [List.length_append] at hj; dsimp only; omega)]
    rfl
theorem rInts_prefix (l : List Int) (j : Nat) (hl : l.length < 18446744073709551616) (h : ∀ n ∈ l, -9223372036854775808 ≤ n ∧ n ≤ 9223372036854775807) (hj : j < (sints l).length) : (rInts ((sints l).take j) 0).2.2 = 3 := by
  rw [rInts_T]
  unfold sints at hj ⊢
  rcases Nat.lt_or_ge j (vint l.length).length with h1 | h1
  · rw [List.take_append_of_le_length (by omega), rUint_prefix _ _ hl h1]
    rfl
  · rw [List.take_append, List.take_of_length_le h1, rUint_vint _ _ hl]
    rcases Nat.lt_or_ge (((l.map sint).flatten).take (j - (vint l.length).length)).length l.length with h2 | h2
    · rw [rintsT_more _ _ _ h2]
      rfl
    · rw [rintsT_ok _ _ (by dsimp only; omega)]
      exact rMany_prefix l [] _ h (by rw [List.length_append] at hj; omega)
theorem readM_prefix (v : VM) (j : Nat) (h : v.ok) (hj : j < (vbytes v).length) : (readM v.kind ((vbytes v).take j) 0).2.2 = 3 := by
  obtain ⟨kind, u, n, B, L⟩ := v
  obtain ⟨u0, u1, hn, hBr, hBl, hLr, hLl, hcan⟩ := h
  dsimp only [VM.canon] at *
  have hn' := i64_rng hn
  rcases hcan with ⟨rfl, rfl, rfl, rfl⟩ | ⟨rfl, rfl, rfl, rfl⟩ | ⟨rfl, hn1, rfl, rfl, rfl⟩ | ⟨hk, rfl, rfl, rfl⟩ | ⟨rfl, rfl, rfl, rfl⟩
  · show (rUint ((vint u.toNat).take j) 0).2.2 = 3
    have u1' : u < 18446744073709551616 := u1
    rw [rUint_prefix u.toNat j (by omega) hj]
  · show (rUint ((vint (zig n)).take j) 0).2.2 = 3
    rw [rUint_prefix _ _ (zig_lt n hn') hj]
  · have hj0 : j = 0 := by
      have : (vbytes ⟨2, 0, n, [], []⟩).length = 1 := rfl
      omega
    subst hj0
    rfl
  · rcases hk with rfl | rfl
    · exact rRaw_prefix B j (by omega) hj
    · exact rRaw_prefix B j (by omega) hj
  · exact rInts_prefix L j (by omega) (fun n hn => i64_rng (hLr n hn)) hj
theorem readM_err (k : Int) (zs : List Int) (e : Int) (he : e ≠ 0) (hk : 0 ≤ k ∧ k < 6) : readM k zs e = (⟨k, 0, 0, [], []⟩, zs, e) := by
  have hU := rUint_err zs e he
  have hk' : k = 0 ∨ k = 1 ∨ k = 2 ∨ k = 3 ∨ k = 4 ∨ k = 5 := by omega
  have hO : rOct zs e = (0, zs, e) := by unfold rOct; split; exact absurd rfl he; rfl
  have hL : rLen zs e = (0, zs, e) := by
    unfold rLen
    rw [hU]
    simp
  rcases hk' with rfl | rfl | rfl | rfl | rfl | rfl
  · show (VM.mk 0 (rUint zs e).1 0 [] [], (rUint zs e).2) = _
    rw [hU]; rfl
  · show (VM.mk 1 0 (unzig (rUint zs e).1) [] [], (rUint zs e).2) = _
    rw [hU]
    show (VM.mk 1 0 (unzig 0) [] [], zs, e) = _
    rw [show unzig 0 = 0 from by decide]
  · show (VM.mk 2 0 (if (rBool zs e).1 = true then 1 else 0) [] [], (rBool zs e).2) = _
    unfold rBool
    rw [hO]; rfl
  · show (VM.mk 3 0 0 (rRaw zs e).1 [], (rRaw zs e).2) = _
    unfold rRaw
    rw [hL, if_neg he]
  · show (VM.mk 4 0 0 (rRaw zs e).1 [], (rRaw zs e).2) = _
    unfold rRaw
    rw [hL, if_neg he]
  · show (VM.mk 5 0 0 [] (rInts zs e).1, (rInts zs e).2) = _
    unfold rInts
    rw [hL, if_neg he]
/-- What a reader of a proper prefix has left behind the first k values. -/
def Pre (l : List VM) (k : Nat) (zs : List Int) (e : Int) : Prop :=
  (e = 0 ∧ ∃ m, m < (vsbytes (l.drop k)).length ∧ zs = (vsbytes (l.drop k)).take m) ∨ e = 3
theorem Pre.step {l : List VM} {k : Nat} {v : VM} {zs : List Int} {e : Int} (h : Pre l k zs e) (hv : l[k]? = some v) (ho : v.ok) : Pre l (k + 1) (readM v.kind zs e).2.1 (readM v.kind zs e).2.2 := by
  have hk6 : 0 ≤ v.kind ∧ v.kind < 6 := by have := ho.canon; unfold VM.canon at this; omega
  rcases h with ⟨rfl, m, hm, rfl⟩ | rfl
  · rw [vsbytes_drop l k v hv] at hm ⊢
    rcases Nat.lt_or_ge m (vbytes v).length with h1 | h1
    · rw [List.take_append_of_le_length (by omega)]
      exact .inr (readM_prefix v m ho h1)
    · rw [List.take_append, List.take_of_length_le h1, readM_vbytes v _ ho]
      exact .inl ⟨rfl, m - (vbytes v).length, by rw [List.length_append] at hm; omega, rfl⟩
  · rw [readM_err _ _ _ (by decide) hk6]
    exact .inr rfl
theorem Pre.last {l : List VM} {k : Nat} {zs : List Int} {e : Int} (h : Pre l k zs e) (hk : l.length ≤ k) : e = 3 := by
  rcases h with ⟨_, m, hm, _⟩ | h
  · rw [List.drop_eq_nil_of_le hk] at hm
    simp [vsbytes] at hm
  · exact h
theorem rMany_left (n : Nat) (l zs : List Int) (e : Int) (p : Int → Prop) (hz : ∀ x ∈ zs, p x) : ∀ x ∈ (rMany n l zs e).2.1, p x := by
  induction n generalizing l zs e with
  | zero => exact hz
  | succ n ih =>
    unfold rMany
    have h := rInt_left zs e p hz
    split
    · exact ih _ _ _ h
    · exact h
theorem readM_left (k : Int) (zs : List Int) (e : Int) (p : Int → Prop) (hz : ∀ x ∈ zs, p x) : ∀ x ∈ (readM k zs e).2.1, p x := by
  unfold readM
  split
  · exact rUint_left zs e p hz
  · split
    · exact rInt_left zs e p hz
    · split
      · show ∀ x ∈ (rOct zs e).2.1, p x
        unfold rOct
        split
        · split
          · exact hz
          · exact fun x hx => hz x (List.mem_cons_of_mem _ hx)
        · exact hz
      · split
        · show ∀ x ∈ (rRaw zs e).2.1, p x
          unfold rRaw
          have := rUint_left zs e p hz
          split
          · exact fun x hx => this x (List.mem_of_mem_drop hx)
          · exact this
        · show ∀ x ∈ (rInts zs e).2.1, p x
          unfold rInts
          have := rUint_left zs e p hz
          split
          · exact rMany_left _ _ _ _ p this
          · exact this
end Go.Proofs.Ytpoldhblddlcpaa
