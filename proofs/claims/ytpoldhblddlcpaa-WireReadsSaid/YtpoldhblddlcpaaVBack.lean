/- What is read without an error was so written. -/
import Derived.Test.YtpoldhblddlcpaaVPrefix
namespace Go.Proofs.Ytpoldhblddlcpaa
open Go.RowKit Go.Shelf

theorem pow_split (i q c : Nat) (hi : i ≤ 8) (hq : q * 128 ^ (i + 1) < 18446744073709551616) (hc : c < 128) : (c + 128 * q) * 128 ^ i < 18446744073709551616 := by
  have hp : 2 * 128 ^ (8 - i) * 128 ^ (i + 1) = 18446744073709551616 := by
    rw [Nat.mul_assoc, ← Nat.pow_add, show 8 - i + (i + 1) = 9 from by omega]
  rw [← hp] at hq ⊢
  have hq2 := Nat.lt_of_mul_lt_mul_right hq
  have h1 : (c + 128 * q) * 128 ^ i < (128 * (q + 1)) * 128 ^ i := Nat.mul_lt_mul_of_pos_right (by omega) (Nat.pow_pos (by decide))
  have h2 : (128 * (q + 1)) * 128 ^ i = (q + 1) * 128 ^ (i + 1) := by rw [Nat.pow_succ, Nat.mul_comm (128 ^ i) 128, ← Nat.mul_assoc, Nat.mul_comm (q + 1) 128]
  have h3 : (q + 1) * 128 ^ (i + 1) ≤ 2 * 128 ^ (8 - i) * 128 ^ (i + 1) := Nat.mul_le_mul_right _ hq2
  omega
theorem rU_back (g i m n : Nat) (zs rest : List Int) (hi : i ≤ 9) (hg : g = 10 - i) (hz : ∀ x ∈ zs, 0 ≤ x ∧ x < 256) (h : rU g i m zs = (n, rest, 0)) :
    ∃ q, n = m + q * 128 ^ i ∧ zs = vintF g q ++ rest ∧ q * 128 ^ i < 18446744073709551616 ∧ (i = 0 ∨ 0 < q) := by
  subst hg
  induction hk : 9 - i generalizing i m zs with
  | zero =>
    obtain rfl : i = 9 := by omega
    cases zs with
    | nil => cases h
    | cons c r =>
      have hc := hz c (List.mem_cons_self ..)
      by_cases hb : (9 = 9 ∧ 1 < c) ∨ (0 < 9 ∧ c = 0)
      · rw [rU_bad 9 m c r hi hb] at h
        cases h
      · obtain rfl : c = 1 := by omega
        rw [rU_end 9 m 1 r hi hb (by decide) (by decide)] at h
        injection h with h1 h2
        injection h2 with h2 _
        subst h2
        exact ⟨1, by rw [← h1]; rfl, rfl, by decide, .inr (by decide)⟩
  | succ k ih =>
    cases zs with
    | nil =>
      rw [show 10 - i = (9 - i) + 1 from by omega] at h
      cases h
    | cons c r =>
      have hc := hz c (List.mem_cons_self ..)
      have hr : ∀ x ∈ r, 0 ≤ x ∧ x < 256 := fun x hx => hz x (List.mem_cons_of_mem _ hx)
      by_cases hb : (i = 9 ∧ 1 < c) ∨ (0 < i ∧ c = 0)
      · rw [rU_bad i m c r hi hb] at h
        cases h
      · by_cases h1 : c < 128
        · rw [rU_end i m c r hi hb h1 hc.1] at h
          injection h with h2 h3
          injection h3 with h3 _
          subst h3
          obtain ⟨d, rfl⟩ := Int.eq_ofNat_of_zero_le hc.1
          refine ⟨d, by rw [← h2]; congr 1; congr 1; omega, ?_, ?_, by omega⟩
          · rw [vintF_stop _ _ (by omega)]; rfl
          · have := pow_split i 0 d (by omega) (by simp) (by omega)
            simpa using this
        · rw [rU_more i m c r hi hb (by omega) hc.2] at h
          have h9 : 9 - i = 10 - (i + 1) := by omega
          try rw [h9] at h
          obtain ⟨q, hq1, hq2, hq3, hq4⟩ := ih (i + 1) _ r (by omega) hr h (by omega)
          obtain ⟨d, rfl⟩ := Int.eq_ofNat_of_zero_le hc.1
          have hq0 : 0 < q := by omega
          refine ⟨d % 128 + 128 * q, ?_, ?_, pow_split i q (d % 128) (by omega) hq3 (by omega), .inr (by omega)⟩
          · rw [hq1, Int.toNat_natCast, Nat.add_mul, Nat.pow_succ, Nat.mul_comm (128 ^ i) 128, ← Nat.mul_assoc, Nat.mul_comm q 128]
            omega
          · rw [show 10 - i = (10 - (i + 1)) + 1 from by omega, vintF_next _ _ (by omega), hq2, show (d % 128 + 128 * q) / 128 = q from by omega]
            rw [List.cons_append]
            congr 1
            omega
theorem rUint_back (n : Nat) (zs rest : List Int) (hz : ∀ x ∈ zs, 0 ≤ x ∧ x < 256) (h : rUint zs 0 = (n, rest, 0)) : zs = vint n ++ rest ∧ n < 18446744073709551616 := by
  unfold rUint at h
  rw [if_pos rfl] at h
  obtain ⟨q, h1, h2, h3, _⟩ := rU_back 10 0 0 n zs rest (by decide) rfl hz h
  obtain rfl : n = q := by rw [h1]; simp
  exact ⟨h2, by simpa using h3⟩
theorem rUint_back' (zs : List Int) (hz : ∀ x ∈ zs, 0 ≤ x ∧ x < 256) (h : (rUint zs 0).2.2 = 0) : zs = vint (rUint zs 0).1 ++ (rUint zs 0).2.1 ∧ (rUint zs 0).1 < 18446744073709551616 :=
  rUint_back _ _ _ hz (Prod.ext rfl (Prod.ext rfl h))
theorem zig_unzig (n : Nat) (h : n < 18446744073709551616) : zig (unzig n) = n ∧ -9223372036854775808 ≤ unzig n ∧ unzig n ≤ 9223372036854775807 := by
  unfold zig unzig
  split <;> split <;> omega
theorem rInt_back' (zs : List Int) (hz : ∀ x ∈ zs, 0 ≤ x ∧ x < 256) (h : (rInt zs 0).2.2 = 0) : zs = sint (rInt zs 0).1 ++ (rInt zs 0).2.1 ∧ -9223372036854775808 ≤ (rInt zs 0).1 ∧ (rInt zs 0).1 ≤ 9223372036854775807 := by
  have h1 := rUint_back' zs hz h
  have h2 := zig_unzig _ h1.2
  refine ⟨?_, h2.2⟩
  show zs = vint (zig (unzig (rUint zs 0).1)) ++ (rUint zs 0).2.1
  rw [h2.1]
  exact h1.1
theorem rMany_back (n : Nat) (acc zs : List Int) (hz : ∀ x ∈ zs, 0 ≤ x ∧ x < 256) (h : (rMany n acc zs 0).2.2 = 0) :
    ∃ l, (rMany n acc zs 0).1 = acc ++ l ∧ l.length = n ∧ zs = (l.map sint).flatten ++ (rMany n acc zs 0).2.1 ∧ ∀ x ∈ l, -9223372036854775808 ≤ x ∧ x ≤ 9223372036854775807 := by
  induction n generalizing acc zs with
  | zero => exact ⟨[], by simp [rMany], rfl, by simp [rMany], by simp⟩
  | succ n ih =>
    by_cases he : (rInt zs 0).2.2 = 0
    · rw [rMany_next n acc zs he] at h ⊢
      have hb := rInt_back' zs hz he
      obtain ⟨l, h1, h2, h3, h4⟩ := ih _ _ (rInt_left zs 0 (fun x => 0 ≤ x ∧ x < 256) hz) h
      refine ⟨(rInt zs 0).1 :: l, by rw [h1]; simp, by simp [h2], ?_, ?_⟩
      · rw [List.map_cons, List.flatten_cons, List.append_assoc, ← h3]
        exact hb.1
      · intro x hx
        rcases List.mem_cons.1 hx with rfl | hx
        · exact hb.2
        · exact h4 x hx
    · rw [rMany_stop n acc zs he] at h
      exact absurd h he
theorem rRaw_back (zs : List Int) (hz : ∀ x ∈ zs, 0 ≤ x ∧ x < 256) (h : (rRaw zs 0).2.2 = 0) :
    zs = vint (rRaw zs 0).1.length ++ (rRaw zs 0).1 ++ (rRaw zs 0).2.1 ∧ (rRaw zs 0).1.length ≤ zs.length := by
  rw [rRaw_T] at h ⊢
  by_cases he : (rUint zs 0).2.2 = 0
  · have h1 := rUint_back' zs hz he
    have h2 := rUint_len zs 0
    rw [he] at h ⊢
    by_cases hn : (rUint zs 0).2.1.length < (rUint zs 0).1
    · rw [rawT_more _ _ _ hn] at h
      cases h
    · rw [rawT_ok _ _ hn]
      dsimp only
      rw [List.length_take, Nat.min_eq_left (by omega), List.append_assoc, List.take_append_drop]
      exact ⟨h1.1, by omega⟩
  · exfalso
    by_cases hn : (rUint zs 0).2.1.length < (rUint zs 0).1
    · rw [rawT_more _ _ _ hn] at h
      unfold failI at h
      rw [if_neg he] at h
      exact he h
    · rw [rawT_err _ _ _ hn he] at h
      exact he h
theorem rInts_back (zs : List Int) (hz : ∀ x ∈ zs, 0 ≤ x ∧ x < 256) (h : (rInts zs 0).2.2 = 0) :
    zs = sints (rInts zs 0).1 ++ (rInts zs 0).2.1 ∧ (rInts zs 0).1.length ≤ zs.length ∧ ∀ x ∈ (rInts zs 0).1, -9223372036854775808 ≤ x ∧ x ≤ 9223372036854775807 := by
  rw [rInts_T] at h ⊢
  by_cases he : (rUint zs 0).2.2 = 0
  · have h1 := rUint_back' zs hz he
    have h2 := rUint_len zs 0
    have h3 := rUint_left zs 0 (fun x => 0 ≤ x ∧ x < 256) hz
    rw [he] at h ⊢
    by_cases hn : (rUint zs 0).2.1.length < (rUint zs 0).1
    · rw [rintsT_more _ _ _ hn] at h
      cases h
    · rw [rintsT_ok _ _ hn] at h ⊢
      obtain ⟨l, k1, k2, k3, k4⟩ := rMany_back _ [] _ h3 h
      rw [List.nil_append] at k1
      rw [k1]
      refine ⟨?_, by omega, k4⟩
      unfold sints
      rw [List.append_assoc, ← k3, k2]
      exact h1.1
  · exfalso
    by_cases hn : (rUint zs 0).2.1.length < (rUint zs 0).1
    · rw [rintsT_more _ _ _ hn] at h
      unfold failI at h
      rw [if_neg he] at h
      exact he h
    · rw [rintsT_err _ _ _ hn he] at h
      exact he h
theorem wf_i64 {n : Int} (h : -9223372036854775808 ≤ n ∧ n ≤ 9223372036854775807) : (Lit.int .i64 n).wf = true := by
  simp [Lit.wf, IntKind.min, IntKind.max, IntKind.signed, IntKind.bits]
  omega
theorem wf0 : (Lit.int .i64 0).wf = true := wf_i64 (by omega)
theorem rBool_back (zs : List Int) (hz : ∀ x ∈ zs, 0 ≤ x ∧ x < 256) (h : (rBool zs 0).2.2 = 0) : zs = [if (rBool zs 0).1 = true then 1 else 0] ++ (rBool zs 0).2.1 := by
  cases zs with
  | nil => cases h
  | cons c r =>
    have hc := hz c (List.mem_cons_self ..)
    by_cases h1 : 1 < c
    · unfold rBool at h
      have : (rOct (c :: r) 0) = (c, r, 0) := rfl
      rw [this] at h
      dsimp only at h
      rw [if_pos h1] at h
      cases h
    · have : c = 0 ∨ c = 1 := by omega
      rcases this with rfl | rfl <;> rfl
theorem readM_back (k : Int) (zs : List Int) (hk : 0 ≤ k ∧ k < 6) (hz : ∀ x ∈ zs, 0 ≤ x ∧ x < 256) (hl : zs.length ≤ 100000) (h : (readM k zs 0).2.2 = 0) :
    (readM k zs 0).1.okL ∧ zs = vbytes (readM k zs 0).1 ++ (readM k zs 0).2.1 := by
  have hk' : k = 0 ∨ k = 1 ∨ k = 2 ∨ k = 3 ∨ k = 4 ∨ k = 5 := by omega
  rcases hk' with rfl | rfl | rfl | rfl | rfl | rfl
  · have hb := rUint_back' zs hz h
    refine ⟨⟨Int.natCast_nonneg _, by show ((rUint zs 0).1 : Int) < _; omega, wf0, by simp [readM], by simp [readM], by simp [readM], by simp [readM], .inl ⟨rfl, rfl, rfl, rfl⟩⟩, ?_⟩
    show zs = vint ((rUint zs 0).1 : Int).toNat ++ (rUint zs 0).2.1
    rw [Int.toNat_natCast]
    exact hb.1
  · have hb := rInt_back' zs hz h
    refine ⟨⟨Int.le_refl 0, by show (0 : Int) < 18446744073709551616; omega, wf_i64 hb.2, by simp [readM], by simp [readM], by simp [readM], by simp [readM], .inr (.inl ⟨rfl, rfl, rfl, rfl⟩)⟩, hb.1⟩
  · have hb := rBool_back zs hz h
    have hn : ((if (rBool zs 0).1 = true then (1 : Int) else 0) = 0 ∨ (if (rBool zs 0).1 = true then (1 : Int) else 0) = 1) := by split <;> simp
    refine ⟨⟨Int.le_refl 0, by show (0 : Int) < 18446744073709551616; omega, wf_i64 (by show _ ≤ (if (rBool zs 0).1 = true then (1 : Int) else 0) ∧ (if (rBool zs 0).1 = true then (1 : Int) else 0) ≤ _; omega), by simp [readM], by simp [readM], by simp [readM], by simp [readM], .inr (.inr (.inl ⟨rfl, hn, rfl, rfl, rfl⟩))⟩, ?_⟩
    show zs = [if (if (rBool zs 0).1 = true then (1 : Int) else 0) = 1 then 1 else 0] ++ (rBool zs 0).2.1
    rw [show (if (if (rBool zs 0).1 = true then (1 : Int) else 0) = 1 then (1 : Int) else 0) = if (rBool zs 0).1 = true then 1 else 0 from by cases (rBool zs 0).1 <;> rfl]
    exact hb
  · have hb := rRaw_back zs hz h
    exact ⟨⟨Int.le_refl 0, by show (0 : Int) < 18446744073709551616; omega, wf0, rRaw_rng zs 0 hz, by show (rRaw zs 0).1.length ≤ _; omega, by simp [readM], by simp [readM], .inr (.inr (.inr (.inl ⟨.inl rfl, rfl, rfl, rfl⟩)))⟩, hb.1⟩
  · have hb := rRaw_back zs hz h
    exact ⟨⟨Int.le_refl 0, by show (0 : Int) < 18446744073709551616; omega, wf0, rRaw_rng zs 0 hz, by show (rRaw zs 0).1.length ≤ _; omega, by simp [readM], by simp [readM], .inr (.inr (.inr (.inl ⟨.inr rfl, rfl, rfl, rfl⟩)))⟩, hb.1⟩
  · have hb := rInts_back zs hz h
    exact ⟨⟨Int.le_refl 0, by show (0 : Int) < 18446744073709551616; omega, wf0, by simp [readM], by simp [readM], fun n hn => wf_i64 (hb.2.2 n hn), by show (rInts zs 0).1.length ≤ _; omega, .inr (.inr (.inr (.inr ⟨rfl, rfl, rfl, rfl⟩)))⟩, hb.1⟩
/-- What was read so far, if without an error, is what stood there. -/
def Got (zs0 : List Int) (l : List VM) (zs : List Int) (e : Int) : Prop := e = 0 → (∀ v ∈ l, v.okL) ∧ zs0 = vsbytes l ++ zs
theorem Got.step {zs0 zs : List Int} {l : List VM} {e : Int} (h : Got zs0 l zs e) (k : Int) (hk : 0 ≤ k ∧ k < 6) (hz : ∀ x ∈ zs, 0 ≤ x ∧ x < 256) (hl : zs.length ≤ 100000) : Got zs0 (l ++ [(readM k zs e).1]) (readM k zs e).2.1 (readM k zs e).2.2 := by
  intro he
  by_cases h0 : e = 0
  · subst h0
    obtain ⟨h1, h2⟩ := h rfl
    obtain ⟨h3, h4⟩ := readM_back k zs hk hz hl he
    refine ⟨?_, ?_⟩
    · intro v hv
      rcases List.mem_append.1 hv with hv | hv
      · exact h1 v hv
      · simp at hv; subst hv; exact h3
    · rw [h2]
      unfold vsbytes
      rw [List.map_append, List.flatten_append, List.append_assoc]
      congr 1
      simpa using h4
  · rw [readM_err k zs e h0 hk] at he
    exact absurd he h0
theorem Got.fin {zs0 zs : List Int} {l : List VM} {e : Int} (h : Got zs0 l zs e) (he : rEnd zs e = 0) : (∀ v ∈ l, v.okL) ∧ zs0 = vsbytes l := by
  unfold rEnd at he
  split at he
  · cases he
  · obtain ⟨h1, h2⟩ := h he
    have : zs = [] := by
      cases zs with
      | nil => rfl
      | cons x r => exact absurd (⟨he, by simp⟩ : e = 0 ∧ 0 < (x :: r).length) (by assumption)
    subst this
    exact ⟨h1, by simpa using h2⟩
end Go.Proofs.Ytpoldhblddlcpaa
