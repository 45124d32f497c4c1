/- Reading back a value that was written. -/
import Derived.Test.YtpoldhblddlcpaaVRead
namespace Go.Proofs.Ytpoldhblddlcpaa
open Go.RowKit Go.Shelf

theorem readM_vbytes (v : VM) (rest : List Int) (h : v.ok) : readM v.kind (vbytes v ++ rest) 0 = (v, rest, 0) := by
  obtain ⟨kind, u, n, B, L⟩ := v
  obtain ⟨u0, u1, hn, hBr, hBl, hLr, hLl, hcan⟩ := h
  dsimp only [VM.canon] at *
  have hn' := i64_rng hn
  rcases hcan with ⟨rfl, rfl, rfl, rfl⟩ | ⟨rfl, rfl, rfl, rfl⟩ | ⟨rfl, hn1, rfl, rfl, rfl⟩ | ⟨hk, rfl, rfl, rfl⟩ | ⟨rfl, rfl, rfl, rfl⟩
  · show (VM.mk 0 (rUint (vint u.toNat ++ rest) 0).1 0 [] [], (rUint (vint u.toNat ++ rest) 0).2) = _
    rw [rUint_vint _ _ (by omega)]
    have : ((u.toNat : Nat) : Int) = u := Int.toNat_of_nonneg u0
    rw [this]
  · show (VM.mk 1 0 (rInt (sint n ++ rest) 0).1 [] [], (rInt (sint n ++ rest) 0).2) = _
    rw [rInt_sint _ _ hn']
  · rcases hn1 with rfl | rfl
    · show (VM.mk 2 0 (if (rBool ([0] ++ rest) 0).1 = true then 1 else 0) [] [], (rBool ([0] ++ rest) 0).2) = _
      rfl
    · show (VM.mk 2 0 (if (rBool ([1] ++ rest) 0).1 = true then 1 else 0) [] [], (rBool ([1] ++ rest) 0).2) = _
      rfl
  · rcases hk with rfl | rfl
    · show (VM.mk 3 0 0 (rRaw (vint B.length ++ B ++ rest) 0).1 [], (rRaw (vint B.length ++ B ++ rest) 0).2) = _
      rw [rRaw_raw _ _ (by omega)]
    · show (VM.mk 4 0 0 (rRaw (vint B.length ++ B ++ rest) 0).1 [], (rRaw (vint B.length ++ B ++ rest) 0).2) = _
      rw [rRaw_raw _ _ (by omega)]
  · show (VM.mk 5 0 0 [] (rInts (sints L ++ rest) 0).1, (rInts (sints L ++ rest) 0).2) = _
    rw [rInts_sints _ _ (by omega) (fun n hn => i64_rng (hLr n hn))]
theorem vbytes_rng (v : VM) (h : v.ok) : ∀ x ∈ vbytes v, 0 ≤ x ∧ x < 256 := by
  unfold vbytes sints sint
  have hB := h.B
  split
  · exact vintF_rng 10 _
  · split
    · exact vintF_rng 10 _
    · split
      · intro x hx
        simp at hx
        subst hx
        split <;> omega
      · split
        · intro x hx
          rcases List.mem_append.1 hx with h1 | h1
          · exact vintF_rng 10 _ x h1
          · exact hB x h1
        · intro x hx
          rcases List.mem_append.1 hx with h1 | h1
          · exact vintF_rng 10 _ x h1
          · simp only [List.mem_flatten, List.mem_map] at h1
            obtain ⟨l, ⟨a, _, rfl⟩, h2⟩ := h1
            exact vintF_rng 10 _ x h2
theorem vsbytes_rng (l : List VM) (h : ∀ v ∈ l, v.ok) : ∀ x ∈ vsbytes l, 0 ≤ x ∧ x < 256 := by
  intro x hx
  unfold vsbytes at hx
  simp only [List.mem_flatten, List.mem_map] at hx
  obtain ⟨s, ⟨v, hv, rfl⟩, h2⟩ := hx
  exact vbytes_rng v (h v hv) x h2
theorem vsbytes_drop (l : List VM) (k : Nat) (v : VM) (h : l[k]? = some v) : vsbytes (l.drop k) = vbytes v ++ vsbytes (l.drop (k + 1)) := by
  obtain ⟨hk, rfl⟩ := List.getElem?_eq_some_iff.1 h
  unfold vsbytes
  rw [List.drop_eq_getElem_cons hk, List.map_cons, List.flatten_cons]
end Go.Proofs.Ytpoldhblddlcpaa
