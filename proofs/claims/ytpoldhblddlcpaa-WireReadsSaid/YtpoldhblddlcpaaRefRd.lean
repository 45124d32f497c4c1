/- Contracts of the reference model's reader (package rexmillref02). -/
import Derived.Test.YtpoldhblddlcpaaVBack
import Derived.Test.YtpoldhblddlcpaaAppRow
import Derived.IntWalk
namespace Go.Proofs.Ytpoldhblddlcpaa
open Go.RowKit Go.Shelf
set_option linter.unusedVariables false

/-- A reader of the reference model at block b; its bytes lie below a block. -/
def RR (W : World) (n₀ b : Nat) (zs : List Int) (err : Int) : Prop :=
  n₀ ≤ b ∧ ∃ v, W.heap[b]? = some (.cells #[v, .int .i64 err] 47 (0, 0)) ∧ Row .u8 n₀ W v zs
theorem RR.lt {W : World} {n₀ b : Nat} {zs : List Int} {err : Int} (h : RR W n₀ b zs err) : b < W.heap.size := by
  obtain ⟨_, v, hv, _⟩ := h
  exact (Array.getElem?_eq_some_iff.1 hv).1
theorem RR.err {W : World} {n₀ b : Nat} {zs : List Int} {err : Int} (h : RR W n₀ b zs err) : W.cell? ⟨b, 1, none⟩ = some (.int .i64 err) := by
  obtain ⟨_, v, hv, _⟩ := h
  exact rd_cell1 hv
theorem RR.free {W : World} {n₀ b : Nat} {zs : List Int} {err : Int} (h : RR W n₀ b zs err) (o : Nat) : W.frozen? ⟨b, o, none⟩ = false := by
  obtain ⟨_, v, hv, _⟩ := h
  exact rd_free hv o
theorem RR.set1 {W : World} {n₀ b : Nat} {zs : List Int} {err : Int} (h : RR W n₀ b zs err) (e : Int) : RR (W.setCell ⟨b, 1, none⟩ (.int .i64 e)) n₀ b zs e := by
  obtain ⟨hb, v, hv, hr⟩ := h
  exact ⟨hb, v, rd_set1 hv _, hr.keep (KeepP.setCell _ _ _ _ (by show ¬ b < n₀; omega))⟩
theorem RR.set0 {W : World} {n₀ b : Nat} {zs ys : List Int} {err : Int} {v : Value} (h : RR W n₀ b zs err) (hr : Row .u8 n₀ W v ys) : RR (W.setCell ⟨b, 0, none⟩ v) n₀ b ys err := by
  obtain ⟨hb, u, hv, _⟩ := h
  exact ⟨hb, v, rd_set0 hv _, hr.keep (KeepP.setCell _ _ _ _ (by show ¬ b < n₀; omega))⟩
theorem RR.below {W W' : World} {n₀ b n : Nat} {zs : List Int} {err : Int} (h : RR W n₀ b zs err) (hb : b < n) (hB : Below n W W') : RR W' n₀ b zs err := by
  obtain ⟨h0, v, hv, hr⟩ := h
  exact ⟨h0, v, (hB.block b hb).trans hv, RowP.below (hB.mono (by omega)) hr⟩
theorem RR.keep {W W' : World} {n₀ b b' : Nat} {zs : List Int} {err : Int} (h : RR W n₀ b zs err) (ho : Only b' W W') (h1 : b ≠ b') (h2 : n₀ ≤ b') : RR W' n₀ b zs err := by
  have hlt := h.lt
  obtain ⟨h0, v, hv, hr⟩ := h
  exact ⟨h0, v, (ho.block b hlt (by simpa using h1)).trans hv, hr.keep ⟨fun k hk => ho.block k (by omega) (by simp; omega)⟩⟩
/-- What a method leaves. -/
def RPost (n₀ b : Nat) (w : World) (zs : List Int) (left : List Int) (er : Int) (w' : World) : Prop :=
  ∃ zs', RR w' n₀ b zs' er ∧ (er = 0 → zs' = left) ∧ zs'.length ≤ zs.length ∧ (∀ x ∈ zs', x ∈ zs) ∧ Only b w w'
/-- The rest of a row. -/
theorem row_drop {k : IntKind} {n₀ : Nat} {W : World} {b off n cap : Nat} {zs : List Int} (h : Row k n₀ W (.slice (some ⟨b, off, none⟩) n cap) zs) (j : Nat) (hj : j ≤ zs.length) :
    Row k n₀ W (.slice (some ⟨b, off + j, none⟩) (n - j) (cap - j)) (zs.drop j) ∧ (j = n → Row k n₀ W (.slice (some ⟨b, off, none⟩) (n - j) (cap - j)) (zs.drop j)) := by
  have hn := h.len
  have hlc := h.lencap
  subst hn
  constructor
  · rcases Nat.lt_or_ge j zs.length with h1 | h1
    · obtain ⟨b', off', e, hb, hc⟩ := h.at (by omega)
      simp at e
      obtain ⟨rfl, rfl⟩ := e
      refine .inr ⟨b, off + j, cap - j, by rw [List.length_drop], by rw [List.length_drop]; omega, by omega, hb, fun i hi => ?_⟩
      rw [List.length_drop] at hi
      rw [show off + j + i = off + (j + i) from by omega, hc (j + i) (by omega), List.getElem?_drop]
    · have : zs.drop j = [] := List.drop_eq_nil_of_le h1
      rw [this, show zs.length - j = 0 from by omega]
      exact .inl ⟨_, _, rfl, by omega, (fun h => by cases h), rfl⟩
  · intro hjn
    have : zs.drop j = [] := List.drop_eq_nil_of_le (by omega)
    rw [this, show zs.length - j = 0 from by omega]
    exact .inl ⟨_, _, rfl, by omega, (fun h => by cases h), rfl⟩

set_option maxHeartbeats 1000000 in
theorem ruint_err (n₀ b : Nat) (zs : List Int) (err : Int) (w : World) (h : RR w n₀ b zs err) (he : err ≠ 0) :
    Calls Try.prog 49 #[.pointer (some ⟨b, 0, none⟩)] w fun e w' => e = .returned (.int .u64 (rUint zs err).1) ∧ RPost n₀ b w zs (rUint zs err).2.1 (rUint zs err).2.2 w' := by
  have hc1 := h.err
  have hbf : (err == 0) = false := by simpa using he
  have HE := Lib.hid he
  clear he
  go_enter Try.func49, Try.ntmps49
  go_wp2_with fail
  go_loopw [3, 4, 5] (fun n u i wr => n = .int .u64 0 ∧ u = .int .u64 1 ∧ i = .int .i64 0 ∧ wr = w) (fun _ _ i _ => 10 - (intOf i).toNat)
  case atStart => exact ⟨rfl, rfl, rfl, rfl⟩
  case round =>
    obtain ⟨rfl, rfl, rfl, rfl⟩ := hrel
    go_wp2_with fail
    go_ret
    rw [rUint_err zs err HE.out]
    exact ⟨rfl, zs, h, fun _ => rfl, Nat.le_refl _, fun _ hx => hx, only_refl _ _⟩

theorem unit_bd (k : Nat) (hk : k ≤ 9) : 1 ≤ 128 ^ k ∧ 128 ^ k ≤ 9223372036854775808 ∧ (k ≤ 8 → 128 ^ k ≤ 72057594037927936) := by
  have h : k = 0 ∨ k = 1 ∨ k = 2 ∨ k = 3 ∨ k = 4 ∨ k = 5 ∨ k = 6 ∨ k = 7 ∨ k = 8 ∨ k = 9 := by omega
  rcases h with rfl | rfl | rfl | rfl | rfl | rfl | rfl | rfl | rfl | rfl <;> decide
theorem uadd_bd (k m : Nat) (c : Int) (hk : k ≤ 9) (hm : m < 128 ^ k) (h0 : 0 ≤ c) (h1 : c < 256) (h9 : k = 9 → c ≤ 1) :
    0 ≤ c % 128 * ((128 ^ k : Nat) : Int) ∧ c % 128 * ((128 ^ k : Nat) : Int) < 18446744073709551616 ∧ (m : Int) + c % 128 * ((128 ^ k : Nat) : Int) < 18446744073709551616 ∧ (m : Int) + c % 128 * ((128 ^ k : Nat) : Int) = ((m + c.toNat % 128 * 128 ^ k : Nat) : Int) := by
  obtain ⟨d, rfl⟩ := Int.eq_ofNat_of_zero_le h0
  have e : ((d : Int) % 128 * ((128 ^ k : Nat) : Int)) = ((d % 128 * 128 ^ k : Nat) : Int) := by push_cast; rfl
  rw [e, Int.toNat_natCast]
  have hb : m + d % 128 * 128 ^ k < 18446744073709551616 := by
    rcases Nat.lt_or_ge k 9 with h | h
    · have h2 := ulim m k (d % 128) hm (Nat.mod_lt _ (by decide))
      have h3 := (unit_bd (k + 1) (by omega)).2.1
      omega
    · obtain rfl : k = 9 := by omega
      have := h9 rfl
      have h2 : d % 128 ≤ 1 := by omega
      have h3 : d % 128 * 128 ^ 9 ≤ 1 * 128 ^ 9 := Nat.mul_le_mul_right _ h2
      omega
  omega
set_option maxHeartbeats 4000000 in
theorem ruint_ok (n₀ b : Nat) (zs : List Int) (w : World) (h : RR w n₀ b zs 0) (hz : ∀ x ∈ zs, 0 ≤ x ∧ x < 256) :
    Calls Try.prog 49 #[.pointer (some ⟨b, 0, none⟩)] w fun e w' => e = .returned (.int .u64 (rU 10 0 0 zs).1) ∧ RPost n₀ b w zs (rU 10 0 0 zs).2.1 (rU 10 0 0 zs).2.2 w' := by
  have hc1 := h.err
  have hf0 := h.free 0
  have hf1 := h.free 1
  obtain ⟨hnb, v, hv, hr⟩ := id h
  have hc0 := rd_cell0 hv
  obtain ⟨a, cap, rfl⟩ := row_slice hr
  have hlc := hr.lencap
  unfold maxLen at hlc
  have HZ := Lib.hid hz; clear hz
  generalize hT : rU 10 0 0 zs = T
  have HT := Lib.hid hT; clear hT
  go_enter Try.func49, Try.ntmps49
  go_wp2_with fail
  go_loopw [3, 4, 5] (fun n u i wr => ∃ (k m : Nat), k ≤ 9 ∧ k ≤ zs.length ∧ n = .int .u64 (m : Int) ∧ u = .int .u64 ((128 : Int) ^ k) ∧ i = .int .i64 (k : Int) ∧ m < 128 ^ k ∧ Hid (rU (10 - k) k m (zs.drop k) = T) ∧ wr = w) (fun _ _ i _ => 10 - (intOf i).toNat)
  case atStart => exact ⟨0, 0, by omega, Nat.zero_le _, rfl, rfl, rfl, by decide, HT, rfl⟩
  case round =>
    clear HT
    obtain ⟨k, m, hk, hkz, rfl, rfl, rfl, hm, HT, rfl⟩ := hrel
    have hi0 : (0 : Int) ≤ (k : Int) := by omega
    by_cases hlt : k < zs.length
    · have hxs : zs.drop k = zs[k] :: zs.drop (k + 1) := List.drop_eq_getElem_cons hlt
      obtain ⟨d, off, rfl, hd, hcs⟩ := hr.at (by omega)
      have c0 := hcs k hlt
      rw [List.getElem?_eq_getElem hlt, Option.getD_some] at c0
      have hx := HZ.out zs[k] (List.getElem_mem hlt)
      have HTx : Hid (rU (10 - k) k m (zs[k] :: zs.drop (k + 1)) = T) := Lib.hid (by rw [← hxs]; exact HT.out)
      generalize zs[k] = c at c0 hx HTx
      obtain ⟨hx0, hx1⟩ := hx
      have hu := unit_bd k hk
      obtain ⟨hu1, hu2, _⟩ := hu
      have hdr := row_drop hr (k + 1) (by omega)
      have HDR := Lib.hid hdr
      have Hm := Lib.hid hm
      have hi1 : (k : Int) < zs.length := by omega
      clear hxs hcs hdr hm HT
      by_cases hbad : (k = 9 ∧ 1 < c) ∨ (0 < k ∧ c = 0)
      · have HT2 : Hid (T = (0, zs.drop (k + 1), 2)) := Lib.hid (by rw [← HTx.out, rU_bad k m c _ hk hbad])
        have fin : RPost n₀ b wr zs T.2.1 T.2.2 (wr.setCell ⟨b, 1, none⟩ (.int .i64 2)) := by
          rw [HT2.out]
          exact ⟨zs, h.set1 2, (fun e => by cases e), Nat.le_refl _, fun _ hx => hx, only_set _ _ _ _⟩
        have F := Lib.hid fin
        clear fin
        have hb2 : ((k : Int) == 9 && decide (1 < c) || (decide (0 < (k : Int)) && c == 0)) = true := by
          rcases hbad with ⟨h1, h2⟩ | ⟨h1, h2⟩
          · simp [h1, h2]
          · simp [h1, h2]
        rcases hbad with ⟨h1, h2⟩ | ⟨h1, h2⟩
        · have k9 : ((k : Int) == 9) = true := by simp; omega
          have H1 := Lib.hid h1
          clear h1 hb2
          go_wp2_with fail
          go_ret
          rw [show T.1 = 0 from by rw [HT2.out]]
          exact ⟨rfl, F.out⟩
        · have H1 := Lib.hid h2
          have c00 : (c == 0) = true := by simp [h2]
          have c01 : ¬ 1 < c := by omega
          have k0 : (0 : Int) < (k : Int) := by omega
          clear h2 hb2
          by_cases h9 : k = 9
          · have k9 : ((k : Int) == 9) = true := by simp; omega
            have H9 := Lib.hid h9
            clear h9
            go_wp2_with fail
            go_ret
            rw [show T.1 = 0 from by rw [HT2.out]]
            exact ⟨rfl, F.out⟩
          · have k9 : ((k : Int) == 9) = false := by simp; omega
            have H9 := Lib.hid h9
            clear h9
            go_wp2_with fail
            go_ret
            rw [show T.1 = 0 from by rw [HT2.out]]
            exact ⟨rfl, F.out⟩
      · obtain ⟨p1, p2, p3, p4⟩ := uadd_bd k m c hk Hm.out hx0 hx1 (fun e => by omega)
        have HW : Hid (IntKind.u64.wrap ((m : Int) + IntKind.u64.wrap (c % 128 * (128 : Int) ^ k)) = ((m + c.toNat % 128 * 128 ^ k : Nat) : Int)) := Lib.hid (by
          have e : ((128 ^ k : Nat) : Int) = (128 : Int) ^ k := by push_cast; rfl
          rw [← e, IntWalk.u64_in _ ⟨p1, by omega⟩, IntWalk.u64_in _ ⟨by omega, by omega⟩, p4])
        have HU : Hid (k ≤ 8 → IntKind.u64.wrap ((128 : Int) ^ k * 128) = (128 : Int) ^ (k + 1)) := Lib.hid (fun h8 => by
          have e : ((128 ^ k : Nat) : Int) = (128 : Int) ^ k := by push_cast; rfl
          have hu8 := (unit_bd k hk).2.2 h8
          rw [Int.pow_succ, ← e]
          exact IntWalk.u64_in _ (by omega))
        have hm0 : (0 : Int) ≤ (m : Int) := by omega
        have HBAD := Lib.hid hbad
        have hc8 : c ≤ 255 := by omega
        clear p4 p1 p2 p3
        have hK1 : IntKind.i64.wrap ((k : Int) + 1) = (k : Int) + 1 := IntWalk.i64_in _ (by omega)
        have tests : (((k : Int) == 9) = true ∧ ¬ 1 < c ∧ (c == 0) = false) ∨ (((k : Int) == 9) = false ∧ (c == 0) = false) ∨ (((k : Int) == 9) = false ∧ ¬ (0 : Int) < (k : Int)) := by
          by_cases h9 : k = 9
          · exact .inl ⟨by simp; omega, by omega, by simp; omega⟩
          · by_cases h0 : c = 0
            · exact .inr (.inr ⟨by simp; omega, by omega⟩)
            · exact .inr (.inl ⟨by simp; omega, by simp; omega⟩)
        clear hbad
        by_cases h128 : c < 128
        · have HT2 : Hid (T = (m + c.toNat % 128 * 128 ^ k, zs.drop (k + 1), 0)) := Lib.hid (by rw [← HTx.out, rU_end k m c _ hk HBAD.out h128 hx0])
          have ret : ∀ v : Value, Row .u8 n₀ wr v (zs.drop (k + 1)) → RPost n₀ b wr zs T.2.1 T.2.2 (wr.setCell ⟨b, 0, none⟩ v) := by
            intro v hv
            rw [HT2.out]
            exact ⟨_, h.set0 hv, fun _ => rfl, by rw [List.length_drop]; omega, fun x hx => List.mem_of_mem_drop hx, only_set _ _ _ _⟩
          have F := Lib.hid ret
          clear ret
          rcases Nat.lt_or_ge (k + 1) cap with hcap | hcap
          · have hcap' : ¬ cap = k + 1 := by omega
            rcases tests with ⟨t1, t2, t3⟩ | ⟨t1, t3⟩ | ⟨t1, t3⟩
            all_goals
              go_wp2_with fail
              all_goals first
                | (exfalso; omega)
                | (go_ret
                   refine ⟨?_, F.out _ HDR.out.1⟩
                   show Ending.returned (.int .u64 (IntKind.u64.wrap ((m : Int) + IntKind.u64.wrap (c % 128 * (128 : Int) ^ k)))) = _
                   rw [HW.out, HT2.out])
          · obtain rfl : cap = k + 1 := by omega
            rcases tests with ⟨t1, t2, t3⟩ | ⟨t1, t3⟩ | ⟨t1, t3⟩
            all_goals
              go_wp2_with fail
              all_goals first
                | (exfalso; omega)
                | (go_ret
                   refine ⟨?_, F.out _ (by have := HDR.out.2 (by omega); rw [show zs.length - (k + 1) = 0 from by omega] at this; simpa using this)⟩
                   show Ending.returned (.int .u64 (IntKind.u64.wrap ((m : Int) + IntKind.u64.wrap (c % 128 * (128 : Int) ^ k)))) = _
                   rw [HW.out, HT2.out])
        · have hk8 : k ≤ 8 := by
            rcases Nat.lt_or_ge k 9 with h | h
            · omega
            · exact absurd (.inl ⟨by omega, by omega⟩) HBAD.out
          have HT2 : Hid (rU (10 - (k + 1)) (k + 1) (m + c.toNat % 128 * 128 ^ k) (zs.drop (k + 1)) = T) := Lib.hid (by rw [← HTx.out, rU_more k m c _ hk HBAD.out h128 hx1])
          rcases tests with ⟨t1, t2, t3⟩ | ⟨t1, t3⟩ | ⟨t1, t3⟩
          all_goals
            go_wp2_with fail
            all_goals first
              | (exfalso; omega)
              | (refine ⟨⟨k + 1, m + c.toNat % 128 * 128 ^ k, by omega, by omega, by rw [HW.out], by rw [HU.out hk8], by go_num, ulim _ _ _ Hm.out (Nat.mod_lt _ (by decide)), HT2, by first | rfl | trivial⟩, by simp [intOf]; omega⟩)
    · have hkl : zs.drop k = [] := List.drop_eq_nil_of_le (by omega)
      have HT2 : Hid (T = (0, [], 3)) := Lib.hid (by rw [← HT.out, hkl, show 10 - k = (9 - k) + 1 from by omega]; rfl)
      clear hkl hm HT
      have hge : (zs.length : Int) ≤ k := by omega
      go_wp2_with fail
      go_ret
      rw [HT2.out]
      exact ⟨rfl, zs, h.set1 3, (fun e => by cases e), Nat.le_refl _, fun _ hx => hx, only_set _ _ _ _⟩
theorem ruint_any (n₀ b : Nat) (zs : List Int) (err : Int) (w : World) (h : RR w n₀ b zs err) (hz : ∀ x ∈ zs, 0 ≤ x ∧ x < 256) :
    Calls Try.prog 49 #[.pointer (some ⟨b, 0, none⟩)] w fun e w' => e = .returned (.int .u64 (rUint zs err).1) ∧ RPost n₀ b w zs (rUint zs err).2.1 (rUint zs err).2.2 w' := by
  by_cases he : err = 0
  · subst he
    have e : rUint zs 0 = rU 10 0 0 zs := if_pos rfl
    rw [e]
    exact ruint_ok n₀ b zs w h hz
  · exact ruint_err n₀ b zs err w h he
end Go.Proofs.Ytpoldhblddlcpaa
