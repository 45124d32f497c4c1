/- Contracts for package meter: Take, Back, Left, New. -/
import Derived.Test.YtcohajmappdckaaMtB
import Derived.OwnWalk
namespace Go.Proofs.Ytcohajmappdckaa
open Go.RowKit Go.Shelf
set_option linter.unusedVariables false

theorem Mt.drewN {W : World} {p u : Nat} {s : MS} (h : Mt W p u s) (n : Nat) : Mt (W.drewN n) p u s := h.step (below_drewN (Below.refl _ _) n)
/-- One number of what was used is stored anew. -/
theorem Mt.store {W : World} {p u : Nat} {s : MS} (i : Nat) (t x : Int) (h : Mt W p u (s.adv t)) (hok : (s.put i t x).Ok) : Mt (W.setCell ⟨u, i, none⟩ (.int .i64 x)) p u (s.put i t x) ∧ OnlyP (Two p u) W (W.setCell ⟨u, i, none⟩ (.int .i64 x)) := by
  refine ⟨⟨h.ne, ?_, ?_, hok⟩, OnlyP.set _ _ _ _ (.inr rfl)⟩
  · have := h.box.far (p := ⟨u, i, none⟩) h.ne (.int .i64 x)
    have e : (s.put i t x).us.length = (s.adv t).us.length := by simp [MS.put, MS.adv]
    rw [e]
    exact this
  · have := h.row.set i (.int .i64 x)
    have e : ((s.put i t x).us.map (Value.int .i64)).toArray = ((s.adv t).us.map (Value.int .i64)).toArray.setIfInBounds i (.int .i64 x) := by
      simp [MS.put, MS.adv, List.map_set]
    rw [e]
    exact this
set_option maxHeartbeats 4000000 in
theorem take_any (p u : Nat) (s : MS) (r n t : Int) (w : World) (h : Mt w p u s) :
    Calls Try.prog 19 #[.pointer (some ⟨p, 0, none⟩), .int .i64 r, .int .i64 n, .int .i64 t] w fun e w' => e = .returned (.tuple #[.int .i64 (s.take r n t).1, .int .i64 (s.take r n t).2.1]) ∧ Mt w' p u (s.take r n t).2.2 ∧ OnlyP (Two p u) w w' := by
  have hck := check_any p u s r n t w h
  by_cases hc : s.chk r n t = 0
  · obtain ⟨r0, r1, n0, n1, t0, t1, t2⟩ := MS.chk_ok hc
    have e : s.take r n t = (s.give r.toNat n t, 0, s.put r.toNat t (s.at r.toNat t + s.give r.toNat n t)) := by
      unfold MS.take; rw [if_pos hc]
    rw [e]
    rw [hc] at hck
    clear e hc
    obtain ⟨i, rfl⟩ := Int.eq_ofNat_of_zero_le r0
    rw [Int.toNat_natCast]
    have hi : i < s.us.length := by omega
    have hg := h.ok.give i n t n0
    have hat := h.ok.at i t
    have hs0 := h.ok.sh0
    have hs1 := h.ok.sh1
    have hn1 := h.ok.n1
    have hok := h.ok.put i t (s.at i t + s.give i n t) t0 t1 (by omega) (by omega)
    have had := advance_any p u s t w h t0 t1
    have hgv : (if n ≤ s.sh - s.at i t then n else s.sh - s.at i t) = s.give i n t := by unfold MS.give; omega
    have hst : ∀ W, Mt W p u (s.adv t) → W.cell? ⟨p, 0, none⟩ = some (.int .i64 s.sh) ∧ W.cell? ⟨p, 3, none⟩ = some (.slice (some ⟨u, 0, none⟩) s.us.length s.us.length) ∧ W.cell? ⟨u, i, none⟩ = some (.int .i64 (s.at i t)) ∧ W.frozen? ⟨u, i, none⟩ = false := by
      intro W hW
      have e : (s.adv t).us.length = s.us.length := s.usAt_len t
      have c3 := hW.box.cell 3
      have c4 := hW.cell i (by rw [e]; exact hi)
      rw [e] at c3
      rw [show (s.adv t).us[i]?.getD 0 = s.at i t from s.usAt_at i t] at c4
      exact ⟨hW.box.cell 0, c3, c4, hW.row.free i⟩
    generalize s.us.length = L at *
    generalize s.at i t = X at *
    generalize s.sh = SH at *
    generalize s.give i n t = G at *
    have HC := Lib.hid hck
    have HA := Lib.hid had
    have HS := Lib.hid hst
    have HO := Lib.hid hok
    have HG := Lib.hid hgv
    clear hck had hst hok hgv
    go_enter Try.func19, Try.ntmps19
    go_wp2_with fail
    refine HC.out.mono ?_
    rintro e w1 ⟨rfl, hw1⟩
    subst hw1
    dsimp only
    go_wp2_with fail
    refine HA.out.mono ?_
    rintro e w2 ⟨rfl, hM, ho⟩
    obtain ⟨c0, c3, c4, f4⟩ := HS.out w2 hM
    have hii : (i : Int) < (L : Int) := by omega
    have hi0 : (0 : Int) ≤ (i : Int) := by omega
    have fin : ∀ k, Mt ((w2.drewN k).setCell ⟨u, i, none⟩ (.int .i64 (X + G))) p u (s.put i t (X + G)) ∧ OnlyP (Two p u) w1 ((w2.drewN k).setCell ⟨u, i, none⟩ (.int .i64 (X + G))) := fun k => by
      have hb : Below w2.heap.size w2 (w2.drewN k) := below_drewN (Below.refl _ _) k
      obtain ⟨h1, h2⟩ := Mt.store i t _ (hM.drewN k) HO.out
      exact ⟨h1, (ho.trans (OnlyP.of_below hb)).trans h2⟩
    have FIN := Lib.hid fin
    clear fin hM ho h
    dsimp only
    by_cases hm : n ≤ SH - X
    · have hG : n = G := by have := HG.out; rwa [if_pos hm] at this
      subst hG
      go_wp2_with fail
      go_quiet (fail)
      go_wp2_with fail
      go_ret2
      exact ⟨rfl, FIN.out _⟩
    · have hG : SH - X = G := by have := HG.out; rwa [if_neg hm] at this
      subst hG
      clear HG
      go_wp2_with fail
      go_quiet (fail)
      go_wp2_with fail
      go_ret2
      exact ⟨rfl, FIN.out _⟩
  · have e : s.take r n t = (0, s.chk r n t, s) := by unfold MS.take; rw [if_neg hc]
    rw [e]
    have hb : (s.chk r n t != 0) = true := by simpa using hc
    clear e hc
    generalize s.chk r n t = C at *
    have HC := Lib.hid hck
    clear hck
    go_enter Try.func19, Try.ntmps19
    go_wp2_with fail
    refine HC.out.mono ?_
    rintro e w1 ⟨rfl, hw1⟩
    subst hw1
    dsimp only
    go_wp2_with fail
    go_ret2
    exact ⟨rfl, h, OnlyP.refl _ _⟩
set_option maxHeartbeats 4000000 in
theorem back_any (p u : Nat) (s : MS) (r n t : Int) (w : World) (h : Mt w p u s) :
    Calls Try.prog 23 #[.pointer (some ⟨p, 0, none⟩), .int .i64 r, .int .i64 n, .int .i64 t] w fun e w' => e = .returned (.int .i64 (s.back r n t).1) ∧ Mt w' p u (s.back r n t).2 ∧ OnlyP (Two p u) w w' := by
  have hck := check_any p u s r n t w h
  by_cases hc : s.chk r n t = 0
  · obtain ⟨r0, r1, n0, n1, t0, t1, t2⟩ := MS.chk_ok hc
    have e : s.back r n t = (if s.at r.toNat t < n then (21, s) else (0, s.put r.toNat t (s.at r.toNat t - n))) := by
      unfold MS.back; rw [if_pos hc]
    rw [e]
    rw [hc] at hck
    clear e hc
    obtain ⟨i, rfl⟩ := Int.eq_ofNat_of_zero_le r0
    rw [Int.toNat_natCast]
    have hi : i < s.us.length := by omega
    have hat := h.ok.at i t
    have hs0 := h.ok.sh0
    have hs1 := h.ok.sh1
    have hn1 := h.ok.n1
    have hua := usedAt_any p u s i i rfl t w h hi t0 t1
    have HC := Lib.hid hck
    have HU := Lib.hid hua
    clear hck hua
    by_cases hq : s.at i t < n
    · rw [if_pos hq]
      have hfin : ∀ k, Mt (w.drewN k) p u s ∧ OnlyP (Two p u) w (w.drewN k) := fun k => ⟨h.drewN k, OnlyP.of_below (below_drewN (Below.refl _ _) k)⟩
      have FIN := Lib.hid hfin
      clear hfin h
      generalize s.at i t = X at *
      go_enter Try.func23, Try.ntmps23
      go_wp2_with fail
      refine HC.out.mono ?_
      rintro e w1 ⟨rfl, hw1⟩
      subst hw1
      dsimp only
      go_wp2_with fail
      refine HU.out.mono ?_
      rintro e w2 ⟨rfl, k, rfl⟩
      dsimp only
      go_wp2_with fail
      go_ret
      exact ⟨rfl, FIN.out _⟩
    · rw [if_neg hq]
      have had := fun k => advance_any p u s t (w.drewN k) (h.drewN k) t0 t1
      have hok := h.ok.put i t (s.at i t - n) t0 t1 (by omega) (by omega)
      have hst : ∀ W, Mt W p u (s.adv t) → W.cell? ⟨p, 3, none⟩ = some (.slice (some ⟨u, 0, none⟩) s.us.length s.us.length) ∧ W.cell? ⟨u, i, none⟩ = some (.int .i64 (s.at i t)) ∧ W.frozen? ⟨u, i, none⟩ = false := by
        intro W hW
        have e : (s.adv t).us.length = s.us.length := s.usAt_len t
        have c3 := hW.box.cell 3
        have c4 := hW.cell i (by rw [e]; exact hi)
        rw [e] at c3
        rw [show (s.adv t).us[i]?.getD 0 = s.at i t from s.usAt_at i t] at c4
        exact ⟨c3, c4, hW.row.free i⟩
      generalize s.us.length = L at *
      generalize s.at i t = X at *
      have HA := Lib.hid had
      have HS := Lib.hid hst
      have HO := Lib.hid hok
      clear had hst hok h
      go_enter Try.func23, Try.ntmps23
      go_wp2_with fail
      refine HC.out.mono ?_
      rintro e w1 ⟨rfl, hw1⟩
      subst hw1
      dsimp only
      go_wp2_with fail
      refine HU.out.mono ?_
      rintro e w2 ⟨rfl, k, rfl⟩
      dsimp only
      go_wp2_with fail
      refine (HA.out _).mono ?_
      rintro e w2 ⟨rfl, hM, ho⟩
      obtain ⟨c3, c4, f4⟩ := HS.out w2 hM
      have hii : (i : Int) < (L : Int) := by omega
      have hi0 : (0 : Int) ≤ (i : Int) := by omega
      have fin : ∀ k2, Mt ((w2.drewN k2).setCell ⟨u, i, none⟩ (.int .i64 (X - n))) p u (s.put i t (X - n)) ∧ OnlyP (Two p u) w1 ((w2.drewN k2).setCell ⟨u, i, none⟩ (.int .i64 (X - n))) := fun k2 => by
        have hb : Below w2.heap.size w2 (w2.drewN k2) := below_drewN (Below.refl _ _) k2
        have hb1 : Below w1.heap.size w1 (w1.drewN k) := below_drewN (Below.refl _ _) k
        obtain ⟨h1, h2⟩ := Mt.store i t _ (hM.drewN k2) HO.out
        exact ⟨h1, (((OnlyP.of_below hb1).trans ho).trans (OnlyP.of_below hb)).trans h2⟩
      have FIN := Lib.hid fin
      clear fin hM ho
      dsimp only
      go_wp2_with fail
      go_ret
      exact ⟨rfl, FIN.out 0⟩
  · have e : s.back r n t = (s.chk r n t, s) := by unfold MS.back; rw [if_neg hc]
    rw [e]
    have hb : (s.chk r n t != 0) = true := by simpa using hc
    clear e hc
    generalize s.chk r n t = C at *
    have HC := Lib.hid hck
    clear hck
    go_enter Try.func23, Try.ntmps23
    go_wp2_with fail
    refine HC.out.mono ?_
    rintro e w1 ⟨rfl, hw1⟩
    subst hw1
    dsimp only
    go_wp2_with fail
    go_ret
    exact ⟨rfl, h, OnlyP.refl _ _⟩
set_option maxHeartbeats 4000000 in
theorem left_any (p u : Nat) (s : MS) (r t : Int) (w : World) (h : Mt w p u s) :
    Calls Try.prog 24 #[.pointer (some ⟨p, 0, none⟩), .int .i64 r, .int .i64 t] w fun e w' => e = .returned (.tuple #[.int .i64 (s.left r t).1, .int .i64 (s.left r t).2]) ∧ Below w.heap.size w w' := by
  have hck := check_any p u s r 0 t w h
  by_cases hc : s.chk r 0 t = 0
  · obtain ⟨r0, r1, n0, n1, t0, t1, t2⟩ := MS.chk_ok hc
    have e : s.left r t = (s.sh - s.at r.toNat t, 0) := by
      unfold MS.left; rw [if_pos hc]
    rw [e]
    rw [hc] at hck
    clear e hc
    obtain ⟨i, rfl⟩ := Int.eq_ofNat_of_zero_le r0
    rw [Int.toNat_natCast]
    have hi : i < s.us.length := by omega
    have hat := h.ok.at i t
    have hs0 := h.ok.sh0
    have hs1 := h.ok.sh1
    have c0 : w.cell? ⟨p, 0, none⟩ = some (.int .i64 s.sh) := h.box.cell 0
    have hua := fun k => usedAt_any p u s i i rfl t (w.drewN k) (h.drewN k) hi t0 t1
    have HC := Lib.hid hck
    have HU := Lib.hid hua
    clear hck hua h
    generalize s.at i t = X at *
    generalize s.sh = SH at *
    clear hi r1
    go_enter Try.func24, Try.ntmps24
    go_wp2_with fail
    refine HC.out.mono ?_
    rintro e w1 ⟨rfl, hw1⟩
    subst hw1
    dsimp only
    go_wp2_with fail
    go_quiet ((go_at_call 35; exact Calls.quiet_of (HU.out _)))
    go_wp2_with fail
    go_ret2
    exact ⟨rfl, below_drewN (Below.refl _ _) _⟩
  · have e : s.left r t = (0, s.chk r 0 t) := by unfold MS.left; rw [if_neg hc]
    rw [e]
    have hb : (s.chk r 0 t != 0) = true := by simpa using hc
    clear e hc
    generalize s.chk r 0 t = C at *
    have HC := Lib.hid hck
    clear hck
    go_enter Try.func24, Try.ntmps24
    go_wp2_with fail
    refine HC.out.mono ?_
    rintro e w1 ⟨rfl, hw1⟩
    subst hw1
    dsimp only
    go_wp2_with fail
    go_ret2
    exact ⟨rfl, Below.refl _ _⟩
end Go.Proofs.Ytcohajmappdckaa
