/- The reference model's meter: Take, Back, Left. -/
import Derived.Test.YtcohajmappdckaaMtR
namespace Go.Proofs.Ytcohajmappdckaa
open Go.RowKit Go.Shelf
set_option linter.unusedVariables false

theorem info_le : (Try.prog.info? 61).map (fun i => (i.zero, i.size, i.bytes)) = some (some (.agg #[.int .i64 0, .int .i64 0, .int .i64 0]), 3, 24) := by kernel_rfl
theorem news3 (w : World) (cs : Array Value) : ∀ j u, cs.toList[j]? = some u → (w.alloc (.cells cs 61)).cell? (Addr.add ⟨w.heap.size, 0, none⟩ j) = some u := by
  intro j u hu
  rw [addr_add, Nat.zero_add, World.cell?_alloc_new]
  simpa using hu
theorem owns_form2 {w : World} {base : Nat} {e : TypeId} {size : Nat} {v : Value} {n : Nat} {xs : List Value} (h : w.ownsRow base e size v n xs) : ∃ a cap, v = .slice a n cap := by
  rcases h.2 with ⟨rfl, rfl⟩ | ⟨g, cp, cur, rfl, _⟩
  · exact ⟨_, _, rfl⟩
  · exact ⟨_, _, rfl⟩
theorem news3' (w : World) (b : Nat) (hb : b = w.heap.size) (cs : Array Value) : ∀ j u, cs.toList[j]? = some u → (w.alloc (.cells cs 61)).cell? (Addr.add ⟨b, 0, none⟩ j) = some u := by
  subst hb
  exact news3 w cs
/-- What an operation on a reference meter leaves. -/
def RAfter (w w' : World) (q : Nat) (x : Value) (s' : MS) (N' : Nat) : Prop := ∃ x', Mr w' q x' s' N' ∧ OnlyP (RB2 q x) w w' ∧ (x'.ownBlock = x.ownBlock ∨ ∃ k, x'.ownBlock = some k ∧ w.heap.size ≤ k)
theorem RAfter.same {w w' : World} {q : Nat} {x : Value} {s : MS} {N N' : Nat} (h : Mr w q x s N) (hn : N ≤ N') (hb : Below w.heap.size w w') : RAfter w w' q x s N' := ⟨x, (h.more hn).step hb, OnlyP.of_below hb, .inl rfl⟩
theorem mr_put {w wa w2 : World} {q : Nat} {x v' : Value} {s : MS} {N : Nat} (h : Mr w q x s N) {t d : Int} {i : Nat} (h0 : 0 ≤ t) (h1 : t ≤ 1099511627776) (ht : s.tk ≤ t) (hi : i < s.us.length) (d0 : -1099511627776 ≤ d) (d1 : d ≤ 1099511627776) (x0 : 0 ≤ s.at i t + d) (x1 : s.at i t + d ≤ s.sh)
    {L : List LE} (hL : L.length ≤ N) (hR : LRel s L) (hbox : Cel wa q 58 #[.int .i64 (s.us.length : Int), .int .i64 s.sh, .int .i64 s.pe, .int .i64 t, x]) (hwa : OnlyP (RB2 q x) w wa)
    (hown : w2.ownsRow 0 61 3 v' (L.length + 1) (leCells (L ++ [⟨i, d, t⟩]))) (hg : wa.grownBy w2 x.ownBlock) (hat : v'.ownBlock = x.ownBlock ∨ v'.ownBlock = some wa.heap.size) :
    RAfter w (w2.setCell ⟨q, 4, none⟩ v') q x (s.put i t (s.at i t + d)) (N + 1) := by
  have hlen : (s.put i t (s.at i t + d)).us.length = s.us.length := by
    show ((s.usAt t).set i (s.at i t + d)).length = _
    rw [List.length_set, s.usAt_len]
  have hqw := hbox.lt
  have hnq : v'.ownBlock ≠ some q := by
    rcases hat with e | e
    · rw [e]; exact h.ne
    · rw [e]; intro e2; injection e2 with e2; omega
  have hb2 : Cel w2 q 58 #[.int .i64 (s.us.length : Int), .int .i64 s.sh, .int .i64 s.pe, .int .i64 t, x] := hbox.grown hg h.ne
  refine ⟨v', ⟨h.ok.put i t _ h0 h1 x0 x1, ?_, ⟨L ++ [⟨i, d, t⟩], ?_, hR.put (by have := h.ok.pe0; omega) h0 ht i hi d d0 d1, ?_⟩, hnq⟩, ?_, ?_⟩
  · rw [hlen]
    exact hb2.set 4 v'
  · rw [List.length_append]; simp; exact hL
  · rw [List.length_append]
    refine owns_only hown (OnlyP.set (fun k => k = q) w2 ⟨q, 4, none⟩ v' rfl) (fun k hk e => hnq (by rw [hk, e]))
  · have o1 : OnlyP (RB2 q x) wa w2 := ⟨hg.os, hg.tape, hg.output, hg.size, fun k hk hn => hg.block k hk (fun e => hn (.inr e.symm))⟩
    exact (hwa.trans o1).trans (OnlyP.set _ _ _ _ (.inl rfl))
  · rcases hat with e | e
    · exact .inl e
    · exact .inr ⟨_, e, hwa.size⟩
set_option maxRecDepth 100000 in
set_option maxHeartbeats 4000000 in
theorem rtake_any (q : Nat) (x : Value) (s : MS) (N : Nat) (r n t : Int) (w : World) (h : Mr w q x s N) (hN : N ≤ 1000) :
    Calls Try.prog 20 #[.pointer (some ⟨q, 0, none⟩), .int .i64 r, .int .i64 n, .int .i64 t] w fun e w' => e = .returned (.tuple #[.int .i64 (s.take r n t).1, .int .i64 (s.take r n t).2.1]) ∧ RAfter w w' q x (s.take r n t).2.2 (N + 1) := by
  have hck := rchk_any q x s N r n t w h
  by_cases hc : s.chk r n t = 0
  · obtain ⟨r0, r1, n0, n1, t0, t1, t2⟩ := MS.chk_ok hc
    have e : s.take r n t = (s.give r.toNat n t, 0, s.put r.toNat t (s.at r.toNat t + s.give r.toNat n t)) := by
      unfold MS.take; rw [if_pos hc]
    rw [e]
    rw [hc] at hck
    clear e hc
    obtain ⟨i, rfl⟩ := Int.eq_ofNat_of_zero_le r0
    rw [Int.toNat_natCast]
    have hi : i < s.us.length := by omega
    have hg := h.ok.give i n t n0
    have hat := h.ok.at i t
    have hs0 := h.ok.sh0
    have hs1 := h.ok.sh1
    obtain ⟨i0, hi0, hz0, hz1, hz2⟩ := info_parts info_le
    obtain ⟨L, hL, hR, ho⟩ := h.list
    have hra := fun k => rat_any q x s N i i rfl t (w.drewN k) (h.drewN k) hN hi t2 t1
    have c1 : w.cell? ⟨q, 1, none⟩ = some (.int .i64 s.sh) := h.box.cell 1
    have hgv : s.give i n t = min n (s.sh - s.at i t) := rfl
    rw [hgv] at hg ⊢
    have hfin : ∀ (wa w2 : World) (v' : Value), _ → _ → _ → _ → _ → RAfter w (w2.setCell ⟨q, 4, none⟩ v') q x (s.put i t (s.at i t + min n (s.sh - s.at i t))) (N + 1) := fun wa w2 v' hbox hwa hown hgr hat2 => mr_put (wa := wa) h t0 t1 t2 hi (by omega) (by omega) (by omega) (by omega) hL hR hbox hwa hown hgr hat2
    have hbx := fun k => ((h.box.step (below_drewN (Below.refl w.heap.size w) k)).set 3 (.int .i64 t))
    have how := fun k => owns_only (owns_only ho (OnlyP.of_below (q := fun k => k = q) (below_drewN (Below.refl w.heap.size w) k)) (fun k hk e => h.ne (by rw [hk, e]))) (OnlyP.set (fun k => k = q) (w.drewN k) ⟨q, 3, none⟩ (.int .i64 t) rfl) (fun k hk e => h.ne (by rw [hk, e]))
    have hon := fun k => (OnlyP.of_below (q := RB2 q x) (below_drewN (Below.refl w.heap.size w) k)).trans (OnlyP.set (RB2 q x) (w.drewN k) ⟨q, 3, none⟩ (.int .i64 t) (.inl rfl))
    have c3 : w.cell? ⟨q, 3, none⟩ = some (.int .i64 s.tk) := h.box.cell 3
    have c4 : w.cell? ⟨q, 4, none⟩ = some x := h.box.cell 4
    have f3 : w.frozen? ⟨q, 3, none⟩ = false := h.box.free 3
    have hxne := h.ne
    obtain ⟨a, cp, hx⟩ : ∃ a cp, x = .slice a L.length cp := by
      rcases ho.2 with ⟨rfl, e⟩ | ⟨g, cp, cur, rfl, _⟩
      · exact ⟨none, 0, by rw [e]⟩
      · exact ⟨_, _, rfl⟩
    generalize s.at i t = X at *
    generalize s.sh = SH at *
    generalize s.us.length = LL at *
    have HC := Lib.hid hck
    have HRA := Lib.hid hra
    have HFIN := Lib.hid hfin
    have HBX := Lib.hid hbx
    have HOW := Lib.hid how
    have HON := Lib.hid hon
    have HNE := Lib.hid hxne
    have HX := Lib.hid hx
    clear hck hra hfin hbx ho how hon hgv hxne hR h
    subst hx
    clear HX
    go_enter Try.func20, Try.ntmps20
    go_wp2_with fail
    refine HC.out.mono ?_
    rintro e w1 ⟨rfl, hw1⟩
    subst hw1
    dsimp only
    go_wp2_with fail
    have hl1 : (L.length : Int) ≤ 1000 := by omega
    go_quiet ((go_at_call 31; exact Calls.quiet_of (HRA.out _)))
    go_wp2_with (at_builtin; refine wpList_append_own_at _ rfl _ _ 56 rfl 0 61 i0 (.agg #[.int .i64 0, .int .i64 0, .int .i64 0]) 3 24 Try.underlying56 hi0 hz0 hz1 hz2 rfl (by decide) _ _ _ rfl ((HOW.out _).alloc _) ⟨_, 0, none⟩ 1 1 _ rfl rfl (news3' _ _ (by simp) _) (by intro u hu; simp at hu; rcases hu with rfl | rfl | rfl <;> rfl) (by unfold maxLen; omega) (by omega) (Nat.zero_le _) ?_; intro v' w2 hown hgrow _ hat2; have hb2 := ((HBX.out _).alloc _).grown hgrow HNE.out; have z4 := hb2.cell 4; have y4 := hb2.free 4; obtain ⟨a', c', hv'⟩ := owns_form2 hown; subst hv'; clear hb2)
    go_ret2
    exact ⟨rfl, HFIN.out _ _ _ ((HBX.out _).alloc _) ((HON.out _).trans (OnlyP.of_below (laidB (Below.refl _ _) _))) (by rw [leCells_snoc]; exact hown) hgrow hat2⟩
  · have e : s.take r n t = (0, s.chk r n t, s) := by unfold MS.take; rw [if_neg hc]
    rw [e]
    have hb : (s.chk r n t != 0) = true := by simpa using hc
    clear e hc
    generalize s.chk r n t = C at *
    have HC := Lib.hid hck
    clear hck
    go_enter Try.func20, Try.ntmps20
    go_wp2_with fail
    refine HC.out.mono ?_
    rintro e w1 ⟨rfl, hw1⟩
    subst hw1
    dsimp only
    go_wp2_with fail
    go_ret2
    exact ⟨rfl, RAfter.same h (Nat.le_succ _) (Below.refl _ _)⟩
set_option maxRecDepth 100000 in
set_option maxHeartbeats 4000000 in
theorem rback_any (q : Nat) (x : Value) (s : MS) (N : Nat) (r n t : Int) (w : World) (h : Mr w q x s N) (hN : N ≤ 1000) :
    Calls Try.prog 28 #[.pointer (some ⟨q, 0, none⟩), .int .i64 r, .int .i64 n, .int .i64 t] w fun e w' => e = .returned (.int .i64 (s.back r n t).1) ∧ RAfter w w' q x (s.back r n t).2 (N + 1) := by
  have hck := rchk_any q x s N r n t w h
  by_cases hc : s.chk r n t = 0
  · obtain ⟨r0, r1, n0, n1, t0, t1, t2⟩ := MS.chk_ok hc
    have e : s.back r n t = (if s.at r.toNat t < n then (21, s) else (0, s.put r.toNat t (s.at r.toNat t - n))) := by
      unfold MS.back; rw [if_pos hc]
    rw [e]
    rw [hc] at hck
    clear e hc
    obtain ⟨i, rfl⟩ := Int.eq_ofNat_of_zero_le r0
    rw [Int.toNat_natCast]
    have hi : i < s.us.length := by omega
    have hat := h.ok.at i t
    have hs0 := h.ok.sh0
    have hs1 := h.ok.sh1
    have hra := rat_any q x s N i i rfl t w h hN hi t2 t1
    have HC := Lib.hid hck
    have HRA := Lib.hid hra
    clear hck hra
    by_cases hq : s.at i t < n
    · rw [if_pos hq]
      have hfin : ∀ k, RAfter w (w.drewN k) q x s (N + 1) := fun k => RAfter.same h (Nat.le_succ _) (below_drewN (Below.refl _ _) k)
      have FIN := Lib.hid hfin
      clear hfin h
      generalize s.at i t = X at *
      go_enter Try.func28, Try.ntmps28
      go_wp2_with fail
      refine HC.out.mono ?_
      rintro e w1 ⟨rfl, hw1⟩
      subst hw1
      dsimp only
      go_wp2_with fail
      refine HRA.out.mono ?_
      rintro e w2 ⟨rfl, k, rfl⟩
      dsimp only
      go_wp2_with fail
      go_ret
      exact ⟨rfl, FIN.out _⟩
    · rw [if_neg hq]
      obtain ⟨i0, hi0, hz0, hz1, hz2⟩ := info_parts info_le
      obtain ⟨L, hL, hR, ho⟩ := h.list
      have hfin : ∀ (wa w2 : World) (v' : Value), _ → _ → _ → _ → _ → RAfter w (w2.setCell ⟨q, 4, none⟩ v') q x (s.put i t (s.at i t + -n)) (N + 1) := fun wa w2 v' hbox hwa hown hgr hat2 => mr_put (wa := wa) (d := -n) h t0 t1 t2 hi (by omega) (by omega) (by omega) (by omega) hL hR hbox hwa hown hgr hat2
      rw [show s.at i t + -n = s.at i t - n from by omega] at hfin
      have hbx := fun k => ((h.box.step (below_drewN (Below.refl w.heap.size w) k)).set 3 (.int .i64 t))
      have how := fun k => owns_only (owns_only ho (OnlyP.of_below (q := fun k => k = q) (below_drewN (Below.refl w.heap.size w) k)) (fun k hk e => h.ne (by rw [hk, e]))) (OnlyP.set (fun k => k = q) (w.drewN k) ⟨q, 3, none⟩ (.int .i64 t) rfl) (fun k hk e => h.ne (by rw [hk, e]))
      have hon := fun k => (OnlyP.of_below (q := RB2 q x) (below_drewN (Below.refl w.heap.size w) k)).trans (OnlyP.set (RB2 q x) (w.drewN k) ⟨q, 3, none⟩ (.int .i64 t) (.inl rfl))
      have c3 : w.cell? ⟨q, 3, none⟩ = some (.int .i64 s.tk) := h.box.cell 3
      have c4 : w.cell? ⟨q, 4, none⟩ = some x := h.box.cell 4
      have f3 : w.frozen? ⟨q, 3, none⟩ = false := h.box.free 3
      have hxne := h.ne
      obtain ⟨a, cp, hx⟩ : ∃ a cp, x = .slice a L.length cp := by
        rcases ho.2 with ⟨rfl, e⟩ | ⟨g, cp, cur, rfl, _⟩
        · exact ⟨none, 0, by rw [e]⟩
        · exact ⟨_, _, rfl⟩
      generalize s.at i t = X at *
      generalize s.us.length = LL at *
      have HFIN := Lib.hid hfin
      have HBX := Lib.hid hbx
      have HOW := Lib.hid how
      have HON := Lib.hid hon
      have HNE := Lib.hid hxne
      clear hfin hbx ho how hon hxne hR h
      subst hx
      go_enter Try.func28, Try.ntmps28
      go_wp2_with fail
      refine HC.out.mono ?_
      rintro e w1 ⟨rfl, hw1⟩
      subst hw1
      dsimp only
      have hl1 : (L.length : Int) ≤ 1000 := by omega
      go_wp2_with fail
      refine HRA.out.mono ?_
      rintro e w2 ⟨rfl, k, rfl⟩
      dsimp only
      go_wp2_with (at_builtin; refine wpList_append_own_at _ rfl _ _ 56 rfl 0 61 i0 (.agg #[.int .i64 0, .int .i64 0, .int .i64 0]) 3 24 Try.underlying56 hi0 hz0 hz1 hz2 rfl (by decide) _ _ _ rfl ((HOW.out _).alloc _) ⟨_, 0, none⟩ 1 1 _ rfl rfl (news3' _ _ (by simp) _) (by intro u hu; simp at hu; rcases hu with rfl | rfl | rfl <;> rfl) (by unfold maxLen; omega) (by omega) (Nat.zero_le _) ?_; intro v' w2 hown hgrow _ hat2; have hb2 := ((HBX.out _).alloc _).grown hgrow HNE.out; have z4 := hb2.cell 4; have y4 := hb2.free 4; obtain ⟨a', c', hv'⟩ := owns_form2 hown; subst hv'; clear hb2)
      go_ret
      exact ⟨rfl, HFIN.out _ _ _ ((HBX.out _).alloc _) ((HON.out _).trans (OnlyP.of_below (laidB (Below.refl _ _) _))) (by rw [leCells_snoc]; exact hown) hgrow hat2⟩
  · have e : s.back r n t = (s.chk r n t, s) := by unfold MS.back; rw [if_neg hc]
    rw [e]
    have hb : (s.chk r n t != 0) = true := by simpa using hc
    clear e hc
    generalize s.chk r n t = C at *
    have HC := Lib.hid hck
    clear hck
    go_enter Try.func28, Try.ntmps28
    go_wp2_with fail
    refine HC.out.mono ?_
    rintro e w1 ⟨rfl, hw1⟩
    subst hw1
    dsimp only
    go_wp2_with fail
    go_ret
    exact ⟨rfl, RAfter.same h (Nat.le_succ _) (Below.refl _ _)⟩
set_option maxHeartbeats 4000000 in
theorem rleft_any (q : Nat) (x : Value) (s : MS) (N : Nat) (r t : Int) (w : World) (h : Mr w q x s N) (hN : N ≤ 1000) :
    Calls Try.prog 29 #[.pointer (some ⟨q, 0, none⟩), .int .i64 r, .int .i64 t] w fun e w' => e = .returned (.tuple #[.int .i64 (s.left r t).1, .int .i64 (s.left r t).2]) ∧ Below w.heap.size w w' := by
  have hck := rchk_any q x s N r 0 t w h
  by_cases hc : s.chk r 0 t = 0
  · obtain ⟨r0, r1, n0, n1, t0, t1, t2⟩ := MS.chk_ok hc
    have e : s.left r t = (s.sh - s.at r.toNat t, 0) := by
      unfold MS.left; rw [if_pos hc]
    rw [e]
    rw [hc] at hck
    clear e hc
    obtain ⟨i, rfl⟩ := Int.eq_ofNat_of_zero_le r0
    rw [Int.toNat_natCast]
    have hi : i < s.us.length := by omega
    have hat := h.ok.at i t
    have hs0 := h.ok.sh0
    have hs1 := h.ok.sh1
    have c0 : w.cell? ⟨q, 1, none⟩ = some (.int .i64 s.sh) := h.box.cell 1
    have hua := fun k => rat_any q x s N i i rfl t (w.drewN k) (h.drewN k) hN hi t2 t1
    have HC := Lib.hid hck
    have HU := Lib.hid hua
    clear hck hua h
    generalize s.at i t = X at *
    generalize s.sh = SH at *
    clear hi r1
    go_enter Try.func29, Try.ntmps29
    go_wp2_with fail
    refine HC.out.mono ?_
    rintro e w1 ⟨rfl, hw1⟩
    subst hw1
    dsimp only
    go_wp2_with fail
    go_quiet ((go_at_call 31; exact Calls.quiet_of (HU.out _)))
    go_wp2_with fail
    go_ret2
    exact ⟨rfl, below_drewN (Below.refl _ _) _⟩
  · have e : s.left r t = (0, s.chk r 0 t) := by unfold MS.left; rw [if_neg hc]
    rw [e]
    have hb : (s.chk r 0 t != 0) = true := by simpa using hc
    clear e hc
    generalize s.chk r 0 t = C at *
    have HC := Lib.hid hck
    clear hck
    go_enter Try.func29, Try.ntmps29
    go_wp2_with fail
    refine HC.out.mono ?_
    rintro e w1 ⟨rfl, hw1⟩
    subst hw1
    dsimp only
    go_wp2_with fail
    go_ret2
    exact ⟨rfl, Below.refl _ _⟩
theorem rnew_bad (n sh pe : Int) (w : World) (h : newBad n sh pe) :
    Calls Try.prog 12 #[.int .i64 n, .int .i64 sh, .int .i64 pe] w fun e w' => e = .returned (.pointer none) ∧ w' = w := by
  unfold newBad at h
  by_cases h1 : n < 1
  · go_enter Try.func12, Try.ntmps12
    go_wp2_with fail
    go_ret
    exact ⟨rfl, rfl⟩
  · by_cases h2 : 500 < n
    · go_enter Try.func12, Try.ntmps12
      go_wp2_with fail
      go_ret
      exact ⟨rfl, rfl⟩
    · by_cases h3 : sh < 0
      · go_enter Try.func12, Try.ntmps12
        go_wp2_with fail
        go_ret
        exact ⟨rfl, rfl⟩
      · by_cases h4 : 1099511627776 < sh
        · go_enter Try.func12, Try.ntmps12
          go_wp2_with fail
          go_ret
          exact ⟨rfl, rfl⟩
        · by_cases h5 : pe < 1
          · go_enter Try.func12, Try.ntmps12
            go_wp2_with fail
            go_ret
            exact ⟨rfl, rfl⟩
          · have h6 : 1099511627776 < pe := by omega
            go_enter Try.func12, Try.ntmps12
            go_wp2_with fail
            go_ret
            exact ⟨rfl, rfl⟩
theorem rnew_ok (n : Nat) (j : Int) (hj : (n : Int) = j) (sh pe : Int) (w : World) (h1 : 1 ≤ n) (h2 : n ≤ 500) (h3 : 0 ≤ sh) (h4 : sh ≤ 1099511627776) (h5 : 1 ≤ pe) (h6 : pe ≤ 1099511627776) :
    Calls Try.prog 12 #[.int .i64 j, .int .i64 sh, .int .i64 pe] w fun e w' => e = .returned (.pointer (some ⟨w.heap.size, 0, none⟩)) ∧ Mr w' w.heap.size (.slice none 0 0) (MS.new n sh pe) 0 ∧ Below w.heap.size w w' := by
  have hok := MS.new_ok n sh pe h1 h2 h3 h4 h5 h6
  have b1 : ¬ j < 1 := by omega
  have b2 : ¬ 500 < j := by omega
  have b3 : ¬ sh < 0 := by omega
  have b4 : ¬ 1099511627776 < sh := by omega
  have b5 : ¬ pe < 1 := by omega
  have b6 : ¬ 1099511627776 < pe := by omega
  have HJ := Lib.hid hj
  have HOK := Lib.hid hok
  clear hj hok
  go_enter Try.func12, Try.ntmps12
  go_wp2_with fail
  go_ret
  refine ⟨rfl, ⟨HOK.out, ?_, ⟨[], Nat.le_refl _, ⟨by simp, by simp, by simp, fun i hi => ?_⟩, World.ownsRow_nil _ _ _ _⟩, by simp [Value.ownBlock]⟩, laidB (Below.refl _ _) _⟩
  · have := Cel.new w 58 #[.int .i64 j, .int .i64 sh, .int .i64 pe, .int .i64 0, .slice none 0 0]
    simpa [MS.new, HJ.out] using this
  · show (0 : Int) = (List.replicate n (0 : Int))[i]?.getD 0
    rw [List.getElem?_replicate]
    split <;> rfl
end Go.Proofs.Ytcohajmappdckaa
