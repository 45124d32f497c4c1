/- Package meter: plain facts for MeterApart. -/
import Derived.Test.YtcohajmappdckaaMtK
namespace Go.Proofs.Ytcohajmappdckaa
open Go.RowKit Go.Shelf
set_option linter.unusedVariables false

/-- A later tick: all is used anew, or what was. -/
theorem MS.at_next {s : MS} (hp : 0 < s.pe) (i : Nat) {t t' : Int} (h1 : s.tk ≤ t) (h2 : t ≤ t') : s.at i t' = if t' / s.pe = t / s.pe then s.at i t else 0 := by
  have e1 := Int.ediv_le_ediv hp h1
  have e2 := Int.ediv_le_ediv hp h2
  unfold MS.at MS.fresh
  simp only [decide_eq_true_eq]
  by_cases h : t' / s.pe = t / s.pe
  · rw [if_pos h, h]
  · rw [if_neg h, if_pos (by omega)]
theorem MS.put_at {s : MS} (i : Nat) (t x : Int) (hi : i < s.us.length) (j : Nat) : (s.put i t x).at j t = if j = i then x else s.at j t := by
  have hf : (s.put i t x).fresh t = false := by
    unfold MS.fresh MS.put
    simp
  unfold MS.at
  rw [hf]
  show ((s.usAt t).set i x)[j]?.getD 0 = _
  rw [List.getElem?_set]
  split
  · rename_i h
    subst h
    rw [if_pos (by rw [s.usAt_len]; exact hi), if_pos rfl]
    rfl
  · rename_i h
    rw [if_neg (fun e => h e.symm), s.usAt_at]
    rfl
theorem MS.chk_zero {s : MS} {r n t : Int} (h0 : 0 ≤ r) (h1 : r < s.us.length) (h2 : 0 ≤ n) (h3 : n ≤ 1099511627776) (h4 : 0 ≤ t) (h5 : t ≤ 1099511627776) (h6 : s.tk ≤ t) : s.chk r n t = 0 := by
  unfold MS.chk
  rw [if_neg (by omega), if_neg (by omega), if_neg (by omega), if_neg (by omega)]
/-- What sums and meter have to do with one another, at a tick. -/
structure RelM (sh pe t : Int) (S : List Int) (M : MS) : Prop where
  sh : M.sh = sh
  pe : M.pe = pe
  n : M.us.length = 4
  tk : M.tk ≤ t
  len : S.length = 4
  at_ : ∀ i : Nat, i < 4 → S[i]?.getD 0 = M.at i t
/-- .. and the meter of rule 0. -/
structure RelO (sh pe t s0 : Int) (O : MS) : Prop where
  sh : O.sh = sh
  pe : O.pe = pe
  n : O.us.length = 1
  tk : O.tk ≤ t
  at_ : O.at 0 t = s0
theorem RelM.same {sh pe t t' : Int} {S : List Int} {M : MS} (h : RelM sh pe t S M) (hp : 0 < pe) (h2 : t ≤ t') (he : t' / pe = t / pe) : RelM sh pe t' S M :=
  ⟨h.sh, h.pe, h.n, Int.le_trans h.tk h2, h.len, fun i hi => by rw [MS.at_next (by rw [h.pe]; exact hp) i h.tk h2, h.pe, if_pos he]; exact h.at_ i hi⟩
theorem RelO.same {sh pe t t' s0 : Int} {O : MS} (h : RelO sh pe t s0 O) (hp : 0 < pe) (h2 : t ≤ t') (he : t' / pe = t / pe) : RelO sh pe t' s0 O :=
  ⟨h.sh, h.pe, h.n, Int.le_trans h.tk h2, by rw [MS.at_next (by rw [h.pe]; exact hp) 0 h.tk h2, h.pe, if_pos he]; exact h.at_⟩
theorem RelM.anew {sh pe t t' : Int} {S : List Int} {M : MS} (h : RelM sh pe t S M) (hp : 0 < pe) (h2 : t ≤ t') (he : ¬ t' / pe = t / pe) : RelM sh pe t' (zerosI 4) M :=
  ⟨h.sh, h.pe, h.n, Int.le_trans h.tk h2, by simp [zerosI], fun i hi => by
    rw [MS.at_next (by rw [h.pe]; exact hp) i h.tk h2, h.pe, if_neg he]
    unfold zerosI
    rw [List.getElem?_replicate]
    split <;> rfl⟩
theorem RelO.anew {sh pe t t' s0 : Int} {O : MS} (h : RelO sh pe t s0 O) (hp : 0 < pe) (h2 : t ≤ t') (he : ¬ t' / pe = t / pe) : RelO sh pe t' ((zerosI 4)[0]?.getD 0) O :=
  ⟨h.sh, h.pe, h.n, Int.le_trans h.tk h2, by rw [MS.at_next (by rw [h.pe]; exact hp) 0 h.tk h2, h.pe, if_neg he]; rfl⟩
theorem RelM.put {sh pe t : Int} {S : List Int} {M : MS} (h : RelM sh pe t S M) (i : Nat) (hi : i < 4) (x : Int) : RelM sh pe t (S.set i x) (M.put i t x) :=
  ⟨h.sh, h.pe, by show ((M.usAt t).set i x).length = 4; rw [List.length_set, M.usAt_len]; exact h.n, Int.le_refl _, by rw [List.length_set]; exact h.len, fun j hj => by
    rw [MS.put_at i t x (by rw [h.n]; exact hi) j, List.getElem?_set]
    by_cases e : i = j
    · rw [if_pos e, if_pos (by rw [h.len]; exact hi), if_pos e.symm]
      rfl
    · rw [if_neg e, if_neg (fun e2 => e e2.symm)]
      exact h.at_ j hj⟩
theorem RelO.put {sh pe t s0 : Int} {O : MS} (h : RelO sh pe t s0 O) (x : Int) : RelO sh pe t x (O.put 0 t x) :=
  ⟨h.sh, h.pe, by show ((O.usAt t).set 0 x).length = 1; rw [List.length_set, O.usAt_len]; exact h.n, Int.le_refl _, by rw [MS.put_at 0 t x (by rw [h.n]; decide) 0, if_pos rfl]⟩
theorem RelM.back {sh pe t : Int} {S : List Int} {M : MS} (h : RelM sh pe t S M) (i : Nat) (hi : i < 4) (n : Int) (h0 : 0 ≤ n) (h1 : n ≤ 1099511627776) (t0 : 0 ≤ t) (t1 : t ≤ 1099511627776) : M.back (i : Int) n t = if S[i]?.getD 0 < n then (21, M) else (0, M.put i t (S[i]?.getD 0 - n)) := by
  unfold MS.back
  rw [MS.chk_zero (by omega) (by rw [h.n]; omega) h0 h1 t0 t1 h.tk, if_pos rfl, Int.toNat_natCast, ← h.at_ i hi]
theorem RelO.back {sh pe t s0 : Int} {O : MS} (h : RelO sh pe t s0 O) (n : Int) (h0 : 0 ≤ n) (h1 : n ≤ 1099511627776) (t0 : 0 ≤ t) (t1 : t ≤ 1099511627776) : O.back 0 n t = if s0 < n then (21, O) else (0, O.put 0 t (s0 - n)) := by
  unfold MS.back
  rw [MS.chk_zero (by omega) (by rw [h.n]; decide) h0 h1 t0 t1 h.tk, if_pos rfl, Int.toNat_zero, h.at_]
theorem RelM.take {sh pe t : Int} {S : List Int} {M : MS} (h : RelM sh pe t S M) (i : Nat) (hi : i < 4) (n : Int) (h0 : 0 ≤ n) (h1 : n ≤ 1099511627776) (t0 : 0 ≤ t) (t1 : t ≤ 1099511627776) :
    M.take (i : Int) n t = (min n (sh - S[i]?.getD 0), 0, M.put i t (S[i]?.getD 0 + min n (sh - S[i]?.getD 0))) := by
  unfold MS.take
  rw [MS.chk_zero (by omega) (by rw [h.n]; omega) h0 h1 t0 t1 h.tk, if_pos rfl, Int.toNat_natCast]
  unfold MS.give
  rw [← h.at_ i hi, h.sh]
theorem RelO.take {sh pe t s0 : Int} {O : MS} (h : RelO sh pe t s0 O) (n : Int) (h0 : 0 ≤ n) (h1 : n ≤ 1099511627776) (t0 : 0 ≤ t) (t1 : t ≤ 1099511627776) : O.take 0 n t = (min n (sh - s0), 0, O.put 0 t (s0 + min n (sh - s0))) := by
  unfold MS.take
  rw [MS.chk_zero (by omega) (by rw [h.n]; decide) h0 h1 t0 t1 h.tk, if_pos rfl, Int.toNat_zero]
  unfold MS.give
  rw [h.at_, h.sh]
theorem RelM.left {sh pe t : Int} {S : List Int} {M : MS} (h : RelM sh pe t S M) (i : Nat) (hi : i < 4) (t0 : 0 ≤ t) (t1 : t ≤ 1099511627776) : M.left (i : Int) t = (sh - S[i]?.getD 0, 0) := by
  unfold MS.left
  rw [MS.chk_zero (by omega) (by rw [h.n]; omega) (by omega) (by omega) t0 t1 h.tk, if_pos rfl, Int.toNat_natCast, ← h.at_ i hi, h.sh]
/-- The numbers of the blocks that MeterApart's loop leans on. -/
structure ApD (B p u p' u' lo hi : Nat) : Prop where
  bp : B ≤ p
  bu : B ≤ u
  bp' : B ≤ p'
  bu' : B ≤ u'
  pl : p < lo
  ul : u < lo
  pl' : p' < lo
  ul' : u' < lo
  pp : p' ≠ p
  pu : p' ≠ u
  up : u' ≠ p
  uu : u' ≠ u
  lh : lo ≤ hi
/-- What lies in memory at MeterApart's loop. -/
structure ApW (W : World) (p u p' u' lo hi g : Nat) (S : List Int) (M O : MS) (x : Value) (l : List OpM) : Prop where
  m : Mt W p u M
  o : Mt W p' u' O
  s : Cel W g 3 (celI S)
  ops : OpsRow (fun b => lo ≤ b ∧ b < hi) W x l
  g : hi ≤ g
/-- .. with the operation's box, and the world in which the law began. -/
structure ApL (w0 W : World) (p u p' u' lo hi g bo : Nat) (op : OpM) (S : List Int) (M O : MS) (x : Value) (l : List OpM) : Prop where
  ap : ApW W p u p' u' lo hi g S M O x l
  c : Cel W bo 34 #[.int .i64 op.kind, .int .i64 op.rule, .int .i64 op.n, .int .i64 op.wait]
  b : Below w0.heap.size w0 W
  bl : hi ≤ bo
  ne : bo ≠ g
section
variable {W W' : World} {B p u p' u' lo hi g : Nat} {S : List Int} {M O : MS} {x : Value} {l : List OpM}
theorem ApW.step (h : ApW W p u p' u' lo hi g S M O x l) (hb : Below W.heap.size W W') : ApW W' p u p' u' lo hi g S M O x l := ⟨h.m.step hb, h.o.step hb, h.s.step hb, h.ops.step hb, h.g⟩
theorem ApW.turnM (d : ApD B p u p' u' lo hi) (h : ApW W p u p' u' lo hi g S M O x l) {M' : MS} (hm : Mt W' p u M') (ho : OnlyP (Two p u) W W') : ApW W' p u p' u' lo hi g S M' O x l := by
  obtain ⟨b1, b2, b3, b4, l1, l2, l3, l4, d1, d2, d3, d4, lh⟩ := d
  have hg := h.g
  exact ⟨hm, h.o.only ho (by rintro (e | e) <;> omega) (by rintro (e | e) <;> omega), h.s.only ho (by rintro (e | e) <;> omega), h.ops.only ho (by rintro b ⟨_, _⟩ (e | e) <;> omega), hg⟩
theorem ApW.turnO (d : ApD B p u p' u' lo hi) (h : ApW W p u p' u' lo hi g S M O x l) {O' : MS} (hm : Mt W' p' u' O') (ho : OnlyP (Two p' u') W W') : ApW W' p u p' u' lo hi g S M O' x l := by
  obtain ⟨b1, b2, b3, b4, l1, l2, l3, l4, d1, d2, d3, d4, lh⟩ := d
  have hg := h.g
  exact ⟨h.m.only ho (by rintro (e | e) <;> omega) (by rintro (e | e) <;> omega), hm, h.s.only ho (by rintro (e | e) <;> omega), h.ops.only ho (by rintro b ⟨_, _⟩ (e | e) <;> omega), hg⟩
theorem ApW.store (d : ApD B p u p' u' lo hi) (h : ApW W p u p' u' lo hi g S M O x l) (i : Nat) (v : Int) : ApW (W.setCell ⟨g, i, none⟩ (.int .i64 v)) p u p' u' lo hi g (S.set i v) M O x l := by
  obtain ⟨b1, b2, b3, b4, l1, l2, l3, l4, d1, d2, d3, d4, lh⟩ := d
  have hg := h.g
  have ho : OnlyP (fun k => k = g) W (W.setCell ⟨g, i, none⟩ (.int .i64 v)) := OnlyP.set _ _ _ _ rfl
  exact ⟨h.m.only ho (by omega) (by omega), h.o.only ho (by omega) (by omega), cel_put h.s i v, h.ops.only ho (by rintro b ⟨_, _⟩ e; omega), hg⟩
variable {w0 : World} {bo : Nat} {op : OpM}
theorem ApL.step (h : ApL w0 W p u p' u' lo hi g bo op S M O x l) (hb : Below W.heap.size W W') : ApL w0 W' p u p' u' lo hi g bo op S M O x l := ⟨h.ap.step hb, h.c.step hb, stepB h.b hb, h.bl, h.ne⟩
theorem ApL.turnM (d : ApD w0.heap.size p u p' u' lo hi) (h : ApL w0 W p u p' u' lo hi g bo op S M O x l) {M' : MS} (hm : Mt W' p u M') (ho : OnlyP (Two p u) W W') : ApL w0 W' p u p' u' lo hi g bo op S M' O x l := by
  obtain ⟨b1, b2, b3, b4, l1, l2, l3, l4, d1, d2, d3, d4, lh⟩ := d
  have hb := h.bl
  exact ⟨h.ap.turnM (B := w0.heap.size) ⟨b1, b2, b3, b4, l1, l2, l3, l4, d1, d2, d3, d4, lh⟩ hm ho, h.c.only ho (by rintro (e | e) <;> omega), h.b.trans (ho.below h.b.size (by rintro k (e | e) <;> omega)), hb, h.ne⟩
theorem ApL.turnO (d : ApD w0.heap.size p u p' u' lo hi) (h : ApL w0 W p u p' u' lo hi g bo op S M O x l) {O' : MS} (hm : Mt W' p' u' O') (ho : OnlyP (Two p' u') W W') : ApL w0 W' p u p' u' lo hi g bo op S M O' x l := by
  obtain ⟨b1, b2, b3, b4, l1, l2, l3, l4, d1, d2, d3, d4, lh⟩ := d
  have hb := h.bl
  exact ⟨h.ap.turnO (B := w0.heap.size) ⟨b1, b2, b3, b4, l1, l2, l3, l4, d1, d2, d3, d4, lh⟩ hm ho, h.c.only ho (by rintro (e | e) <;> omega), h.b.trans (ho.below h.b.size (by rintro k (e | e) <;> omega)), hb, h.ne⟩
theorem ApL.store (d : ApD w0.heap.size p u p' u' lo hi) (hw : w0.heap.size ≤ hi) (h : ApL w0 W p u p' u' lo hi g bo op S M O x l) (i : Nat) (v : Int) : ApL w0 (W.setCell ⟨g, i, none⟩ (.int .i64 v)) p u p' u' lo hi g bo op (S.set i v) M O x l := by
  have hg := h.ap.g
  exact ⟨h.ap.store d i v, h.c.far (p := ⟨g, i, none⟩) h.ne _, h.b.setCell (by show w0.heap.size ≤ g; omega) _, h.bl, h.ne⟩
end
end Go.Proofs.Ytcohajmappdckaa
