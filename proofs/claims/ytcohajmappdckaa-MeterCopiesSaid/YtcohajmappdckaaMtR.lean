/- The reference model's meter: what it is in memory, and what it has to do with a meter; New, check, at. -/
import Derived.Test.YtcohajmappdckaaMtL
import Derived.Maps.AppendAt
namespace Go.Proofs.Ytcohajmappdckaa
open Go.RowKit Go.Shelf
set_option linter.unusedVariables false

/-- What was taken or given back: a rule, a number, a tick. -/
structure LE where
  r : Int
  n : Int
  t : Int
def LE.cells (e : LE) : List Value := [.int .i64 e.r, .int .i64 e.n, .int .i64 e.t]
def leCells (l : List LE) : List Value := (l.map LE.cells).flatten
theorem leCells_snoc (l : List LE) (e : LE) : leCells (l ++ [e]) = leCells l ++ e.cells := by unfold leCells; simp
theorem leCells_len (l : List LE) : (leCells l).length = l.length * 3 := by
  unfold leCells
  induction l with
  | nil => rfl
  | cons o l ih => simp [LE.cells, ih]; omega
theorem leCells_at : ∀ (l : List LE) (i : Nat) (o : LE), l[i]? = some o → (leCells l)[i * 3]? = some (.int .i64 o.r) ∧ (leCells l)[i * 3 + 1]? = some (.int .i64 o.n) ∧ (leCells l)[i * 3 + 2]? = some (.int .i64 o.t)
  | [], i, o, h => by simp at h
  | a :: l, 0, o, h => by simp at h; subst h; simp [leCells, LE.cells]
  | a :: l, i + 1, o, h => by
    have := leCells_at l i o (by simpa using h)
    have e : ∀ m, (leCells (a :: l))[(i + 1) * 3 + m]? = (leCells l)[i * 3 + m]? := by
      intro m
      rw [show (i + 1) * 3 + m = i * 3 + m + 3 from by omega]
      show (LE.cells a ++ leCells l)[_]? = _
      rw [List.getElem?_append_right (by simp [LE.cells])]
      simp [LE.cells]
    have e0 := e 0
    simp only [Nat.add_zero] at e0
    rw [e0, e 1, e 2]
    exact this
/-- How much of what is listed belongs to a rule and a period. -/
def lsum (pe : Int) (L : List LE) (i c : Int) : Int := (L.map fun e => if e.r = i ∧ e.t / pe = c then e.n else 0).sum
theorem lsum_snoc (pe : Int) (L : List LE) (e : LE) (i c : Int) : lsum pe (L ++ [e]) i c = lsum pe L i c + if e.r = i ∧ e.t / pe = c then e.n else 0 := by unfold lsum; simp
theorem lsum_take (pe : Int) (L : List LE) (k : Nat) (e : LE) (h : L[k]? = some e) (i c : Int) : lsum pe (L.take (k + 1)) i c = lsum pe (L.take k) i c + if e.r = i ∧ e.t / pe = c then e.n else 0 := by
  obtain ⟨hk, rfl⟩ := List.getElem?_eq_some_iff.1 h
  rw [List.take_succ_eq_append_getElem hk, lsum_snoc]
theorem lsum_bd (pe : Int) (L : List LE) (hb : ∀ e ∈ L, -1099511627776 ≤ e.n ∧ e.n ≤ 1099511627776) (i c : Int) : -(1099511627776 * (L.length : Int)) ≤ lsum pe L i c ∧ lsum pe L i c ≤ 1099511627776 * (L.length : Int) := by
  unfold lsum
  induction L with
  | nil => simp
  | cons a l ih =>
    have h0 := hb a (List.mem_cons_self ..)
    have := ih (fun x hx => hb x (List.mem_cons_of_mem _ hx))
    simp only [List.map_cons, List.sum_cons, List.length_cons]
    split <;> omega
/-- The list tells what was used. -/
structure LRel (s : MS) (L : List LE) : Prop where
  b : ∀ e ∈ L, -1099511627776 ≤ e.n ∧ e.n ≤ 1099511627776
  t0 : ∀ e ∈ L, 0 ≤ e.t
  t1 : ∀ e ∈ L, e.t ≤ s.tk
  us : ∀ i : Nat, i < s.us.length → lsum s.pe L (i : Int) (s.tk / s.pe) = s.us[i]?.getD 0
theorem LRel.at_ {s : MS} {L : List LE} (h : LRel s L) (hp : 0 < s.pe) {t : Int} (ht : s.tk ≤ t) (i : Nat) (hi : i < s.us.length) : lsum s.pe L (i : Int) (t / s.pe) = s.at i t := by
  have e1 := Int.ediv_le_ediv hp ht
  unfold MS.at MS.fresh
  simp only [decide_eq_true_eq]
  by_cases he : s.tk / s.pe < t / s.pe
  · rw [if_pos he]
    unfold lsum
    have : ∀ x ∈ L.map (fun e => if e.r = (i : Int) ∧ e.t / s.pe = t / s.pe then e.n else 0), x = 0 := by
      intro x hx
      obtain ⟨e, hm, rfl⟩ := List.mem_map.1 hx
      have e2 := Int.ediv_le_ediv hp (h.t1 e hm)
      exact if_neg (fun hh => by have := hh.2; omega)
    generalize L.map (fun e => if e.r = (i : Int) ∧ e.t / s.pe = t / s.pe then e.n else 0) = xs at this
    induction xs with
    | nil => rfl
    | cons a l ih => rw [List.sum_cons, this a (List.mem_cons_self ..), ih (fun x hx => this x (List.mem_cons_of_mem _ hx))]; rfl
  · rw [if_neg he, show t / s.pe = s.tk / s.pe from by omega]
    exact h.us i hi
theorem LRel.put {s : MS} {L : List LE} (h : LRel s L) (hp : 0 < s.pe) {t : Int} (h0 : 0 ≤ t) (ht : s.tk ≤ t) (i : Nat) (hi : i < s.us.length) (d : Int) (d0 : -1099511627776 ≤ d) (d1 : d ≤ 1099511627776) : LRel (s.put i t (s.at i t + d)) (L ++ [⟨i, d, t⟩]) := by
  have hl : (s.put i t (s.at i t + d)).us.length = s.us.length := by
    show ((s.usAt t).set i (s.at i t + d)).length = _
    rw [List.length_set, s.usAt_len]
  refine ⟨fun e he => ?_, fun e he => ?_, fun e he => ?_, fun j hj => ?_⟩
  · rcases List.mem_append.1 he with h1 | h1
    · exact h.b e h1
    · simp at h1; subst h1; exact ⟨d0, d1⟩
  · rcases List.mem_append.1 he with h1 | h1
    · exact h.t0 e h1
    · simp at h1; subst h1; exact h0
  · rcases List.mem_append.1 he with h1 | h1
    · exact Int.le_trans (h.t1 e h1) ht
    · simp at h1; subst h1; exact Int.le_refl _
  · rw [hl] at hj
    show lsum s.pe (L ++ [⟨i, d, t⟩]) (j : Int) (t / s.pe) = ((s.usAt t).set i (s.at i t + d))[j]?.getD 0
    rw [lsum_snoc, h.at_ hp ht j hj, List.getElem?_set]
    by_cases e : i = j
    · subst e
      rw [if_pos ⟨rfl, rfl⟩, if_pos rfl, if_pos (by rw [s.usAt_len]; exact hi)]
      rfl
    · rw [if_neg (fun hh => e (by have := hh.1; dsimp only at this; omega)), if_neg e, s.usAt_at]
      omega
/-- The blocks of a reference meter. -/
def RB2 (q : Nat) (x : Value) (k : Nat) : Prop := k = q ∨ x.ownBlock = some k
/-- The reference meter at block q, its list behind x; it tells what the meter s tells. -/
structure Mr (W : World) (q : Nat) (x : Value) (s : MS) (N : Nat) : Prop where
  ok : s.Ok
  box : Cel W q 58 #[.int .i64 (s.us.length : Int), .int .i64 s.sh, .int .i64 s.pe, .int .i64 s.tk, x]
  list : ∃ L : List LE, L.length ≤ N ∧ LRel s L ∧ W.ownsRow 0 61 3 x L.length (leCells L)
  ne : x.ownBlock ≠ some q
theorem owns_only {w w' : World} {r : Nat → Prop} {base : Nat} {e : TypeId} {size : Nat} {v : Value} {n : Nat} {xs : List Value} (h : w.ownsRow base e size v n xs) (ho : OnlyP r w w') (hr : ∀ k, v.ownBlock = some k → ¬ r k) : w'.ownsRow base e size v n xs := by
  refine ⟨h.1, ?_⟩
  rcases h.2 with hn | ⟨g, cap, cur, rfl, h1, hg, rest⟩
  · exact .inl hn
  · exact .inr ⟨g, cap, cur, rfl, h1, (ho.block g (Array.getElem?_eq_some_iff.1 hg).1 (hr g rfl)).trans hg, rest⟩
theorem Mr.only {W W' : World} {q : Nat} {x : Value} {s : MS} {N : Nat} {r : Nat → Prop} (h : Mr W q x s N) (ho : OnlyP r W W') (hr : ∀ k, RB2 q x k → ¬ r k) : Mr W' q x s N := by
  obtain ⟨hok, hb, ⟨L, h1, h2, h3⟩, hn⟩ := h
  exact ⟨hok, hb.only ho (hr _ (.inl rfl)), ⟨L, h1, h2, owns_only h3 ho (fun k hk => hr k (.inr hk))⟩, hn⟩
theorem Mr.step {W W' : World} {q : Nat} {x : Value} {s : MS} {N : Nat} (h : Mr W q x s N) (hb : Below W.heap.size W W') : Mr W' q x s N :=
  h.only (OnlyP.of_below (q := fun _ => False) hb) (fun _ _ h => h)
theorem Mr.drewN {W : World} {q : Nat} {x : Value} {s : MS} {N : Nat} (h : Mr W q x s N) (n : Nat) : Mr (W.drewN n) q x s N := h.step (below_drewN (Below.refl _ _) n)
theorem Mr.more {W : World} {q : Nat} {x : Value} {s : MS} {N N' : Nat} (h : Mr W q x s N) (hn : N ≤ N') : Mr W q x s N' := by
  obtain ⟨hok, hb, ⟨L, h1, h2, h3⟩, hne⟩ := h
  exact ⟨hok, hb, ⟨L, Nat.le_trans h1 hn, h2, h3⟩, hne⟩
theorem Mr.own_lt {W : World} {q : Nat} {x : Value} {s : MS} {N : Nat} (h : Mr W q x s N) {k : Nat} (hk : x.ownBlock = some k) : k < W.heap.size := by
  obtain ⟨_, _, ⟨L, _, _, h3⟩, _⟩ := h
  rcases h3.2 with ⟨rfl, _⟩ | ⟨g, cap, cur, rfl, _, hg, _⟩
  · cases hk
  · obtain rfl : g = k := by simpa [Value.ownBlock] using hk
    exact (Array.getElem?_eq_some_iff.1 hg).1
set_option maxHeartbeats 2000000 in
theorem rchk_any (q : Nat) (x : Value) (s : MS) (N : Nat) (r n t : Int) (w : World) (h : Mr w q x s N) :
    Calls Try.prog 34 #[.pointer (some ⟨q, 0, none⟩), .int .i64 r, .int .i64 n, .int .i64 t] w fun e w' => e = .returned (.int .i64 (s.chk r n t)) ∧ w' = w := by
  have hn0 := h.ok.n0
  have hn1 := h.ok.n1
  have c0 := h.box.cell 0
  have c3 := h.box.cell 3
  obtain ⟨sh, pe, tk, us⟩ := s
  dsimp only at hn0 hn1 c0 c3
  clear h
  generalize hR : MS.chk ⟨sh, pe, tk, us⟩ r n t = R
  unfold MS.chk at hR
  dsimp only at hR
  generalize us.length = L at *
  have HR := Lib.hid hR
  clear hR
  by_cases h1 : r < 0
  · go_enter Try.func34, Try.ntmps34
    go_wp2_with fail
    go_ret
    exact ⟨by rw [← HR.out, if_pos (by omega)]; rfl, rfl⟩
  · by_cases h2 : (L : Int) ≤ r
    · go_enter Try.func34, Try.ntmps34
      go_wp2_with fail
      go_ret
      exact ⟨by rw [← HR.out, if_pos (by omega)]; rfl, rfl⟩
    · by_cases h3 : n < 0
      · go_enter Try.func34, Try.ntmps34
        go_wp2_with fail
        go_ret
        exact ⟨by rw [← HR.out, if_neg (by omega), if_pos (by omega)]; rfl, rfl⟩
      · by_cases h4 : 1099511627776 < n
        · go_enter Try.func34, Try.ntmps34
          go_wp2_with fail
          go_ret
          exact ⟨by rw [← HR.out, if_neg (by omega), if_pos (by omega)]; rfl, rfl⟩
        · by_cases h5 : t < 0
          · go_enter Try.func34, Try.ntmps34
            go_wp2_with fail
            go_ret
            exact ⟨by rw [← HR.out, if_neg (by omega), if_neg (by omega), if_pos (by omega)]; rfl, rfl⟩
          · by_cases h6 : 1099511627776 < t
            · go_enter Try.func34, Try.ntmps34
              go_wp2_with fail
              go_ret
              exact ⟨by rw [← HR.out, if_neg (by omega), if_neg (by omega), if_pos (by omega)]; rfl, rfl⟩
            · by_cases h7 : t < tk
              all_goals
                go_enter Try.func34, Try.ntmps34
                go_wp2_with fail
                go_ret
                exact ⟨by rw [← HR.out, if_neg (by omega), if_neg (by omega), if_neg (by omega)]; simp [h7] <;> rfl, rfl⟩
set_option maxRecDepth 100000 in
set_option maxHeartbeats 2000000 in
theorem rat_any (q : Nat) (x : Value) (s : MS) (N : Nat) (i : Nat) (j : Int) (hj : (i : Int) = j) (t : Int) (w : World) (h : Mr w q x s N) (hN : N ≤ 1000) (hi : i < s.us.length) (h0 : s.tk ≤ t) (h1 : t ≤ 1099511627776) :
    Calls Try.prog 31 #[.pointer (some ⟨q, 0, none⟩), .int .i64 j, .int .i64 t] w fun e w' => e = .returned (.int .i64 (s.at i t)) ∧ ∃ k, w' = w.drewN k := by
  subst hj
  have hn1 := h.ok.n1
  have p0 := h.ok.pe0
  have p1 := h.ok.pe1
  have t0 := h.ok.tk0
  have c2 := h.box.cell 2
  have c4 := h.box.cell 4
  obtain ⟨L, hl, hr, ho⟩ := h.list
  have hat := hr.at_ (by omega) h0 i hi
  rw [← hat]
  have hii : (i : Int) < 500 := by omega
  have hb := Lib.hid hr.b
  have ht0 := Lib.hid hr.t0
  have ht1 := Lib.hid hr.t1
  obtain ⟨a, cp, hx⟩ : ∃ a cp, x = .slice a L.length cp := by
    rcases ho.2 with ⟨rfl, e⟩ | ⟨g, cp, cur, rfl, _⟩
    · exact ⟨none, 0, by rw [e]⟩
    · exact ⟨_, _, rfl⟩
  subst hx
  have hcell : ∀ k e, L[k]? = some e → ∃ b, a = some ⟨b, 0, none⟩ ∧ w.cell? ⟨b, k * 3, none⟩ = some (.int .i64 e.r) ∧ w.cell? ⟨b, k * 3 + 1, none⟩ = some (.int .i64 e.n) ∧ w.cell? ⟨b, k * 3 + 2, none⟩ = some (.int .i64 e.t) := by
    intro k e he
    rcases ho.2 with ⟨e1, e2⟩ | ⟨g, cap, cur, e1, hbs, hg, hcap, hm, hs, ht⟩
    · have := (List.getElem?_eq_some_iff.1 he).1
      omega
    · injection e1 with e1 e2 e3
      obtain ⟨c0, c1, c2⟩ := leCells_at L k e he
      have hcl : ∀ o u, (leCells L)[o]? = some u → w.cell? ⟨g, o, none⟩ = some u := by
        intro o u hu
        have e : w.cell? ⟨g, o, none⟩ = cur[o]? := by unfold World.cell?; rw [hg]; rfl
        rw [e]
        rw [← ht, List.getElem?_take] at hu
        split at hu
        · simpa using hu
        · simp at hu
      exact ⟨g, e1, hcl _ _ c0, hcl _ _ c1, hcl _ _ c2⟩
  have HC := Lib.hid hcell
  obtain ⟨sh, pe, tk, us⟩ := s
  dsimp only at *
  clear h ho hr hat hcell
  generalize hR : lsum pe L (i : Int) (t / pe) = R
  have HR := Lib.hid hR
  clear hR
  have hll : (L.length : Int) ≤ 1000 := by omega
  go_enter Try.func31, Try.ntmps31
  go_wp2_with fail
  go_loopw [7, 8] (fun nv iv wr => ∃ k : Nat, k ≤ L.length ∧ iv = .int .i64 (k : Int) ∧ nv = .int .i64 (lsum pe (L.take k) (i : Int) (t / pe)) ∧ ∃ m, Hid (wr = w.drewN m)) (fun _ iv _ => L.length - (intOf iv).toNat)
  case atStart => exact ⟨0, Nat.zero_le _, rfl, rfl, 0, Lib.hid rfl⟩
  case round =>
    obtain ⟨k, hk, rfl, rfl, m, HW⟩ := hrel
    have c2' : wr.cell? ⟨q, 2, none⟩ = some (.int .i64 pe) := by rw [HW.out]; exact c2
    have c4' : wr.cell? ⟨q, 4, none⟩ = some (.slice a L.length cp) := by rw [HW.out]; exact c4
    by_cases hlt : k < L.length
    · obtain ⟨e, he⟩ : ∃ e, L[k]? = some e := ⟨L[k], List.getElem?_eq_getElem hlt⟩
      obtain ⟨b, ha, d0, d1, d2⟩ := HC.out k e he
      have d0' : wr.cell? ⟨b, k * 3, none⟩ = some (.int .i64 e.r) := by rw [HW.out]; exact d0
      have d1' : wr.cell? ⟨b, k * 3 + 1, none⟩ = some (.int .i64 e.n) := by rw [HW.out]; exact d1
      have d2' : wr.cell? ⟨b, k * 3 + 2, none⟩ = some (.int .i64 e.t) := by rw [HW.out]; exact d2
      have hs := lsum_take pe L k e he (i : Int) (t / pe)
      have hm := List.mem_of_getElem? he
      have g1 := hb.out e hm
      have g2 := ht0.out e hm
      have g3 := ht1.out e hm
      have g4 := lsum_bd pe (L.take k) (fun e he => hb.out e (List.mem_of_mem_take he)) (i : Int) (t / pe)
      have g5 : (L.take k).length = k := by rw [List.length_take]; omega
      rw [g5] at g4
      have hi1 : (k : Int) < (L.length : Int) := by omega
      have hi0 : (0 : Int) ≤ (k : Int) := by omega
      have HS := Lib.hid hs
      have HA := Lib.hid ha
      clear d0 d1 d2 hs he hm g5
      subst ha
      obtain ⟨er, en, et⟩ := e
      dsimp only at *
      clear c2 c4
      generalize hY : lsum pe (L.take k) (i : Int) (t / pe) = Y at *
      clear hY
      by_cases hr1 : er = (i : Int)
      · have hrb : (er == (i : Int)) = true := by simp [hr1]
        by_cases hr2 : et / pe = t / pe
        · have hrb2 : (et / pe == t / pe) = true := by simp [hr2]
          have hs2 := HS.out
          rw [if_pos ⟨hr1, hr2⟩] at hs2
          have HS2 := Lib.hid hs2
          clear hs2 HS hr1 hr2
          go_wp2_with fail
          go_quiet (fail)
          go_wp2_with fail
          go_roundw
          case rel => exact ⟨k + 1, by omega, by go_num, by rw [HS2.out], _, Lib.hid (by rw [HW.out, World.drewN_drewN])⟩
          case measure => simp [intOf]; omega
        · have hrb2 : (et / pe == t / pe) = false := by simpa using hr2
          have hs2 := HS.out
          rw [if_neg (fun h => hr2 h.2), Int.add_zero] at hs2
          have HS2 := Lib.hid hs2
          clear hs2 HS hr1 hr2
          go_wp2_with fail
          go_quiet (fail)
          go_wp2_with fail
          go_roundw
          case rel => exact ⟨k + 1, by omega, by go_num, by rw [HS2.out], _, Lib.hid (by rw [HW.out, World.drewN_drewN])⟩
          case measure => simp [intOf]; omega
      · have hrb : (er == (i : Int)) = false := by simpa using hr1
        have hs2 := HS.out
        rw [if_neg (fun h => hr1 h.1), Int.add_zero] at hs2
        have HS2 := Lib.hid hs2
        clear hs2 HS hr1
        go_wp2_with fail
        go_quiet (fail)
        go_wp2_with fail
        go_roundw
        case rel => exact ⟨k + 1, by omega, by go_num, by rw [HS2.out], _, Lib.hid (by rw [HW.out, World.drewN_drewN])⟩
        case measure => simp [intOf]; omega
    · have he : lsum pe (L.take k) (i : Int) (t / pe) = R := by rw [List.take_of_length_le (by omega), HR.out]
      rw [he]
      have hi1 : ¬ (k : Int) < (L.length : Int) := by omega
      clear he
      go_wp2_with fail
      go_ret
      exact ⟨rfl, m, HW.out⟩
end Go.Proofs.Ytcohajmappdckaa
