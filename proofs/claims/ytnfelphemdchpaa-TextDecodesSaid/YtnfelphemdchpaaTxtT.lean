/- Contracts of package text: Decode. -/
import Derived.Test.YtnfelphemdchpaaTxtS
import Derived.Maps.AppendAt
namespace Go.Proofs.Ytnfelphemdchpaa
open Go.RowKit Go.Shelf
attribute [local go_sem] Oper.semAt_some
set_option linter.unusedVariables false

def negB (s : Int) : Bool := decide (s < 0)
/-- What Decode answers. -/
def decodeM (runes : Bool) (l : List Int) : List Int × Int :=
  if (symsL runes l).any negB = true then ([], 9) else if 65536 < (symsL runes l).length then ([], 4) else (symsL runes l, 0)
/-- The symbols that are kept. -/
def firstL (l : List Int) : List Int := l.take 65536
theorem firstL_snoc (l : List Int) (x : Int) (h : l.length < 65536) : firstL (l ++ [x]) = firstL l ++ [x] := by
  unfold firstL
  rw [List.take_of_length_le (l := l ++ [x]) (by simp; omega), List.take_of_length_le (l := l) (by omega)]
theorem firstL_full (l : List Int) (x : Int) (h : ¬ l.length < 65536) : firstL (l ++ [x]) = firstL l := by
  unfold firstL
  rw [List.take_append_of_le_length (by omega)]
theorem firstL_len (l : List Int) (h : l.length < 65536) : (firstL l).length = l.length := by unfold firstL; simp; omega
theorem firstL_all (l : List Int) (h : ¬ 65536 < l.length) : firstL l = l := by unfold firstL; exact List.take_of_length_le (by omega)
/-- What holds between two rounds. -/
def DecI (w : World) (pre : List Int) (W : World) : Prop :=
  (∃ v, Cel W (w.heap.size + 2) 22 #[v] ∧ W.ownsRow (w.heap.size + 6) 3 1 v (firstL pre).length ((firstL pre).map (Value.int .i64))) ∧
  Cel W (w.heap.size + 3) 3 #[.int .i64 (pre.length : Int)] ∧ Cel W w.heap.size 22 #[.slice none 0 0] ∧ Cel W (w.heap.size + 1) 27 #[.int .i64 0] ∧
  pre.any negB = false ∧ Below w.heap.size w W ∧ w.heap.size + 6 ≤ W.heap.size
theorem Cel.other {X Y : World} {b : Nat} {t : TypeId} {cs : Array Value} {row : Option Nat} (h : Cel X b t cs) (hg : X.grownBy Y row) (hr : ∀ r, row = some r → (∃ o : Obj, X.heap[r]? = some o ∧ o.isCells = false) ∨ r ≠ b) : Cel Y b t cs :=
  h.grown hg (by
    rintro rfl
    rcases hr b rfl with ⟨o, ho, hc⟩ | hne
    · rw [show X.heap[b]? = _ from h] at ho
      cases ho
      cases hc
    · exact hne rfl)
theorem owns_other {X Y : World} {base : Nat} {e : TypeId} {size : Nat} {v : Value} {n : Nat} {xs : List Value} {row : Option Nat} (h : X.ownsRow base e size v n xs) (hg : X.grownBy Y row) (hr : ∀ r, row = some r → (∃ o : Obj, X.heap[r]? = some o ∧ o.isCells = false) ∨ r < base) : Y.ownsRow base e size v n xs := by
  refine h.kept hg ?_
  rcases h.2 with ⟨rfl, _⟩ | ⟨g, cap, cur, rfl, hb, hgb, _⟩
  · exact .inl rfl
  · refine .inr fun e' => ?_
    rcases hr g e'.symm with ⟨o, ho, hc⟩ | hlt
    · rw [hgb] at ho
      cases ho
      cases hc
    · omega
theorem DecI.grown {w : World} {pre : List Int} {X Y : World} {row : Option Nat} (h : DecI w pre X) (hg : X.grownBy Y row) (hr : ∀ r, row = some r → w.heap.size ≤ r ∧ ((∃ o : Obj, X.heap[r]? = some o ∧ o.isCells = false) ∨ r = w.heap.size + 4)) : DecI w pre Y := by
  obtain ⟨⟨v, h1, h2⟩, h3, h4, h5, h7, h8, h9⟩ := h
  have hq : ∀ b, b ≠ w.heap.size + 4 → ∀ r, row = some r → (∃ o : Obj, X.heap[r]? = some o ∧ o.isCells = false) ∨ r ≠ b := fun b hb r e => (hr r e).2.imp id (fun h => by omega)
  exact ⟨⟨v, h1.other hg (hq _ (by omega)), owns_other h2 hg (fun r e => (hr r e).2.imp id (fun h => by omega))⟩, h3.other hg (hq _ (by omega)), h4.other hg (hq _ (by omega)), h5.other hg (hq _ (by omega)), h7, h8.grown hg h8.size (fun k e => (hr k e).1), Nat.le_trans h9 hg.size⟩
/-- What holds when a round has returned. -/
def DecX (w : World) (pre : List Int) (W : World) : Prop :=
  Cel W w.heap.size 22 #[.slice none 0 0] ∧ Cel W (w.heap.size + 1) 27 #[.int .i64 9] ∧ pre.any negB = true ∧ Below w.heap.size w W
theorem DecX.grown {w : World} {pre : List Int} {X Y : World} {row : Option Nat} (h : DecX w pre X) (hg : X.grownBy Y row) (hr : ∀ r, row = some r → w.heap.size ≤ r ∧ ((∃ o : Obj, X.heap[r]? = some o ∧ o.isCells = false) ∨ r = w.heap.size + 4)) : DecX w pre Y := by
  obtain ⟨h1, h2, h3, h4⟩ := h
  have hq : ∀ b, b ≠ w.heap.size + 4 → ∀ r, row = some r → (∃ o : Obj, X.heap[r]? = some o ∧ o.isCells = false) ∨ r ≠ b := fun b hb r e => (hr r e).2.imp id (fun h => by omega)
  exact ⟨h1.other hg (hq _ (by omega)), h2.other hg (hq _ (by omega)), h3, h4.grown hg h4.size (fun k e => (hr k e).1)⟩
theorem six (w : World) (t0 t1 t2 t3 t4 t5 : TypeId) (c0 c1 c2 c3 c4 c5 : Array Value) : ∀ W, ((((((w.alloc (.cells c0 t0)).alloc (.cells c1 t1)).alloc (.cells c2 t2)).alloc (.cells c3 t3)).alloc (.cells c4 t4)).alloc (.cells c5 t5)) = W →
    Cel W w.heap.size t0 c0 ∧ Cel W (w.heap.size + 1) t1 c1 ∧ Cel W (w.heap.size + 2) t2 c2 ∧ Cel W (w.heap.size + 3) t3 c3 ∧ Cel W (w.heap.size + 4) t4 c4 ∧ Cel W (w.heap.size + 5) t5 c5 ∧ Below w.heap.size w W ∧ W.heap.size = w.heap.size + 6 := by
  rintro W rfl
  refine ⟨(((((Cel.new _ _ _).alloc _).alloc _).alloc _).alloc _).alloc _, ?_, ?_, ?_, ?_, ?_, laidB (laidB (laidB (laidB (laidB (laidB (Below.refl _ _) _) _) _) _) _) _, by simp⟩
  · have h := Cel.new (w.alloc (.cells c0 t0)) t1 c1
    rw [World.size_alloc] at h
    exact (((h.alloc _).alloc _).alloc _).alloc _
  · have h := Cel.new ((w.alloc (.cells c0 t0)).alloc (.cells c1 t1)) t2 c2
    simp only [World.size_alloc] at h
    exact ((h.alloc _).alloc _).alloc _
  · have h := Cel.new (((w.alloc (.cells c0 t0)).alloc (.cells c1 t1)).alloc (.cells c2 t2)) t3 c3
    simp only [World.size_alloc] at h
    exact (h.alloc _).alloc _
  · have h := Cel.new ((((w.alloc (.cells c0 t0)).alloc (.cells c1 t1)).alloc (.cells c2 t2)).alloc (.cells c3 t3)) t4 c4
    simp only [World.size_alloc] at h
    exact h.alloc _
  · have h := Cel.new (((((w.alloc (.cells c0 t0)).alloc (.cells c1 t1)).alloc (.cells c2 t2)).alloc (.cells c3 t3)).alloc (.cells c4 t4)) t5 c5
    simp only [World.size_alloc] at h
    exact h
theorem run_loadVar_one {P : Program} {t : TypeId} {d : TypeDesc} (hu : P.underlying t = some d) (hd : (match d with | .struct _ | .array _ _ => true | _ => false) = false) {W : World} {b : Nat} {e : TypeId} {v : Value} (h : Cel W b e #[v]) : (loadVar t ⟨b, 0, none⟩).run P W = .ok v W := by
  have hc : W.cell? ⟨b, 0, none⟩ = some v := h.cell 0
  simp [loadVar, Sem.run_bind, run_isAgg_plain hu hd, Result.andThen, hc, go_sem]
theorem results_cells2 {fn : Func} {p q : Tmp} {t u : TypeId} (h : fn.results = #[.cell p t, .cell q u]) {P : Program} (tmps : Array Value) (w : World) (g k : Nat) (x y : Value)
    (hp : tmps.getD p undef = .pointer (some ⟨g, 0, none⟩)) (hq : tmps.getD q undef = .pointer (some ⟨k, 0, none⟩)) (hx : (loadVar t ⟨g, 0, none⟩).run P w = .ok x w) (hy : (loadVar u ⟨k, 0, none⟩).run P w = .ok y w) :
    (results fn tmps).run P w = .ok (.tuple #[x, y]) w := by
  have hp' : tmps[p]?.getD undef = .pointer (some ⟨g, 0, none⟩) := by simpa using hp
  have hq' : tmps[q]?.getD undef = .pointer (some ⟨k, 0, none⟩) := by simpa using hq
  simp [results, h, hp', hq', asAddr, hx, hy]
theorem celPut {W : World} {b : Nat} {t : TypeId} {cs : Array Value} (h : Cel W b t cs) {D : Nat} {o : Obj} (hK : W.heap[D]? = some o) (ho : o.isCells = false) (o' : Obj) : Cel (W.putObj D o') b t cs := (World.putObj_heap_other (by
  rintro rfl
  rw [show W.heap[_]? = _ from h] at hK
  cases hK
  cases ho)).trans h
theorem keeps_own {X Y : World} {base : Nat} {e : TypeId} {size : Nat} {v : Value} {n : Nat} {xs : List Value} (h : X.ownsRow base e size v n xs) (hg : X.grownBy Y v.ownBlock) : KeepsOthers X Y :=
  KeepsOthers.of_grownBy hg fun j o ej hj => by
    rcases h.2 with ⟨rfl, _⟩ | ⟨g, cap, cur, rfl, _, hgb, _⟩
    · simp [Value.ownBlock] at ej
    · obtain rfl : g = j := by simpa [Value.ownBlock] using ej
      rw [hgb] at hj
      cases hj
      rfl
set_option maxRecDepth 100000 in
set_option maxHeartbeats 2000000 in
theorem decode_in (a : Option Addr) (cap : Nat) (l : List Int) (runes : Bool) (w : World) (hr : Row .u8 w.heap.size w (.slice a l.length cap) l) (hl : l.length ≤ 100000) (hz : ∀ i : Nat, 0 ≤ l[i]?.getD 0 ∧ l[i]?.getD 0 < 256) :
    CallsIn Fence.wide 4 Try.prog 20 #[.slice a l.length cap, .bool runes] w fun e w' => ∃ v, e = .returned (.tuple #[v, .int .i64 (decodeM runes l).2]) ∧ w'.ownsRow (w.heap.size + 6) 3 1 v (decodeM runes l).1.length ((decodeM runes l).1.map (Value.int .i64)) ∧ Below w.heap.size w w' := by
  obtain ⟨i0, hi, hz0, hz1, hz2⟩ := info_parts info_ci
  refine callsIn_of_wp_marks Try.func20 rfl trivial ?_ rfl
  simp only [Try.ntmps20, List.size_toArray, List.length_cons, List.length_nil, Nat.reduceAdd, Nat.reduceSub, Array.replicate_succ, Array.replicate_zero, List.push_toArray, List.append_toArray, List.nil_append, List.cons_append]
  gi_wp2_with fail
  refine ⟨trivial, ?_⟩
  refine (symbols_in _ _ _ _ ⟨_, _, _, rfl⟩).mono ?_
  rintro e w1 ⟨rfl, rfl⟩
  dsimp only
  gi_wp2_with fail
  simp only [World.size_alloc, Nat.add_assoc, Nat.reduceAdd]
  obtain ⟨W6, hW6⟩ : ∃ W6, ((((((w.alloc (.cells #[.slice none 0 0] 22)).alloc (.cells #[.int .i64 0] 27)).alloc (.cells #[.slice none 0 0] 22)).alloc (.cells #[.int .i64 0] 3)).alloc (.cells #[.slice a l.length cap] 26)).alloc (.cells #[.bool runes] 4)) = W6 := ⟨_, rfl⟩
  obtain ⟨k0, k1, k2, k3, k4, k5, hb6, hs6⟩ := six w _ _ _ _ _ _ _ _ _ _ _ _ W6 hW6
  rw [hW6]
  clear hW6
  refine range_box rfl (by decide) (gf := 70) (lb := #[.pointer (some ⟨w.heap.size + 4, 0, none⟩), .pointer (some ⟨w.heap.size + 5, 0, none⟩)]) rfl trivial (enters_of Try.func70 (by kernel_rfl) rfl)
    (symbols_box 3 (by decide) (w.heap.size + 4) (w.heap.size + 5) (fun k => k < w.heap.size ∨ k = w.heap.size + 4 ∨ k = w.heap.size + 5) l runes hz (.inr (.inl rfl)) (.inr (.inr rfl)) (by omega) W6 (by rintro k (h | h | h) <;> omega) a cap k4 k5 ((hr.keep (KeepP.of_below hb6 (fun _ h => h))).mono (fun k hk => ⟨.inl hk, by omega⟩)))
    keepP_t (keepP_b (by rintro k (h | h | h) <;> omega)) (Below.refl _ _) (fun _ => rfl) (by omega)
    (DecI w) (DecX w) (fun s A B row hs hg hr => hs.grown hg (fun r e => ⟨by have := (hr r e).1; omega, .inl (hr r e).2⟩)) (fun s A B row hs hg hr => hs.grown hg (fun r e => ⟨by have := (hr r e).1; omega, .inl (hr r e).2⟩))
    (fun s A B hs hb => hs.grown hb (fun r e => by cases e; exact ⟨by omega, .inr rfl⟩)) (fun s A B hs hb => hs.grown hb (fun r e => by cases e; exact ⟨by omega, .inr rfl⟩))
    ⟨⟨_, k2, World.ownsRow_nil _ _ _ _⟩, k3, k0, k1, rfl, hb6, by omega⟩
    (fun x => { tmps := #[.slice a l.length cap, .bool runes, undef, undef, .pointer (some ⟨w.heap.size, 0, none⟩), .pointer (some ⟨w.heap.size + 1, 0, none⟩), .pointer (some ⟨w.heap.size + 2, 0, none⟩), .pointer (some ⟨w.heap.size + 3, 0, none⟩), .int .i64 x, .slice a l.length cap, .bool runes, .func (.func 70) #[] #[.pointer (some ⟨w.heap.size + 4, 0, none⟩), .pointer (some ⟨w.heap.size + 5, 0, none⟩)], .int .i64 x, undef, undef, undef, undef, undef, undef, undef, undef, undef, undef, undef, undef, undef], defers := [] }) ?assign ?body ?done ?stop
  case assign =>
    intro lp x W K hK
    gi_wp2
    exact hK
  case body =>
    rintro lp pre x W ⟨⟨v, h1, h2⟩, h3, h4, h5, h7, h8, h9⟩ hlt
    have hsz := h8.size
    have hl1 := h1.lt
    have hvb := fun k => own_base (k := k) h2
    have c2 : W.cell? ⟨w.heap.size + 2, 0, none⟩ = some v := h1.cell 0
    have c3 : W.cell? ⟨w.heap.size + 3, 0, none⟩ = some (.int .i64 (pre.length : Int)) := h3.cell 0
    have c0 : W.cell? ⟨w.heap.size, 0, none⟩ = some (.slice none 0 0) := h4.cell 0
    have c1 : W.cell? ⟨w.heap.size + 1, 0, none⟩ = some (.int .i64 0) := h5.cell 0
    have f2 := h1.free 0
    have f3 := h3.free 0
    have f0 := h4.free 0
    have f1 := h5.free 0
    by_cases hx : x < 0
    · gi_wp2
      refine ⟨((KeepsOthers.setCell _ _ _).trans (KeepsOthers.setCell _ _ _)).from _, (h4.set 0 _).far (by simp) _, ((h5.far (by simp) _).set 0 _), ?_, (h8.setCell (p := ⟨w.heap.size, 0, none⟩) (Nat.le_refl _) _).setCell (p := ⟨w.heap.size + 1, 0, none⟩) (by simp) _⟩
      rw [List.any_append]
      simp [negB, hx]
    · have hp1 : (pre ++ [x]).any negB = false := by rw [List.any_append, h7]; simp [negB, hx]
      have hpl : pre.length < 100000 := by omega
      have HP1 := Lib.hid hp1
      have hlen1 : ((pre ++ [x]).length : Int) = (pre.length : Int) + 1 := by simp
      have HL1 := Lib.hid hlen1
      clear hp1 hlen1
      by_cases hb : pre.length < 65536
      · have htk := firstL_snoc pre x hb
        have htl := firstL_len pre hb
        have hbI : (pre.length : Int) < 65536 := by omega
        have HTK := Lib.hid htk
        rw [htl] at h2
        clear htk
        have hNle : (pre.length : Int) + 1 ≤ 65536 := by omega
        have hN0 : (0 : Int) ≤ (pre.length : Int) := by omega
        clear hbI
        generalize hN : (pre.length : Int) = N at *
        have HN := Lib.hid hN
        have HLT := Lib.hid hlt
        have HLL := Lib.hid hl
        clear hN hlt hl
        have HROW : Hid (∀ r, some (w.heap.size + 3) = some r → (∃ o : Obj, W.heap[r]? = some o ∧ o.isCells = false) ∨ r < w.heap.size + 6) := Lib.hid (fun r e => by cases e; exact .inr (by omega))
        have HNEW : Hid (∀ j u, [Value.int .i64 x][j]? = some u → ((W.setCell ⟨w.heap.size + 3, 0, none⟩ (.int .i64 (N + 1))).alloc (.cells #[.int .i64 x] 3)).cell? ((⟨W.heap.size, 0, none⟩ : Addr).add j) = some u) := Lib.hid (cell_one_at _ _ _ _ (by simp))
        have HS6 := Lib.hid h9
        clear h9
        have hvo : v.ownBlock ≠ some (w.heap.size + 2) := fun e => by have := hvb _ e; omega
        have hvo3 : v.ownBlock ≠ some (w.heap.size + 3) := fun e => by have := hvb _ e; omega
        have hvo0 : v.ownBlock ≠ some w.heap.size := fun e => by have := hvb _ e; omega
        have hvo1 : v.ownBlock ≠ some (w.heap.size + 1) := fun e => by have := hvb _ e; omega
        have k1' := ((h1.far (p := ⟨w.heap.size + 3, 0, none⟩) (by simp) (.int .i64 (N + 1))).alloc (.cells #[.int .i64 x] 3))
        have HC2 : Hid (∀ w2, ((W.setCell ⟨w.heap.size + 3, 0, none⟩ (.int .i64 (N + 1))).alloc (.cells #[.int .i64 x] 3)).grownBy w2 v.ownBlock → w2.cell? ⟨w.heap.size + 2, 0, none⟩ = some v) := Lib.hid fun w2 hg => (k1'.grown hg hvo).cell 0
        have HF2 : Hid (∀ w2, ((W.setCell ⟨w.heap.size + 3, 0, none⟩ (.int .i64 (N + 1))).alloc (.cells #[.int .i64 x] 3)).grownBy w2 v.ownBlock → w2.frozen? ⟨w.heap.size + 2, 0, none⟩ = false) := Lib.hid fun w2 hg => (k1'.grown hg hvo).free 0
        have Hvo := Lib.hid (And.intro hvo (And.intro hvo3 (And.intro hvo0 hvo1)))
        have HB := Lib.hid hb
        clear hvo hvo3 hvo0 hvo1 htl hb hvb hpl k1' hs6 hb6 k0 k1 k2 k3 k4 k5
        gi_wp2_with (gi_at_builtin; (refine wpListIn_append_own _ rfl _ _ 22 rfl (w.heap.size + 6) 3 i0 (.int .i64 0) 1 8 Try.underlying22 hi hz0 hz1 hz2 rfl (by decide) _ _ _ rfl ((owns_other h2 (grownBy_setCell' W (w.heap.size + 3) (.int .i64 (N + 1))) HROW.out).alloc _) ⟨W.heap.size, 0, none⟩ 1 1 [.int .i64 x] rfl rfl (HNEW.out) (by simp [Value.oneCell']) (by unfold maxLen; have := HB.out; omega) (by have := HB.out; omega) (by simp; have := HS6.out; omega) ?_; intro v' w2 hown' hgrow _; obtain ⟨g', cp', rfl⟩ := ownsRow_succ hown'; have c2' := HC2.out _ hgrow; have f2' := HF2.out _ hgrow))
        have hgr : World.grownBy ((W.setCell ⟨w.heap.size + 3, 0, none⟩ (.int .i64 (N + 1))).alloc (.cells #[.int .i64 x] 3)) w2 v.ownBlock := hgrow
        clear hgrow
        obtain ⟨hvo, hvo3, hvo0, hvo1⟩ := Hvo.out
        have hrow' := (owns_other h2 (grownBy_setCell' W (w.heap.size + 3) (.int .i64 (N + 1))) HROW.out).alloc (.cells #[.int .i64 x] 3)
        have hko := keeps_own hrow' hgr
        have g1 := ((h1.far (p := ⟨w.heap.size + 3, 0, none⟩) (by simp) (.int .i64 (N + 1))).alloc (.cells #[.int .i64 x] 3)).grown hgr hvo
        have g3 := ((h3.set 0 (.int .i64 (N + 1))).alloc (.cells #[.int .i64 x] 3)).grown hgr hvo3
        have g0 := ((h4.far (p := ⟨w.heap.size + 3, 0, none⟩) (by simp) (.int .i64 (N + 1))).alloc (.cells #[.int .i64 x] 3)).grown hgr hvo0
        have g5 := ((h5.far (p := ⟨w.heap.size + 3, 0, none⟩) (by simp) (.int .i64 (N + 1))).alloc (.cells #[.int .i64 x] 3)).grown hgr hvo1
        have hb2 : Below w.heap.size w w2 := ((h8.setCell (p := ⟨w.heap.size + 3, 0, none⟩) (by simp) (.int .i64 (N + 1))).alloc (by simp; omega) (.cells #[.int .i64 x] 3)).grown hgr (by simp; omega) (fun k e => by have := own_base h2 e; omega)
        refine ⟨(((KeepsOthers.setCell _ _ _).trans (KeepsOthers.alloc _ _)).trans (hko.trans (KeepsOthers.setCell _ _ _))).from _, ?_, ⟨⟨_, g1.set 0 _, ?_⟩, ?_, g0.far (by simp) _, g5.far (by simp) _, HP1.out, hb2.setCell (p := ⟨w.heap.size + 2, 0, none⟩) (by simp) _, ?_⟩⟩
        · have hpk : ∀ k, (k < w.heap.size ∨ k = w.heap.size + 4 ∨ k = w.heap.size + 5) → k < W.heap.size := by have := HS6.out; rintro k (h | h | h) <;> omega
          refine ((KeepP.setCell _ _ _ _ ?_).trans (KeepP.of_below (laidB (Below.refl _ _) _) (by simpa using hpk))).trans ((KeepP.grown hgr ?_ ?_).trans (KeepP.setCell _ _ _ _ ?_))
          · rintro (h | h | h) <;> simp at h <;> omega
          · intro k hk; have := hpk k hk; simp; omega
          · intro k e hk; have := own_base h2 e; rcases hk with h | h | h <;> omega
          · rintro (h | h | h) <;> simp at h <;> omega
        · rw [HTK.out, List.length_append, List.map_append, firstL_len pre HB.out]
          exact owns_other hown' (grownBy_setCell' w2 (w.heap.size + 2) _) (fun r e => by cases e; exact .inr (by omega))
        · rw [HL1.out]
          exact g3.far (by simp) _
        · have h1 := HS6.out
          have h2 := hgr.size
          simp at h2 ⊢
          omega
      · have htk := firstL_full pre x hb
        have HTK := Lib.hid htk
        have hNgt : (65536 : Int) < (pre.length : Int) + 1 := by omega
        have hN0 : (0 : Int) ≤ (pre.length : Int) := by omega
        have hN1 : (pre.length : Int) ≤ 100000 := by omega
        generalize hN : (pre.length : Int) = N at *
        have HN := Lib.hid hN
        have HLT := Lib.hid hlt
        have HLL := Lib.hid hl
        have HS6 := Lib.hid h9
        have HB := Lib.hid hb
        clear hN hlt hl h9 hb hpl hvb htk
        gi_wp2
        refine ⟨(KeepsOthers.setCell _ _ _).from _, KeepP.setCell _ _ _ _ ?_, ⟨⟨_, h1.far (by simp) _, ?_⟩, ?_, h4.far (by simp) _, h5.far (by simp) _, HP1.out, h8.setCell (p := ⟨w.heap.size + 3, 0, none⟩) (by simp) _, by simp; exact HS6.out⟩⟩
        · rintro (h | h | h) <;> simp at h <;> omega
        · rw [HTK.out]
          exact owns_other h2 (grownBy_setCell' W (w.heap.size + 3) _) (fun r e => by cases e; exact .inr (by omega))
        · rw [HL1.out]
          exact h3.set 0 _
  case done =>
    rintro D xs W hD rfl ⟨⟨v, h1, h2⟩, h3, h4, h5, h7, h8, h9⟩ hK
    have c2 : W.cell? ⟨w.heap.size + 2, 0, none⟩ = some v := h1.cell 0
    have c3 : W.cell? ⟨w.heap.size + 3, 0, none⟩ = some (.int .i64 ((symsL runes l).length : Int)) := h3.cell 0
    have c0 : W.cell? ⟨w.heap.size, 0, none⟩ = some (.slice none 0 0) := h4.cell 0
    have c1 : W.cell? ⟨w.heap.size + 1, 0, none⟩ = some (.int .i64 0) := h5.cell 0
    have f0 := h4.free 0
    have f1 := h5.free 0
    have hm : decodeM runes l = if 65536 < (symsL runes l).length then ([], 4) else (symsL runes l, 0) := by
      unfold decodeM
      rw [if_neg (by rw [h7]; decide)]
    have hfl := firstL_all (symsL runes l)
    generalize symsL runes l = xs at *
    have HM := Lib.hid hm
    have HFL := Lib.hid hfl
    clear hm hfl h7
    obtain ⟨va, vn, vc, rfl⟩ := owns_slice h2
    by_cases hb : 65536 < xs.length
    · have hNgt : (65536 : Int) < (xs.length : Int) := by omega
      generalize hN : (xs.length : Int) = N at *
      have HN := Lib.hid hN
      have HB := Lib.hid hb
      clear hN hb
      gi_wp2
      have hKs := ButBox.same (ButBox.setCell w.heap.size 0 W (.slice none 0 0)) D (Array.getElem?_eq_some_iff.1 hK).1 (by omega)
      have hKt := ButBox.same (ButBox.setCell (w.heap.size + 1) 0 (W.setCell ⟨w.heap.size, 0, none⟩ (.slice none 0 0)) (.int .i64 4)) D (by simp; exact (Array.getElem?_eq_some_iff.1 hK).1) (by omega)
      have hK2 := hKt.trans (hKs.trans hK)
      refine ⟨by simp, .inl ⟨_, _, rfl, run_takeDeferred hK2, ?_⟩⟩
      have h4' := celPut ((h4.set 0 (.slice none 0 0)).far (p := ⟨w.heap.size + 1, 0, none⟩) (by simp) (.int .i64 4)) hK2 rfl (.deferred none)
      have h5' := celPut ((h5.far (p := ⟨w.heap.size, 0, none⟩) (by simp) (.slice none 0 0)).set 0 (.int .i64 4)) hK2 rfl (.deferred none)
      have hbb := (h8.setCell (p := ⟨w.heap.size, 0, none⟩) (Nat.le_refl _) (.slice none 0 0)).setCell (p := ⟨w.heap.size + 1, 0, none⟩) (by simp) (.int .i64 4)
      refine ⟨_, results_cells2 rfl _ _ w.heap.size (w.heap.size + 1) _ _ rfl rfl (run_loadVar_one Try.underlying22 rfl h4') (run_loadVar_one Try.underlying27 rfl h5'), ?_⟩
      rw [HM.out, if_pos HB.out]
      exact ⟨_, rfl, World.ownsRow_nil _ _ _ _, hbb.trans (belowK_b (w := w) (Nat.le_refl _) _ D _ _ (by omega) hK2 rfl rfl)⟩
    · have hNgt : (xs.length : Int) ≤ 65536 := by omega
      generalize hN : (xs.length : Int) = N at *
      have HN := Lib.hid hN
      have HB := Lib.hid hb
      clear hN hb
      gi_wp2
      have hKs := ButBox.same (ButBox.setCell w.heap.size 0 W (.slice va vn vc)) D (Array.getElem?_eq_some_iff.1 hK).1 (by omega)
      have hKt := ButBox.same (ButBox.setCell (w.heap.size + 1) 0 (W.setCell ⟨w.heap.size, 0, none⟩ (.slice va vn vc)) (.int .i64 0)) D (by simp; exact (Array.getElem?_eq_some_iff.1 hK).1) (by omega)
      have hK2 := hKt.trans (hKs.trans hK)
      refine ⟨by simp, .inl ⟨_, _, rfl, run_takeDeferred hK2, ?_⟩⟩
      have h4' := celPut ((h4.set 0 (.slice va vn vc)).far (p := ⟨w.heap.size + 1, 0, none⟩) (by simp) (.int .i64 0)) hK2 rfl (.deferred none)
      have h5' := celPut ((h5.far (p := ⟨w.heap.size, 0, none⟩) (by simp) (.slice va vn vc)).set 0 (.int .i64 0)) hK2 rfl (.deferred none)
      have hbb := (h8.setCell (p := ⟨w.heap.size, 0, none⟩) (Nat.le_refl _) (.slice va vn vc)).setCell (p := ⟨w.heap.size + 1, 0, none⟩) (by simp) (.int .i64 0)
      refine ⟨_, results_cells2 rfl _ _ w.heap.size (w.heap.size + 1) _ _ rfl rfl (run_loadVar_one Try.underlying22 rfl h4') (run_loadVar_one Try.underlying27 rfl h5'), ?_⟩
      rw [HM.out, if_neg HB.out]
      rw [HFL.out HB.out] at h2
      exact ⟨_, rfl, owns_other (owns_other (owns_other h2 (grownBy_setCell' W w.heap.size _) (fun r e => by cases e; exact .inr (by omega))) (grownBy_setCell' _ (w.heap.size + 1) _) (fun r e => by cases e; exact .inr (by omega))) (grownBy_putObj' _ D _) (fun r e => by cases e; exact .inl ⟨_, hK2, rfl⟩), hbb.trans (belowK_b (w := w) (Nat.le_refl _) _ D _ _ (by omega) hK2 rfl rfl)⟩
  case stop =>
    rintro D pre W hD ⟨t, ht⟩ ⟨h4, h5, h7, h8⟩ hK
    have c0 : W.cell? ⟨w.heap.size, 0, none⟩ = some (.slice none 0 0) := h4.cell 0
    have c1 : W.cell? ⟨w.heap.size + 1, 0, none⟩ = some (.int .i64 9) := h5.cell 0
    have hm : decodeM runes l = ([], 9) := by
      unfold decodeM
      rw [if_pos (by rw [ht, List.any_append, h7]; rfl)]
    have HM := Lib.hid hm
    clear hm ht h7
    gi_wp2
    refine ⟨by simp, .inl ⟨_, _, rfl, run_takeDeferred hK, ?_⟩⟩
    have h4' := celPut h4 hK rfl (.deferred none)
    have h5' := celPut h5 hK rfl (.deferred none)
    refine ⟨_, results_cells2 rfl _ _ w.heap.size (w.heap.size + 1) _ _ rfl rfl (run_loadVar_one Try.underlying22 rfl h4') (run_loadVar_one Try.underlying27 rfl h5'), ?_⟩
    rw [HM.out]
    exact ⟨_, rfl, World.ownsRow_nil _ _ _ _, h8.trans (belowK_b (w := w) (Nat.le_refl _) W D _ _ (by omega) hK rfl rfl)⟩
end Go.Proofs.Ytnfelphemdchpaa
