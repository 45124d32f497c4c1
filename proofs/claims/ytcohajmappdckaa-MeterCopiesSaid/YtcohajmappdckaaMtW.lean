/- Package meter and its model: Copy. -/
import Derived.Test.YtcohajmappdckaaMtV
import Derived.Deep.RegionLaw
import Derived.Maps.AppendAt
import Derived.Laws.AppendOwnNone
namespace Go.Proofs.Ytcohajmappdckaa
open Go.RowKit Go.Shelf
set_option linter.unusedVariables false

set_option maxHeartbeats 2000000 in
theorem copy_any (p u : Nat) (s : MS) (w : World) (h : Mt w p u s) :
    Calls Try.prog 21 #[.pointer (some ⟨p, 0, none⟩)] w fun e w' => e = .returned (.pointer (some ⟨w.heap.size, 0, none⟩)) ∧ Mt w' w.heap.size (w.heap.size + 1) s ∧ Below w.heap.size w w' := by
  have c0 : w.cell? ⟨p, 0, none⟩ = some (.int .i64 s.sh) := h.box.cell 0
  have c1 : w.cell? ⟨p, 1, none⟩ = some (.int .i64 s.pe) := h.box.cell 1
  have c2 : w.cell? ⟨p, 2, none⟩ = some (.int .i64 s.tk) := h.box.cell 2
  have c3 : w.cell? ⟨p, 3, none⟩ = some (.slice (some ⟨u, 0, none⟩) s.us.length s.us.length) := h.box.cell 3
  have bX := laidB (Below.refl w.heap.size w) (.cells #[.int .i64 s.sh, .int .i64 s.pe, .int .i64 s.tk, .slice (some ⟨u, 0, none⟩) s.us.length s.us.length] 55)
  have hX := Cel.new w 55 #[.int .i64 s.sh, .int .i64 s.pe, .int .i64 s.tk, .slice (some ⟨u, 0, none⟩) s.us.length s.us.length]
  have c3' : (w.alloc (.cells #[.int .i64 s.sh, .int .i64 s.pe, .int .i64 s.tk, .slice (some ⟨u, 0, none⟩) s.us.length s.us.length] 55)).cell? ⟨p, 3, none⟩ = some (.slice (some ⟨u, 0, none⟩) s.us.length s.us.length) := cellB c3 bX
  have hc := copied_any u s.us s.us.length rfl _ (h.row.step bX) h.ok.n1
  have hok := h.ok
  have hpl := h.box.lt
  rw [World.size_alloc] at hc
  have HC := Lib.hid hc
  have HX := Lib.hid hX
  have BX := Lib.hid bX
  have HOK := Lib.hid hok
  obtain ⟨n, hn⟩ : ∃ n, s.us.length = n := ⟨_, rfl⟩
  have HN := Lib.hid hn
  clear hc hX bX hok h hn
  rw [HN.out] at c3 c3' HC HX BX
  go_enter Try.func21, Try.ntmps21
  go_wp2_with fail
  refine HC.out.mono ?_
  rintro e w2 ⟨rfl, hcel, hb⟩
  have hX2 := HX.out.step (by rw [World.size_alloc]; exact hb)
  have y3 := hX2.cell 3
  have z3 := hX2.free 3
  have hmt : Mt (w2.setCell ⟨w.heap.size, 3, none⟩ (.slice (some ⟨w.heap.size + 1, 0, none⟩) n n)) w.heap.size (w.heap.size + 1) s := by
    refine ⟨by omega, ?_, hcel.far (p := ⟨w.heap.size, 3, none⟩) (by simp) _, HOK.out⟩
    rw [HN.out]
    exact hX2.set 3 _
  have hbl : Below w.heap.size w (w2.setCell ⟨w.heap.size, 3, none⟩ (.slice (some ⟨w.heap.size + 1, 0, none⟩) n n)) := (BX.out.trans (hb.mono (by omega))).setCell (Nat.le_refl _) _
  have HMT := Lib.hid hmt
  have HBL := Lib.hid hbl
  clear hX2 hmt hbl hcel hb HC HX BX
  dsimp only
  go_wp2_with fail
  go_ret
  exact ⟨rfl, HMT.out, HBL.out⟩
/-- A step of a region that draws: append onto nil, the source what a call owns. -/
theorem step_append_none {P : Program} {w : World} {ops : Array Oper} {o : Oper} {a : Act} {K : Act → World → Prop} {Q : Exit → Act → World → Prop} {E : Prop} (hgd : o.guard = none) (s x : Operand) (t : TypeId)
    (ho : o.op = .call { callee := .builtin .append, args := #[s, x], argTypes := #[t, t] })
    (base : Nat) (e : TypeId) (i : TypeInfo) (z : Value) (size bytes : Nat) (ht : P.underlying t = some (.slice e)) (hi : P.info? e = some i) (hz : i.zero = some z)
    (hsize : i.size = size) (hby : i.bytes = bytes) (hzs : z.cells.size = size) (hsz : 0 < size)
    (hs : a.eval s = .slice none 0 0) (sv : Value) (n : Nat) (xs : List Value) (hx : a.eval x = sv) (base0 : Nat) (hown : w.ownsRow base0 e size sv n xs) (h1 : ∀ u ∈ xs, u.oneCell' = true)
    (h63 : n ≤ maxLen) (hbytes : n * bytes ≤ 140737488355328) (hbase : base ≤ w.heap.size)
    (h : ∀ v' w', w'.ownsRow base e size v' n xs → w.grownBy w' none → (v'.ownBlock = none ∨ v'.ownBlock = some w.heap.size) → K (a.put o.dst v') w') :
    if Region.wanted o (yielded ops a.tmps) = true then Oper.wp P o a w K Q else E := by
  have hw : Region.wanted o (yielded ops a.tmps) = true := by simp [Region.wanted, hgd]
  rw [if_pos hw]
  have hnil := World.ownsRow_nil w base e size
  obtain ⟨v', w', hrun, g1, g2, g3⟩ : ∃ v' w', (Builtin.append_ #[t, t] o.type #[.slice none 0 0, sv]).run P w = .ok v' w' ∧ w'.ownsRow base e size v' n xs ∧ w.grownBy w' none ∧ (v'.ownBlock = none ∨ v'.ownBlock = some w.heap.size) := by
    rcases hown.2 with ⟨rfl, rfl⟩ | ⟨g, cap, cur, rfl, hb, hg, hc, hm, hsz2, htk⟩
    · have hx0 : xs = [] := List.eq_nil_of_length_eq_zero (by have := hown.1; omega)
      subst hx0
      exact ⟨_, w, run_append_owned_none w base t o.type e i size ht hi _ _ _ hnil, hnil, World.grownBy.refl w _, .inl rfl⟩
    · obtain ⟨v', w', hrun, g1, g2, _, g3⟩ := run_append_own_at (P := P) w base t o.type e i z size bytes ht hi hz hsize hby hzs hsz (.slice none 0 0) 0 [] hnil ⟨g, 0, none⟩ n cap xs (by have := hown.1; exact this) (fun j u hu => by
        rw [addr_add, Nat.zero_add]
        have e1 : w.cell? ⟨g, j, none⟩ = cur[j]? := by unfold World.cell?; rw [hg]; rfl
        rw [e1]
        rw [← htk, List.getElem?_take] at hu
        split at hu
        · simpa using hu
        · simp at hu) h1 (by omega) (by rw [Nat.zero_add]; exact hbytes) hbase
      exact ⟨v', w', hrun, by simpa using g1, g2, g3⟩
  unfold Oper.wp
  simp [execOp, ho, resolve, invoke, builtin, hs, hx, hrun, Result.andThen]
  exact h _ _ g1 g2 g3
theorem le_one (l : List LE) : ∀ u ∈ leCells l, u.oneCell' = true := by
  intro u hu
  unfold leCells at hu
  obtain ⟨c, hc, hu⟩ := List.mem_flatten.1 hu
  obtain ⟨e, _, rfl⟩ := List.mem_map.1 hc
  simp [LE.cells] at hu
  rcases hu with rfl | rfl | rfl <;> rfl
set_option maxRecDepth 100000 in
set_option maxHeartbeats 4000000 in
theorem rcopy_any (q : Nat) (x : Value) (s : MS) (N : Nat) (w : World) (h : Mr w q x s N) (hN : N ≤ 1000) :
    Calls Try.prog 22 #[.pointer (some ⟨q, 0, none⟩)] w fun e w' => ∃ q' x', e = .returned (.pointer (some ⟨q', 0, none⟩)) ∧ w.heap.size ≤ q' ∧ (∀ k, x'.ownBlock = some k → w.heap.size ≤ k) ∧ Mr w' q' x' s N ∧ Below w.heap.size w w' := by
  obtain ⟨i0, hi0, hz0, hz1, hz2⟩ := info_parts info_le
  obtain ⟨L, hL, hR, ho⟩ := h.list
  have c0 : w.cell? ⟨q, 0, none⟩ = some (.int .i64 (s.us.length : Int)) := h.box.cell 0
  have c1 : w.cell? ⟨q, 1, none⟩ = some (.int .i64 s.sh) := h.box.cell 1
  have c2 : w.cell? ⟨q, 2, none⟩ = some (.int .i64 s.pe) := h.box.cell 2
  have c3 : w.cell? ⟨q, 3, none⟩ = some (.int .i64 s.tk) := h.box.cell 3
  have c4 : w.cell? ⟨q, 4, none⟩ = some x := h.box.cell 4
  have hok := h.ok
  have HOW := Lib.hid ho
  have HOK := Lib.hid hok
  have HRR := Lib.hid hR
  clear h hok ho hR
  obtain ⟨n, hn⟩ : ∃ n, s.us.length = n := ⟨_, rfl⟩
  have HN := Lib.hid hn
  rw [hn] at c0
  clear hn
  go_enter Try.func22, Try.ntmps22
  go_wp2_with fail
  go_region_held3 (fun w' => w'.cell? ⟨q, 0, none⟩ = some (.int .i64 (n : Int)) ∧ w'.cell? ⟨q, 1, none⟩ = some (.int .i64 s.sh) ∧ w'.cell? ⟨q, 2, none⟩ = some (.int .i64 s.pe) ∧ w'.cell? ⟨q, 3, none⟩ = some (.int .i64 s.tk)) (first | go_keep) (fail)
  go_wp2_with fail
  have bX : Below w.heap.size w (w.alloc (.cells #[.int .i64 (n : Int), .int .i64 s.sh, .int .i64 s.pe, .int .i64 s.tk, .slice none 0 0] 58)).drew := (laidB (Below.refl _ _) _).drew
  have hX : Cel (w.alloc (.cells #[.int .i64 (n : Int), .int .i64 s.sh, .int .i64 s.pe, .int .i64 s.tk, .slice none 0 0] 58)).drew w.heap.size 58 #[.int .i64 (n : Int), .int .i64 s.sh, .int .i64 s.pe, .int .i64 s.tk, .slice none 0 0] := Cel.new w 58 #[.int .i64 (n : Int), .int .i64 s.sh, .int .i64 s.pe, .int .i64 s.tk, .slice none 0 0]
  generalize (w.alloc (.cells #[.int .i64 (n : Int), .int .i64 s.sh, .int .i64 s.pe, .int .i64 s.tk, .slice none 0 0] 58)).drew = X at *
  have y4 : X.cell? ⟨q, 4, none⟩ = some x := cellB c4 bX
  have z4 : X.cell? ⟨w.heap.size, 4, none⟩ = some (.slice none 0 0) := hX.cell 4
  have bX2 : Below w.heap.size w X.drew := bX.drew
  have hX2 : Cel X.drew w.heap.size 58 #[.int .i64 (n : Int), .int .i64 s.sh, .int .i64 s.pe, .int .i64 s.tk, .slice none 0 0] := hX
  have HO2 := Lib.hid (owns_kept_below HOW.out bX2)
  have hwl : w.heap.size < X.drew.heap.size := hX2.lt
  have HX2 := Lib.hid hX2
  have HBX := Lib.hid bX2
  clear hX hX2 bX bX2 c0 c1 c2 c3 c4
  obtain ⟨a, cp, hx⟩ := owns_form2 HOW.out
  subst hx
  have hl1 : (L.length : Int) ≤ 1000 := by omega
  go_region_law ((refine step_append_none (by rfl) (.tmp 26) (.tmp 30) 56 (by rfl) w.heap.size 61 i0 (.agg #[.int .i64 0, .int .i64 0, .int .i64 0]) 3 24 Try.underlying56 hi0 hz0 hz1 hz2 rfl (by decide) (by rfl) _ _ (leCells L) (by rfl) 0 HO2.out (le_one L) (by unfold maxLen; omega) (by omega) (Nat.le_of_lt hwl) ?_; intro v' w2 hown hgrow hat; have hb2 := HX2.out.grown hgrow (by simp); have y44 := hb2.cell 4; have z44 := hb2.free 4; obtain ⟨a', c', hv'⟩ := owns_form2 hown; subst hv'; have HB2 := Lib.hid hb2; clear hb2))
  all_goals
    go_wp2_with fail
    go_ret
    have hq2 : ∀ k, (Value.slice a' L.length c').ownBlock = some k → X.drew.heap.size ≤ k := fun k hk => by
      rcases hat with e | e
      · rw [e] at hk; cases hk
      · rw [e] at hk; injection hk with hk; omega
    have hnq : (Value.slice a' L.length c').ownBlock ≠ some w.heap.size := fun e => by have := hq2 _ e; omega
    refine ⟨_, .slice a' L.length c', rfl, Nat.le_refl _, fun k hk => by have := hq2 k hk; omega, ⟨HOK.out, ?_, ⟨L, hL, HRR.out, ?_⟩, hnq⟩, ?_⟩
    · rw [HN.out]
      exact HB2.out.set 4 _
    · have h3 : w2.ownsRow 0 61 3 (.slice a' L.length c') L.length (leCells L) := by
        refine ⟨hown.1, ?_⟩
        rcases hown.2 with e | ⟨g, cap, cur, e, hb, r⟩
        · exact .inl e
        · exact .inr ⟨g, cap, cur, e, Nat.zero_le _, r⟩
      exact owns_only h3 (OnlyP.set (fun k => k = w.heap.size) w2 ⟨w.heap.size, 4, none⟩ _ rfl) (fun k hk e => hnq (by rw [hk, e]))
    · exact (HBX.out.grown hgrow (Nat.le_of_lt hwl) (fun k e => by cases e)).setCell (Nat.le_refl _) _
end Go.Proofs.Ytcohajmappdckaa
