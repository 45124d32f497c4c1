/- The contracts of hash.Bytes, hash.Pair. -/
import Derived.Test.YtafmapcblcnccaaHashSum
import Derived.Test.YtafmapcblcnccaaRows2
namespace Go.Proofs.Ytafmapcblcnccaa
open Go.RowKit Go.Shelf
attribute [local go_sem] Oper.semAt_some
set_option linter.unusedVariables false

theorem info_i64 : (Try.prog.info? 3).map (fun i => (i.zero, i.size, i.bytes)) = some (some (.int .i64 0), 1, 8) := by kernel_rfl

set_option maxRecDepth 100000 in
set_option maxHeartbeats 2000000 in
theorem bytes_in (F : Fence) (n : Nat) (h2 : F.fn 33) (h3 : F.fn 57) (h5 : F.fn 56) (h7 : F.fn 64) (h6 : F.fn 65) (hro : F.round = none) (hn : 4 ≤ n) (s : ByteArray) (a : Option Addr) (len cap : Nat) (zs : List Int) (hs : s.size ≤ 140737488351232) (w : World) (hr : Row .u8 w.heap.size w (.slice a len cap) zs) (hwl : len = zs.length) (hwm : zs.length ≤ 1000000) :
    CallsIn F n Try.prog 33 #[.string s, .slice a len cap] w fun e W' => e = .returned (.int .u64 (sumI (bytesI s) ((wordsOf zs).map wrap64 ++ [(zs.length : Int)]))) ∧ Below w.heap.size w W' := by
  subst hwl
  have h1 : 1 ≤ n := by omega
  obtain ⟨i0, hi, hz0, hz1, hz2⟩ := info_parts info_i64
  have hdiv : (0 : Int) ≤ (zs.length : Int) / 8 + 2 := by omega
  refine callsIn_of_wp_marks Try.func33 rfl h2 ?_ hro
  simp only [Try.ntmps33, List.size_toArray, List.length_cons, List.length_nil, Nat.reduceAdd, Nat.reduceSub, Array.replicate_succ, Array.replicate_zero, List.push_toArray, List.append_toArray, List.nil_append, List.cons_append]
  gi_wp2_with (first | (gi_at_make; refine wpListIn_make_own _ rfl _ _ 22 rfl w.heap.size 3 i0 (.int .i64 0) 1 Try.underlying22 hi hz0 hz1 .i64 .i64 ((zs.length : Int) / 8 + 2) (zs.length / 8 + 2) rfl rfl (by simp) (by rw [hz2]; omega) (by unfold maxLen; omega) (Nat.le_refl _) ?_; intro w1 hown hgrow) | (gi_at_call 56; refine (groups_in F (n - 1) h5 hro _ _ ⟨_, _, _, rfl⟩).mono ?_; rintro e w' ⟨rfl, rfl⟩))
  have hg1 := hgrow.size
  have hB1 : Below w.heap.size w w1 := (Below.refl _ w).grown hgrow (Nat.le_refl _) (fun k e => by cases e)
  generalize hc0 : zs.length / 8 + 2 = c0 at hown
  have bW := Boxed.new w1 22 (.slice (some ⟨w.heap.size, 0, none⟩) 0 c0)
  have bN := Boxed.new (w1.alloc (.cells #[.slice (some ⟨w.heap.size, 0, none⟩) 0 c0] 22)) 33 (.slice a zs.length cap)
  rw [World.size_alloc] at bN
  have hB0 : Below w.heap.size w ((w1.alloc (.cells #[.slice (some ⟨w.heap.size, 0, none⟩) 0 c0] 22)).alloc (.cells #[.slice a zs.length cap] 33)) := (hB1.alloc hg1 _).alloc (by simp; omega) _
  refine wpIn_rangeFunc_ownG hro h1 (gf := 64) (lb := #[.pointer (some ⟨w1.heap.size + 1, 0, none⟩)]) rfl h7 (enters_of Try.func64 (by kernel_rfl) rfl)
    (groups_stops F (n - 1) h7 hro (by omega) (w1.heap.size + 1) (fun k => k < w.heap.size ∨ k = w1.heap.size + 1) (.slice a zs.length cap) zs (by omega) _ (.inr rfl) ?hp bN.cell ((hr.below hB0).mono fun b hb => .inl hb)) keepP_t (keepP_b ?hp2) (Below.refl _ _) (fun _ => rfl)
    (fun pre W => (∃ v, Boxed W w1.heap.size 22 v ∧ W.ownsRow w.heap.size 3 1 v pre.length (pre.map fun x => Value.int .i64 (wrap64 x)) ∧ True) ∧ Boxed W (w1.heap.size + 1) 33 (.slice a zs.length cap) ∧ Below w.heap.size w W)
    (fun _ _ _ => False)
    (OwnFrom.and (Own.from (holdsRow_own w.heap.size w1.heap.size 22 3 1 (fun pre : List Int => pre.length) (fun pre : List Int => pre.map fun x => Value.int .i64 (wrap64 x)) (fun _ _ => True)) _) (OwnFrom.and (Own.from (boxed_own _ _ _) _) (ownFrom_below (Nat.le_refl _) (by simp; omega))))
    (fun _ _ _ _ _ hs _ _ => hs)
    ⟨⟨_, bW.alloc _, (hown.alloc _).alloc _, trivial⟩, bN, hB0⟩
    (fun x => { tmps := #[.string s, .slice a zs.length cap, undef, undef, .int .u64 0, .pointer (some ⟨w1.heap.size, 0, none⟩), .int .u64 x, .slice a zs.length cap, .int .i64 zs.length, .int .i64 ((zs.length : Int) / 8), .int .i64 ((zs.length : Int) / 8 + 2), .slice (some ⟨w.heap.size, 0, none⟩) 0 c0, .slice a zs.length cap, .func (.func 64) #[] #[.pointer (some ⟨w1.heap.size + 1, 0, none⟩)], .int .u64 x, undef, undef, undef, undef, undef, undef, undef, undef, undef, undef, undef, undef], defers := [] }) ?assign ?body ?done ?stop
  case hp =>
    rintro k (h | rfl) <;> simp <;> omega
  case hp2 =>
    rintro k (h | rfl) <;> simp <;> omega
  case assign =>
    intro l x W K hK
    gi_wp2
    exact hK
  case body =>
    rintro l pre x W ⟨⟨v, hv, hrow, _⟩, hbs, hB⟩ hlt
    have hc := hv.cell
    have hsz := hB.size
    have hlt1 := hv.lt
    have hlt2 := hbs.lt
    gi_wp2_with (gi_at_builtin; refine wpListIn_append_own _ rfl _ _ 22 rfl w.heap.size 3 i0 (.int .i64 0) 1 8 Try.underlying22 hi hz0 hz1 hz2 rfl (by decide) _ _ _ rfl (hrow.alloc _) ⟨W.heap.size, 0, none⟩ 1 1 [.int .i64 (wrap64 x)] rfl rfl (cell_one_new _ _ _) (by simp [Value.oneCell']) (by unfold maxLen; omega) (by omega) (by have := hB.size; simp; omega) ?_; intro v' w2 hown' hgrow' _; obtain ⟨g', cap', rfl⟩ := ownsRow_succ hown'; obtain ⟨hv1, hv2, hr2, hk2, hb2⟩ := hv.appended (by decide) hrow hB.size hg1 hown' hgrow'; have hc1 := hv1.cell; have hf1 := hv1.frozen)
    have hgr : World.grownBy _ w2 v.ownBlock := hgrow'
    clear hgrow'
    refine ⟨hk2.from _, ?_, ⟨_, hv2, by simpa using hr2, trivial⟩, ?_, hB.trans hb2⟩
    · refine ((keepP_alloc W _ ?_).trans (KeepP.grown hgr ?_ ?_)).trans (KeepP.setCell _ _ _ _ ?_)
      · rintro k (h | rfl) <;> omega
      · rintro k (h | rfl) <;> simp <;> omega
      · intro k ek hk
        rcases hk with h | rfl
        · rcases hrow.2 with ⟨rfl, _⟩ | ⟨g, cp, cur, rfl, hgb, _⟩
          · simp [Value.ownBlock] at ek
          · simp [Value.ownBlock] at ek; omega
        · exact hbs.not_row (by decide) hrow ek.symm
      · rintro (h | h) <;> simp at h <;> omega
    · have hb3 : Boxed w2 (w1.heap.size + 1) 33 (.slice a zs.length cap) := (hbs.alloc _).kept hgr (hbs.not_row (by decide) hrow)
      exact boxed_other _ hb3 (by omega)
  case done =>
    rintro D ys W hD rfl ⟨⟨v, hv, hrow, _⟩, hbs, hB⟩ hK
    have hc := hv.cell
    generalize hws : (wordsOf zs).map wrap64 = ws
    have hwl : (wordsOf zs).length = ws.length := by rw [← hws, List.length_map]
    have hww : (wordsOf zs).length ≤ 125000 := by unfold wordsOf; rw [wordsUpto_length]; omega
    have hrow2 : W.ownsRow w.heap.size 3 1 v ws.length (ws.map (Value.int .i64)) := by rw [← hwl, ← hws, List.map_map]; exact hrow
    have Hws := Lib.hid hws
    clear hrow hws
    gi_wp2_with (gi_at_builtin; refine wpListIn_append_own _ rfl _ _ 22 rfl w.heap.size 3 i0 (.int .i64 0) 1 8 Try.underlying22 hi hz0 hz1 hz2 rfl (by decide) _ _ _ rfl (hrow2.alloc _) ⟨W.heap.size, 0, none⟩ 1 1 [.int .i64 zs.length] rfl rfl (cell_one_new _ _ _) (by simp [Value.oneCell']) (by unfold maxLen; omega) (by omega) (by have := hB.size; simp; omega) ?_; intro v' w2 hown' hgrow' _; obtain ⟨g', cap', rfl⟩ := ownsRow_succ hown')
    have hgr : World.grownBy _ w2 v.ownBlock := hgrow'
    clear hgrow'
    have hDl : D < W.heap.size := (Array.getElem?_eq_some_iff.1 hK).1
    have hKw : w2.heap[D]? = some (.deferred (some [])) := by
      refine (hgr.block D (by simp; omega) ?_).trans ((Below.heap_alloc _ _ _ hDl).trans hK)
      intro e
      rcases hrow2.2 with ⟨rfl, _⟩ | ⟨g, cp, cur, rfl, _, hgb, _⟩
      · simp [Value.ownBlock] at e
      · obtain rfl : D = g := by simpa [Value.ownBlock] using e
        rw [hK] at hgb; cases hgb
    have hgs := hgr.size
    have hB2 : Below w.heap.size w w2 := (hB.alloc hB.size _).grown hgr (by have := hB.size; simp; omega) (fun k e => by
      rcases hrow2.2 with ⟨rfl, _⟩ | ⟨g, cp, cur, rfl, hgb, _⟩
      · simp [Value.ownBlock] at e
      · obtain rfl : g = k := by simpa [Value.ownBlock] using e
        exact hgb)
    have hrw := row_of_owns (k := .i64) (zs := ws ++ [(zs.length : Int)]) (by rw [List.map_append]; exact hown')
    refine (sum_in F (n - 1) h3 h5 h7 h6 hro (by omega) s _ _ _ (ws ++ [(zs.length : Int)]) hs _ hrw.1 hrw.2 (by simp; unfold maxLen; omega)).mono ?_
    rintro e W3 ⟨rfl, hB3⟩
    have hKW : W3.heap[D]? = some (.deferred (some [])) := (hB3.block D (Array.getElem?_eq_some_iff.1 hKw).1).trans hKw
    have hDg : w.heap.size ≤ D := by simp at hD; omega
    dsimp only
    gi_wp2
    refine ⟨by simp, .inl ⟨_, _, rfl, run_takeDeferred hKW, ?_⟩⟩
    exact ⟨_, results_tmp rfl _ _ _, by rw [Hws.out]; rfl, (hB2.trans (hB3.mono hB2.size)).trans (belowK_b (w := w) (Nat.le_refl _) _ D _ _ hDg hKW rfl rfl)⟩
  case stop =>
    rintro D c pre W _ _ h _
    exact h.elim

set_option maxHeartbeats 1000000 in
theorem sum_any (s : ByteArray) (a : Option Addr) (len cap : Nat) (ws : List Int) (hs : s.size ≤ 140737488351232) (w : World) (hr : Row .i64 w.heap.size w (.slice a len cap) ws) (hwl : len = ws.length) (hwm : ws.length ≤ maxLen) :
    Calls Try.prog 57 #[.string s, .slice a len cap] w fun e W' => e = .returned (.int .u64 (sumI (bytesI s) ws)) ∧ Below w.heap.size w W' :=
  (callsIn_wide (n := 3)).1 (sum_in Fence.wide 3 trivial trivial trivial trivial rfl (by decide) s a len cap ws hs w hr hwl hwm)
theorem bytes_any (s : ByteArray) (a : Option Addr) (len cap : Nat) (zs : List Int) (hs : s.size ≤ 140737488351232) (w : World) (hr : Row .u8 w.heap.size w (.slice a len cap) zs) (hwl : len = zs.length) (hwm : zs.length ≤ 1000000) :
    Calls Try.prog 33 #[.string s, .slice a len cap] w fun e W' => e = .returned (.int .u64 (sumI (bytesI s) ((wordsOf zs).map wrap64 ++ [(zs.length : Int)]))) ∧ Below w.heap.size w W' :=
  (callsIn_wide (n := 4)).1 (bytes_in Fence.wide 4 trivial trivial trivial trivial trivial rfl (by decide) s a len cap zs hs w hr hwl hwm)

end Go.Proofs.Ytafmapcblcnccaa
