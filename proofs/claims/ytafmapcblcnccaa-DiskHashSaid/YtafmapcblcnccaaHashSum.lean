/- The contract of hash.Sum. -/
import Derived.Test.YtafmapcblcnccaaHash
namespace Go.Proofs.Ytafmapcblcnccaa
open Go.RowKit Go.Shelf
attribute [local go_sem] Oper.semAt_some
set_option linter.unusedVariables false

theorem keepP_alloc {p : Nat → Prop} (W : World) (o : Obj) (hp : ∀ k, p k → k < W.heap.size) : KeepP p W (W.alloc o) := ⟨fun i hi => Below.heap_alloc _ _ _ (hp i hi)⟩
theorem bytesRow_get (s : ByteArray) (cap i : Nat) (h : i < s.size) : (bytesRow s cap)[i]? = some (.int .u8 ((s.data.toList.map fun b => (b.toNat : Int))[i]?.getD 0)) := by
  have h' : i < s.data.size := h
  unfold bytesRow
  rw [Array.getElem?_append_left (by simpa using h')]
  simp [Array.getElem?_eq_getElem h']
/-- A cell of a block that has just been laid, whatever marks it bears. -/
theorem cell_alloc_marked (W : World) (c : Array Value) (t : TypeId) (f : Nat × Nat) (i : Nat) : (W.alloc (.cells c t f)).cell? ⟨W.heap.size, i, none⟩ = c[i]? := by
  have h : (W.alloc (.cells c t f)).heap[W.heap.size]? = some (.cells c t f) := World.alloc_heap_new W _
  unfold World.cell?
  rw [h]
  rfl
theorem boxed_other {W : World} {B k : Nat} {o : Obj} (v : Value) (h : W.heap[k]? = some o) (hne : k ≠ B) : (W.setCell ⟨B, 0, none⟩ v).heap[k]? = some o := (Below.heap_setCell _ _ _ _ hne).trans h
/-- What the words of a list do to a state. -/
def sumTail (st : Int) (ws : List Int) : Int := ws.foldl (fun s x => mixI s (IntKind.u64.wrap x)) st
theorem sumTail_take (st : Int) (ws : List Int) (k : Nat) (h : k < ws.length) : sumTail st (ws.take (k + 1)) = mixI (sumTail st (ws.take k)) (IntKind.u64.wrap (ws[k]?.getD 0)) := by
  unfold sumTail
  rw [List.take_succ_eq_append_getElem h, List.foldl_append]
  simp [h]
theorem sumTail_all (st : Int) (ws : List Int) (k : Nat) (h : ws.length ≤ k) : sumTail st (ws.take k) = sumTail st ws := by rw [List.take_of_length_le h]
theorem sumTail_zero (st : Int) (ws : List Int) : sumTail st (ws.take 0) = st := rfl
/-- The hash of a label, whose bytes are l, and words. -/
def sumI (l ws : List Int) : Int := mixI (sumTail (mixI (mixI ((wordsOf l).foldl mixI 0) (l.length : Int)) (ws.length : Int)) ws) 0
/-- The bytes of a string, as numbers. -/
def bytesI (s : ByteArray) : List Int := s.data.toList.map fun b => (b.toNat : Int)
theorem bytesI_length (s : ByteArray) : (bytesI s).length = s.size := by simp [bytesI]
theorem Boxed.drew' {W : World} {B : Nat} {t : TypeId} {v : Value} (h : Boxed W B t v) : Boxed W.drew B t v := h

set_option maxRecDepth 100000 in
set_option maxHeartbeats 2000000 in
theorem sum_in (F : Fence) (n : Nat) (h3 : F.fn 57) (h5 : F.fn 56) (h7 : F.fn 64) (h6 : F.fn 65) (hro : F.round = none) (hn : 3 ≤ n) (s : ByteArray) (a : Option Addr) (len cap : Nat) (ws : List Int) (hs : s.size ≤ 140737488351232) (w : World) (hr : Row .i64 w.heap.size w (.slice a len cap) ws) (hwl : len = ws.length) (hwm : ws.length ≤ maxLen) :
    CallsIn F n Try.prog 57 #[.string s, .slice a len cap] w fun e W' => e = .returned (.int .u64 (sumI (bytesI s) ws)) ∧ Below w.heap.size w W' := by
  subst hwl
  unfold maxLen at hwm
  have h1 : 1 ≤ n := by omega
  refine callsIn_of_wp_marks Try.func57 rfl h3 ?_ hro
  simp only [Try.ntmps57, List.size_toArray, List.length_cons, List.length_nil, Nat.reduceAdd, Nat.reduceSub, Array.replicate_succ, Array.replicate_zero, List.push_toArray, List.append_toArray, List.nil_append, List.cons_append]
  have hcv := fun (w : World) => run_bytes_of_string (P := Try.prog) w 9 33 5 s Try.underlying9 Try.underlying33 Try.underlying5
  gi_wp2_with (gi_at_call 56; refine (groups_in F (n - 1) h5 hro _ _ ⟨_, _, _, rfl⟩).mono ?_; rintro e w' ⟨rfl, rfl⟩)
  generalize hgc : grownCap (w.alloc (.cells #[.int .u64 0] 61)) s.size 0 5 = gc
  have bS := Boxed.new w 61 (.int .u64 0)
  refine wpIn_rangeFunc_ownG hro h1 (gf := 64) (lb := #[.pointer (some ⟨w.heap.size + 1 + 1, 0, none⟩)]) rfl h7 (enters_of Try.func64 (by kernel_rfl) rfl)
    (groups_stops F (n - 1) h7 hro (by omega) (w.heap.size + 1 + 1) (fun k => k = w.heap.size + 1 ∨ k = w.heap.size + 1 + 1) (.slice (some ⟨w.heap.size + 1, 0, none⟩) s.size gc) (s.data.toList.map fun b => (b.toNat : Int)) (by simpa using hs) _ (.inr rfl) ?hp ?hc ?hI) keepP_t (keepP_b ?hp2) (Below.refl _ _) (fun _ => rfl)
    (fun pre W => Boxed W w.heap.size 61 (.int .u64 (pre.foldl mixI 0)) ∧ Below w.heap.size w W)
    (fun _ _ _ => False)
    (OwnFrom.and (Own.from (boxed_own _ _ _) _) (ownFrom_below (Nat.le_refl _) (by simp; omega)))
    (fun _ _ _ _ _ hs _ _ => hs)
    ?start
    (fun x => { tmps := #[.string s, .slice a ws.length cap, undef, undef, .int .u64 0, .pointer (some ⟨w.heap.size, 0, none⟩), .int .u64 x, undef, undef, .string s, .slice (some ⟨w.heap.size + 1, 0, none⟩) s.size gc, .func (.func 64) #[] #[.pointer (some ⟨w.heap.size + 1 + 1, 0, none⟩)], .int .u64 x, undef, undef, undef, undef, undef, undef, undef, undef, undef, undef, undef, undef, undef, undef, undef, undef, undef, undef, undef, undef, undef, undef, undef, undef, undef, undef], defers := [] }) ?assign ?body ?done ?stop
  case hp =>
    rintro k (rfl | rfl) <;> simp
  case hp2 =>
    rintro k (rfl | rfl) <;> simp
  case hc =>
    rw [World.cell?_drew]
    have := cell_alloc_marked ((w.alloc (.cells #[.int .u64 0] 61)).alloc (.cells (bytesRow s gc) 5 ((bytesRow s gc).size, (bytesRow s gc).size + 1))) #[.slice (some ⟨w.heap.size + 1, 0, none⟩) s.size gc] 33 (0, 0) 0
    simpa using this
  case hI =>
    refine .inr ⟨w.heap.size + 1, 0, gc, by simp, by rw [← hgc]; simpa using grownCap_ge _ _ _ _, by rw [← hgc]; exact grownCap_le_maxLen _ _ _ _ (by unfold maxLen; omega), .inl rfl, fun j hj => ?_⟩
    rw [List.length_map, Array.length_toList] at hj
    rw [World.cell?_drew, World.cell?_alloc_lt _ _ _ (by simp), Nat.zero_add]
    have := cell_alloc_marked (w.alloc (.cells #[.int .u64 0] 61)) (bytesRow s gc) 5 ((bytesRow s gc).size, (bytesRow s gc).size + 1) j
    rw [World.size_alloc] at this
    rw [this]
    exact bytesRow_get s gc j hj
  case start =>
    exact ⟨Boxed.drew' ((bS.alloc _).alloc _), ((((Below.refl _ w).alloc (Nat.le_refl _) _).alloc (by simp) _).alloc (by simp; omega) _).drew⟩
  case assign =>
    intro l x W K hK
    gi_wp2
    exact hK
  case body =>
    rintro l pre x W ⟨hb, hB⟩ _
    have hc := hb.cell
    have hf := hb.frozen
    have h1' : 1 ≤ n - 1 - 1 := by omega
    gi_wp2_with (gi_at_call 65; refine (CallsIn.inRound l (mix_in F _ h6 hro _ _ _)).mono ?_; rintro e w' ⟨rfl, rfl⟩)
    rename_i w'
    refine ⟨(KeepsOthers.setCell _ _ _).from _, KeepP.setCell _ _ _ _ (by rintro (h | h) <;> simp at h <;> omega), ?_, hB.setCell (p := ⟨w.heap.size, 0, none⟩) (Nat.le_refl _) _⟩
    have := hb.set (.int .u64 (mixI (List.foldl mixI 0 pre) x))
    rw [List.foldl_append]
    exact this
  case done =>
    rintro D ys W hD rfl ⟨hb, hB⟩ hK
    have hc := hb.cell
    have hf := hb.frozen
    have hDw : w.heap.size < D := by simp at hD; omega
    generalize hs0 : List.foldl mixI 0 (wordsOf (List.map (fun b => (b.toNat : Int)) s.data.toList)) = s0 at hb hc
    have Hs0 := Lib.hid hs0; clear hs0 hcv hD
    have hlen := hs
    gi_wp2_with (gi_at_call 65; refine (mix_in F _ h6 hro _ _ _).mono ?_; rintro e w' ⟨rfl, rfl⟩)
    gi_loopw [8, 28, 30, 31, 32, 33, 34, 35] (fun _ i _ _ _ _ _ _ wr => ∃ k : Nat, k ≤ ws.length ∧ i = .int .i64 (k : Int) ∧ Boxed wr w.heap.size 61 (.int .u64 (sumTail (mixI (mixI s0 s.size) ws.length) (ws.take k))) ∧ Below w.heap.size w wr ∧ wr.heap[D]? = some (.deferred (some [])))
      (fun _ i _ _ _ _ _ _ _ => ws.length - (intOf i).toNat)
    case atStart =>
      have hb2 := (hb.set (.int .u64 (mixI s0 s.size))).set (.int .u64 (mixI (mixI s0 s.size) ws.length))
      have hB2 := (hB.setCell (p := ⟨w.heap.size, 0, none⟩) (Nat.le_refl _) (.int .u64 (mixI s0 s.size))).setCell (p := ⟨w.heap.size, 0, none⟩) (Nat.le_refl _) (.int .u64 (mixI (mixI s0 s.size) ws.length))
      have hK2 := boxed_other (.int .u64 (mixI (mixI s0 s.size) ws.length)) (boxed_other (.int .u64 (mixI s0 s.size)) hK (B := w.heap.size) (by omega)) (B := w.heap.size) (by omega)
      exact ⟨0, Nat.zero_le _, rfl, hb2, hB2, hK2⟩
    case round =>
      obtain ⟨k, hk, rfl, hb', hB', hK'⟩ := hrel
      clear hc hf hb hB hK
      have hc' := hb'.cell
      have hf' := hb'.frozen
      by_cases hlt : k < ws.length
      · rcases hr with ⟨_, _, _, _, _, rfl⟩ | ⟨b, off, cap', he, h2, h3, h4, hcs⟩
        · simp at hlt
        · obtain ⟨rfl, rfl⟩ : a = some ⟨b, off, none⟩ ∧ cap = cap' := by simpa using he
          have hck : wr.cell? ⟨b, off + k, none⟩ = some (.int .i64 (ws[k]?.getD 0)) := (hB'.cell (p := ⟨b, off + k, none⟩) h4).trans (hcs k hlt)
          have HT := Lib.hid (sumTail_take (mixI (mixI s0 s.size) ws.length) ws k hlt)
          clear he hcs
          gi_wp2_with (gi_at_call 65; refine (mix_in F _ h6 hro _ _ _).mono ?_; rintro e w' ⟨rfl, rfl⟩)
          have hwk : ws[k]?.getD 0 = ws[k] := by simp [hlt]
          rw [hwk] at HT
          go_roundw
          case rel => exact ⟨k + 1, by omega, by go_num, by rw [HT.out]; exact hb'.set _, hB'.setCell (p := ⟨w.heap.size, 0, none⟩) (Nat.le_refl _) _, boxed_other _ hK' (by omega)⟩
          case measure => simp [intOf]; omega
      · have HT := Lib.hid (sumTail_all (mixI (mixI s0 s.size) ws.length) ws k (by omega))
        gi_wp2_with (gi_at_call 65; refine (mix_in F _ h6 hro _ _ _).mono ?_; rintro e w' ⟨rfl, rfl⟩)
        rename_i w'
        refine ⟨by simp, .inl ⟨_, _, rfl, run_takeDeferred hK', ?_⟩⟩
        refine ⟨_, results_tmp rfl _ _ _, ?_, hB'.trans (belowK_b (w := w) (Nat.le_refl _) w' D _ _ (by omega) hK' rfl rfl)⟩
        have e0 := Hs0.out
        rw [HT.out, ← e0]
        unfold sumI
        rw [bytesI_length]
        rfl
  case stop =>
    rintro D c pre W _ _ h _
    exact h.elim
end Go.Proofs.Ytafmapcblcnccaa
