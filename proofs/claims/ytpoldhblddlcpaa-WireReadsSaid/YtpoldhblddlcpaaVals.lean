/- Contract of the reference model's Vals. -/
import Derived.Test.YtpoldhblddlcpaaVRead
import Derived.Deep.RegionHeld3
import Derived.Deep.AppendLies
import Derived.StillTailTactics
import Derived.Deep.RegionLaw
namespace Go.Proofs.Ytpoldhblddlcpaa
open Go.RowKit Go.Shelf
set_option linter.unusedVariables false

/-- The values that the call has made so far: their cells. -/
def VOut (base : Nat) (W : World) (x : Value) (l : List VM) (xs : List Value) : Prop :=
  W.ownsRow base 28 5 x l.length xs ∧ ∀ (i : Nat) (v : VM), l[i]? = some v → ∃ sb sl,
    xs[i * 5]? = some (.int .i64 v.kind) ∧ xs[i * 5 + 1]? = some (.int .u64 v.u) ∧ xs[i * 5 + 2]? = some (.int .i64 v.n) ∧ xs[i * 5 + 3]? = some sb ∧ xs[i * 5 + 4]? = some sl ∧
    RowP .u8 (fun g => base ≤ g ∧ g < W.heap.size ∧ x.ownBlock ≠ some g) W sb v.B ∧ RowP .i64 (fun g => base ≤ g ∧ g < W.heap.size ∧ x.ownBlock ≠ some g) W sl v.L
theorem VOut.nil (base : Nat) (W : World) : VOut base W (.slice none 0 0) [] [] := ⟨World.ownsRow_nil _ _ _ _, fun i v h => by simp at h⟩
theorem VOut.below {base : Nat} {W W' : World} {x : Value} {l : List VM} {xs : List Value} (h : VOut base W x l xs) (hb : Below W.heap.size W W') : VOut base W' x l xs := by
  obtain ⟨ho, hc⟩ := h
  refine ⟨owns_kept_below ho hb, fun i v hv => ?_⟩
  obtain ⟨sb, sl, c0, c1, c2, c3, c4, r1, r2⟩ := hc i v hv
  have hs := hb.size
  exact ⟨sb, sl, c0, c1, c2, c3, c4, (r1.keep (KeepP.of_below hb (fun k hk => hk.2.1))).mono (fun g hg => ⟨hg.1, by omega, hg.2.2⟩), (r2.keep (KeepP.of_below hb (fun k hk => hk.2.1))).mono (fun g hg => ⟨hg.1, by omega, hg.2.2⟩)⟩
/-- One value more. -/
theorem VOut.push {base : Nat} {W W' : World} {x x' : Value} {l : List VM} {xs : List Value} {v : VM} {sb sl : Value} (h : VOut base W x l xs)
    (hr : W'.ownsRow base 28 5 x' (l.length + 1) (xs ++ [.int .i64 v.kind, .int .u64 v.u, .int .i64 v.n, sb, sl])) (hg : W.grownBy W' x.ownBlock) (hx : x'.ownBlock = x.ownBlock ∨ x'.ownBlock = some W.heap.size)
    (h1 : RowP .u8 (fun g => base ≤ g ∧ g < W.heap.size ∧ x.ownBlock ≠ some g) W sb v.B) (h2 : RowP .i64 (fun g => base ≤ g ∧ g < W.heap.size ∧ x.ownBlock ≠ some g) W sl v.L) : VOut base W' x' (l ++ [v]) (xs ++ [.int .i64 v.kind, .int .u64 v.u, .int .i64 v.n, sb, sl]) := by
  obtain ⟨ho, hc⟩ := h
  have hk : ∀ g, (base ≤ g ∧ g < W.heap.size ∧ x.ownBlock ≠ some g) → (base ≤ g ∧ g < W'.heap.size ∧ x'.ownBlock ≠ some g) := by
    rintro g ⟨a, b, c⟩
    refine ⟨a, Nat.lt_of_lt_of_le b hg.size, ?_⟩
    rcases hx with e | e
    · rw [e]; exact c
    · rw [e]; intro e2; simp at e2; omega
  have kp : KeepP (fun g => base ≤ g ∧ g < W.heap.size ∧ x.ownBlock ≠ some g) W W' := ⟨fun g hgp => hg.block g hgp.2.1 (fun e => hgp.2.2 e.symm)⟩
  have hl : xs.length = l.length * 5 := ho.1
  refine ⟨by rw [List.length_append]; exact hr, fun i u hu => ?_⟩
  rcases Nat.lt_or_ge i l.length with hi | hi
  · rw [List.getElem?_append_left hi] at hu
    obtain ⟨sb', sl', c0, c1, c2, c3, c4, r1, r2⟩ := hc i u hu
    refine ⟨sb', sl', ?_, ?_, ?_, ?_, ?_, (r1.keep kp).mono hk, (r2.keep kp).mono hk⟩ <;> (rw [List.getElem?_append_left (by omega)]; assumption)
  · have hi2 : i = l.length := by
      have := (List.getElem?_eq_some_iff.1 hu).1
      simp at this; omega
    subst hi2
    simp at hu
    subst hu
    refine ⟨sb, sl, ?_, ?_, ?_, ?_, ?_, (h1.keep kp).mono hk, (h2.keep kp).mono hk⟩ <;> (rw [List.getElem?_append_right (by omega), ← hl]; simp [show ∀ n : Nat, xs.length + n - xs.length = n from fun n => by omega])
theorem VOut.vrow {base : Nat} {W : World} {x : Value} {l : List VM} {xs : List Value} (h : VOut base W x l xs) : VRow W.heap.size W x l := by
  obtain ⟨ho, hc⟩ := h
  rcases ho.2 with ⟨rfl, h0⟩ | ⟨g, cap, cur, rfl, hb, hg, hcap, hm, hs, ht⟩
  · have := List.eq_nil_of_length_eq_zero h0
    subst this
    exact ⟨none, 0, rfl, Nat.le_refl _, Nat.zero_le _, .inl rfl⟩
  · refine ⟨_, cap, rfl, hcap, hm, .inr ⟨g, 0, rfl, (Array.getElem?_eq_some_iff.1 hg).1, fun i v hv => ?_⟩⟩
    obtain ⟨sb, sl, c0, c1, c2, c3, c4, r1, r2⟩ := hc i v hv
    have hi := (List.getElem?_eq_some_iff.1 hv).1
    have hcell : ∀ o u, xs[o]? = some u → W.cell? ⟨g, 0 + o, none⟩ = some u := by
      intro o u hu
      have e : W.cell? ⟨g, 0 + o, none⟩ = cur[0 + o]? := by unfold World.cell?; rw [hg]; rfl
      rw [e, Nat.zero_add]
      rw [← ht, List.getElem?_take] at hu
      split at hu
      · simpa using hu
      · simp at hu
    refine ⟨sb, sl, r1.mono (fun _ h => h.2.1), r2.mono (fun _ h => h.2.1), hcell _ _ c0, ?_, ?_, ?_, ?_⟩
    · have := hcell _ _ c1; rwa [← Nat.add_assoc] at this
    · have := hcell _ _ c2; rwa [← Nat.add_assoc] at this
    · have := hcell _ _ c3; rwa [← Nat.add_assoc] at this
    · have := hcell _ _ c4; rwa [← Nat.add_assoc] at this
theorem vs_ok {vs : List VM} {v : VM} (h : ∀ v ∈ vs, v.ok) (hv : v.ok) : ∀ u ∈ vs ++ [v], u.ok := by
  intro u hu
  rcases List.mem_append.1 hu with h1 | h1
  · exact h u h1
  · simp at h1; subst h1; exact hv
theorem news5 (w : World) (o : Obj) (cs : Array Value) : ∀ j u, cs.toList[j]? = some u → ((w.alloc o).alloc (.cells cs 28)).cell? (Addr.add ⟨w.heap.size + 1, 0, none⟩ j) = some u := by
  intro j u hu
  rw [addr_add, Nat.zero_add, show w.heap.size + 1 = (w.alloc o).heap.size from by simp, World.cell?_alloc_new]
  simpa using hu
theorem i64_wf {n : Int} (h : -9223372036854775808 ≤ n) (h2 : n ≤ 9223372036854775807) : (Lit.int .i64 n).wf = true := by
  simp [Lit.wf, IntKind.min, IntKind.max, IntKind.signed, IntKind.bits]
  omega
theorem mod2 (n : Int) : (Lit.int .i64 (n % 2)).wf = true ∧ (n % 2 = 0 ∨ n % 2 = 1) := ⟨i64_wf (by omega) (by omega), by omega⟩
theorem u8w (n : Int) : 0 ≤ IntKind.u8.wrap n ∧ IntKind.u8.wrap n < 256 := by rw [IntKind.wrap_u8]; omega
theorem mem_snoc {p : Int → Prop} {l : List Int} {x : Int} (h : ∀ y ∈ l, p y) (hx : p x) : ∀ y ∈ l ++ [x], p y := by
  intro y hy
  rcases List.mem_append.1 hy with h1 | h1
  · exact h y h1
  · simp at h1; subst h1; exact hx
theorem shr_u (x : Int) (n : Nat) : 0 ≤ IntKind.u64.wrap x / 2 ^ n ∧ IntKind.u64.wrap x / 2 ^ n < 18446744073709551616 := by
  have h : 0 ≤ IntKind.u64.wrap x ∧ IntKind.u64.wrap x < 18446744073709551616 := by rw [IntKind.wrap_u64]; omega
  have hp : (1 : Int) ≤ 2 ^ n := by
    have := Nat.one_le_two_pow (n := n)
    exact_mod_cast this
  refine ⟨Int.ediv_nonneg h.1 (by omega), ?_⟩
  have := Int.ediv_le_self (2 ^ n) h.1
  omega
theorem shr_i (x : Int) (n : Nat) (h : (Lit.int .i64 x).wf = true) : (Lit.int .i64 (x / 2 ^ n)).wf = true := by
  have hr := i64_rng h
  have hp : (1 : Int) ≤ 2 ^ n := by
    have := Nat.one_le_two_pow (n := n)
    exact_mod_cast this
  rcases Int.lt_or_le x 0 with h0 | h0
  · have h1 : x ≤ x / 2 ^ n := by
      rw [Int.le_ediv_iff_mul_le (by omega)]
      have := Int.mul_le_mul_of_nonpos_left (show x ≤ 0 by omega) hp
      simpa using this
    have h2 : x / 2 ^ n < 0 := Int.ediv_neg_of_neg_of_pos h0 (by omega)
    exact i64_wf (by omega) (by omega)
  · have h1 := Int.ediv_le_self (2 ^ n) h0
    have h2 := Int.ediv_nonneg h0 (show (0 : Int) ≤ 2 ^ n by omega)
    exact i64_wf (by omega) (by omega)
theorem u8m (n : Int) : 0 ≤ n % 256 ∧ n % 256 < 256 := by omega
/-- A store into another block of another element type. -/
theorem owns_set_far {w : World} {base : Nat} {e : TypeId} {size : Nat} {v : Value} {n : Nat} {xs : List Value} {g o : Nat} {t : TypeId} {cs : Array Value} {u : Value} (h : w.ownsRow base e size v n xs) (hc : Cel w g t cs) (hne : t ≠ e) : (w.setCell ⟨g, o, none⟩ u).ownsRow base e size v n xs := by
  refine ⟨h.1, ?_⟩
  rcases h.2 with hn | ⟨g', cap, cur, rfl, h1, hg, rest⟩
  · exact .inl hn
  · have hgg : g' ≠ g := by
      rintro rfl
      unfold Cel at hc
      rw [hc] at hg
      injection hg with hg
      injection hg with _ ht
      exact hne ht
    exact .inr ⟨g', cap, cur, rfl, h1, (Below.heap_setCell w ⟨g, o, none⟩ u g' hgg).trans hg, rest⟩
theorem row_own3 {k : IntKind} {w : World} {o : Obj} {base base' : Nat} {x sv : Value} {zs : List Int} (h : RowP k (fun g => base ≤ g ∧ g < w.heap.size) w sv zs) (hb : base' ≤ base) (hx : ∀ g, base ≤ g → x.ownBlock ≠ some g) :
    RowP k (fun g => base' ≤ g ∧ g < (w.alloc o).heap.size ∧ x.ownBlock ≠ some g) (w.alloc o) sv zs :=
  (h.keep (KeepP.of_below (laidB (Below.refl w.heap.size w) o) (fun g hg => hg.2))).mono (fun g hg => ⟨by omega, by simp; omega, hx g hg.1⟩)
theorem news5' (w : World) (cs : Array Value) : ∀ j u, cs.toList[j]? = some u → (w.alloc (.cells cs 28)).cell? (Addr.add ⟨w.heap.size, 0, none⟩ j) = some u := by
  intro j u hu
  rw [addr_add, Nat.zero_add, World.cell?_alloc_new]
  simpa using hu
theorem info_val : (Try.prog.info? 28).map (fun i => (i.zero, i.size, i.bytes)) = some (some (.agg #[.int .i64 0, .int .u64 0, .int .i64 0, .slice none 0 0, .slice none 0 0]), 5, 72) := by kernel_rfl
theorem tdiv6_wf (x : Int) (h : (Lit.int .i64 x).wf = true) : (Lit.int .i64 (x.tdiv 6)).wf = true := by
  have := i64_rng h
  have h2 : -9223372036854775808 ≤ x.tdiv 6 ∧ x.tdiv 6 ≤ 9223372036854775807 := by
    rcases Int.lt_or_le x 0 with h3 | h3
    · obtain ⟨y, rfl⟩ : ∃ y, x = -y := ⟨-x, by omega⟩
      rw [Int.neg_tdiv, Int.tdiv_eq_ediv_of_nonneg (by omega)]
      omega
    · rw [Int.tdiv_eq_ediv_of_nonneg h3]
      omega
  simp [Lit.wf, IntKind.min, IntKind.max, IntKind.signed, IntKind.bits]
  omega
theorem wrap_tdiv6 (x : Int) (h : (Lit.int .i64 x).wf = true) : wrap64 (x.tdiv 6) = x.tdiv 6 := by
  have := i64_rng (tdiv6_wf x h)
  exact IntWalk.wrap64_in _ this
set_option maxRecDepth 100000 in
set_option maxHeartbeats 4000000 in
theorem vals_any (a : Option Addr) (len cap : Nat) (zs : List Int) (w : World) (hr : Row .i64 w.heap.size w (.slice a len cap) zs) (hwf : ∀ n ∈ zs, (Lit.int .i64 n).wf = true) :
    Calls Try.prog 11 #[.slice a len cap] w fun e w' => ∃ x l xs, e = .returned x ∧ VOut w.heap.size w' x l xs ∧ (∀ v ∈ l, v.ok) ∧ l.length ≤ 8 ∧ Below w.heap.size w w' := by
  obtain ⟨i0, hi, hz0, hz1, hz2⟩ := info_parts info_val
  obtain ⟨j0, hj, hy0, hy1, hy2⟩ := info_parts info_byte
  obtain ⟨q0, hq, hq0, hq1, hq2⟩ := info_parts info_i64
  have hll := hr.len
  have hlc := hr.lencap
  subst hll
  unfold maxLen at hlc
  go_enter Try.func11, Try.ntmps11
  go_wp2_with fail
  go_loopw [3, 4] (fun v i wr => ∃ (k : Nat) (vs : List VM) (xs : List Value), k ≤ zs.length ∧ k ≤ 8 ∧ i = .int .i64 (k : Int) ∧ vs.length ≤ k ∧ (∀ v ∈ vs, v.ok) ∧ VOut w.heap.size wr v vs xs ∧ Below w.heap.size w wr) (fun _ i _ => 8 - (intOf i).toNat)
  case atStart => exact ⟨0, [], [], Nat.zero_le _, by omega, rfl, by simp, by simp, VOut.nil _ _, Below.refl _ _⟩
  case round =>
    obtain ⟨k, vs, xs, hk, hk8, rfl, hvl, hvo, hV, hB⟩ := hrel
    by_cases hlt : k < zs.length
    · by_cases hlt8 : k < 8
      · obtain ⟨b, off, rfl, hbn, hc⟩ := hr.at (by omega)
        have c0 : wr.cell? ⟨b, off + k, none⟩ = some (.int .i64 (zs[k]?.getD 0)) := (hB.cell (p := ⟨b, off + k, none⟩) hbn).trans (hc k hlt)
        have hx : (Lit.int .i64 (zs[k]?.getD 0)).wf = true := by
          rw [List.getElem?_eq_getElem hlt]; exact hwf _ (List.getElem_mem hlt)
        have hbs := hB.size
        generalize zs[k]?.getD 0 = x at c0 hx
        have ca : ∀ o, (wr.alloc o).cell? ⟨b, off + k, none⟩ = some (.int .i64 x) := fun o => cellB c0 (laidB (Below.refl wr.heap.size wr) o)
        have hk8' : (k : Int) < 8 := by omega
        clear hc hr
        obtain ⟨hown, hcs⟩ := id hV
        have hown2 : ∀ o o', ((wr.alloc o).alloc o').ownsRow w.heap.size 28 5 u3 vs.length xs := fun o o' => (hown.alloc o).alloc o'
        have HO2 := Lib.hid hown2; clear hown2
        go_wp2_with fail
        refine (around_any x 6 _ hx (by omega) (by omega)).mono ?_
        rintro e w1 ⟨rfl, rfl⟩
        have hK0 := aroundI_lo x 6 (by omega)
        have hK1 := aroundI_hi x 6 (by omega)
        generalize aroundI x 6 = K at *
        dsimp only
        go_wp2_with fail
        rw [wrap_tdiv6 x hx]
        refine (around_any (x.tdiv 6) 63 _ (tdiv6_wf x hx) (by omega) (by omega)).mono ?_
        rintro e w2 ⟨rfl, rfl⟩
        have hN0 := aroundI_lo (x.tdiv 6) 63 (by omega)
        have hN1 := aroundI_hi (x.tdiv 6) 63 (by omega)
        generalize aroundI (x.tdiv 6) 63 = N at *
        dsimp only
        have hKc : K = 0 ∨ K = 1 ∨ K = 2 ∨ K = 3 ∨ K = 4 ∨ K = 5 := by omega
        rcases hKc with rfl | rfl | rfl | rfl | rfl | rfl
        · go_wp2_with (at_builtin; refine wpList_append_own_at _ rfl _ _ 25 rfl w.heap.size 28 i0 _ 5 72 Try.underlying25 hi hz0 hz1 hz2 rfl (by decide) _ _ _ rfl (HO2.out _ _) ⟨w2.heap.size + 1, 0, none⟩ 1 1 [.int .i64 0, .int .u64 (IntKind.u64.wrap x / 2 ^ N.toNat), .int .i64 (0), .slice none 0 0, .slice none 0 0] rfl rfl (news5 w2 _ #[.int .i64 0, .int .u64 (IntKind.u64.wrap x / 2 ^ N.toNat), .int .i64 (0), .slice none 0 0, .slice none 0 0]) (by simp [Value.oneCell']) (by unfold maxLen; omega) (by omega) (by simp; omega) ?_; intro v' w4 hown4 hgrow4 _ hat4)
          have hk' : k + 1 ≤ zs.length := hlt
          have hb4 : Below w.heap.size w2 w4 := (((Below.refl w.heap.size w2).alloc hbs _).alloc (by simp; omega) _).grown hgrow4 (by simp; omega) (fun g e => (hown.lt g e).1)
          go_roundw
          case rel => exact ⟨k + 1, vs ++ [⟨0, IntKind.u64.wrap x / 2 ^ N.toNat, 0, [], []⟩], xs ++ [.int .i64 0, .int .u64 (IntKind.u64.wrap x / 2 ^ N.toNat), .int .i64 (0), .slice none 0 0, .slice none 0 0], by omega, by omega, by go_num, by simp; omega, vs_ok hvo ⟨(shr_u x N.toNat).1, (shr_u x N.toNat).2, i64_wf (by simp) (by simp), by simp, by simp, by simp, by simp, .inl ⟨rfl, rfl, rfl, rfl⟩⟩, VOut.push (v := ⟨0, IntKind.u64.wrap x / 2 ^ N.toNat, 0, [], []⟩) (hV.below (laidB (laidB (Below.refl w2.heap.size w2) _) _)) hown4 hgrow4 hat4 (nil_row _ _ _) (nil_row _ _ _), hB.trans hb4⟩
          case measure => simp [intOf]; omega
        · go_wp2_with (at_builtin; refine wpList_append_own_at _ rfl _ _ 25 rfl w.heap.size 28 i0 _ 5 72 Try.underlying25 hi hz0 hz1 hz2 rfl (by decide) _ _ _ rfl (HO2.out _ _) ⟨w2.heap.size + 1, 0, none⟩ 1 1 [.int .i64 1, .int .u64 (0), .int .i64 (x / 2 ^ N.toNat), .slice none 0 0, .slice none 0 0] rfl rfl (news5 w2 _ #[.int .i64 1, .int .u64 (0), .int .i64 (x / 2 ^ N.toNat), .slice none 0 0, .slice none 0 0]) (by simp [Value.oneCell']) (by unfold maxLen; omega) (by omega) (by simp; omega) ?_; intro v' w4 hown4 hgrow4 _ hat4)
          have hk' : k + 1 ≤ zs.length := hlt
          have hb4 : Below w.heap.size w2 w4 := (((Below.refl w.heap.size w2).alloc hbs _).alloc (by simp; omega) _).grown hgrow4 (by simp; omega) (fun g e => (hown.lt g e).1)
          go_roundw
          case rel => exact ⟨k + 1, vs ++ [⟨1, 0, x / 2 ^ N.toNat, [], []⟩], xs ++ [.int .i64 1, .int .u64 (0), .int .i64 (x / 2 ^ N.toNat), .slice none 0 0, .slice none 0 0], by omega, by omega, by go_num, by simp; omega, vs_ok hvo ⟨by simp, by simp, shr_i x N.toNat hx, by simp, by simp, by simp, by simp, .inr (.inl ⟨rfl, rfl, rfl, rfl⟩)⟩, VOut.push (v := ⟨1, 0, x / 2 ^ N.toNat, [], []⟩) (hV.below (laidB (laidB (Below.refl w2.heap.size w2) _) _)) hown4 hgrow4 hat4 (nil_row _ _ _) (nil_row _ _ _), hB.trans hb4⟩
          case measure => simp [intOf]; omega
        · go_wp2_with (at_builtin; refine wpList_append_own_at _ rfl _ _ 25 rfl w.heap.size 28 i0 _ 5 72 Try.underlying25 hi hz0 hz1 hz2 rfl (by decide) _ _ _ rfl (HO2.out _ _) ⟨w2.heap.size + 1, 0, none⟩ 1 1 [.int .i64 2, .int .u64 (0), .int .i64 (N % 2), .slice none 0 0, .slice none 0 0] rfl rfl (news5 w2 _ #[.int .i64 2, .int .u64 (0), .int .i64 (N % 2), .slice none 0 0, .slice none 0 0]) (by simp [Value.oneCell']) (by unfold maxLen; omega) (by omega) (by simp; omega) ?_; intro v' w4 hown4 hgrow4 _ hat4)
          have hk' : k + 1 ≤ zs.length := hlt
          have hb4 : Below w.heap.size w2 w4 := (((Below.refl w.heap.size w2).alloc hbs _).alloc (by simp; omega) _).grown hgrow4 (by simp; omega) (fun g e => (hown.lt g e).1)
          go_roundw
          case rel => exact ⟨k + 1, vs ++ [⟨2, 0, N % 2, [], []⟩], xs ++ [.int .i64 2, .int .u64 (0), .int .i64 (N % 2), .slice none 0 0, .slice none 0 0], by omega, by omega, by go_num, by simp; omega, vs_ok hvo ⟨by simp, by simp, (mod2 N).1, by simp, by simp, by simp, by simp, .inr (.inr (.inl ⟨rfl, (mod2 N).2, rfl, rfl, rfl⟩))⟩, VOut.push (v := ⟨2, 0, N % 2, [], []⟩) (hV.below (laidB (laidB (Below.refl w2.heap.size w2) _) _)) hown4 hgrow4 hat4 (nil_row _ _ _) (nil_row _ _ _), hB.trans hb4⟩
          case measure => simp [intOf]; omega
        · go_wp2_with fail
          go_loopw [8] (fun i wr => ∃ (j : Nat) (Bs : List Int) (sb : Value), j ≤ 10 ∧ i = .int .i64 (j : Int) ∧ Bs.length ≤ j ∧ (∀ y ∈ Bs, 0 ≤ y ∧ y < 256) ∧ Cel wr w2.heap.size 28 #[.int .i64 3, .int .u64 0, .int .i64 0, sb, .slice none 0 0] ∧ wr.ownsRow (w2.heap.size + 1) 5 1 sb Bs.length (Bs.map (Value.int .u8)) ∧ Below w2.heap.size w2 wr) (fun i _ => 10 - (intOf i).toNat)
          case atStart => exact ⟨0, [], _, by omega, rfl, by simp, by simp, Cel.new _ _ _, World.ownsRow_nil _ _ _ _, laidB (Below.refl _ _) _⟩
          case round =>
            obtain ⟨j, Bs, sb, hj10, rfl, hBl, hBr, hC, hBo, hB2⟩ := hrel
            have hs2 := hB2.size
            by_cases hjn : (j : Int) < N % 10
            · have c3 : wr.cell? ⟨w2.heap.size, 3, none⟩ = some sb := hC.cell 3
              have cx : wr.cell? ⟨b, off + k, none⟩ = some (.int .i64 x) := (hB2.cell (p := ⟨b, off + k, none⟩) (by show b < w2.heap.size; omega)).trans c0
              have ca3 : ∀ o, (wr.alloc o).cell? ⟨w2.heap.size, 3, none⟩ = some sb := fun o => (hC.alloc o).cell 3
              have cax : ∀ o, (wr.alloc o).cell? ⟨b, off + k, none⟩ = some (.int .i64 x) := fun o => cellB cx (laidB (Below.refl wr.heap.size wr) o)
              have hfz := hC.free 3
              have hlt8 : (k : Int) < zs.length := by omega
              have hi0' : (0 : Int) ≤ (k : Int) := by omega
              have hj0' : (0 : Int) ≤ (j : Int) := by omega
              have hjs : j + 1 ≤ 10 := by omega
              go_wp2_with fail
              go_region_law ((refine step_append_lies _ (by rfl) _ _ _ (by rfl) (w2.heap.size + 1) 5 j0 _ 1 1 Try.underlying24 hj hy0 hy1 hy2 rfl (by omega) sb Bs.length (Bs.map (Value.int .u8)) (by rfl) ((hBo.alloc _).drew) ⟨wr.heap.size, 0, none⟩ 1 1 [.int .u8 (IntKind.u8.wrap (x / 2 ^ min (IntKind.u64.wrap (j : Int)).toNat 64))] (by rfl) (by rfl) (World.news_of_block (cs := #[.int .u8 (IntKind.u8.wrap (x / 2 ^ min (IntKind.u64.wrap (j : Int)).toNat 64))]) (heap_alloc_new wr _)) (by simp [Value.oneCell']) (by omega) (by unfold maxLen; omega) (by omega) (by simp; omega) (wr.heap.size + 1) (by simp) ?_; intro gg cap3 w3 hown3 hgrow3 hat hlt3; have hC3 : Cel w3 w2.heap.size 28 #[.int .i64 3, .int .u64 0, .int .i64 0, sb, .slice none 0 0] := Cel.grown (W := (wr.alloc _).drew) (hC.alloc _) hgrow3 (fun e => by have := (hBo.lt _ e).1; omega); have hfz3 := hC3.free 3; have c3' := hC3.cell 3))
              all_goals
                have hb3 : Below w2.heap.size wr w3 := (((Below.refl w2.heap.size wr).alloc hs2 _).drew).grown hgrow3 (by simp; omega) (fun g e => by have := (hBo.lt g e).1; omega)
                clear c3 cx ca3 cax hfz c3'
                go_wp2_with fail
                go_roundw
                case rel => exact ⟨j + 1, Bs ++ [IntKind.u8.wrap (x / 2 ^ min (IntKind.u64.wrap (j : Int)).toNat 64)], .slice (some ⟨gg, 0, none⟩) (Bs.length + 1) cap3, by omega, by go_num, by simp; omega, mem_snoc hBr (u8w _), hC3.set 3 _, owns_set_far (by rw [List.map_append, List.length_append]; exact hown3) hC3 (by decide), (hB2.trans hb3).setCell (Nat.le_refl _) _⟩
                case measure => simp [intOf]; omega
            · have c0' : wr.cell? ⟨w2.heap.size, 0, none⟩ = some (.int .i64 3) := hC.cell 0
              have c1' : wr.cell? ⟨w2.heap.size, 1, none⟩ = some (.int .u64 0) := hC.cell 1
              have c2' : wr.cell? ⟨w2.heap.size, 2, none⟩ = some (.int .i64 0) := hC.cell 2
              have c3' : wr.cell? ⟨w2.heap.size, 3, none⟩ = some sb := hC.cell 3
              have c4' : wr.cell? ⟨w2.heap.size, 4, none⟩ = some (.slice none 0 0) := hC.cell 4
              have hV2 := hV.below hB2
              have hown2 := hV2.1
              have hB3 := hB.trans (hB2.mono hbs)
              have hs3 := hB3.size
              have hBo' := row_own2 hBo
              obtain ⟨sa, sn, sc, rfl⟩ := owns_slice hBo
              clear hC hBo
              go_wp2_with (at_builtin; refine wpList_append_own_at _ rfl _ _ 25 rfl w.heap.size 28 i0 _ 5 72 Try.underlying25 hi hz0 hz1 hz2 rfl (by decide) _ _ _ rfl (hown2.alloc _) ⟨wr.heap.size, 0, none⟩ 1 1 [.int .i64 3, .int .u64 0, .int .i64 0, .slice sa sn sc, .slice none 0 0] rfl rfl (news5' wr #[.int .i64 3, .int .u64 0, .int .i64 0, .slice sa sn sc, .slice none 0 0]) (by simp [Value.oneCell']) (by unfold maxLen; omega) (by omega) (by simp; omega) ?_; intro v' w4 hown4 hgrow4 _ hat4)
              have hk' : k + 1 ≤ zs.length := hlt
              have hb4 : Below w.heap.size wr w4 := ((Below.refl w.heap.size wr).alloc hs3 _).grown hgrow4 (by simp; omega) (fun g e => (hown.lt g e).1)
              go_roundw
              case rel => exact ⟨k + 1, vs ++ [⟨3, 0, 0, Bs, []⟩], xs ++ [.int .i64 3, .int .u64 0, .int .i64 0, .slice sa sn sc, .slice none 0 0], by omega, by omega, by go_num, by simp; omega, vs_ok hvo ⟨by simp, by simp, i64_wf (by simp) (by simp), hBr, by show Bs.length ≤ 200; omega, by simp, by simp, .inr (.inr (.inr (.inl ⟨by simp, rfl, rfl, rfl⟩)))⟩, VOut.push (v := ⟨3, 0, 0, Bs, []⟩) (hV2.below (laidB (Below.refl wr.heap.size wr) _)) hown4 hgrow4 hat4 (row_own3 hBo' (by omega) (fun g hg => by intro e; have := (hown.lt _ e).2; omega)) (nil_row _ _ _), hB3.trans hb4⟩
              case measure => simp [intOf]; omega
        · go_wp2_with fail
          go_loopw [8] (fun i wr => ∃ (j : Nat) (Bs : List Int) (sb : Value), j ≤ 10 ∧ i = .int .i64 (j : Int) ∧ Bs.length ≤ j ∧ (∀ y ∈ Bs, 0 ≤ y ∧ y < 256) ∧ Cel wr w2.heap.size 28 #[.int .i64 4, .int .u64 0, .int .i64 0, sb, .slice none 0 0] ∧ wr.ownsRow (w2.heap.size + 1) 5 1 sb Bs.length (Bs.map (Value.int .u8)) ∧ Below w2.heap.size w2 wr) (fun i _ => 10 - (intOf i).toNat)
          case atStart => exact ⟨0, [], _, by omega, rfl, by simp, by simp, Cel.new _ _ _, World.ownsRow_nil _ _ _ _, laidB (Below.refl _ _) _⟩
          case round =>
            obtain ⟨j, Bs, sb, hj10, rfl, hBl, hBr, hC, hBo, hB2⟩ := hrel
            have hs2 := hB2.size
            by_cases hjn : (j : Int) < N % 10
            · have c3 : wr.cell? ⟨w2.heap.size, 3, none⟩ = some sb := hC.cell 3
              have cx : wr.cell? ⟨b, off + k, none⟩ = some (.int .i64 x) := (hB2.cell (p := ⟨b, off + k, none⟩) (by show b < w2.heap.size; omega)).trans c0
              have ca3 : ∀ o, (wr.alloc o).cell? ⟨w2.heap.size, 3, none⟩ = some sb := fun o => (hC.alloc o).cell 3
              have cax : ∀ o, (wr.alloc o).cell? ⟨b, off + k, none⟩ = some (.int .i64 x) := fun o => cellB cx (laidB (Below.refl wr.heap.size wr) o)
              have hfz := hC.free 3
              have hlt8 : (k : Int) < zs.length := by omega
              have hi0' : (0 : Int) ≤ (k : Int) := by omega
              have hj0' : (0 : Int) ≤ (j : Int) := by omega
              have hjs : j + 1 ≤ 10 := by omega
              go_wp2_with fail
              go_region_law ((refine step_append_lies _ (by rfl) _ _ _ (by rfl) (w2.heap.size + 1) 5 j0 _ 1 1 Try.underlying24 hj hy0 hy1 hy2 rfl (by omega) sb Bs.length (Bs.map (Value.int .u8)) (by rfl) ((hBo.alloc _).drew) ⟨wr.heap.size, 0, none⟩ 1 1 [.int .u8 (IntKind.u8.wrap (x / 2 ^ min (IntKind.u64.wrap (j : Int)).toNat 64))] (by rfl) (by rfl) (World.news_of_block (cs := #[.int .u8 (IntKind.u8.wrap (x / 2 ^ min (IntKind.u64.wrap (j : Int)).toNat 64))]) (heap_alloc_new wr _)) (by simp [Value.oneCell']) (by omega) (by unfold maxLen; omega) (by omega) (by simp; omega) (wr.heap.size + 1) (by simp) ?_; intro gg cap3 w3 hown3 hgrow3 hat hlt3; have hC3 : Cel w3 w2.heap.size 28 #[.int .i64 4, .int .u64 0, .int .i64 0, sb, .slice none 0 0] := Cel.grown (W := (wr.alloc _).drew) (hC.alloc _) hgrow3 (fun e => by have := (hBo.lt _ e).1; omega); have hfz3 := hC3.free 3; have c3' := hC3.cell 3))
              all_goals
                have hb3 : Below w2.heap.size wr w3 := (((Below.refl w2.heap.size wr).alloc hs2 _).drew).grown hgrow3 (by simp; omega) (fun g e => by have := (hBo.lt g e).1; omega)
                clear c3 cx ca3 cax hfz c3'
                go_wp2_with fail
                go_roundw
                case rel => exact ⟨j + 1, Bs ++ [IntKind.u8.wrap (x / 2 ^ min (IntKind.u64.wrap (j : Int)).toNat 64)], .slice (some ⟨gg, 0, none⟩) (Bs.length + 1) cap3, by omega, by go_num, by simp; omega, mem_snoc hBr (u8w _), hC3.set 3 _, owns_set_far (by rw [List.map_append, List.length_append]; exact hown3) hC3 (by decide), (hB2.trans hb3).setCell (Nat.le_refl _) _⟩
                case measure => simp [intOf]; omega
            · have c0' : wr.cell? ⟨w2.heap.size, 0, none⟩ = some (.int .i64 4) := hC.cell 0
              have c1' : wr.cell? ⟨w2.heap.size, 1, none⟩ = some (.int .u64 0) := hC.cell 1
              have c2' : wr.cell? ⟨w2.heap.size, 2, none⟩ = some (.int .i64 0) := hC.cell 2
              have c3' : wr.cell? ⟨w2.heap.size, 3, none⟩ = some sb := hC.cell 3
              have c4' : wr.cell? ⟨w2.heap.size, 4, none⟩ = some (.slice none 0 0) := hC.cell 4
              have hV2 := hV.below hB2
              have hown2 := hV2.1
              have hB3 := hB.trans (hB2.mono hbs)
              have hs3 := hB3.size
              have hBo' := row_own2 hBo
              obtain ⟨sa, sn, sc, rfl⟩ := owns_slice hBo
              clear hC hBo
              go_wp2_with (at_builtin; refine wpList_append_own_at _ rfl _ _ 25 rfl w.heap.size 28 i0 _ 5 72 Try.underlying25 hi hz0 hz1 hz2 rfl (by decide) _ _ _ rfl (hown2.alloc _) ⟨wr.heap.size, 0, none⟩ 1 1 [.int .i64 4, .int .u64 0, .int .i64 0, .slice sa sn sc, .slice none 0 0] rfl rfl (news5' wr #[.int .i64 4, .int .u64 0, .int .i64 0, .slice sa sn sc, .slice none 0 0]) (by simp [Value.oneCell']) (by unfold maxLen; omega) (by omega) (by simp; omega) ?_; intro v' w4 hown4 hgrow4 _ hat4)
              have hk' : k + 1 ≤ zs.length := hlt
              have hb4 : Below w.heap.size wr w4 := ((Below.refl w.heap.size wr).alloc hs3 _).grown hgrow4 (by simp; omega) (fun g e => (hown.lt g e).1)
              go_roundw
              case rel => exact ⟨k + 1, vs ++ [⟨4, 0, 0, Bs, []⟩], xs ++ [.int .i64 4, .int .u64 0, .int .i64 0, .slice sa sn sc, .slice none 0 0], by omega, by omega, by go_num, by simp; omega, vs_ok hvo ⟨by simp, by simp, i64_wf (by simp) (by simp), hBr, by show Bs.length ≤ 200; omega, by simp, by simp, .inr (.inr (.inr (.inl ⟨by simp, rfl, rfl, rfl⟩)))⟩, VOut.push (v := ⟨4, 0, 0, Bs, []⟩) (hV2.below (laidB (Below.refl wr.heap.size wr) _)) hown4 hgrow4 hat4 (row_own3 hBo' (by omega) (fun g hg => by intro e; have := (hown.lt _ e).2; omega)) (nil_row _ _ _), hB3.trans hb4⟩
              case measure => simp [intOf]; omega
        · go_wp2_with fail
          go_loopw [9] (fun i wr => ∃ (j : Nat) (Bs : List Int) (sb : Value), j ≤ 10 ∧ i = .int .i64 (j : Int) ∧ Bs.length ≤ j ∧ (∀ y ∈ Bs, (Lit.int .i64 y).wf = true) ∧ Cel wr w2.heap.size 28 #[.int .i64 5, .int .u64 0, .int .i64 0, .slice none 0 0, sb] ∧ wr.ownsRow (w2.heap.size + 1) 3 1 sb Bs.length (Bs.map (Value.int .i64)) ∧ Below w2.heap.size w2 wr) (fun i _ => 10 - (intOf i).toNat)
          case atStart => exact ⟨0, [], _, by omega, rfl, by simp, by simp, Cel.new _ _ _, World.ownsRow_nil _ _ _ _, laidB (Below.refl _ _) _⟩
          case round =>
            obtain ⟨j, Bs, sb, hj10, rfl, hBl, hBr, hC, hBo, hB2⟩ := hrel
            have hs2 := hB2.size
            by_cases hjn : (j : Int) < N % 5
            · have c3 : wr.cell? ⟨w2.heap.size, 4, none⟩ = some sb := hC.cell 4
              have cx : wr.cell? ⟨b, off + k, none⟩ = some (.int .i64 x) := (hB2.cell (p := ⟨b, off + k, none⟩) (by show b < w2.heap.size; omega)).trans c0
              have ca3 : ∀ o, (wr.alloc o).cell? ⟨w2.heap.size, 4, none⟩ = some sb := fun o => (hC.alloc o).cell 4
              have cax : ∀ o, (wr.alloc o).cell? ⟨b, off + k, none⟩ = some (.int .i64 x) := fun o => cellB cx (laidB (Below.refl wr.heap.size wr) o)
              have hfz := hC.free 4
              have hlt8 : (k : Int) < zs.length := by omega
              have hi0' : (0 : Int) ≤ (k : Int) := by omega
              have hj0' : (0 : Int) ≤ (j : Int) := by omega
              have hjs : j + 1 ≤ 10 := by omega
              go_wp2_with fail
              go_region_law ((refine step_append_lies _ (by rfl) _ _ _ (by rfl) (w2.heap.size + 1) 3 q0 _ 1 8 Try.underlying22 hq hq0 hq1 hq2 rfl (by omega) sb Bs.length (Bs.map (Value.int .i64)) (by rfl) ((hBo.alloc _).drew) ⟨wr.heap.size, 0, none⟩ 1 1 [.int .i64 (x / 2 ^ min (IntKind.u64.wrap (IntKind.i64.wrap (13 * (j : Int)))).toNat 64)] (by rfl) (by rfl) (World.news_of_block (cs := #[.int .i64 (x / 2 ^ min (IntKind.u64.wrap (IntKind.i64.wrap (13 * (j : Int)))).toNat 64)]) (heap_alloc_new wr _)) (by simp [Value.oneCell']) (by omega) (by unfold maxLen; omega) (by omega) (by simp; omega) (wr.heap.size + 1) (by simp) ?_; intro gg cap3 w3 hown3 hgrow3 hat hlt3; have hC3 : Cel w3 w2.heap.size 28 #[.int .i64 5, .int .u64 0, .int .i64 0, .slice none 0 0, sb] := Cel.grown (W := (wr.alloc _).drew) (hC.alloc _) hgrow3 (fun e => by have := (hBo.lt _ e).1; omega); have hfz3 := hC3.free 4; have c3' := hC3.cell 4))
              all_goals
                have hb3 : Below w2.heap.size wr w3 := (((Below.refl w2.heap.size wr).alloc hs2 _).drew).grown hgrow3 (by simp; omega) (fun g e => by have := (hBo.lt g e).1; omega)
                clear c3 cx ca3 cax hfz c3'
                go_wp2_with fail
                go_roundw
                case rel => exact ⟨j + 1, Bs ++ [x / 2 ^ min (IntKind.u64.wrap (IntKind.i64.wrap (13 * (j : Int)))).toNat 64], .slice (some ⟨gg, 0, none⟩) (Bs.length + 1) cap3, by omega, by go_num, by simp; omega, mem_snoc hBr (shr_i x _ hx), hC3.set 4 _, owns_set_far (by rw [List.map_append, List.length_append]; exact hown3) hC3 (by decide), (hB2.trans hb3).setCell (Nat.le_refl _) _⟩
                case measure => simp [intOf]; omega
            · have c0' : wr.cell? ⟨w2.heap.size, 0, none⟩ = some (.int .i64 5) := hC.cell 0
              have c1' : wr.cell? ⟨w2.heap.size, 1, none⟩ = some (.int .u64 0) := hC.cell 1
              have c2' : wr.cell? ⟨w2.heap.size, 2, none⟩ = some (.int .i64 0) := hC.cell 2
              have c3' : wr.cell? ⟨w2.heap.size, 3, none⟩ = some (.slice none 0 0) := hC.cell 3
              have c4' : wr.cell? ⟨w2.heap.size, 4, none⟩ = some sb := hC.cell 4
              have hV2 := hV.below hB2
              have hown2 := hV2.1
              have hB3 := hB.trans (hB2.mono hbs)
              have hs3 := hB3.size
              have hBo' := row_own2 hBo
              obtain ⟨sa, sn, sc, rfl⟩ := owns_slice hBo
              clear hC hBo
              go_wp2_with (at_builtin; refine wpList_append_own_at _ rfl _ _ 25 rfl w.heap.size 28 i0 _ 5 72 Try.underlying25 hi hz0 hz1 hz2 rfl (by decide) _ _ _ rfl (hown2.alloc _) ⟨wr.heap.size, 0, none⟩ 1 1 [.int .i64 5, .int .u64 0, .int .i64 0, .slice none 0 0, .slice sa sn sc] rfl rfl (news5' wr #[.int .i64 5, .int .u64 0, .int .i64 0, .slice none 0 0, .slice sa sn sc]) (by simp [Value.oneCell']) (by unfold maxLen; omega) (by omega) (by simp; omega) ?_; intro v' w4 hown4 hgrow4 _ hat4)
              have hk' : k + 1 ≤ zs.length := hlt
              have hb4 : Below w.heap.size wr w4 := ((Below.refl w.heap.size wr).alloc hs3 _).grown hgrow4 (by simp; omega) (fun g e => (hown.lt g e).1)
              go_roundw
              case rel => exact ⟨k + 1, vs ++ [⟨5, 0, 0, [], Bs⟩], xs ++ [.int .i64 5, .int .u64 0, .int .i64 0, .slice none 0 0, .slice sa sn sc], by omega, by omega, by go_num, by simp; omega, vs_ok hvo ⟨by simp, by simp, i64_wf (by simp) (by simp), by simp, by simp, hBr, by show Bs.length ≤ 200; omega, .inr (.inr (.inr (.inr ⟨rfl, rfl, rfl, rfl⟩)))⟩, VOut.push (v := ⟨5, 0, 0, [], Bs⟩) (hV2.below (laidB (Below.refl wr.heap.size wr) _)) hown4 hgrow4 hat4 (nil_row _ _ _) (row_own3 hBo' (by omega) (fun g hg => by intro e; have := (hown.lt _ e).2; omega)), hB3.trans hb4⟩
              case measure => simp [intOf]; omega
      · go_wp2_with fail
        go_ret
        exact ⟨u3, vs, xs, rfl, hV, hvo, by omega, hB⟩
    · go_wp2_with fail
      go_ret
      exact ⟨u3, vs, xs, rfl, hV, hvo, by omega, hB⟩
end Go.Proofs.Ytpoldhblddlcpaa
