/- WireWrites: the walk. -/
import Derived.Test.YtpoldhblddlcpaaRefEnc
import Derived.Test.YtpoldhblddlcpaaWWireRound
import Derived.Deep.RegionWith
import Derived.IntWalk
namespace Go.Proofs.Ytpoldhblddlcpaa
open Go.RowKit Go.Shelf
set_option linter.unusedVariables false

/-- The first values of a row. -/
theorem VRow.take {n₀ : Nat} {W : World} {a : Option Addr} {n cap : Nat} {l : List VM} (h : VRow n₀ W (.slice a n cap) l) (k : Nat) (hk : k ≤ l.length) : VRow n₀ W (.slice a k cap) (l.take k) := by
  obtain ⟨a', cap', e, h1, h2, h3⟩ := h
  simp at e
  obtain ⟨rfl, rfl, rfl⟩ := e
  have hl : (l.take k).length = k := by rw [List.length_take]; omega
  refine ⟨a, cap, by rw [hl], by omega, h2, ?_⟩
  rcases h3 with rfl | ⟨b, off, rfl, hb, hc⟩
  · exact .inl (by simp)
  · refine .inr ⟨b, off, rfl, hb, fun i v hv => hc i v ?_⟩
    rw [List.getElem?_take] at hv
    split at hv
    · exact hv
    · simp at hv
def five (u n : Int) (sb sl : Value) : List Value := [.int .i64 0, .int .u64 u, .int .i64 0, .slice none 0 0, .slice none 0 0, .int .i64 1, .int .u64 0, .int .i64 n, .slice none 0 0, .slice none 0 0, .int .i64 4, .int .u64 0, .int .i64 0, sb, .slice none 0 0, .int .i64 5, .int .u64 0, .int .i64 0, .slice none 0 0, sl, .int .i64 2, .int .u64 0, .int .i64 1, .slice none 0 0, .slice none 0 0]
theorem five_vals {p : Nat → Prop} {W : World} (u n : Int) (sb sl : Value) (F I : List Int) (h1 : RowP .u8 p W sb F) (h2 : RowP .i64 p W sl I) : ∀ (i : Nat) (v : VM), [VM.mk 0 u 0 [] [], VM.mk 1 0 n [] [], VM.mk 4 0 0 F [], VM.mk 5 0 0 [] I, VM.mk 2 0 1 [] []][i]? = some v → ∃ sb' sl', (five u n sb sl)[i * 5]? = some (.int .i64 v.kind) ∧ (five u n sb sl)[i * 5 + 1]? = some (.int .u64 v.u) ∧ (five u n sb sl)[i * 5 + 2]? = some (.int .i64 v.n) ∧ (five u n sb sl)[i * 5 + 3]? = some sb' ∧ (five u n sb sl)[i * 5 + 4]? = some sl' ∧ RowP .u8 p W sb' v.B ∧ RowP .i64 p W sl' v.L := by
  intro i v hv
  match i, hv with
  | 0, hv => simp at hv; subst hv; exact ⟨_, _, rfl, rfl, rfl, rfl, rfl, nil_row _ _ _, nil_row _ _ _⟩
  | 1, hv => simp at hv; subst hv; exact ⟨_, _, rfl, rfl, rfl, rfl, rfl, nil_row _ _ _, nil_row _ _ _⟩
  | 2, hv => simp at hv; subst hv; exact ⟨_, _, rfl, rfl, rfl, rfl, rfl, h1, nil_row _ _ _⟩
  | 3, hv => simp at hv; subst hv; exact ⟨_, _, rfl, rfl, rfl, rfl, rfl, nil_row _ _ _, h2⟩
  | 4, hv => simp at hv; subst hv; exact ⟨_, _, rfl, rfl, rfl, rfl, rfl, nil_row _ _ _, nil_row _ _ _⟩
  | i + 5, hv => simp at hv

set_option maxRecDepth 100000 in
set_option maxHeartbeats 2000000 in
theorem wireWrites_walk (a0 : Option Addr) (len0 cap0 : Nat) (z0 : List Int) (a1 : Int) (a2 : Int) (a3 : Option Addr) (len3 cap3 : Nat) (z3 : List Int) (a4 : Option Addr) (len4 cap4 : Nat) (z4 : List Int) (w : World) (w0 : IsRow .i64 w a0 len0 cap0 z0) (w1 : (Lit.int .u64 a1).wf = true) (w2 : (Lit.int .i64 a2).wf = true) (w3 : IsRow .u8 w a3 len3 cap3 z3) (w4 : IsRow .i64 w a4 len4 cap4 z4) :
    Calls Try.prog 3 #[.slice a0 len0 cap0, .int .u64 a1, .int .i64 a2, .slice a3 len3 cap3, .slice a4 len4 cap4] w fun e w' => e = .returned (.bool true) ∧ Below w.heap.size w w' := by
  obtain ⟨hr, hw⟩ := w0.row
  obtain ⟨hr3, hw3⟩ := w3.row
  obtain ⟨hr4, hw4⟩ := w4.row
  obtain ⟨i0, hi, hz0, hz1, hz2⟩ := info_parts info_val
  have hu : 0 ≤ a1 ∧ a1 < 18446744073709551616 := by
    simp [Lit.wf, IntKind.min, IntKind.max, IntKind.signed, IntKind.bits] at w1; omega
  obtain ⟨hu0, hu1⟩ := hu
  have W2f := Lib.hid w2
  clear w0 w1 w3 w4 w2
  go_enter Try.func3, Try.ntmps3
  go_wp2_with fail
  refine (vals_any a0 len0 cap0 _ _ hr hw).mono ?_
  rintro e W1 ⟨x, vs, xs, rfl, hV, hvo, hvl, hb1⟩
  have hr3' := rowB hr3 hb1
  have hr4' := rowB hr4 hb1
  dsimp only
  go_wp2_with fail
  refine (few_int _ (z3.take len3) 200 _ hr3' (by omega) (by omega)).mono ?_
  have hFl : ((z3.take len3).take (200 : Int).toNat).length ≤ 200 := by rw [List.length_take]; exact Nat.min_le_left _ _
  have hFw := take_wf hw3 (200 : Int).toNat
  generalize (z3.take len3).take (200 : Int).toNat = F at hFl hFw ⊢
  rintro e W2 ⟨aF, cF, rfl, hoF, hrF, hb2⟩
  have hFr : ∀ x ∈ F, 0 ≤ x ∧ x < 256 := fun x hx => by have := u8_rng1 (hFw x hx); omega
  have HFR := Lib.hid hFr
  have hV2 := hV.below hb2
  have hr4'' := rowB hr4' hb2
  have hF2 := row_own2 hoF
  have hs12 := hb2.size
  have b2 := stepB hb1 hb2
  clear hFr hFw hr hw hr3 hw3 hr3' hoF hrF hr4 hr4'
  dsimp only
  go_wp2_with fail
  refine (ints_int _ (z4.take len4) 20 _ hr4'' (by omega) (by omega)).mono ?_
  have hIl : ((z4.take len4).take (20 : Int).toNat).length ≤ 20 := by rw [List.length_take]; exact Nat.min_le_left _ _
  have hIw := take_wf hw4 (20 : Int).toNat
  generalize (z4.take len4).take (20 : Int).toNat = I at hIl hIw ⊢
  rintro e W3 ⟨aI, cI, rfl, hoI, hrI, hb3⟩
  have HIW := Lib.hid hIw
  have hV3 := hV2.below hb3
  have hs23 := hb3.size
  have b3 := stepB b2 hb3
  have hxw : ∀ g, W1.heap.size ≤ g → x.ownBlock ≠ some g := fun g hg e => by have := (hV.1.lt _ e).2; omega
  have hF3 : RowP .u8 (fun g => W1.heap.size ≤ g ∧ g < W3.heap.size) W3 _ F := RowP.mono (fun g hg => by omega) (hF2.keep (KeepP.of_below hb3 (fun g hg => hg.2)))
  have hI3 : RowP .i64 (fun g => W1.heap.size ≤ g ∧ g < W3.heap.size) W3 _ I := RowP.mono (fun g hg => by omega) (row_own2 hoI)
  have hFo := fun o => row_own3 (o := o) (base' := w.heap.size) (x := x) hF3 (by have := hb1.size; omega) hxw
  have hIo := fun o => row_own3 (o := o) (base' := w.heap.size) (x := x) hI3 (by have := hb1.size; omega) hxw
  have hown := hV3.1
  have hVo := fun o => hV3.below (laidB (Below.refl W3.heap.size W3) o)
  have hw3 := b3.size
  have HFo := Lib.hid hFo
  have HIo := Lib.hid hIo
  have HVo := Lib.hid hVo
  clear hIw hw4 hr4'' hoI hrI hb3 b2 hV2 hF2 hV hb2 hFo hIo hVo hxw hF3 hI3
  dsimp only
  go_wp2_with (at_builtin; refine wpList_append_own_at _ rfl _ _ 25 rfl w.heap.size 28 i0 _ 5 72 Try.underlying25 hi hz0 hz1 hz2 rfl (by decide) _ _ _ rfl (hown.alloc _) ⟨W3.heap.size, 0, none⟩ 5 5 (five a1 a2 (.slice aF F.length cF) (.slice aI I.length cI)) rfl rfl (news5' W3 (five a1 a2 (.slice aF F.length cF) (.slice aI I.length cI)).toArray) (by simp [five, Value.oneCell']) (by unfold maxLen; omega) (by omega) (by simp; omega) ?_; intro v' W4 hown4 hgrow4 _ hat4)
  have hV4 := VOut.pushes (m := [⟨0, a1, 0, [], []⟩, ⟨1, 0, a2, [], []⟩, ⟨4, 0, 0, F, []⟩, ⟨5, 0, 0, [], I⟩, ⟨2, 0, 1, [], []⟩]) (HVo.out _) hown4 hgrow4 hat4 (five_vals a1 a2 _ _ F I (HFo.out _) (HIo.out _))
  have hvo4 : ∀ v ∈ vs ++ [⟨0, a1, 0, [], []⟩, ⟨1, 0, a2, [], []⟩, ⟨4, 0, 0, F, []⟩, ⟨5, 0, 0, [], I⟩, ⟨2, 0, 1, [], []⟩], VM.ok v := by
    intro v hv
    rcases List.mem_append.1 hv with h1 | h1
    · exact hvo v h1
    · simp at h1
      rcases h1 with rfl | rfl | rfl | rfl | rfl
      · exact ⟨hu0, hu1, i64_wf (by simp) (by simp), by simp, by simp, by simp, by simp, .inl ⟨rfl, rfl, rfl, rfl⟩⟩
      · exact ⟨by simp, by simp, W2f.out, by simp, by simp, by simp, by simp, .inr (.inl ⟨rfl, rfl, rfl, rfl⟩)⟩
      · exact ⟨by simp, by simp, i64_wf (by simp) (by simp), HFR.out, hFl, by simp, by simp, .inr (.inr (.inr (.inl ⟨.inr rfl, rfl, rfl, rfl⟩)))⟩
      · exact ⟨by simp, by simp, i64_wf (by simp) (by simp), by simp, by simp, HIW.out, by show I.length ≤ 200; omega, .inr (.inr (.inr (.inr ⟨rfl, rfl, rfl, rfl⟩)))⟩
      · exact ⟨by simp, by simp, i64_wf (by simp) (by simp), by simp, by simp, by simp, by simp, .inr (.inr (.inl ⟨rfl, .inr rfl, rfl, rfl, rfl⟩))⟩
  have hb4 : Below w.heap.size W3 W4 := ((Below.refl w.heap.size W3).alloc hw3 _).grown hgrow4 (by simp; omega) (fun g e => (hown.lt g e).1)
  have hvl4 : (vs ++ [VM.mk 0 a1 0 [] [], VM.mk 1 0 a2 [] [], VM.mk 4 0 0 F [], VM.mk 5 0 0 [] I, VM.mk 2 0 1 [] []]).length ≤ 13 := by simp; omega
  have b4 := b3.trans hb4
  have hl4 : vs.length + 5 = (vs ++ [VM.mk 0 a1 0 [] [], VM.mk 1 0 a2 [] [], VM.mk 4 0 0 F [], VM.mk 5 0 0 [] I, VM.mk 2 0 1 [] []]).length := by simp
  generalize vs ++ [VM.mk 0 a1 0 [] [], VM.mk 1 0 a2 [] [], VM.mk 4 0 0 F [], VM.mk 5 0 0 [] I, VM.mk 2 0 1 [] []] = all at hV4 hvo4 hvl4 hl4
  have hR := hV4.vrow
  clear hown4 hgrow4 hat4 hown hvo hb4 b3 HVo HFo HIo hV3 hV4 hl4
  have bA := laidB (Below.refl W4.heap.size W4) (.cells #[.slice none 0 0] 32)
  have hR5 := hR.below bA
  have hW := Wr.new W4
  have hlE := vsbytes_len all hvo4
  obtain ⟨av, cv, rfl, hlc, hcm, hcells⟩ := hR5
  have hR6 : VRow W4.heap.size W4 (.slice av all.length cv) all := hR
  unfold maxLen at hcm
  clear hR bA
  go_loopw [13] (fun i wr => ∃ k : Nat, k ≤ all.length ∧ i = .int .i64 (k : Int) ∧ Wr wr W4.heap.size W4.heap.size (vsbytes (all.take k)) ∧ Below W4.heap.size W4 wr) (fun i _ => all.length - (intOf i).toNat)
  case atStart => exact ⟨0, Nat.zero_le _, rfl, hW, laidB (Below.refl _ _) _⟩
  case round =>
    clear hW
    obtain ⟨k, hk, rfl, hW, hB⟩ := hrel
    have hlk := vsbytes_take_le all k
    have hlk1 := vsbytes_take_le all (k + 1)
    by_cases hlt : k < all.length
    · have hRr := hR6.below hB
      obtain ⟨av', cv', e, _, _, hcr⟩ := id hRr
      simp only [Value.slice.injEq] at e
      obtain ⟨rfl, _, rfl⟩ := e
      obtain ⟨b, off, rfl, hbn, hc⟩ := hcr.resolve_left (by rintro rfl; simp at hlt)
      have hgk : all[k]? = some all[k] := List.getElem?_eq_getElem hlt
      obtain ⟨sb, sl, r1, r2, c0, c1, c2, c3, c4⟩ := hc k _ hgk
      have hok := hvo4 _ (List.mem_of_getElem? hgk)
      have ht := vsbytes_take all k _ hgk
      have hRt := hRr.take (k + 1) hlt
      generalize all[k] = v at *
      have HT := Lib.hid ht
      have HG := Lib.hid hgk
      have hi1 : (k : Int) < all.length := by omega
      have hsr := hB.size
      clear hgk ht hc hcr hcells hRr
      go_wp2_with fail
      refine (write_any W4.heap.size W4.heap.size (vsbytes (all.take k)) v _ _ hW (Nat.le_refl _) (by omega) ⟨sb, sl, rfl, r1, r2⟩ hok.big).mono ?_
      rw [← HT.out]
      rintro e W7 ⟨rfl, hW7, hb7⟩
      have hRt7 := (hRt.below hb7).more (n₁ := W7.heap.size) (by have := hb7.size; omega)
      have hB7 := hB.trans hb7
      have hs7 := hB7.size
      have hvk : ∀ v ∈ all.take (k + 1), v.okL := fun v hv => (hvo4 v (List.mem_of_mem_take hv)).big
      have HVK := Lib.hid hvk
      have hl1 : (vsbytes (all.take (k + 1))).length ≤ 39000 := by omega
      have hk1 : k + 1 ≤ cv := by omega
      have hk1i : (k : Int) + 1 ≤ cv := by omega
      have hl1' : (vsbytes (all.take (k + 1))).length ≤ 900000 := by omega
      generalize hacc : vsbytes (all.take (k + 1)) = acc at *
      have HACC := Lib.hid hacc
      clear hacc
      clear r1 r2 c0 c1 c2 c3 c4 hW hvk hb7 hRt
      dsimp only
      go_wp2_with fail
      have hw1 : IntKind.i64.wrap ((k : Int) + 1) = (k : Int) + 1 := IntWalk.i64_in _ (by omega)
      have hk0 : (0 : Int) ≤ (k : Int) + 1 := by omega
      have hkn : ((k : Int) + 1).toNat = k + 1 := by omega
      have hW7d : Wr W7.drew W4.heap.size W4.heap.size acc := hW7
      have hRt7d : VRow W7.heap.size W7.drew (.slice (some ⟨b, off, none⟩) (k + 1) cv) (all.take (k + 1)) := hRt7
      have HWD := Lib.hid hW7d
      have HRD := Lib.hid hRt7d
      clear hW7d hRt7d hW7 hRt7
      go_region_held3 (fun w' => True) (exact trivial) (first
        | (go_at_call 16; refine (done_any W4.heap.size W4.heap.size acc _ HWD.out (by omega)).mono ?_; rintro e W8 ⟨ad, cd, rfl, _, hrD, hb8⟩; dsimp only)
        | (go_at_call 17; refine (refEncode_any _ (all.take (k + 1)) _ ((HRD.out.below hb8).more hb8.size) HVK.out (by rw [HACC.out]; omega)).mono ?_; rintro e W9 ⟨vE, rfl, hoE, hb9⟩; dsimp only)
        | (go_at_call 15; rw [HACC.out] at hoE; obtain ⟨aE, lE, cE, rfl⟩ := owns_slice hoE; obtain rfl := (row_of_owns hoE).1.len; refine (sameBytes_any ad acc.length cd acc aE acc.length cE acc _ (rowB hrD hb9) (row_of_owns hoE).1).mono ?_; rintro e W10 ⟨rfl, hb10⟩; rw [show (acc == acc) = true from beq_self_eq_true _]; dsimp only))
      have c8 : Below W7.heap.size W7 W10 := (((Below.refl W7.heap.size W7).drew.trans hb8).trans (hb9.mono hb8.size)).trans (hb10.mono (by have := hb8.size; have := hb9.size; simp at *; omega))
      have hW10 := HWD.out.keep (n := W7.heap.size) (W' := W10) (((hb8).trans (hb9.mono hb8.size)).trans (hb10.mono (by have := hb8.size; have := hb9.size; simp at *; omega))) (Nat.le_refl _)
      clear hw1 hkn
      go_wp2_with fail
      go_roundw
      case rel => exact ⟨k + 1, by omega, by go_num, by rw [HACC.out]; exact hW10, hB7.trans (c8.mono hs7)⟩
      case measure => simp [intOf]; omega
    · have b9 := b4.trans (hB.mono b4.size)
      clear hcells hW
      go_wp2_with fail
      refine (lives2_any _).mono ?_
      rintro e W8 ⟨rfl, hb⟩
      dsimp only
      go_wp2_with fail
      go_ret
      exact ⟨rfl, stepB b9 hb⟩
end Go.Proofs.Ytpoldhblddlcpaa
