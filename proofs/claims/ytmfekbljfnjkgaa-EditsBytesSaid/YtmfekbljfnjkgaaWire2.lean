/- Contracts of package wire's Writer: bytes, texts, lists, and what was written. -/
import Derived.Test.YtmfekbljfnjkgaaWire
import Derived.Test.YtmfekbljfnjkgaaClone
import Derived.Lib.AppendStr
import Derived.Laws.AppendOwnNone
namespace Go.Proofs.Ytmfekbljfnjkgaa
open Go.RowKit Go.Shelf
set_option linter.unusedVariables false

set_option maxRecDepth 100000 in
set_option maxHeartbeats 1000000 in
theorem wraw_any (base b : Nat) (zs : List Int) (a : Option Addr) (cap : Nat) (bs : List Int) (w : World) (h : Wr w base b zs) (hbb : base ≤ b) (hm : zs.length ≤ 1000000) (hr : Row .u8 base w (.slice a bs.length cap) bs) (hbm : bs.length ≤ 1000000) :
    Calls Try.prog 35 #[.pointer (some ⟨b, 0, none⟩), .slice a bs.length cap] w fun e w' => e = .returned (.tuple #[]) ∧ Wr w' base b (zs ++ (vint bs.length ++ bs)) ∧ Below base w w' := by
  obtain ⟨i0, hi, hz0, hz1, hz2⟩ := info_parts info_byte
  have hlc := hr.lencap
  unfold maxLen at hlc
  have hvl := vint_length bs.length
  go_enter Try.func35, Try.ntmps35
  go_wp2_with fail
  refine (wuint_int base b zs (bs.length : Int) w h hbb (by omega) (by omega) (by omega)).mono ?_
  rintro e w1 ⟨rfl, h1, hB⟩
  rw [Int.toNat_natCast] at h1
  dsimp only
  obtain ⟨v, hv, hro⟩ := h1
  have hyl : (zs ++ vint bs.length).length ≤ 1000011 := by rw [List.length_append]; omega
  generalize hzy : zs ++ vint bs.length = zy at hro hyl
  have Hzy := Lib.hid hzy; clear hzy
  have hc := hv.cell
  have hlt := hv.lt
  have hr1 := RowP.below hB hr
  rcases hr1 with ⟨a', cap', e, hcm, hn0, hb0⟩ | ⟨bb, off, cap', e, h2, h3, hp, hcs⟩
  · simp only [Value.slice.injEq] at e
    obtain ⟨rfl, hl0, rfl⟩ := e
    subst hb0
    have Hzy2 : Hid (zs ++ vint 0 = zy) := Lib.hid Hzy.out
    clear Hzy hl0
    cases a with
    | none =>
      obtain rfl := hn0 rfl
      go_wp2_with (at_builtin; refine wpList_append_own_none rfl _ _ 64 rfl base 5 i0 1 Try.underlying64 hi _ _ _ rfl hro rfl ?_; obtain ⟨a', l', c', rfl⟩ := owns_slice hro; have hf := hv.frozen)
      go_end0
      have hv2 := hv.set (.slice a' l' c')
      refine ⟨rfl, ⟨_, hv2, ?_⟩, hB.setCell (p := ⟨b, 0, none⟩) hbb _⟩
      rw [Hzy2.out]
      exact hro.kept (grownBy_setCell' w1 b _) (.inr (hv.not_row (by decide) hro).symm)
    | some x =>
      go_wp2_with (at_builtin; refine wpList_append_own _ rfl _ _ 64 rfl base 5 i0 (.int .u8 0) 1 1 Try.underlying64 hi hz0 hz1 hz2 rfl (by decide) _ _ _ rfl hro x 0 cap [] rfl rfl (by simp) (by simp) (by unfold maxLen; omega) (by omega) (by omega) ?_; intro v' w2 hown' hgrow' _; obtain ⟨a', l', c', rfl⟩ := owns_slice hown'; obtain ⟨hv1, hv2, hr2, hb2⟩ := appended0 hv (by decide) hro (by omega) hbb hown' hgrow'; have hc1 := hv1.cell; have hf1 := hv1.frozen)
      go_end0
      refine ⟨rfl, ⟨_, hv2, ?_⟩, hB.trans hb2⟩
      rw [Hzy2.out]
      simpa using hr2
  · simp only [Value.slice.injEq, true_and] at e
    obtain ⟨rfl, rfl⟩ := e
    have hnews : ∀ j u, (bs.map (Value.int .u8))[j]? = some u → w1.cell? (Addr.add ⟨bb, off, none⟩ j) = some u := by
      intro j u hu
      by_cases hj : j < bs.length
      · have h1 := hcs j hj
        simp [hj] at hu h1
        rw [← hu, addr_add]
        exact h1
      · simp [hj] at hu
    have Hn := Lib.hid hnews
    clear hnews hcs
    go_wp2_with (at_builtin; refine wpList_append_own _ rfl _ _ 64 rfl base 5 i0 (.int .u8 0) 1 1 Try.underlying64 hi hz0 hz1 hz2 rfl (by decide) _ _ _ rfl hro ⟨bb, off, none⟩ bs.length cap (bs.map (Value.int .u8)) rfl (by simp) Hn.out (ints_one _ _) (by unfold maxLen; omega) (by omega) (by omega) ?_; intro v' w2 hown' hgrow' _; obtain ⟨a', l', c', rfl⟩ := owns_slice hown'; obtain ⟨hv1, hv2, hr2, hb2⟩ := appended0 hv (by decide) hro (by omega) hbb hown' hgrow'; have hc1 := hv1.cell; have hf1 := hv1.frozen)
    go_end0
    refine ⟨rfl, ⟨_, hv2, ?_⟩, hB.trans hb2⟩
    rw [← List.append_assoc, Hzy.out, List.map_append, List.length_append]
    exact hr2

theorem strCells_bytesI (s : ByteArray) : Lib.strCells s = (bytesI s).map (Value.int .u8) := by
  simp [Lib.strCells, bytesI]

theorem sints_take (l : List Int) (k : Nat) (h : k < l.length) : ((l.take (k + 1)).map sint).flatten = ((l.take k).map sint).flatten ++ sint (l[k]?.getD 0) := by
  rw [List.take_succ_eq_append_getElem h, List.map_append, List.flatten_append, List.getElem?_eq_getElem h, Option.getD_some]
  simp
theorem sints_le (l : List Int) : ((l.map sint).flatten).length ≤ 11 * l.length := by
  induction l with
  | nil => simp
  | cons x l ih =>
    have h2 : (sint x).length ≤ 11 := (vint_length (zig x)).2
    simp only [List.map_cons, List.flatten_cons, List.length_append, List.length_cons]
    omega

set_option maxRecDepth 100000 in
set_option maxHeartbeats 1000000 in
theorem wints_any (base b : Nat) (zs : List Int) (a : Option Addr) (cap : Nat) (l : List Int) (w : World) (h : Wr w base b zs) (hbb : base ≤ b) (hm : zs.length ≤ 1000000) (hr : Row .i64 base w (.slice a l.length cap) l) (hbm : l.length ≤ 100000) (hwf : ∀ n ∈ l, (Lit.int .i64 n).wf = true) :
    Calls Try.prog 57 #[.pointer (some ⟨b, 0, none⟩), .slice a l.length cap] w fun e w' => e = .returned (.tuple #[]) ∧ Wr w' base b (zs ++ sints l) ∧ Below base w w' := by
  have hlc := hr.lencap
  unfold maxLen at hlc
  have hvl := vint_length l.length
  go_enter Try.func57, Try.ntmps57
  go_wp2_with fail
  refine (wuint_int base b zs (l.length : Int) w h hbb (by omega) (by omega) (by omega)).mono ?_
  rintro e w1 ⟨rfl, h1, hB⟩
  rw [Int.toNat_natCast] at h1
  dsimp only
  have hyl : (zs ++ vint l.length).length ≤ 1000011 := by rw [List.length_append]; omega
  generalize hzy : zs ++ vint l.length = zy at h1 hyl
  have Hzy := Lib.hid hzy; clear hzy
  have Hwf := Lib.hid hwf
  clear hwf h
  go_wp2_with fail
  go_loopw [13] (fun i wr => ∃ k : Nat, k ≤ l.length ∧ i = .int .i64 (k : Int) ∧ Wr wr base b (zy ++ ((l.take k).map sint).flatten) ∧ Below base w wr) (fun i _ => l.length - (intOf i).toNat)
  case atStart => exact ⟨0, Nat.zero_le _, rfl, by simpa using h1, hB⟩
  case round =>
    clear h1 hB
    obtain ⟨k, hk, rfl, h1, hB⟩ := hrel
    by_cases hlt : k < l.length
    · obtain ⟨bl, ol, rfl, hpl, hcl⟩ := hr.at (by omega)
      have c1 : wr.cell? ⟨bl, ol + k, none⟩ = some (.int .i64 (l[k]?.getD 0)) := (hB.cell (p := ⟨bl, ol + k, none⟩) hpl).trans (hcl k hlt)
      have HT := Lib.hid (sints_take l k hlt)
      have hwx : (Lit.int .i64 (l[k]?.getD 0)).wf = true := by
        rw [List.getElem?_eq_getElem hlt, Option.getD_some]
        exact Hwf.out _ (List.getElem_mem hlt)
      have hle := sints_le (l.take k)
      have hlen : (zy ++ ((l.take k).map sint).flatten).length ≤ 10000000 := by
        rw [List.length_append]
        have : (l.take k).length ≤ k := List.length_take_le _ _
        omega
      clear hcl hr hle
      generalize l[k]?.getD 0 = x at c1 HT hwx
      generalize ((l.take k).map sint).flatten = ys at h1 HT hlen
      have Hwx := Lib.hid hwx; clear hwx
      go_wp2_with (go_at_call 56; refine (wint_any base b (zy ++ ys) x _ h1 hbb hlen Hwx.out).mono ?_; rintro e w' ⟨rfl, h2, hB2⟩)
      go_roundw
      case rel => exact ⟨k + 1, by omega, by go_num, by rw [HT.out, ← List.append_assoc]; exact h2, hB.trans hB2⟩
      case measure => simp [intOf]; omega
    · have HT : Hid (l.take k = l) := Lib.hid (List.take_of_length_le (by omega))
      clear hr
      go_wp2_with fail
      go_end0
      refine ⟨rfl, ?_, hB⟩
      rw [HT.out, ← Hzy.out, List.append_assoc] at h1
      exact h1

theorem done_any (base b : Nat) (zs : List Int) (w : World) (h : Wr w base b zs) (hm : zs.length ≤ 10000000) :
    Calls Try.prog 37 #[.pointer (some ⟨b, 0, none⟩)] w fun e w' => ∃ a cap, e = .returned (.slice a zs.length cap) ∧ w'.ownsRow w.heap.size 5 1 (.slice a zs.length cap) zs.length (zs.map (Value.int .u8)) ∧ Row .u8 w'.heap.size w' (.slice a zs.length cap) zs ∧ Below w.heap.size w w' := by
  obtain ⟨v, hv, hr⟩ := h
  have hc := hv.cell
  have hrow := (row_of_owns hr).1
  obtain ⟨a0, l0, c0, rfl⟩ := owns_slice hr
  go_enter Try.func37, Try.ntmps37
  go_wp2_with fail
  refine (cloneBytes_any _ _ zs w hrow hm).mono ?_
  rintro e w' ⟨a, cap, rfl, h1, h2, h3⟩
  dsimp only
  go_wp2
  go_ret
  exact ⟨a, cap, rfl, h1, h2, h3⟩
end Go.Proofs.Ytmfekbljfnjkgaa
