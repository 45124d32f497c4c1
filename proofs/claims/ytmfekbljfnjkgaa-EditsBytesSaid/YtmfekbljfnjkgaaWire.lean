/- Contracts of package wire's Writer. -/
import Derived.Test.YtmfekbljfnjkgaaRefB
import Derived.Test.YtmfekbljfnjkgaaRows3
import Derived.Test.YtmfekbljfnjkgaaWireMath
import Derived.Test.YtmfekbljfnjkgaaHashMath2
import Derived.Outline
namespace Go.Proofs.Ytmfekbljfnjkgaa
open Go.RowKit Go.Shelf
set_option linter.unusedVariables false

theorem info_byte : (Try.prog.info? 5).map (fun i => (i.zero, i.size, i.bytes)) = some (some (.int .u8 0), 1, 1) := by kernel_rfl

/-- A Writer at block b, whose bytes are zs, in a row of its own from base on. -/
def Wr (W : World) (base b : Nat) (zs : List Int) : Prop :=
  ∃ v, Boxed W b 68 v ∧ W.ownsRow base 5 1 v zs.length (zs.map (Value.int .u8))
theorem Wr.new (w : World) : Wr (w.alloc (.cells #[.slice none 0 0] 68)) w.heap.size w.heap.size [] := ⟨_, Boxed.new w _ _, World.ownsRow_nil _ _ _ _⟩
/-- Behind a call that leaves old memory as it was. -/
theorem Wr.keep {W W' : World} {base b n : Nat} {zs : List Int} (h : Wr W base b zs) (hb : Below n W W') (hn : W.heap.size ≤ n) : Wr W' base b zs := by
  obtain ⟨v, hv, hr⟩ := h
  exact ⟨v, (hb.block b (Nat.lt_of_lt_of_le hv.lt hn)).trans hv, owns_kept_below hr (hb.mono hn)⟩

set_option maxRecDepth 100000 in
set_option maxHeartbeats 2000000 in
theorem wuint_any (base b : Nat) (zs : List Int) (n : Nat) (w : World) (h : Wr w base b zs) (hbb : base ≤ b) (hm : zs.length ≤ 10000000) (hn : n < 18446744073709551616) :
    Calls Try.prog 58 #[.pointer (some ⟨b, 0, none⟩), .int .u64 n] w fun e w' => e = .returned (.tuple #[]) ∧ Wr w' base b (zs ++ vint n) ∧ Below base w w' := by
  obtain ⟨i0, hi, hz0, hz1, hz2⟩ := info_parts info_byte
  obtain ⟨v, hv, hr⟩ := h
  have hc := hv.cell
  have hlt := hv.lt
  go_enter Try.func58, Try.ntmps58
  go_wp2
  go_loopw [1] (fun m wr => ∃ (f k : Nat) (ys : List Int), m = .int .u64 (k : Int) ∧ vint n = ys ++ vintF f k ∧ ys.length + f = 10 ∧ 1 ≤ f ∧ k < 2 * 128 ^ (f - 1) ∧ (∃ v, Boxed wr b 68 v ∧ wr.ownsRow base 5 1 v (zs ++ ys).length ((zs ++ ys).map (Value.int .u8))) ∧ Below base w wr) (fun m _ => (intOf m).toNat)
  case atStart => exact ⟨10, n, [], rfl, rfl, rfl, by decide, by simpa using hn, ⟨v, hv, by simpa using hr⟩, Below.refl _ _⟩
  case round =>
    clear hv hr hc hlt
    obtain ⟨f, k, ys, rfl, hvn, hyl, hf, hk, ⟨v, hv, hr⟩, hB⟩ := hrel
    have hc := hv.cell
    have hlt := hv.lt
    have hyn : (zs ++ ys).length ≤ 10000010 := by rw [List.length_append]; omega
    have Hvn := Lib.hid hvn; clear hvn
    have Hyl := Lib.hid hyl; clear hyl
    generalize hzy : zs ++ ys = zy at hr hyn
    have Hzy := Lib.hid hzy; clear hzy
    by_cases h8 : 128 ≤ k
    · have h8i : (128 : Int) ≤ (k : Int) := by omega
      have hor := or128 k
      have hf2 : 2 ≤ f := by
        rcases Nat.lt_or_ge f 2 with h | h
        · have : f = 1 := by omega
          subst this
          simp at hk
          omega
        · exact h
      have hkf : k / 128 < 2 * 128 ^ (f - 1 - 1) := by
        have e : 128 ^ (f - 1) = 128 ^ (f - 1 - 1) * 128 := by rw [← Nat.pow_succ]; congr 1; omega
        rw [e] at hk
        omega
      clear hk
      go_wp2_with (at_builtin; refine wpList_append_own _ rfl _ _ 64 rfl base 5 i0 (.int .u8 0) 1 1 Try.underlying64 hi hz0 hz1 hz2 rfl (by decide) _ _ _ rfl (hr.alloc _) ⟨wr.heap.size, 0, none⟩ 1 1 [.int .u8 ((k : Int) % 128 + 128)] rfl rfl (cell_one_new _ _ _) (by simp [Value.oneCell']) (by unfold maxLen; omega) (by omega) (by simp; omega) ?_; intro v' w2 hown' hgrow' _; obtain ⟨g', cap', rfl⟩ := ownsRow_succ hown'; obtain ⟨hv1, hv2, hr2, hk2, hb2⟩ := hv.appended (by decide) hr (by omega) hbb hown' hgrow'; have hc1 := hv1.cell; have hf1 := hv1.frozen)
      go_roundw
      case rel =>
        refine ⟨f - 1, k / 128, ys ++ [(k : Int) % 128 + 128], by simp, ?_, ?_, by omega, hkf, ⟨_, hv2, ?_⟩, hB.trans hb2⟩
        · rw [Hvn.out, show f = f - 1 + 1 from by omega, vintF_next _ _ h8, List.append_assoc]
          rfl
        · have := Hyl.out
          simp
          omega
        · rw [← List.append_assoc, Hzy.out, List.map_append, List.length_append]
          exact hr2
      case measure => simp [intOf]; omega
    · have h8i : (k : Int) < 128 := by omega
      have hwk : IntKind.u8.wrap (k : Int) = k := by simp [IntKind.wrap, IntKind.bits, IntKind.signed]; omega
      clear hk
      go_wp2_with (at_builtin; refine wpList_append_own _ rfl _ _ 64 rfl base 5 i0 (.int .u8 0) 1 1 Try.underlying64 hi hz0 hz1 hz2 rfl (by decide) _ _ _ rfl (hr.alloc _) ⟨wr.heap.size, 0, none⟩ 1 1 [.int .u8 (k : Int)] rfl rfl (cell_one_new _ _ _) (by simp [Value.oneCell']) (by unfold maxLen; omega) (by omega) (by simp; omega) ?_; intro v' w2 hown' hgrow' _; obtain ⟨g', cap', rfl⟩ := ownsRow_succ hown'; obtain ⟨hv1, hv2, hr2, hk2, hb2⟩ := hv.appended (by decide) hr (by omega) hbb hown' hgrow'; have hc1 := hv1.cell; have hf1 := hv1.frozen)
      go_end0
      refine ⟨rfl, ⟨_, hv2, ?_⟩, hB.trans hb2⟩
      rw [Hvn.out, vintF_stop _ _ (by omega), ← List.append_assoc, Hzy.out, List.map_append, List.length_append]
      exact hr2

theorem wuint_int (base b : Nat) (zs : List Int) (n : Int) (w : World) (h : Wr w base b zs) (hbb : base ≤ b) (hm : zs.length ≤ 10000000) (h0 : 0 ≤ n) (hn : n < 18446744073709551616) :
    Calls Try.prog 58 #[.pointer (some ⟨b, 0, none⟩), .int .u64 n] w fun e w' => e = .returned (.tuple #[]) ∧ Wr w' base b (zs ++ vint n.toNat) ∧ Below base w w' := by
  obtain ⟨m, rfl⟩ := Int.eq_ofNat_of_zero_le h0
  rw [Int.toNat_natCast]
  exact wuint_any base b zs m w h hbb hm (by omega)

theorem wint_any (base b : Nat) (zs : List Int) (n : Int) (w : World) (h : Wr w base b zs) (hbb : base ≤ b) (hm : zs.length ≤ 10000000) (hn : (Lit.int .i64 n).wf = true) :
    Calls Try.prog 56 #[.pointer (some ⟨b, 0, none⟩), .int .i64 n] w fun e w' => e = .returned (.tuple #[]) ∧ Wr w' base b (zs ++ sint n) ∧ Below base w w' := by
  have hz := zig_eq n (i64_rng hn)
  have hzl := zig_lt n (i64_rng hn)
  go_enter Try.func56, Try.ntmps56
  go_wp2_with fail
  refine (wuint_int base b zs (zig n : Int) w h hbb hm (by omega) (by omega)).mono ?_
  rintro e w' ⟨rfl, h1, h2⟩
  rw [Int.toNat_natCast] at h1
  dsimp only
  go_wp2
  go_end0
  exact ⟨rfl, h1, h2⟩

end Go.Proofs.Ytmfekbljfnjkgaa
