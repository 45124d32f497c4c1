/- Contracts of package wire's Writer, with a frame that names just the box and the row. -/
import Derived.Test.YtmfekbljfnjkgaaWire2
import Derived.Test.YtmfekbljfnjkgaaCel
import Derived.Maps.AppendAt
namespace Go.Proofs.Ytmfekbljfnjkgaa
open Go.RowKit Go.Shelf
set_option linter.unusedVariables false

/-- Nothing that was there has turned but blocks of which q speaks. -/
structure OnlyP (q : Nat → Prop) (W W' : World) : Prop where
  os : W'.os = W.os
  tape : W'.tape = W.tape
  output : W'.output = W.output
  size : W.heap.size ≤ W'.heap.size
  block : ∀ k, k < W.heap.size → ¬ q k → W'.heap[k]? = W.heap[k]?
theorem OnlyP.refl (q : Nat → Prop) (W : World) : OnlyP q W W := ⟨rfl, rfl, rfl, Nat.le_refl _, fun _ _ _ => rfl⟩
theorem OnlyP.trans {q : Nat → Prop} {A B C : World} (h : OnlyP q A B) (k : OnlyP q B C) : OnlyP q A C :=
  ⟨k.os.trans h.os, k.tape.trans h.tape, k.output.trans h.output, Nat.le_trans h.size k.size, fun i hi hn => (k.block i (Nat.lt_of_lt_of_le hi h.size) hn).trans (h.block i hi hn)⟩
theorem OnlyP.set (q : Nat → Prop) (W : World) (a : Addr) (v : Value) (h : q a.block) : OnlyP q W (W.setCell a v) :=
  ⟨rfl, rfl, rfl, by simp [World.setCell], fun k _ hk => Below.heap_setCell _ _ _ k (fun e => hk (e ▸ h))⟩
theorem OnlyP.of_below {q : Nat → Prop} {A B : World} (h : Below A.heap.size A B) : OnlyP q A B := ⟨h.os, h.tape, h.output, h.size, fun k hk _ => h.block k hk⟩
theorem OnlyP.of_grown {q : Nat → Prop} {A B : World} {row : Option Nat} (h : A.grownBy B row) (hq : ∀ k, row = some k → q k) : OnlyP q A B := ⟨h.os, h.tape, h.output, h.size, fun k hk hn => h.block k hk (fun e => hn (hq k e.symm))⟩
theorem OnlyP.below {q : Nat → Prop} {A B : World} {n : Nat} (h : OnlyP q A B) (hn : n ≤ A.heap.size) (hq : ∀ k, q k → n ≤ k) : Below n A B :=
  ⟨h.os, h.tape, h.output, h.size, fun k hk => h.block k (Nat.lt_of_lt_of_le hk hn) (fun e => by have := hq k e; omega)⟩
theorem Cel.only {q : Nat → Prop} {A B : World} {b : Nat} {t : TypeId} {cs : Array Value} (h : Cel A b t cs) (ho : OnlyP q A B) (hn : ¬ q b) : Cel B b t cs := (ho.block b h.lt hn).trans h
/-- A Writer at block b, its row the value v. -/
def Ww (W : World) (b : Nat) (v : Value) (zs : List Int) : Prop := Cel W b 68 #[v] ∧ W.ownsRow 0 5 1 v zs.length (zs.map (Value.int .u8)) ∧ v.ownBlock ≠ some b
def WB (b : Nat) (v : Value) (k : Nat) : Prop := k = b ∨ v.ownBlock = some k
/-- What a call on a Writer leaves. -/
def WAfter (w w' : World) (b : Nat) (v : Value) (zs : List Int) : Prop := ∃ v', Ww w' b v' zs ∧ OnlyP (WB b v) w w' ∧ (v'.ownBlock = v.ownBlock ∨ ∃ k, v'.ownBlock = some k ∧ w.heap.size ≤ k)
theorem WAfter.refl {w : World} {b : Nat} {v : Value} {zs : List Int} (h : Ww w b v zs) : WAfter w w b v zs := ⟨v, h, OnlyP.refl _ _, .inl rfl⟩
theorem WAfter.trans {w w1 w2 : World} {b : Nat} {v v1 : Value} {ys zs : List Int} (h1 : Ww w1 b v1 ys) (ho : OnlyP (WB b v) w w1) (hv : v1.ownBlock = v.ownBlock ∨ ∃ k, v1.ownBlock = some k ∧ w.heap.size ≤ k) (h : WAfter w1 w2 b v1 zs) : WAfter w w2 b v zs := by
  obtain ⟨v2, k1, k2, k3⟩ := h
  refine ⟨v2, k1, ⟨k2.os.trans ho.os, k2.tape.trans ho.tape, k2.output.trans ho.output, Nat.le_trans ho.size k2.size, fun i hi hn => ?_⟩, ?_⟩
  · refine (k2.block i (Nat.lt_of_lt_of_le hi ho.size) ?_).trans (ho.block i hi hn)
    rintro (e | e)
    · exact hn (.inl e)
    · rcases hv with e2 | ⟨k, e2, hk⟩
      · exact hn (.inr (by rw [← e2]; exact e))
      · rw [e2] at e; injection e with e; omega
  · rcases k3 with e | ⟨k, e, hk⟩
    · rcases hv with e2 | ⟨k, e2, hk⟩
      · exact .inl (e.trans e2)
      · exact .inr ⟨k, e.trans e2, hk⟩
    · exact .inr ⟨k, e, Nat.le_trans ho.size hk⟩
theorem owns_zero {w : World} {base : Nat} {e : TypeId} {size : Nat} {v : Value} {n : Nat} {xs : List Value} (h : w.ownsRow base e size v n xs) : w.ownsRow 0 e size v n xs := by
  refine ⟨h.1, ?_⟩
  rcases h.2 with e | ⟨g, cap, cur, e, hb, r⟩
  · exact .inl e
  · exact .inr ⟨g, cap, cur, e, Nat.zero_le _, r⟩
theorem owns_only {w w' : World} {r : Nat → Prop} {base : Nat} {e : TypeId} {size : Nat} {v : Value} {n : Nat} {xs : List Value} (h : w.ownsRow base e size v n xs) (ho : OnlyP r w w') (hr : ∀ k, v.ownBlock = some k → ¬ r k) : w'.ownsRow base e size v n xs := by
  refine ⟨h.1, ?_⟩
  rcases h.2 with hn | ⟨g, cap, cur, rfl, h1, hg, rest⟩
  · exact .inl hn
  · exact .inr ⟨g, cap, cur, rfl, h1, (ho.block g (Array.getElem?_eq_some_iff.1 hg).1 (hr g rfl)).trans hg, rest⟩
/-- One byte more: what stands behind the append and the store. -/
theorem ww_push {w w2 : World} {b : Nat} {v v' : Value} {zs : List Int} (x : Int) (h : Ww w b v zs) (o : Obj) (hown : w2.ownsRow 0 5 1 v' (zs.length + 1) ((zs ++ [x]).map (Value.int .u8))) (hg : (w.alloc o).grownBy w2 v.ownBlock) (hat : v'.ownBlock = v.ownBlock ∨ v'.ownBlock = some (w.alloc o).heap.size) :
    Cel w2 b 68 #[v] ∧ WAfter w (w2.setCell ⟨b, 0, none⟩ v') b v (zs ++ [x]) := by
  obtain ⟨hc, ho, hn⟩ := h
  have hb := hc.lt
  have hc2 : Cel w2 b 68 #[v] := (hc.alloc o).grown hg hn
  have hs : (w.alloc o).heap.size = w.heap.size + 1 := by simp
  have hnq : v'.ownBlock ≠ some b := by
    rcases hat with e | e
    · rw [e]; exact hn
    · rw [e]; intro e2; injection e2 with e2; omega
  refine ⟨hc2, v', ⟨hc2.set 0 v', ?_, hnq⟩, ?_, ?_⟩
  · rw [List.length_append]
    exact owns_only hown (OnlyP.set (fun k => k = b) w2 ⟨b, 0, none⟩ v' rfl) (fun k hk e => hnq (by rw [hk, e]))
  · exact ((OnlyP.of_below (laidB (Below.refl _ _) o)).trans (OnlyP.of_grown hg (fun k e => .inr e))).trans (OnlyP.set _ _ _ _ (.inl rfl))
  · rcases hat with e | e
    · exact .inl e
    · exact .inr ⟨_, e, by omega⟩
set_option maxRecDepth 100000 in
set_option maxHeartbeats 4000000 in
theorem wuint2_any (b : Nat) (v : Value) (zs : List Int) (n : Nat) (w : World) (h : Ww w b v zs) (hm : zs.length ≤ 10000000) (hn : n < 18446744073709551616) :
    Calls Try.prog 58 #[.pointer (some ⟨b, 0, none⟩), .int .u64 n] w fun e w' => e = .returned (.tuple #[]) ∧ WAfter w w' b v (zs ++ vint n) := by
  obtain ⟨i0, hi, hz0, hz1, hz2⟩ := info_parts info_byte
  have HH := Lib.hid h
  clear h
  go_enter Try.func58, Try.ntmps58
  go_wp2
  go_loopw [1] (fun m wr => ∃ (f k : Nat) (ys : List Int) (v1 : Value), m = .int .u64 (k : Int) ∧ vint n = ys ++ vintF f k ∧ ys.length + f = 10 ∧ 1 ≤ f ∧ k < 2 * 128 ^ (f - 1) ∧ Hid (Ww wr b v1 (zs ++ ys)) ∧ Hid (OnlyP (WB b v) w wr) ∧ Hid (v1.ownBlock = v.ownBlock ∨ ∃ k, v1.ownBlock = some k ∧ w.heap.size ≤ k)) (fun m _ => (intOf m).toNat)
  case atStart => exact ⟨10, n, [], v, rfl, rfl, rfl, by decide, by simpa using hn, Lib.hid (by rw [List.append_nil]; exact HH.out), Lib.hid (OnlyP.refl _ _), Lib.hid (.inl rfl)⟩
  case round =>
    obtain ⟨f, k, ys, v1, rfl, hvn, hyl, hf, hk, HW, HO, HV⟩ := hrel
    have hc : wr.cell? ⟨b, 0, none⟩ = some v1 := HW.out.1.cell 0
    have hr := HW.out.2.1
    have hyn : (zs ++ ys).length ≤ 10000010 := by rw [List.length_append]; omega
    have Hvn := Lib.hid hvn; clear hvn
    have Hyl := Lib.hid hyl; clear hyl
    generalize hzy : zs ++ ys = zy at hr hyn HW
    have Hzy := Lib.hid hzy; clear hzy
    by_cases h8 : 128 ≤ k
    · have h8i : (128 : Int) ≤ (k : Int) := by omega
      have hor := or128 k
      have hf2 : 2 ≤ f := by
        rcases Nat.lt_or_ge f 2 with h | h
        · have : f = 1 := by omega
          subst this
          simp at hk
          omega
        · exact h
      have hkf : k / 128 < 2 * 128 ^ (f - 1 - 1) := by
        have e : 128 ^ (f - 1) = 128 ^ (f - 1 - 1) * 128 := by rw [← Nat.pow_succ]; congr 1; omega
        rw [e] at hk
        omega
      clear hk
      go_wp2_with (at_builtin; refine wpList_append_own_at _ rfl _ _ 64 rfl 0 5 i0 (.int .u8 0) 1 1 Try.underlying64 hi hz0 hz1 hz2 rfl (by decide) _ _ _ rfl (hr.alloc _) ⟨wr.heap.size, 0, none⟩ 1 1 [.int .u8 ((k : Int) % 128 + 128)] rfl rfl (cell_one_new _ _ _) (by simp [Value.oneCell']) (by unfold maxLen; omega) (by omega) (Nat.zero_le _) ?_; intro v' w2 hown' hgrow' _ hat'; obtain ⟨g', cap', rfl⟩ := ownsRow_succ hown'; obtain ⟨hcw, haf⟩ := ww_push ((k : Int) % 128 + 128) HW.out _ (by rw [List.map_append]; exact hown') hgrow' hat'; have hc1 := hcw.cell 0; have hf1 := hcw.free 0)
      go_roundw
      case rel =>
        obtain ⟨v3, a1, a2, a3⟩ := haf.trans HW.out HO.out HV.out
        refine ⟨f - 1, k / 128, ys ++ [(k : Int) % 128 + 128], v3, by simp, ?_, ?_, by omega, hkf, Lib.hid (by rw [← List.append_assoc, Hzy.out]; exact a1), Lib.hid a2, Lib.hid a3⟩
        · rw [Hvn.out, show f = f - 1 + 1 from by omega, vintF_next _ _ h8, List.append_assoc]
          rfl
        · have := Hyl.out
          simp
          omega
      case measure => simp [intOf]; omega
    · have h8i : (k : Int) < 128 := by omega
      have hwk : IntKind.u8.wrap (k : Int) = k := by simp [IntKind.wrap, IntKind.bits, IntKind.signed]; omega
      clear hk
      go_wp2_with (at_builtin; refine wpList_append_own_at _ rfl _ _ 64 rfl 0 5 i0 (.int .u8 0) 1 1 Try.underlying64 hi hz0 hz1 hz2 rfl (by decide) _ _ _ rfl (hr.alloc _) ⟨wr.heap.size, 0, none⟩ 1 1 [.int .u8 (k : Int)] rfl rfl (cell_one_new _ _ _) (by simp [Value.oneCell']) (by unfold maxLen; omega) (by omega) (Nat.zero_le _) ?_; intro v' w2 hown' hgrow' _ hat'; obtain ⟨g', cap', rfl⟩ := ownsRow_succ hown'; obtain ⟨hcw, haf⟩ := ww_push (k : Int) HW.out _ (by rw [List.map_append]; exact hown') hgrow' hat'; have hc1 := hcw.cell 0; have hf1 := hcw.free 0)
      go_end0
      refine ⟨rfl, ?_⟩
      have := haf.trans HW.out HO.out HV.out
      rw [Hvn.out, vintF_stop _ _ (by omega), ← List.append_assoc, Hzy.out]
      exact this
theorem wint2_any (b : Nat) (v : Value) (zs : List Int) (n : Int) (w : World) (h : Ww w b v zs) (hm : zs.length ≤ 10000000) (hn : (Lit.int .i64 n).wf = true) :
    Calls Try.prog 56 #[.pointer (some ⟨b, 0, none⟩), .int .i64 n] w fun e w' => e = .returned (.tuple #[]) ∧ WAfter w w' b v (zs ++ sint n) := by
  have hz := zig_eq n (i64_rng hn)
  have hzl := zig_lt n (i64_rng hn)
  go_enter Try.func56, Try.ntmps56
  go_wp2_with fail
  refine (wuint2_any b v zs (zig n) w h hm hzl).mono ?_
  rintro e w' ⟨rfl, h1⟩
  have H1 := Lib.hid h1
  clear h1
  dsimp only
  go_wp2
  go_end0
  exact ⟨rfl, H1.out⟩
end Go.Proofs.Ytmfekbljfnjkgaa
