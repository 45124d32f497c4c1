/- Plain facts for EditsBytes' walk. -/
import Derived.Test.YtmfekbljfnjkgaaEbE
import Derived.Test.YtmfekbljfnjkgaaEdG
namespace Go.Proofs.Ytmfekbljfnjkgaa
open Go.RowKit Go.Shelf
set_option linter.unusedVariables false
set_option maxRecDepth 100000

theorem item_rng (x : IM) : ∀ n ∈ x.bytes, 0 ≤ n ∧ n < 256 := by
  intro n h
  unfold IM.bytes itemB sints sint at h
  simp only [List.mem_append, List.mem_flatten, List.mem_map] at h
  rcases h with ((((h | h) | h) | h) | h) | (h | ⟨l, ⟨a, _, rfl⟩, h⟩)
  all_goals exact vintF_rng 10 _ n h
theorem item_len (x : IM) (h : x.ins.length ≤ 4) : 5 ≤ x.bytes.length ∧ x.bytes.length ≤ 200 := by
  have h1 := vint_length (zig x.c)
  have h2 := vint_length (zig x.nu)
  have h3 := vint_length (zig x.ba)
  have h4 := vint_length (zig x.a)
  have h5 := vint_length (zig x.d)
  have h6 := vint_length x.ins.length
  have h7 := sints_le x.ins
  unfold IM.bytes itemB sints
  simp only [List.length_append, sint]
  omega
def ItemAt (W : World) (g o : Nat) : Prop :=
  ∃ (x : IM) (a : Option Addr) (cap : Nat), x.ok ∧ x.ins.length ≤ 4 ∧ W.cell? ⟨g, o, none⟩ = some (.int .i64 x.c) ∧ W.cell? ⟨g, o + 1, none⟩ = some (.int .i64 x.nu) ∧ W.cell? ⟨g, o + 2, none⟩ = some (.int .i64 x.ba) ∧ W.cell? ⟨g, o + 3, none⟩ = some (.int .i64 x.a) ∧ W.cell? ⟨g, o + 4, none⟩ = some (.int .i64 x.d) ∧ W.cell? ⟨g, o + 5, none⟩ = some (.slice a x.ins.length cap) ∧ Row .i64 W.heap.size W (.slice a x.ins.length cap) x.ins
def TwoI (W : World) (g : Nat) : Prop := g < W.heap.size ∧ ∀ k, k < 2 → ItemAt W g (k * 6)
theorem TwoI.step {W W' : World} {g : Nat} (h : TwoI W g) (hb : Below W.heap.size W W') : TwoI W' g := by
  refine ⟨Nat.lt_of_lt_of_le h.1 hb.size, fun k hk => ?_⟩
  obtain ⟨x, a, cap, h1, h2, c0, c1, c2, c3, c4, c5, hr⟩ := h.2 k hk
  exact ⟨x, a, cap, h1, h2, cellB c0 hb, cellB c1 hb, cellB c2 hb, cellB c3 hb, cellB c4 hb, cellB c5 hb, rowB hr hb⟩
theorem two_new {W : World} {t : TypeId} {x y : IM} {a b : Option Addr} {ca cb : Nat} (hx : x.ok) (hy : y.ok) (lx : x.ins.length ≤ 4) (ly : y.ins.length ≤ 4) (rx : Row .i64 W.heap.size W (.slice a x.ins.length ca) x.ins) (ry : Row .i64 W.heap.size W (.slice b y.ins.length cb) y.ins) :
    TwoI (W.alloc (.cells #[.int .i64 x.c, .int .i64 x.nu, .int .i64 x.ba, .int .i64 x.a, .int .i64 x.d, .slice a x.ins.length ca, .int .i64 y.c, .int .i64 y.nu, .int .i64 y.ba, .int .i64 y.a, .int .i64 y.d, .slice b y.ins.length cb] t)) W.heap.size := by
  have hb := laidB (Below.refl W.heap.size W) (.cells #[.int .i64 x.c, .int .i64 x.nu, .int .i64 x.ba, .int .i64 x.a, .int .i64 x.d, .slice a x.ins.length ca, .int .i64 y.c, .int .i64 y.nu, .int .i64 y.ba, .int .i64 y.a, .int .i64 y.d, .slice b y.ins.length cb] t)
  have C := Cel.new W t #[.int .i64 x.c, .int .i64 x.nu, .int .i64 x.ba, .int .i64 x.a, .int .i64 x.d, .slice a x.ins.length ca, .int .i64 y.c, .int .i64 y.nu, .int .i64 y.ba, .int .i64 y.a, .int .i64 y.d, .slice b y.ins.length cb]
  refine ⟨by rw [World.size_alloc]; omega, fun k hk => ?_⟩
  rcases k with _ | _ | k
  · exact ⟨x, a, ca, hx, lx, C.cell 0, C.cell 1, C.cell 2, C.cell 3, C.cell 4, C.cell 5, rowB rx hb⟩
  · exact ⟨y, b, cb, hy, ly, C.cell 6, C.cell 7, C.cell 8, C.cell 9, C.cell 10, C.cell 11, rowB ry hb⟩
  · omega
def BytesV (W : World) (v : Value) : Prop := ∃ (a : Option Addr) (c : Nat) (zs : List Int), v = .slice a zs.length c ∧ Row .u8 W.heap.size W (.slice a zs.length c) zs ∧ zs.length ≤ 1000 ∧ ∀ x ∈ zs, 0 ≤ x ∧ x < 256
theorem BytesV.step {W W' : World} {v : Value} (h : BytesV W v) (hb : Below W.heap.size W W') : BytesV W' v := by
  obtain ⟨a, c, zs, e, hr, hl, hz⟩ := h
  exact ⟨a, c, zs, e, rowB hr hb, hl, hz⟩
def ThreeB (W : World) (g : Nat) : Prop := g < W.heap.size ∧ ∀ k, k < 3 → ∃ v, W.cell? ⟨g, k, none⟩ = some v ∧ BytesV W v
theorem ThreeB.step {W W' : World} {g : Nat} (h : ThreeB W g) (hb : Below W.heap.size W W') : ThreeB W' g := by
  refine ⟨Nat.lt_of_lt_of_le h.1 hb.size, fun k hk => ?_⟩
  obtain ⟨v, hc, hr⟩ := h.2 k hk
  exact ⟨v, cellB hc hb, hr.step hb⟩
theorem threeB_new {W : World} {t : TypeId} {v0 v1 v2 : Value} (h0 : BytesV W v0) (h1 : BytesV W v1) (h2 : BytesV W v2) : ThreeB (W.alloc (.cells #[v0, v1, v2] t)) W.heap.size := by
  refine ⟨by rw [World.size_alloc]; omega, fun k hk => ?_⟩
  have hb := laidB (Below.refl W.heap.size W) (.cells #[v0, v1, v2] t)
  have hC := Cel.new W t #[v0, v1, v2]
  rcases k with _ | _ | _ | k
  · exact ⟨v0, hC.cell 0, h0.step hb⟩
  · exact ⟨v1, hC.cell 1, h1.step hb⟩
  · exact ⟨v2, hC.cell 2, h2.step hb⟩
  · omega
theorem pick_rng (a : Option Addr) (cap : Nat) (l : List Int) (i : Nat) (j m : Int) (hj : (i : Int) = j) (w : World) (hr : Row .i64 w.heap.size w (.slice a l.length cap) l) (hw : ∀ x ∈ l, (Lit.int .i64 x).wf = true) (hi : i ≤ 1000000) (hm : 1 ≤ m) (hm2 : m ≤ 1048576) :
    Calls Try.prog 12 #[.slice a l.length cap, .int .i64 j, .int .i64 m] w fun e w' => ∃ z : Int, e = .returned (.int .i64 z) ∧ (Lit.int .i64 z).wf = true ∧ w' = w := by
  subst hj
  refine (pick_any a cap l i m w hr hw hi hm (by omega)).mono ?_
  rintro e w' ⟨rfl, h⟩
  have := pickI_rng l i m hm
  exact ⟨_, rfl, wf_i64 (by omega), h⟩
/-- Edit's result, for an item. -/
theorem edit_item {size : Nat} {w w' : World} {e : Ending} (h : EdPost size w e w') (hs : size ≤ 1000) : ∃ (x y : Int) (ins : List Int) (a : Option Addr) (c : Nat), e = .returned (.agg #[.int .i64 x, .int .i64 y, .slice a ins.length c]) ∧ (Lit.int .i64 x).wf = true ∧ (Lit.int .i64 y).wf = true ∧ ins.length ≤ 3 ∧ (∀ z ∈ ins, (Lit.int .i64 z).wf = true) ∧ Row .i64 w'.heap.size w' (.slice a ins.length c) ins ∧ Below w.heap.size w w' := by
  obtain ⟨x, y, ins, a, c, rfl, h1, h2, h3, h4, h5⟩ := h
  exact ⟨x, y, ins, a, c, rfl, wf_i64 (by omega), wf_i64 (by omega), h2, fun z hz => wf_i64 (by have := h3 z hz; omega), h4, h5⟩
end Go.Proofs.Ytmfekbljfnjkgaa
