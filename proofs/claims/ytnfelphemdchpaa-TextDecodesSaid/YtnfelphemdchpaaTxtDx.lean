/- What TextDecodes' region of three calls and three appends needs: rows known whole, six rows in a slice. -/
import Derived.Test.YtnfelphemdchpaaStepApp
import Derived.Test.YtnfelphemdchpaaCel
import Derived.Test.YtnfelphemdchpaaRefA
namespace Go.Proofs.Ytnfelphemdchpaa
open Go.RowKit Go.Shelf

theorem cel_made {X : World} {b : Nat} {t : TypeId} {cs : Array Value} (hb : b = X.heap.size) : Cel (X.alloc (.cells cs t)) b t cs := by subst hb; exact Cel.new _ _ _
theorem ob_some {b o l c : Nat} : (Value.slice (some ⟨b, o, none⟩) l c).ownBlock = some b := rfl
theorem cel_drew {X : World} {b : Nat} {t : TypeId} {cs : Array Value} (h : Cel X b t cs) : Cel X.drew b t cs := h
theorem owns_cel {W : World} {b n0 : Nat} {t : TypeId} {cs : Array Value} {k : IntKind} (xs : List Int) (h : Cel W b t cs) (hb : n0 ≤ b) (hcs : cs = (xs.map (Value.int k)).toArray) (hm : xs.length ≤ maxLen) :
    W.ownsRow n0 t 1 (.slice (some ⟨b, 0, none⟩) xs.length xs.length) xs.length (xs.map (Value.int k)) := by
  subst hcs
  refine ⟨by simp, .inr ⟨b, xs.length, _, rfl, hb, h, Nat.le_refl _, hm, by simp, ?_⟩⟩
  rw [List.take_of_length_le (by simp)]
/-- A value is a row of bytes, not long. -/
def RB (W : World) (v : Value) : Prop := ∃ a c, ∃ zs : List Int, v = .slice a zs.length c ∧ Row .u8 W.heap.size W (.slice a zs.length c) zs ∧ zs.length ≤ 200 ∧ ∀ i : Nat, 0 ≤ zs[i]?.getD 0 ∧ zs[i]?.getD 0 < 256
theorem RB.step {W W' : World} {v : Value} (h : RB W v) (hb : Below W.heap.size W W') : RB W' v := by
  obtain ⟨a, c, zs, e, hr, h2⟩ := h
  exact ⟨a, c, zs, e, rowB hr hb, h2⟩
theorem rb_own {W : World} {base : Nat} {t : TypeId} {v : Value} {n : Nat} {zs : List Int} (h : W.ownsRow base t 1 v n (zs.map (Value.int .u8))) (hl : zs.length ≤ 200) (hz : ∀ i : Nat, 0 ≤ zs[i]?.getD 0 ∧ zs[i]?.getD 0 < 256) : RB W v := by
  have hr := (row_of_owns h).1
  obtain ⟨a, c, rfl⟩ := row_slice hr
  exact ⟨a, c, zs, rfl, hr, hl, hz⟩
/-- A slice of six rows of bytes. -/
def SixP (W : World) (g : Nat) : Prop := g < W.heap.size ∧ ∀ k, k < 6 → ∃ v, W.cell? ⟨g, k, none⟩ = some v ∧ RB W v
theorem SixP.step {W W' : World} {g : Nat} (h : SixP W g) (hb : Below W.heap.size W W') : SixP W' g := by
  refine ⟨Nat.lt_of_lt_of_le h.1 hb.size, fun k hk => ?_⟩
  obtain ⟨v, hc, hr⟩ := h.2 k hk
  exact ⟨v, cellB hc hb, hr.step hb⟩
theorem six_new {W : World} {t : TypeId} {v0 v1 v2 v3 v4 v5 : Value} (h0 : RB W v0) (h1 : RB W v1) (h2 : RB W v2) (h3 : RB W v3) (h4 : RB W v4) (h5 : RB W v5) : SixP (W.alloc (.cells #[v0, v1, v2, v3, v4, v5] t)) W.heap.size := by
  refine ⟨by rw [World.size_alloc]; omega, fun k hk => ?_⟩
  have hb := laidB (Below.refl W.heap.size W) (.cells #[v0, v1, v2, v3, v4, v5] t)
  have hC := Cel.new W t #[v0, v1, v2, v3, v4, v5]
  rcases k with _ | _ | _ | _ | _ | _ | k
  · exact ⟨v0, hC.cell 0, h0.step hb⟩
  · exact ⟨v1, hC.cell 1, h1.step hb⟩
  · exact ⟨v2, hC.cell 2, h2.step hb⟩
  · exact ⟨v3, hC.cell 3, h3.step hb⟩
  · exact ⟨v4, hC.cell 4, h4.step hb⟩
  · exact ⟨v5, hC.cell 5, h5.step hb⟩
  · omega
theorem few_u (a : Option Addr) (cap : Nat) (zs : List Int) (m : Int) (w : World) (hr : Row .u8 w.heap.size w (.slice a zs.length cap) zs) (h0 : 0 ≤ m) (hm : m ≤ 200) (hz : ∀ i : Nat, 0 ≤ zs[i]?.getD 0 ∧ zs[i]?.getD 0 < 256) :
    Calls Try.prog 19 #[.slice a zs.length cap, .int .i64 m] w fun e w' => ∃ a2 c2, ∃ ys : List Int, e = .returned (.slice a2 ys.length c2) ∧ (ys.length : Int) ≤ m ∧ (∀ i : Nat, 0 ≤ ys[i]?.getD 0 ∧ ys[i]?.getD 0 < 256) ∧ w'.ownsRow w.heap.size 5 1 (.slice a2 ys.length c2) ys.length (ys.map (Value.int .u8)) ∧ (∀ k, (Value.slice a2 ys.length c2).ownBlock = some k → w.heap.size ≤ k ∧ k < w'.heap.size) ∧ Below w.heap.size w w' := by
  refine (few_int _ zs m w hr h0 (by omega)).mono ?_
  rintro e w' ⟨a2, c2, rfl, hown, hrow, hb⟩
  refine ⟨a2, c2, zs.take m.toNat, rfl, ?_, take_rng hz _, hown, hown.lt, hb⟩
  simp only [List.length_take]
  omega
theorem rng_app {xs ys : List Int} (h1 : ∀ i : Nat, 0 ≤ xs[i]?.getD 0 ∧ xs[i]?.getD 0 < 256) (h2 : ∀ i : Nat, 0 ≤ ys[i]?.getD 0 ∧ ys[i]?.getD 0 < 256) : ∀ i : Nat, 0 ≤ (xs ++ ys)[i]?.getD 0 ∧ (xs ++ ys)[i]?.getD 0 < 256 := by
  intro i
  rw [List.getElem?_append]
  split
  · exact h1 i
  · exact h2 _
theorem rng_mem {xs : List Int} (h : ∀ x ∈ xs, 0 ≤ x ∧ x < 256) (i : Nat) : 0 ≤ xs[i]?.getD 0 ∧ xs[i]?.getD 0 < 256 := by
  cases e : xs[i]? with
  | none => simp
  | some x => exact h x (List.mem_of_getElem? e)
end Go.Proofs.Ytnfelphemdchpaa
