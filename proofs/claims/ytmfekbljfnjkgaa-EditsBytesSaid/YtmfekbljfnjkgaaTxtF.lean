/- Contracts of package text: Undo. -/
import Derived.Test.YtmfekbljfnjkgaaTxtE
namespace Go.Proofs.Ytmfekbljfnjkgaa
open Go.RowKit Go.Shelf
set_option linter.unusedVariables false

theorem row_drop_some {k : IntKind} {n₀ : Nat} {W : World} {ad : Addr} {n cap : Nat} {zs : List Int} (h : Row k n₀ W (.slice (some ad) n cap) zs) (j : Nat) (hj : j ≤ zs.length) :
    Row k n₀ W (.slice (some (ad.add j)) (n - j) (cap - j)) (zs.drop j) ∧ (j = n → Row k n₀ W (.slice (some ad) (n - j) (cap - j)) (zs.drop j)) := by
  rcases h with ⟨a', cap', e, h2, hn, rfl⟩ | ⟨b, off, cap', e, h1, h2, hb, hc⟩
  · simp at e
    obtain ⟨rfl, rfl, rfl⟩ := e
    have : j = 0 := by simpa using hj
    subst this
    exact ⟨row_empty rfl (by simp) (by omega) (fun h => by cases h), fun _ => row_empty rfl (by simp) (by omega) (fun h => by cases h)⟩
  · simp at e
    obtain ⟨rfl, rfl, rfl⟩ := e
    rw [show (⟨b, off, none⟩ : Addr).add j = ⟨b, off + j, none⟩ from by simp [Addr.add]]
    exact row_drop' (.inr ⟨b, off, cap, rfl, h1, h2, hb, hc⟩) j hj
theorem row_take_some {k : IntKind} {n₀ : Nat} {W : World} {a : Option Addr} {n cap : Nat} {zs : List Int} (h : Row k n₀ W (.slice a n cap) zs) (j : Nat) (hj : j ≤ zs.length) : Row k n₀ W (.slice a j cap) (zs.take j) := row_take' h j hj
theorem row_own2' {k : IntKind} {w : World} {base : Nat} {e : TypeId} {v : Value} {n : Nat} {zs : List Int} (h : w.ownsRow base e 1 v n (zs.map (Value.int k))) : RowP k (fun g => base ≤ g ∧ g < w.heap.size) w v zs := by
  obtain ⟨hl, h⟩ := h
  have hn : n = zs.length := by simpa using hl.symm
  subst hn
  rcases h with ⟨rfl, h0⟩ | ⟨g, cap, cur, rfl, hb, hg, hc, hm, hs, ht⟩
  · exact .inl ⟨none, 0, rfl, Nat.zero_le _, fun _ => rfl, by simpa using h0⟩
  · refine .inr ⟨g, 0, cap, rfl, hc, hm, ⟨hb, (Array.getElem?_eq_some_iff.1 hg).1⟩, fun j hj => ?_⟩
    have hcell : w.cell? ⟨g, 0 + j, none⟩ = cur[0 + j]? := by unfold World.cell?; rw [hg]; rfl
    rw [hcell, Nat.zero_add]
    have h1 : (cur.toList.take (zs.length * 1))[j]? = some (.int k (zs[j]?.getD 0)) := by rw [ht]; simp [hj]
    rw [List.getElem?_take] at h1
    simpa [hj] using h1
theorem row_set3 {k : IntKind} {n : Nat} {W : World} {sv : Value} {zs : List Int} {base : Nat} {e : TypeId} (h : W.ownsRow base e 1 sv n (zs.map (Value.int k))) (b : Nat) (hb : b < base) (u0 u1 u2 : Value) :
    Row k (((W.setCell ⟨b, 0, none⟩ u0).setCell ⟨b, 1, none⟩ u1).setCell ⟨b, 2, none⟩ u2).heap.size (((W.setCell ⟨b, 0, none⟩ u0).setCell ⟨b, 1, none⟩ u1).setCell ⟨b, 2, none⟩ u2) sv zs := by
  have h1 := (row_own2' h)
  have K := ((KeepP.setCell (fun g => base ≤ g ∧ g < W.heap.size) W ⟨b, 0, none⟩ u0 (fun q => by have := q.1; simp at this; omega)).trans (KeepP.setCell _ _ ⟨b, 1, none⟩ u1 (fun q => by have := q.1; simp at this; omega))).trans (KeepP.setCell _ _ ⟨b, 2, none⟩ u2 (fun q => by have := q.1; simp at this; omega))
  exact (h1.keep K).mono (fun g hg => by simp; exact hg.2)
theorem results_row_tmp {fn : Func} {p u : Tmp} {ty : TypeId} (h : fn.results = #[.cell p ty, .tmp u]) {P : Program} (tmps : Array Value) (w : World) (g : Nat) (cs : Array Value) (x : Value)
    (hp : tmps.getD p undef = .pointer (some ⟨g, 0, none⟩)) (hx : tmps.getD u undef = x) (hl : (loadVar ty ⟨g, 0, none⟩).run P w = .ok (.agg cs) w) :
    (results fn tmps).run P w = .ok (.tuple #[.agg cs, x]) w := by
  have hp' : tmps[p]?.getD undef = .pointer (some ⟨g, 0, none⟩) := by simpa using hp
  subst hx
  simp [results, h, hp', asAddr, hl]
/-- The edit that leads back; the zero edit with an error. -/
def undoM (l : List Int) (at_ del : Int) (ins : List Int) : Int × Int × List Int :=
  if checkI l at_ del ins = 0 then (at_, ins.length, (l.drop at_.toNat).take del.toNat) else (0, 0, [])
def UnPost (w : World) (R : Int × Int × List Int) (C : Int) (e : Ending) (w' : World) : Prop :=
  ∃ a cap, e = .returned (.tuple #[.agg #[.int .i64 R.1, .int .i64 R.2.1, .slice a R.2.2.length cap], .int .i64 C]) ∧ Row .i64 w'.heap.size w' (.slice a R.2.2.length cap) R.2.2 ∧ Below w.heap.size w w'
end Go.Proofs.Ytmfekbljfnjkgaa
