/- More of the same: rows beside a store. -/
import Derived.Test.YtafmapcblcnccaaRows2
namespace Go.Proofs.Ytafmapcblcnccaa
open Go.RowKit Go.Shelf

/-- A row, where the cells of its own block read as they did. -/
theorem RowP.keep' {k : IntKind} {p : Nat → Prop} {A B : World} {b off len cap : Nat} {zs : List Int} (h : RowP k p A (.slice (some ⟨b, off, none⟩) len cap) zs) (hc : ∀ o, B.cell? ⟨b, o, none⟩ = A.cell? ⟨b, o, none⟩) : RowP k p B (.slice (some ⟨b, off, none⟩) len cap) zs := by
  rcases h with e | ⟨b', off', cap', e, h1, h2, hb, hcs⟩
  · exact .inl e
  · simp at e
    obtain ⟨⟨rfl, rfl⟩, rfl, rfl⟩ := e
    exact .inr ⟨b, off, cap, rfl, h1, h2, hb, fun j hj => (hc _).trans (hcs j hj)⟩
/-- What a slice owns it owns behind a call that leaves old memory as it was. -/
theorem owns_kept_below {w w' : World} {base : Nat} {e : TypeId} {size : Nat} {v : Value} {n : Nat} {xs : List Value} (h : w.ownsRow base e size v n xs) (hb : Below w.heap.size w w') : w'.ownsRow base e size v n xs := by
  refine ⟨h.1, ?_⟩
  rcases h.2 with hn | ⟨g, cap, cur, rfl, h1, hg, rest⟩
  · exact .inl hn
  · exact .inr ⟨g, cap, cur, rfl, h1, (hb.block g (Array.getElem?_eq_some_iff.1 hg).1).trans hg, rest⟩
/-- 'b.out = append(b.out, x...)', no block laid for the values: as the kit's 'Boxed.appended'. -/
theorem appended0 {W w1 : World} {n₀ B : Nat} {t e : TypeId} {size : Nat} {v v' : Value} {k m : Nat} {xs ys : List Value}
    (hv : Boxed W B t v) (hte : t ≠ e) (hrow : W.ownsRow n₀ e size v k xs) (hn₀ : n₀ ≤ W.heap.size) (hB : n₀ ≤ B)
    (hown' : w1.ownsRow n₀ e size v' m ys) (hgrow : W.grownBy w1 v.ownBlock) :
    Boxed w1 B t v ∧ Boxed (w1.setCell ⟨B, 0, none⟩ v') B t v' ∧ (w1.setCell ⟨B, 0, none⟩ v').ownsRow n₀ e size v' m ys ∧ Below n₀ W (w1.setCell ⟨B, 0, none⟩ v') := by
  have hv1 : Boxed w1 B t v := hv.kept hgrow (hv.not_row hte hrow)
  refine ⟨hv1, hv1.set v', hown'.kept (grownBy_setCell' w1 B v') (.inr (hv1.not_row hte hown').symm), ?_⟩
  exact (((Below.refl n₀ W).grown hgrow hn₀ fun j ej => own_base hrow ej).setCell (p := ⟨B, 0, none⟩) hB v')
end Go.Proofs.Ytafmapcblcnccaa
