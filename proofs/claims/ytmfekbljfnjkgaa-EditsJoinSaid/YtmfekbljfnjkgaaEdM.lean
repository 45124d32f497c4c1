/- Plain facts of the least edit. -/
import Derived.Test.YtmfekbljfnjkgaaEdL
import Derived.Test.YtmfekbljfnjkgaaEdJ
namespace Go.Proofs.Ytmfekbljfnjkgaa
open Go.RowKit Go.Shelf
set_option linter.unusedVariables false

theorem take_same {l m : List Int} {p : Nat} (hl : p ≤ l.length) (hm : p ≤ m.length) (h : ∀ i, i < p → l[i]?.getD 0 = m[i]?.getD 0) : l.take p = m.take p := by
  apply List.ext_getElem?
  intro i
  rw [List.getElem?_take, List.getElem?_take]
  by_cases hi : i < p
  · rw [if_pos hi, if_pos hi]
    have := h i hi
    rw [List.getElem?_eq_getElem (show i < l.length by omega), List.getElem?_eq_getElem (show i < m.length by omega)] at this ⊢
    simpa using this
  · rw [if_neg hi, if_neg hi]
theorem drop_same {l m : List Int} {s : Nat} (hl : s ≤ l.length) (hm : s ≤ m.length) (h : ∀ i, i < s → l[l.length - 1 - i]?.getD 0 = m[m.length - 1 - i]?.getD 0) : l.drop (l.length - s) = m.drop (m.length - s) := by
  apply List.ext_getElem?
  intro i
  rw [List.getElem?_drop, List.getElem?_drop]
  by_cases hi : i < s
  · have := h (s - 1 - i) (by omega)
    rw [show l.length - 1 - (s - 1 - i) = l.length - s + i from by omega, show m.length - 1 - (s - 1 - i) = m.length - s + i from by omega] at this
    rw [List.getElem?_eq_getElem (show l.length - s + i < l.length by omega), List.getElem?_eq_getElem (show m.length - s + i < m.length by omega)] at this ⊢
    simpa using this
  · rw [List.getElem?_eq_none (by omega), List.getElem?_eq_none (by omega)]
/-- The least edit leads from one text to the other. -/
theorem diff_leads {l m : List Int} {p s D : Nat} (hp : IsPre l m p) (hs : IsSuf l m p s) (hD : D = l.length - s - p) : l.take p ++ (m.drop p).take (m.length - s - p) ++ l.drop (p + D) = m := by
  obtain ⟨h1, h2, h3, _⟩ := hp
  obtain ⟨g1, g2, g3, _⟩ := hs
  rw [take_same h1 h2 h3, show p + D = l.length - s from by omega, drop_same (by omega) (by omega) g3]
  have e : m.drop (m.length - s) = (m.drop p).drop (m.length - s - p) := by rw [List.drop_drop]; congr 1; omega
  rw [e, List.append_assoc, List.take_append_drop, List.take_append_drop]
/-- No shorter one does. -/
theorem diff_least {l m : List Int} {p s : Nat} (hp : IsPre l m p) (hs : IsSuf l m p s) {at_ del many : Nat} (h1 : at_ + del ≤ l.length) (h2 : at_ + many ≤ m.length) (h3 : many + l.length = m.length + del) (h4 : del + many < (l.length - s - p) + (m.length - s - p)) :
    l.take at_ ++ (m.drop at_).take many ++ l.drop (at_ + del) ≠ m := by
  intro h
  obtain ⟨a1, a2, a3, a4⟩ := hp
  obtain ⟨b1, b2, b3, b4⟩ := hs
  have hpre : ∀ i, i < at_ → l[i]?.getD 0 = m[i]?.getD 0 := by
    intro i hi
    rw [← h, List.append_assoc, List.getElem?_append_left (by rw [List.length_take]; omega), List.getElem?_take, if_pos hi]
  have hap : at_ ≤ p := by
    rcases Nat.lt_or_ge p at_ with c | c
    · exact absurd (hpre p c) (a4 (by omega) (by omega))
    · exact c
  have hdr : m.drop (at_ + many) = l.drop (at_ + del) := by
    rw [← h]
    exact List.drop_left' (by rw [List.length_append, List.length_take, List.length_take, List.length_drop]; omega)
  have hq : l.length - (at_ + del) ≤ s ∨ p + s = l.length ∨ p + s = m.length := by
    rcases Nat.lt_or_ge s (l.length - (at_ + del)) with c | c
    · rcases Nat.lt_or_ge (p + s) l.length with d | d
      · rcases Nat.lt_or_ge (p + s) m.length with f | f
        · have e : l[l.length - 1 - s]?.getD 0 = m[m.length - 1 - s]?.getD 0 := by
            have e1 : (l.drop (at_ + del))[l.length - 1 - s - (at_ + del)]? = l[l.length - 1 - s]? := by rw [List.getElem?_drop]; congr 1; omega
            have e2 : (m.drop (at_ + many))[l.length - 1 - s - (at_ + del)]? = m[m.length - 1 - s]? := by rw [List.getElem?_drop]; congr 1; omega
            rw [← e1, ← e2, hdr]
          exact absurd e (b4 d f)
        · exact .inr (.inr (by omega))
      · exact .inr (.inl (by omega))
    · exact .inl c
  omega
theorem any_app {a b : List Int} (h1 : a.any strangeB = false) (h2 : b.any strangeB = false) : (a ++ b).any strangeB = false := by rw [List.any_append, h1, h2]; rfl
theorem any_take {a : List Int} (n : Nat) (h : a.any strangeB = false) : (a.take n).any strangeB = false := by
  rw [List.any_eq_false] at h ⊢
  exact fun x hx => h x (List.mem_of_mem_take hx)
theorem any_drop {a : List Int} (n : Nat) (h : a.any strangeB = false) : (a.drop n).any strangeB = false := by
  rw [List.any_eq_false] at h ⊢
  exact fun x hx => h x (List.mem_of_mem_drop hx)
/-- A value is a text: a row of symbols, not long. -/
def RT (W : World) (v : Value) : Prop := ∃ a c, ∃ zs : List Int, v = .slice a zs.length c ∧ Row .i64 W.heap.size W (.slice a zs.length c) zs ∧ zs.length ≤ 100 ∧ zs.any strangeB = false
theorem RT.step {W W' : World} {v : Value} (h : RT W v) (hb : Below W.heap.size W W') : RT W' v := by
  obtain ⟨a, c, zs, e, hr, h2⟩ := h
  exact ⟨a, c, zs, e, rowB hr hb, h2⟩
/-- Three texts in a slice. -/
def ThreeP (W : World) (g : Nat) : Prop := ∀ k, k < 3 → ∃ v, W.cell? ⟨g, k, none⟩ = some v ∧ RT W v
theorem ThreeP.step {W W' : World} {g : Nat} (h : ThreeP W g) (hb : Below W.heap.size W W') : ThreeP W' g := by
  intro k hk
  obtain ⟨v, hc, hr⟩ := h k hk
  exact ⟨v, cellB hc hb, hr.step hb⟩
theorem three_new {W : World} {t : TypeId} {v0 v1 v2 : Value} (h0 : RT W v0) (h1 : RT W v1) (h2 : RT W v2) : ThreeP (W.alloc (.cells #[v0, v1, v2] t)) W.heap.size := by
  intro k hk
  have hb := laidB (Below.refl W.heap.size W) (.cells #[v0, v1, v2] t)
  have hC := Cel.new W t #[v0, v1, v2]
  rcases k with _ | _ | _ | k
  · exact ⟨v0, hC.cell 0, h0.step hb⟩
  · exact ⟨v1, hC.cell 1, h1.step hb⟩
  · exact ⟨v2, hC.cell 2, h2.step hb⟩
  · omega
end Go.Proofs.Ytmfekbljfnjkgaa
