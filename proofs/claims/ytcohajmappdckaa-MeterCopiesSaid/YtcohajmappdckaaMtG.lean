/- Package meter: plain facts for Shares' walk. -/
import Derived.Test.YtcohajmappdckaaMtE
namespace Go.Proofs.Ytcohajmappdckaa
open Go.RowKit Go.Shelf
set_option linter.unusedVariables false

theorem sum_take {l : List Int} (h : ∀ x ∈ l, 0 ≤ x) : ∀ k : Nat, 0 ≤ (l.take k).sum ∧ (l.take k).sum ≤ l.sum := by
  induction l with
  | nil => intro k; simp
  | cons a l ih =>
    intro k
    have h0 := h a (List.mem_cons_self ..)
    cases k with
    | zero =>
      have := ih (fun x hx => h x (List.mem_cons_of_mem _ hx)) 0
      simp at this ⊢
      omega
    | succ k =>
      have := ih (fun x hx => h x (List.mem_cons_of_mem _ hx)) k
      simp at this ⊢
      omega
theorem sum_take_succ (l : List Int) (k : Nat) (hk : k < l.length) : (l.take (k + 1)).sum = (l.take k).sum + l[k]?.getD 0 := by
  rw [List.take_succ_eq_append_getElem hk, List.sum_append]
  simp [hk]
theorem sum_all (l : List Int) (k : Nat) (hk : l.length ≤ k) : (l.take k).sum = l.sum := by rw [List.take_of_length_le hk]
/-- A row that is filled from its beginning on. -/
def fillL (A : List Int) (k : Nat) : List Int := A.take k ++ List.replicate (A.length - k) 0
theorem fill_len (A : List Int) (k : Nat) (hk : k ≤ A.length) : (fillL A k).length = A.length := by unfold fillL; simp; omega
theorem fill_zero (A : List Int) : fillL A 0 = List.replicate A.length 0 := by unfold fillL; simp
theorem fill_all (A : List Int) : fillL A A.length = A := by unfold fillL; simp
theorem fill_set (A : List Int) (k : Nat) (hk : k < A.length) : (fillL A k).set k (A[k]?.getD 0) = fillL A (k + 1) := by
  unfold fillL
  have h1 : (A.take k).length = k := by simp; omega
  rw [List.set_append, if_neg (by omega), h1, Nat.sub_self, show A.length - k = A.length - (k + 1) + 1 from by omega, List.replicate_succ, List.set_cons_zero, List.take_succ_eq_append_getElem hk, List.append_assoc, List.getElem?_eq_getElem hk]
  rfl
theorem fill_at (A : List Int) (k : Nat) (hk : k < A.length) : (fillL A (k + 1))[k]?.getD 0 = A[k]?.getD 0 := by
  unfold fillL
  rw [List.getElem?_append_left (by simp; omega), List.getElem?_take, if_pos (by omega)]
/-- A row of numbers in a block known whole. -/
def celI (zs : List Int) : Array Value := (zs.map (Value.int .i64)).toArray
theorem celI_set (zs : List Int) (i : Nat) (x : Int) : (celI zs).setIfInBounds i (.int .i64 x) = celI (zs.set i x) := by
  unfold celI; rw [List.map_set]; simp
theorem cel_at {W : World} {b : Nat} {t : TypeId} {zs : List Int} (h : Cel W b t (celI zs)) (i : Nat) (hi : i < zs.length) : W.cell? ⟨b, i, none⟩ = some (.int .i64 (zs[i]?.getD 0)) := by
  rw [h.cell i]; unfold celI; simp [hi]
theorem cel_put {W : World} {b : Nat} {t : TypeId} {zs : List Int} (h : Cel W b t (celI zs)) (i : Nat) (x : Int) : Cel (W.setCell ⟨b, i, none⟩ (.int .i64 x)) b t (celI (zs.set i x)) := by
  have := h.set i (.int .i64 x)
  rwa [celI_set] at this
theorem row_of_cel {W : World} {b : Nat} {t : TypeId} {zs : List Int} (h : Cel W b t (celI zs)) (hm : zs.length ≤ maxLen) : Row .i64 W.heap.size W (.slice (some ⟨b, 0, none⟩) zs.length zs.length) zs :=
  .inr ⟨b, 0, zs.length, rfl, Nat.le_refl _, hm, h.lt, fun j hj => by rw [Nat.zero_add]; exact cel_at h j hj⟩
/-- The numbers from 0 on. -/
def upI (n : Nat) : List Int := (List.range n).map Int.ofNat
theorem upI_len (n : Nat) : (upI n).length = n := by simp [upI]
theorem upI_at (n k : Nat) (hk : k < n) : (upI n)[k]?.getD 0 = (k : Int) := by simp [upI, hk]
theorem strange_no {ws : List Int} (h : ∀ x ∈ ws, 0 ≤ x ∧ x ≤ 1048576) : ws.any strangeM = false := by
  rw [List.any_eq_false]
  intro x hx
  have := h x hx
  unfold strangeM
  rw [outB_no this.1 this.2]
  simp
theorem ShB.setS {W : World} {bT bw bS : Nat} {T S : Int} {a : Option Addr} {cap : Nat} {ws : List Int} (h : ShB W bT bw bS T S a cap ws) (h1 : bT < bw) (h2 : bw < bS) (x : Int) : ShB (W.setCell ⟨bS, 0, none⟩ (.int .i64 x)) bT bw bS T x a cap ws := by
  have ho : OnlyP (fun k => k = bS) W (W.setCell ⟨bS, 0, none⟩ (.int .i64 x)) := OnlyP.set _ _ _ _ rfl
  refine ⟨h.cT.only ho (by omega), h.cw.only ho (by omega), ?_, RowP.below (ho.below (Nat.le_of_lt h.cT.lt) (fun k e => by omega)) h.row⟩
  exact h.cS.set 0 (.int .i64 x)
theorem shB_new (w : World) (T : Int) (a : Option Addr) (cap : Nat) (ws : List Int) (hr : Row .i64 w.heap.size w (.slice a ws.length cap) ws) :
    ShB (((w.alloc (.cells #[.int .i64 T] 3)).alloc (.cells #[.slice a ws.length cap] 22)).alloc (.cells #[.int .i64 0] 3)) w.heap.size (w.heap.size + 1) (w.heap.size + 1 + 1) T 0 a cap ws := by
  have c1 := Cel.new w 3 #[.int .i64 T]
  have c2 := Cel.new (w.alloc (.cells #[.int .i64 T] 3)) 22 #[.slice a ws.length cap]
  have c3 := Cel.new ((w.alloc (.cells #[.int .i64 T] 3)).alloc (.cells #[.slice a ws.length cap] 22)) 3 #[.int .i64 0]
  rw [World.size_alloc] at c2 c3
  rw [World.size_alloc] at c3
  exact ⟨(c1.alloc _).alloc _, c2.alloc _, c3, RowP.below (((Below.refl _ _).alloc (Nat.le_refl _) _).alloc (by simp) _ |>.alloc (by simp; omega) _) hr⟩
theorem base_le (T : Int) (ws : List Int) (hS : 0 < ws.sum) : (baseM T ws.sum ws).sum ≤ T := by
  have := left_rng T ws hS
  omega
theorem baseM_at (T S : Int) (ws : List Int) (k : Nat) (hk : k < ws.length) : (baseM T S ws)[k]?.getD 0 = T * (ws[k]?.getD 0) / S := by
  unfold baseM qM
  rw [List.getElem?_map, List.getElem?_eq_getElem hk]
  rfl
theorem baseM_mem (T S : Int) (ws : List Int) (hT : 0 ≤ T) (hS : 0 < S) (hw : ∀ w ∈ ws, 0 ≤ w) : ∀ x ∈ baseM T S ws, 0 ≤ x := by
  intro x hx
  obtain ⟨w, h, rfl⟩ := List.mem_map.1 hx
  exact Int.ediv_nonneg (Int.mul_nonneg hT (hw w h)) (by omega)
theorem bump_at (is : List Nat) : ∀ (l : List Int) (B : Int), (∀ i : Nat, 0 ≤ l[i]?.getD 0 ∧ l[i]?.getD 0 ≤ B) → ∀ i : Nat, 0 ≤ (bump l is)[i]?.getD 0 ∧ (bump l is)[i]?.getD 0 ≤ B + is.length := by
  induction is with
  | nil => intro l B h i; simpa [bump] using h i
  | cons j is ih =>
    intro l B h i
    have := ih (l.set j (l[j]?.getD 0 + 1)) (B + 1) (fun k => by
      have h1 := h j
      have h2 := h k
      rw [List.getElem?_set]
      split
      · split
        · simp; omega
        · simp; omega
      · omega) i
    simp only [bump, List.foldl_cons, List.length_cons] at this ⊢
    omega
end Go.Proofs.Ytcohajmappdckaa
