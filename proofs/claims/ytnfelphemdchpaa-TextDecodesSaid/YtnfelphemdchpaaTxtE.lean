/- Contracts of package text: Splice, Undo. -/
import Derived.Test.YtnfelphemdchpaaTxtD
namespace Go.Proofs.Ytnfelphemdchpaa
open Go.RowKit Go.Shelf
set_option linter.unusedVariables false

/-- The text behind an edit; none with an error. -/
def spliceL (l : List Int) (at_ del : Int) (ins : List Int) : List Int :=
  if checkI l at_ del ins = 0 then l.take at_.toNat ++ ins ++ l.drop (at_ + del).toNat else []
theorem checkI_0 {l : List Int} {at_ del : Int} {ins : List Int} (h : checkI l at_ del ins = 0) : 0 ≤ at_ ∧ 0 ≤ del ∧ at_ ≤ l.length ∧ at_ + del ≤ l.length ∧ (l.length : Int) - del + ins.length ≤ 65536 ∧ ins.any strangeB = false := by
  unfold checkI at h
  split at h
  · cases h
  · split at h
    · cases h
    · split at h
      · cases h
      · refine ⟨by omega, by omega, by omega, by omega, by omega, by simp_all⟩
theorem row_take' {k : IntKind} {n₀ : Nat} {W : World} {a : Option Addr} {n cap : Nat} {zs : List Int} (h : Row k n₀ W (.slice a n cap) zs) (j : Nat) (hj : j ≤ zs.length) : Row k n₀ W (.slice a j cap) (zs.take j) := by
  rcases h with ⟨a', cap', e, h2, hn, rfl⟩ | ⟨b, off, cap', e, h1, h2, hb, hc⟩
  · simp at e
    obtain ⟨rfl, rfl, rfl⟩ := e
    have : j = 0 := by simpa using hj
    subst this
    exact .inl ⟨_, _, rfl, h2, hn, rfl⟩
  · simp at e
    obtain ⟨rfl, rfl, rfl⟩ := e
    refine .inr ⟨b, off, cap, by rw [List.length_take, Nat.min_eq_left hj], by rw [List.length_take]; omega, h2, hb, fun i hi => ?_⟩
    rw [List.length_take] at hi
    rw [hc i (by omega), List.getElem?_take]
    rw [if_pos (by omega)]
theorem row_drop' {k : IntKind} {n₀ : Nat} {W : World} {b off n cap : Nat} {zs : List Int} (h : Row k n₀ W (.slice (some ⟨b, off, none⟩) n cap) zs) (j : Nat) (hj : j ≤ zs.length) :
    Row k n₀ W (.slice (some ⟨b, off + j, none⟩) (n - j) (cap - j)) (zs.drop j) ∧ (j = n → Row k n₀ W (.slice (some ⟨b, off, none⟩) (n - j) (cap - j)) (zs.drop j)) := by
  have hn := h.len
  have hlc := h.lencap
  subst hn
  constructor
  · rcases Nat.lt_or_ge j zs.length with h1 | h1
    · obtain ⟨b', off', e, hb, hc⟩ := h.at (by omega)
      simp at e
      obtain ⟨rfl, rfl⟩ := e
      refine .inr ⟨b, off + j, cap - j, by rw [List.length_drop], by rw [List.length_drop]; omega, by omega, hb, fun i hi => ?_⟩
      rw [List.length_drop] at hi
      rw [show off + j + i = off + (j + i) from by omega, hc (j + i) (by omega), List.getElem?_drop]
    · have : zs.drop j = [] := List.drop_eq_nil_of_le h1
      rw [this, show zs.length - j = 0 from by omega]
      exact .inl ⟨_, _, rfl, by omega, (fun h => by cases h), rfl⟩
  · intro hjn
    have : zs.drop j = [] := List.drop_eq_nil_of_le (by omega)
    rw [this, show zs.length - j = 0 from by omega]
    exact .inl ⟨_, _, rfl, by omega, (fun h => by cases h), rfl⟩
theorem owns_base' {w : World} {base base' : Nat} {e : TypeId} {size : Nat} {v : Value} {n : Nat} {xs : List Value} (h : w.ownsRow base e size v n xs) (hb : base' ≤ base) : w.ownsRow base' e size v n xs := by
  refine ⟨h.1, ?_⟩
  rcases h.2 with hn | ⟨g, cap, cur, rfl, h1, rest⟩
  · exact .inl hn
  · exact .inr ⟨g, cap, cur, rfl, Nat.le_trans hb h1, rest⟩
theorem row_empty {k : IntKind} {n₀ : Nat} {W : World} {a : Option Addr} {n cap : Nat} {zs : List Int} (hn : n = 0) (hz : zs = []) (hc : cap ≤ maxLen) (ha : a = none → cap = 0) : Row k n₀ W (.slice a n cap) zs := by
  subst hn hz
  exact .inl ⟨_, _, rfl, hc, ha, rfl⟩
theorem rows3 {W : World} {s0 s1 s2 : Value} {e : TypeId} {z0 z1 z2 : List Int} (h0 : Row .i64 W.heap.size W s0 z0) (h1 : Row .i64 W.heap.size W s1 z1) (h2 : Row .i64 W.heap.size W s2 z2) :
    RowsAt (W.alloc (.cells #[s0, s1, s2] e)) W.heap.size [z0, z1, z2] := by
  have b := laidB (Below.refl W.heap.size W) (.cells #[s0, s1, s2] e)
  have C := Cel.new W e #[s0, s1, s2]
  obtain ⟨a0, c0, rfl⟩ := row_slice h0
  obtain ⟨a1, c1, rfl⟩ := row_slice h1
  obtain ⟨a2, c2, rfl⟩ := row_slice h2
  intro k z hz
  match k, hz with
  | 0, hz => simp at hz; subst hz; exact ⟨a0, c0, C.cell 0, rowB h0 b⟩
  | 1, hz => simp at hz; subst hz; exact ⟨a1, c1, C.cell 1, rowB h1 b⟩
  | 2, hz => simp at hz; subst hz; exact ⟨a2, c2, C.cell 2, rowB h2 b⟩
  | k + 3, hz => simp at hz
theorem rows3d {W : World} {s0 s1 s2 : Value} {e : TypeId} {z0 z1 z2 : List Int} (h0 : Row .i64 W.heap.size W s0 z0) (h1 : Row .i64 W.heap.size W s1 z1) (h2 : Row .i64 W.heap.size W s2 z2) :
    RowsAt (W.alloc (.cells #[s0, s1, s2] e)).drew W.heap.size [z0, z1, z2] := rows3 h0 h1 h2
def SpPost (w : World) (l : List Int) (at_ del : Int) (ins : List Int) (e : Ending) (w' : World) : Prop :=
  ∃ v, e = .returned (.tuple #[v, .int .i64 (checkI l at_ del ins)]) ∧ w'.ownsRow w.heap.size 3 1 v (spliceL l at_ del ins).length ((spliceL l at_ del ins).map (Value.int .i64)) ∧ Below w.heap.size w w'
set_option maxHeartbeats 2000000 in
theorem splice_any (a : Option Addr) (cap : Nat) (l : List Int) (at_ del : Int) (ai : Option Addr) (ci : Nat) (ins : List Int) (w : World) (hr : Row .i64 w.heap.size w (.slice a l.length cap) l) (hri : Row .i64 w.heap.size w (.slice ai ins.length ci) ins)
    (hl : l.length ≤ 100000) (hil : ins.length ≤ 100000) (hwa : (Lit.int .i64 at_).wf = true) (hwd : (Lit.int .i64 del).wf = true) :
    Calls Try.prog 24 #[.slice a l.length cap, .agg #[.int .i64 at_, .int .i64 del, .slice ai ins.length ci]] w (SpPost w l at_ del ins) := by
  have b0 := laidB (Below.refl w.heap.size w) (.cells #[.int .i64 at_, .int .i64 del, .slice ai ins.length ci] 43)
  have C0 := Cel.new w 43 #[.int .i64 at_, .int .i64 del, .slice ai ins.length ci]
  have hr0 := rowB hr b0
  have hri0 := rowB hri b0
  go_enter Try.func24, Try.ntmps24
  go_wp2_with fail
  refine (check_any a cap l at_ del ai ci ins _ hr0 hri0 (by omega) (by omega) hwa hwd).mono ?_
  rintro e w1 ⟨rfl, hb⟩
  have b1 := stepB b0 hb
  have C1 := C0.step hb
  have hr1 := rowB hr0 hb
  have hri1 := rowB hri0 hb
  have hlc := hr.lencap
  unfold maxLen at hlc
  clear b0 C0 hr0 hri0 hb hr hri
  have hsp : spliceL l at_ del ins = if checkI l at_ del ins = 0 then l.take at_.toNat ++ ins ++ l.drop (at_ + del).toNat else [] := rfl
  have fin : ∀ v W, W.ownsRow w.heap.size 3 1 v (spliceL l at_ del ins).length ((spliceL l at_ del ins).map (Value.int .i64)) → Below w.heap.size w W → SpPost w l at_ del ins (.returned (.tuple #[v, .int .i64 (checkI l at_ del ins)])) W := fun v W h1 h2 => ⟨v, rfl, h1, h2⟩
  have FIN := Lib.hid fin
  have HSP := Lib.hid hsp
  clear fin hsp
  by_cases hc : checkI l at_ del ins = 0
  · have h0 := checkI_0 hc
    obtain ⟨k0, k1, k2, k3, k4, _⟩ := h0
    have hS : spliceL l at_ del ins = l.take at_.toNat ++ ins ++ l.drop (at_ + del).toNat := by rw [HSP.out, if_pos hc]
    rw [hc] at FIN
    rw [hS] at FIN
    rw [hc]
    have HC := Lib.hid hc
    clear hc hS HSP hwa hwd
    obtain ⟨p, rfl⟩ := Int.eq_ofNat_of_zero_le k0
    obtain ⟨q, rfl⟩ := Int.eq_ofNat_of_zero_le k1
    rw [Int.toNat_natCast, show ((p : Int) + (q : Int)).toNat = p + q from by omega] at FIN
    have x0 : w1.cell? ⟨w.heap.size, 0, none⟩ = some (.int .i64 (p : Int)) := C1.cell 0
    have x1 : w1.cell? ⟨w.heap.size, 1, none⟩ = some (.int .i64 (q : Int)) := C1.cell 1
    have x2 : w1.cell? ⟨w.heap.size, 2, none⟩ = some (.slice ai ins.length ci) := C1.cell 2
    have hrt := row_take' hr1 p (by omega)
    have hw1 : IntKind.i64.wrap ((p : Int) + (q : Int)) = (p : Int) + (q : Int) := IntWalk.i64_in _ (by omega)
    have hpq0 : (0 : Int) ≤ (p : Int) + (q : Int) := by omega
    have hpq1 : (p : Int) + (q : Int) ≤ l.length := by omega
    have hpq2 : (p : Int) + (q : Int) ≤ cap := by omega
    have hpq3 : ((p : Int) + (q : Int)).toNat = p + q := by omega
    have hpc : (p : Int) ≤ cap := by omega
    have hws := C1.lt
    have hlen : ([l.take p, ins, l.drop (p + q)] : List (List Int)).flatten.length ≤ 300000 := by simp; omega
    have hfl : ([l.take p, ins, l.drop (p + q)] : List (List Int)).flatten = l.take p ++ ins ++ l.drop (p + q) := by simp
    have HFL := Lib.hid hfl
    clear hfl C1
    dsimp only
    go_wp2_with fail
    have BB : ∀ (o : Obj) (W : World), Below (w1.alloc o).drew.heap.size (w1.alloc o).drew W → Below w.heap.size w W := fun o W h => stepB (laidB b1 o).drew h
    have OO : ∀ (o : Obj) (v : Value) (W : World), W.ownsRow (w1.alloc o).drew.heap.size 3 1 v ([l.take p, ins, l.drop (p + q)] : List (List Int)).flatten.length (([l.take p, ins, l.drop (p + q)] : List (List Int)).flatten.map (Value.int .i64)) → W.ownsRow w.heap.size 3 1 v (l.take p ++ ins ++ l.drop (p + q)).length ((l.take p ++ ins ++ l.drop (p + q)).map (Value.int .i64)) := by
      intro o v W h
      rw [HFL.out] at h
      exact owns_base' h (by simp; omega)
    have GS : ∀ o : Obj, w1.heap.size < (w1.alloc o).drew.heap.size := fun o => by simp
    have H3 : ([l.take p, ins, l.drop (p + q)] : List (List Int)).length ≤ 1000 := by simp
    have CC : ∀ (o : Obj) (W : World) (pa : Addr) (v : Value), Below (w1.alloc o).drew.heap.size (w1.alloc o).drew W → w1.cell? pa = some v → W.cell? pa = some v := fun o W pa v h hc => cellB (cellB hc ((Below.refl _ w1).alloc (Nat.le_refl _) _).drew) h
    rcases hr1 with ⟨a', cap', e, hcm, hnc, hnil⟩ | ⟨b, off, cap', e, h1, h2, hbn, hcs⟩
    · simp only [Value.slice.injEq] at e
      obtain ⟨rfl, hln, rfl⟩ := e
      have HN := Lib.hid hnil
      clear hnil
      rcases a with _ | ⟨b, off, pa⟩
      · have hc0 : cap = 0 := hnc rfl
        have hd : Row .i64 w1.heap.size w1 (.slice none 0 0) (l.drop (p + q)) := row_empty rfl (by rw [HN.out]; simp) (by decide) (fun _ => rfl)
        obtain rfl : p = 0 := by omega
        obtain rfl : q = 0 := by omega
        subst hc0
        have hw0 : IntKind.i64.wrap 0 = 0 := by decide
        clear hpq0 hpq1 hpq2 hpq3 hpc hw1 k0 k1 k2 k3 k4 hnc
        have hq1 : (0 : Int) ≤ l.length := by omega
        have hrs := rows3d (e := 22) hrt hri1 hd
        go_region_held3 (fun w' => w'.cell? ⟨w.heap.size, 0, none⟩ = some (.int .i64 0) ∧ w'.cell? ⟨w.heap.size, 1, none⟩ = some (.int .i64 0) ∧ w'.cell? ⟨w.heap.size, 2, none⟩ = some (.slice ai ins.length ci)) (first | go_keep) (first
          | (go_at_call 55; refine (concat_any _ [l.take 0, ins, l.drop (0 + 0)] _ (GS _) hrs H3 hlen).mono ?_; rintro e W2 ⟨v, rfl, hown, hb2⟩; dsimp only; have y0 := CC _ _ _ _ hb2 x0; have y1 := CC _ _ _ _ hb2 x1; have y2 := CC _ _ _ _ hb2 x2))
        have b2 := BB _ _ hb2
        have hown2 := OO _ _ _ hown
        clear hb2 hown y0 y1 y2 hrs x0 x1 x2 hd hrt hri1
        go_wp2_with fail
        go_ret2
        exact FIN.out _ _ hown2 b2
      · by_cases hcq : cap = p + q
        · have hd : Row .i64 w1.heap.size w1 (.slice (some ⟨b, off, pa⟩) 0 0) (l.drop (p + q)) := row_empty rfl (by rw [HN.out]; simp) (by decide) (fun h => by cases h)
          have hw2 : IntKind.i64.wrap ((p : Int) + (q : Int)) = (cap : Int) := by rw [hw1]; omega
          have hq1 : (cap : Int) ≤ l.length := by omega
          have hq0 : (0 : Int) ≤ (cap : Int) := by omega
          clear hw1 hcq hpq0 hpq1 hpq2 hpq3 hln
          have hrs := rows3d (e := 22) hrt hri1 hd
          go_region_held3 (fun w' => w'.cell? ⟨w.heap.size, 0, none⟩ = some (.int .i64 (p : Int)) ∧ w'.cell? ⟨w.heap.size, 1, none⟩ = some (.int .i64 (q : Int)) ∧ w'.cell? ⟨w.heap.size, 2, none⟩ = some (.slice ai ins.length ci)) (first | go_keep) (first
            | (go_at_call 55; refine (concat_any _ [l.take p, ins, l.drop (p + q)] _ (GS _) hrs H3 hlen).mono ?_; rintro e W2 ⟨v, rfl, hown, hb2⟩; dsimp only; have y0 := CC _ _ _ _ hb2 x0; have y1 := CC _ _ _ _ hb2 x1; have y2 := CC _ _ _ _ hb2 x2))
          have b2 := BB _ _ hb2
          have hown2 := OO _ _ _ hown
          clear hb2 hown y0 y1 y2 hrs x0 x1 x2 hd hrt hri1
          go_wp2_with fail
          go_ret2
          exact FIN.out _ _ hown2 b2
        · have hd : Row .i64 w1.heap.size w1 (.slice (some (Addr.add ⟨b, off, pa⟩ (p + q))) (l.length - (p + q)) (cap - (p + q))) (l.drop (p + q)) := row_empty (by omega) (by rw [HN.out]; simp) (by omega) (fun h => by cases h)
          clear hln
          have hrs := rows3d (e := 22) hrt hri1 hd
          go_region_held3 (fun w' => w'.cell? ⟨w.heap.size, 0, none⟩ = some (.int .i64 (p : Int)) ∧ w'.cell? ⟨w.heap.size, 1, none⟩ = some (.int .i64 (q : Int)) ∧ w'.cell? ⟨w.heap.size, 2, none⟩ = some (.slice ai ins.length ci)) (first | go_keep) (first
            | (go_at_call 55; refine (concat_any _ [l.take p, ins, l.drop (p + q)] _ (GS _) hrs H3 hlen).mono ?_; rintro e W2 ⟨v, rfl, hown, hb2⟩; dsimp only; have y0 := CC _ _ _ _ hb2 x0; have y1 := CC _ _ _ _ hb2 x1; have y2 := CC _ _ _ _ hb2 x2))
          have b2 := BB _ _ hb2
          have hown2 := OO _ _ _ hown
          clear hb2 hown y0 y1 y2 hrs x0 x1 x2 hd hrt hri1
          go_wp2_with fail
          go_ret2
          exact FIN.out _ _ hown2 b2
    · simp only [Value.slice.injEq] at e
      obtain ⟨rfl, _, rfl⟩ := e
      have hr1' : Row .i64 w1.heap.size w1 (.slice (some ⟨b, off, none⟩) l.length cap) l := .inr ⟨b, off, cap, rfl, h1, h2, hbn, hcs⟩
      have hdr := row_drop' hr1' (p + q) (by omega)
      clear hcs hr1'
      by_cases hcq : cap = p + q
      · have hd := hdr.2 (by omega)
        clear hdr
        rw [show cap - (p + q) = 0 from by omega, show p + q = cap from hcq.symm, show l.length - cap = 0 from by omega] at hd
        rw [← hcq] at HFL hlen FIN OO H3
        have hw2 : IntKind.i64.wrap ((p : Int) + (q : Int)) = (cap : Int) := by rw [hw1]; omega
        have hq1 : (cap : Int) ≤ l.length := by omega
        have hq0 : (0 : Int) ≤ (cap : Int) := by omega
        clear hw1 hcq hpq0 hpq1 hpq2 hpq3
        have hrs := rows3d (e := 22) hrt hri1 hd
        go_region_held3 (fun w' => w'.cell? ⟨w.heap.size, 0, none⟩ = some (.int .i64 (p : Int)) ∧ w'.cell? ⟨w.heap.size, 1, none⟩ = some (.int .i64 (q : Int)) ∧ w'.cell? ⟨w.heap.size, 2, none⟩ = some (.slice ai ins.length ci)) (first | go_keep) (first
          | (go_at_call 55; refine (concat_any _ [l.take p, ins, l.drop cap] _ (GS _) hrs H3 hlen).mono ?_; rintro e W2 ⟨v, rfl, hown, hb2⟩; dsimp only; have y0 := CC _ _ _ _ hb2 x0; have y1 := CC _ _ _ _ hb2 x1; have y2 := CC _ _ _ _ hb2 x2))
        have b2 := BB _ _ hb2
        have hown2 := OO _ _ _ hown
        clear hb2 hown y0 y1 y2 hrs x0 x1 x2 hd hrt hri1
        go_wp2_with fail
        go_ret2
        exact FIN.out _ _ hown2 b2
      · have hd := hdr.1
        clear hdr
        have hrs := rows3d (e := 22) hrt hri1 hd
        go_region_held3 (fun w' => w'.cell? ⟨w.heap.size, 0, none⟩ = some (.int .i64 (p : Int)) ∧ w'.cell? ⟨w.heap.size, 1, none⟩ = some (.int .i64 (q : Int)) ∧ w'.cell? ⟨w.heap.size, 2, none⟩ = some (.slice ai ins.length ci)) (first | go_keep) (first
          | (go_at_call 55; refine (concat_any _ [l.take p, ins, l.drop (p + q)] _ (GS _) hrs H3 hlen).mono ?_; rintro e W2 ⟨v, rfl, hown, hb2⟩; dsimp only; have y0 := CC _ _ _ _ hb2 x0; have y1 := CC _ _ _ _ hb2 x1; have y2 := CC _ _ _ _ hb2 x2))
        have b2 := BB _ _ hb2
        have hown2 := OO _ _ _ hown
        clear hb2 hown y0 y1 y2 hrs x0 x1 x2 hd hrt hri1
        go_wp2_with fail
        go_ret2
        exact FIN.out _ _ hown2 b2
  · have hS : spliceL l at_ del ins = [] := by rw [HSP.out, if_neg hc]
    rw [hS] at FIN
    have hne : (checkI l at_ del ins != 0) = true := by simpa using hc
    have HC := Lib.hid hc
    clear hc hS HSP hwa hwd
    generalize checkI l at_ del ins = C at *
    dsimp only
    go_wp2_with fail
    go_ret2
    exact FIN.out (.slice none 0 0) _ (World.ownsRow_nil _ _ _ _) b1
end Go.Proofs.Ytnfelphemdchpaa
