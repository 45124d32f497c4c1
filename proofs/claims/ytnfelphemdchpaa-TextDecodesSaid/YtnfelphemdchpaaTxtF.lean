/- Contracts of package text: Undo. -/
import Derived.Test.YtnfelphemdchpaaTxtE
namespace Go.Proofs.Ytnfelphemdchpaa
open Go.RowKit Go.Shelf
set_option linter.unusedVariables false

theorem row_drop_some {k : IntKind} {n₀ : Nat} {W : World} {ad : Addr} {n cap : Nat} {zs : List Int} (h : Row k n₀ W (.slice (some ad) n cap) zs) (j : Nat) (hj : j ≤ zs.length) :
    Row k n₀ W (.slice (some (ad.add j)) (n - j) (cap - j)) (zs.drop j) ∧ (j = n → Row k n₀ W (.slice (some ad) (n - j) (cap - j)) (zs.drop j)) := by
  rcases h with ⟨a', cap', e, h2, hn, rfl⟩ | ⟨b, off, cap', e, h1, h2, hb, hc⟩
  · simp at e
    obtain ⟨rfl, rfl, rfl⟩ := e
    have : j = 0 := by simpa using hj
    subst this
    exact ⟨row_empty rfl (by simp) (by omega) (fun h => by cases h), fun _ => row_empty rfl (by simp) (by omega) (fun h => by cases h)⟩
  · simp at e
    obtain ⟨rfl, rfl, rfl⟩ := e
    rw [show (⟨b, off, none⟩ : Addr).add j = ⟨b, off + j, none⟩ from by simp [Addr.add]]
    exact row_drop' (.inr ⟨b, off, cap, rfl, h1, h2, hb, hc⟩) j hj
theorem row_take_some {k : IntKind} {n₀ : Nat} {W : World} {a : Option Addr} {n cap : Nat} {zs : List Int} (h : Row k n₀ W (.slice a n cap) zs) (j : Nat) (hj : j ≤ zs.length) : Row k n₀ W (.slice a j cap) (zs.take j) := row_take' h j hj
theorem row_own2' {k : IntKind} {w : World} {base : Nat} {e : TypeId} {v : Value} {n : Nat} {zs : List Int} (h : w.ownsRow base e 1 v n (zs.map (Value.int k))) : RowP k (fun g => base ≤ g ∧ g < w.heap.size) w v zs := by
  obtain ⟨hl, h⟩ := h
  have hn : n = zs.length := by simpa using hl.symm
  subst hn
  rcases h with ⟨rfl, h0⟩ | ⟨g, cap, cur, rfl, hb, hg, hc, hm, hs, ht⟩
  · exact .inl ⟨none, 0, rfl, Nat.zero_le _, fun _ => rfl, by simpa using h0⟩
  · refine .inr ⟨g, 0, cap, rfl, hc, hm, ⟨hb, (Array.getElem?_eq_some_iff.1 hg).1⟩, fun j hj => ?_⟩
    have hcell : w.cell? ⟨g, 0 + j, none⟩ = cur[0 + j]? := by unfold World.cell?; rw [hg]; rfl
    rw [hcell, Nat.zero_add]
    have h1 : (cur.toList.take (zs.length * 1))[j]? = some (.int k (zs[j]?.getD 0)) := by rw [ht]; simp [hj]
    rw [List.getElem?_take] at h1
    simpa [hj] using h1
theorem row_set3 {k : IntKind} {n : Nat} {W : World} {sv : Value} {zs : List Int} {base : Nat} {e : TypeId} (h : W.ownsRow base e 1 sv n (zs.map (Value.int k))) (b : Nat) (hb : b < base) (u0 u1 u2 : Value) :
    Row k (((W.setCell ⟨b, 0, none⟩ u0).setCell ⟨b, 1, none⟩ u1).setCell ⟨b, 2, none⟩ u2).heap.size (((W.setCell ⟨b, 0, none⟩ u0).setCell ⟨b, 1, none⟩ u1).setCell ⟨b, 2, none⟩ u2) sv zs := by
  have h1 := (row_own2' h)
  have K := ((KeepP.setCell (fun g => base ≤ g ∧ g < W.heap.size) W ⟨b, 0, none⟩ u0 (fun q => by have := q.1; simp at this; omega)).trans (KeepP.setCell _ _ ⟨b, 1, none⟩ u1 (fun q => by have := q.1; simp at this; omega))).trans (KeepP.setCell _ _ ⟨b, 2, none⟩ u2 (fun q => by have := q.1; simp at this; omega))
  exact (h1.keep K).mono (fun g hg => by simp; exact hg.2)
theorem results_row_tmp {fn : Func} {p u : Tmp} {ty : TypeId} (h : fn.results = #[.cell p ty, .tmp u]) {P : Program} (tmps : Array Value) (w : World) (g : Nat) (cs : Array Value) (x : Value)
    (hp : tmps.getD p undef = .pointer (some ⟨g, 0, none⟩)) (hx : tmps.getD u undef = x) (hl : (loadVar ty ⟨g, 0, none⟩).run P w = .ok (.agg cs) w) :
    (results fn tmps).run P w = .ok (.tuple #[.agg cs, x]) w := by
  have hp' : tmps[p]?.getD undef = .pointer (some ⟨g, 0, none⟩) := by simpa using hp
  subst hx
  simp [results, h, hp', asAddr, hl]
/-- The edit that leads back; the zero edit with an error. -/
def undoM (l : List Int) (at_ del : Int) (ins : List Int) : Int × Int × List Int :=
  if checkI l at_ del ins = 0 then (at_, ins.length, (l.drop at_.toNat).take del.toNat) else (0, 0, [])
def UnPost (w : World) (R : Int × Int × List Int) (C : Int) (e : Ending) (w' : World) : Prop :=
  ∃ a cap, e = .returned (.tuple #[.agg #[.int .i64 R.1, .int .i64 R.2.1, .slice a R.2.2.length cap], .int .i64 C]) ∧ Row .i64 w'.heap.size w' (.slice a R.2.2.length cap) R.2.2 ∧ Below w.heap.size w w'
set_option maxRecDepth 100000 in
set_option maxHeartbeats 2000000 in
theorem undo_any (a : Option Addr) (cap : Nat) (l : List Int) (at_ del : Int) (ai : Option Addr) (ci : Nat) (ins : List Int) (w : World) (hr : Row .i64 w.heap.size w (.slice a l.length cap) l) (hri : Row .i64 w.heap.size w (.slice ai ins.length ci) ins)
    (hl : l.length ≤ 100000) (hil : ins.length ≤ 100000) (hwa : (Lit.int .i64 at_).wf = true) (hwd : (Lit.int .i64 del).wf = true) :
    Calls Try.prog 32 #[.slice a l.length cap, .agg #[.int .i64 at_, .int .i64 del, .slice ai ins.length ci]] w (UnPost w (undoM l at_ del ins) (checkI l at_ del ins)) := by
  have b0 := laidB (laidB (Below.refl w.heap.size w) (.cells #[.int .i64 at_, .int .i64 del, .slice ai ins.length ci] 43)) (.cells #[.int .i64 0, .int .i64 0, .slice none 0 0] 43)
  have C0 := (Cel.new w 43 #[.int .i64 at_, .int .i64 del, .slice ai ins.length ci]).alloc (.cells #[.int .i64 0, .int .i64 0, .slice none 0 0] 43)
  have D0 := Cel.new (w.alloc (.cells #[.int .i64 at_, .int .i64 del, .slice ai ins.length ci] 43)) 43 #[.int .i64 0, .int .i64 0, .slice none 0 0]
  rw [show (w.alloc (.cells #[.int .i64 at_, .int .i64 del, .slice ai ins.length ci] 43)).heap.size = w.heap.size + 1 from by simp] at D0
  have hr0 := rowB hr b0
  have hri0 := rowB hri b0
  generalize hR : undoM l at_ del ins = R
  have HR := Lib.hid hR
  clear hR
  go_enter Try.func32, Try.ntmps32
  go_wp2_with fail
  refine (check_any a cap l at_ del ai ci ins _ hr0 hri0 (by omega) (by omega) hwa hwd).mono ?_
  rintro e w1 ⟨rfl, hb⟩
  have b1 := stepB b0 hb
  have C1 := C0.step hb
  have D1 := D0.step hb
  have hr1 := rowB hr0 hb
  have hri1 := rowB hri0 hb
  have hlc := hr.lencap
  unfold maxLen at hlc
  clear b0 C0 D0 hr0 hri0 hb hr hri
  have f1 := D1.free
  have y0 : w1.cell? ⟨w.heap.size + 1, 0, none⟩ = some (.int .i64 0) := D1.cell 0
  have y1 : w1.cell? ⟨w.heap.size + 1, 1, none⟩ = some (.int .i64 0) := D1.cell 1
  have y2 : w1.cell? ⟨w.heap.size + 1, 2, none⟩ = some (.slice none 0 0) := D1.cell 2
  have g0 : w1.frozen? ⟨w.heap.size + 1, 0, none⟩ = false := D1.free 0
  have g1 : w1.frozen? ⟨w.heap.size + 1, 1, none⟩ = false := D1.free 1
  have g2 : w1.frozen? ⟨w.heap.size + 1, 2, none⟩ = false := D1.free 2
  have hws := D1.lt
  by_cases hc : checkI l at_ del ins = 0
  · have h0 := checkI_0 hc
    obtain ⟨k0, k1, k2, k3, k4, _⟩ := h0
    have hRR : R = (at_, (ins.length : Int), (l.drop at_.toNat).take del.toNat) := by rw [← HR.out]; unfold undoM; rw [if_pos hc]
    rw [hc]
    have HC := Lib.hid hc
    clear hc hwa hwd HR
    obtain ⟨p, rfl⟩ := Int.eq_ofNat_of_zero_le k0
    obtain ⟨q, rfl⟩ := Int.eq_ofNat_of_zero_le k1
    rw [Int.toNat_natCast, Int.toNat_natCast] at hRR
    have x0 : w1.cell? ⟨w.heap.size, 0, none⟩ = some (.int .i64 (p : Int)) := C1.cell 0
    have x1 : w1.cell? ⟨w.heap.size, 1, none⟩ = some (.int .i64 (q : Int)) := C1.cell 1
    have x2 : w1.cell? ⟨w.heap.size, 2, none⟩ = some (.slice ai ins.length ci) := C1.cell 2
    have hw1 : IntKind.i64.wrap ((p : Int) + (q : Int)) = (p : Int) + (q : Int) := IntWalk.i64_in _ (by omega)
    have hpq0 : (0 : Int) ≤ (p : Int) + (q : Int) := by omega
    have hpq1 : (p : Int) + (q : Int) ≤ l.length := by omega
    have hpq2 : (p : Int) + (q : Int) ≤ cap := by omega
    have hpq3 : (p : Int) ≤ (p : Int) + (q : Int) := by omega
    have hpq4 : ((p : Int) + (q : Int)).toNat = p + q := by omega
    have hpc : (p : Int) ≤ cap := by omega
    have hzl : ((l.drop p).take q).length ≤ 10000000 := by simp; omega
    have hzq : ((l.drop p).take q).length = q := by simp; omega
    have HZQ := Lib.hid hzq
    clear hzq
    dsimp only
    go_wp2_with fail
    have hnil : a = none → l = [] ∧ cap = 0 := by
      rintro rfl
      rcases hr1 with ⟨a', cap', e, _, hn, rfl⟩ | ⟨b, off, cap', e, _⟩
      · simp only [Value.slice.injEq] at e
        obtain ⟨rfl, _, rfl⟩ := e
        exact ⟨rfl, hn rfl⟩
      · simp at e
    have hnil : a = none → l = [] ∧ cap = 0 := by
      rintro rfl
      rcases hr1 with ⟨a', cap', e, _, hn, rfl⟩ | ⟨b, off, cap', e, _⟩
      · simp only [Value.slice.injEq] at e
        obtain ⟨rfl, _, rfl⟩ := e
        exact ⟨rfl, hn rfl⟩
      · simp at e
    have hnil : a = none → l = [] ∧ cap = 0 := by
      rintro rfl
      rcases hr1 with ⟨a', cap', e, _, hn, rfl⟩ | ⟨b, off, cap', e, _⟩
      · simp only [Value.slice.injEq] at e
        obtain ⟨rfl, _, rfl⟩ := e
        exact ⟨rfl, hn rfl⟩
      · simp at e
    have hnil : a = none → l = [] ∧ cap = 0 := by
      rintro rfl
      rcases hr1 with ⟨a', cap', e, _, hn, rfl⟩ | ⟨b, off, cap', e, _⟩
      · simp only [Value.slice.injEq] at e
        obtain ⟨rfl, _, rfl⟩ := e
        exact ⟨rfl, hn rfl⟩
      · simp at e
    rcases a with _ | ad
    · obtain ⟨hln, rfl⟩ := hnil rfl
      have HN := Lib.hid hln
      obtain rfl : p = 0 := by omega
      obtain rfl : q = 0 := by omega
      have hd : Row .i64 w1.drew.heap.size w1.drew (.slice none 0 0) ((l.drop 0).take 0) := row_empty rfl (by simp) (by decide) (fun _ => rfl)
      have hw0 : IntKind.i64.wrap 0 = 0 := by decide
      clear hpq0 hpq1 hpq2 hpq3 hpq4 hpc hw1 k0 k1 k2 k3 k4 hnil hln
      have hq1 : (0 : Int) ≤ l.length := by omega
      generalize hZ : (l.drop 0).take 0 = Z at *
      have HZ := Lib.hid hZ
      have HRR := Lib.hid hRR
      clear hZ hRR
      go_region_held3 (fun w' => w'.cell? ⟨w.heap.size, 0, none⟩ = some (.int .i64 0) ∧ w'.cell? ⟨w.heap.size, 1, none⟩ = some (.int .i64 0) ∧ w'.cell? ⟨w.heap.size, 2, none⟩ = some (.slice ai ins.length ci)) (first | go_keep) (first
        | (go_at_call 57; refine (cloneInts_any _ _ _ _ hd hzl).mono ?_; rintro e W2 ⟨a2, c2, rfl, hown, hrow, hb⟩; dsimp only; have hb2 := (Below.refl w1.heap.size w1).drew.trans hb; have z0 := cellB x0 hb2; have z1 := cellB x1 hb2; have z2 := cellB x2 hb2; have hs2 := hb2.size; have D2 := D1.step hb2; have u0 := D2.cell 0; have u1 := D2.cell 1; have u2 := D2.cell 2; have v0 := D2.free 0; have v1 := D2.free 1; have v2 := D2.free 2))
      clear x0 x1 x2 y0 y1 y2 g0 g1 g2 z0 z1 z2 u0 u1 u2 v0 v1 v2 f1
      go_wp2_with fail
      refine bodyPost_ret (v := .tuple #[.agg #[.int .i64 0, .int .i64 (ins.length : Int), .slice a2 Z.length c2], .int .i64 0]) (results_row_tmp rfl _ _ (w.heap.size + 1) _ _ rfl rfl (run_loadVar_row _ _ 43 _ _ (0, 0) _ (((D2.set 0 (.int .i64 0)).set 1 (.int .i64 (ins.length : Int))).set 2 (.slice a2 Z.length c2)) Try.underlying43 rfl rfl)) rfl ?_
      rw [HRR.out, show checkI [] 0 0 ins = 0 from by have h := HC.out; rw [HN.out] at h; exact h]
      refine ⟨a2, c2, rfl, ?_, (((stepB b1 hb2).setCell (p := ⟨w.heap.size + 1, 0, none⟩) (by simp) _).setCell (p := ⟨w.heap.size + 1, 1, none⟩) (by simp) _).setCell (p := ⟨w.heap.size + 1, 2, none⟩) (by simp) _⟩
      exact row_set3 hown _ hws _ _ _
    · clear hnil
      have hdr := row_drop_some hr1 p (by omega)
      by_cases hcp : cap = p
      · obtain rfl : q = 0 := by omega
        subst hcp
        have hd : Row .i64 w1.drew.heap.size w1.drew (.slice (some ad) 0 0) ((l.drop cap).take 0) := row_empty rfl (by simp) (by decide) (fun h => by cases h)
        have hw0 : IntKind.i64.wrap (cap : Int) = (cap : Int) := IntWalk.i64_in _ (by omega)
        have hq1 : (cap : Int) ≤ l.length := by omega
        have hq0 : (0 : Int) ≤ (cap : Int) := by omega
        clear hpq0 hpq1 hpq2 hpq3 hpq4 hpc hw1 k0 k1 k2 k3 k4 hdr
        generalize hZ : (l.drop cap).take 0 = Z at *
        have HZ := Lib.hid hZ
        have HRR := Lib.hid hRR
        clear hZ hRR
        go_region_held3 (fun w' => w'.cell? ⟨w.heap.size, 0, none⟩ = some (.int .i64 (cap : Int)) ∧ w'.cell? ⟨w.heap.size, 1, none⟩ = some (.int .i64 0) ∧ w'.cell? ⟨w.heap.size, 2, none⟩ = some (.slice ai ins.length ci)) (first | go_keep) (first
          | (go_at_call 57; refine (cloneInts_any _ _ _ _ hd hzl).mono ?_; rintro e W2 ⟨a2, c2, rfl, hown, hrow, hb⟩; dsimp only; have hb2 := (Below.refl w1.heap.size w1).drew.trans hb; have z0 := cellB x0 hb2; have z1 := cellB x1 hb2; have z2 := cellB x2 hb2; have hs2 := hb2.size; have D2 := D1.step hb2; have u0 := D2.cell 0; have u1 := D2.cell 1; have u2 := D2.cell 2; have v0 := D2.free 0; have v1 := D2.free 1; have v2 := D2.free 2))
        clear x0 x1 x2 y0 y1 y2 g0 g1 g2 z0 z1 z2 u0 u1 u2 v0 v1 v2 f1
        go_wp2_with fail
        refine bodyPost_ret (v := .tuple #[.agg #[.int .i64 (cap : Int), .int .i64 (ins.length : Int), .slice a2 Z.length c2], .int .i64 0]) (results_row_tmp rfl _ _ (w.heap.size + 1) _ _ rfl rfl (run_loadVar_row _ _ 43 _ _ (0, 0) _ (((D2.set 0 (.int .i64 (cap : Int))).set 1 (.int .i64 (ins.length : Int))).set 2 (.slice a2 Z.length c2)) Try.underlying43 rfl rfl)) rfl ?_
        rw [HRR.out, HC.out]
        refine ⟨a2, c2, rfl, ?_, (((stepB b1 hb2).setCell (p := ⟨w.heap.size + 1, 0, none⟩) (by simp) _).setCell (p := ⟨w.heap.size + 1, 1, none⟩) (by simp) _).setCell (p := ⟨w.heap.size + 1, 2, none⟩) (by simp) _⟩
        exact row_set3 hown _ hws _ _ _
      · have hd0 := row_take_some hdr.1 q (by simp; omega)
        have hd : Row .i64 w1.drew.heap.size w1.drew (.slice (some (ad.add p)) q (cap - p)) ((l.drop p).take q) := hd0
        clear hdr hd0
        generalize hZ : (l.drop p).take q = Z at *
        have HZ := Lib.hid hZ
        have HRR := Lib.hid hRR
        clear hZ hRR
        go_region_held3 (fun w' => w'.cell? ⟨w.heap.size, 0, none⟩ = some (.int .i64 (p : Int)) ∧ w'.cell? ⟨w.heap.size, 1, none⟩ = some (.int .i64 (q : Int)) ∧ w'.cell? ⟨w.heap.size, 2, none⟩ = some (.slice ai ins.length ci)) (first | go_keep) (first
          | (go_at_call 57; refine (cloneInts_any _ _ _ _ hd hzl).mono ?_; rintro e W2 ⟨a2, c2, rfl, hown, hrow, hb⟩; dsimp only; have hb2 := (Below.refl w1.heap.size w1).drew.trans hb; have z0 := cellB x0 hb2; have z1 := cellB x1 hb2; have z2 := cellB x2 hb2; have hs2 := hb2.size; have D2 := D1.step hb2; have u0 := D2.cell 0; have u1 := D2.cell 1; have u2 := D2.cell 2; have v0 := D2.free 0; have v1 := D2.free 1; have v2 := D2.free 2))
        clear x0 x1 x2 y0 y1 y2 g0 g1 g2 z0 z1 z2 u0 u1 u2 v0 v1 v2 f1
        go_wp2_with fail
        refine bodyPost_ret (v := .tuple #[.agg #[.int .i64 (p : Int), .int .i64 (ins.length : Int), .slice a2 Z.length c2], .int .i64 0]) (results_row_tmp rfl _ _ (w.heap.size + 1) _ _ rfl rfl (run_loadVar_row _ _ 43 _ _ (0, 0) _ (((D2.set 0 (.int .i64 (p : Int))).set 1 (.int .i64 (ins.length : Int))).set 2 (.slice a2 Z.length c2)) Try.underlying43 rfl rfl)) rfl ?_
        rw [HRR.out, HC.out]
        refine ⟨a2, c2, rfl, ?_, (((stepB b1 hb2).setCell (p := ⟨w.heap.size + 1, 0, none⟩) (by simp) _).setCell (p := ⟨w.heap.size + 1, 1, none⟩) (by simp) _).setCell (p := ⟨w.heap.size + 1, 2, none⟩) (by simp) _⟩
        exact row_set3 hown _ hws _ _ _
  · have hRR : R = (0, 0, []) := by rw [← HR.out]; unfold undoM; rw [if_neg hc]
    have hne : (checkI l at_ del ins != 0) = true := by simpa using hc
    have HC := Lib.hid hc
    clear hc hwa hwd HR
    subst hRR
    generalize checkI l at_ del ins = C at *
    dsimp only
    go_wp2_with fail
    refine bodyPost_ret (v := .tuple #[.agg #[.int .i64 0, .int .i64 0, .slice none 0 0], .int .i64 C]) (results_row_tmp rfl _ _ (w.heap.size + 1) _ _ rfl rfl (run_loadVar_row _ _ 43 _ _ (0, 0) _ (((D1.set 0 (.int .i64 0)).set 1 (.int .i64 0)).set 2 (.slice none 0 0)) Try.underlying43 rfl rfl)) rfl ?_
    refine ⟨none, 0, rfl, row_empty rfl rfl (by decide) (fun _ => rfl), ?_⟩
    exact ((b1.setCell (p := ⟨w.heap.size + 1, 0, none⟩) (by simp) _).setCell (p := ⟨w.heap.size + 1, 1, none⟩) (by simp) _).setCell (p := ⟨w.heap.size + 1, 2, none⟩) (by simp) _
end Go.Proofs.Ytnfelphemdchpaa
