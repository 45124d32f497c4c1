/- Contracts for package edits: the reference's Join. -/
import Derived.Test.YtmfekbljfnjkgaaEdN
namespace Go.Proofs.Ytmfekbljfnjkgaa
open Go.RowKit Go.Shelf
set_option linter.unusedVariables false

/-- A row that lies in another block than the box stays when the box is written. -/
theorem row_far3 {k : IntKind} {n : Nat} {W : World} {zs : List Int} {sv : Value} (h : Row k n W sv zs) (ad : Addr) (j len cap : Nat) (hv : sv = .slice (some (ad.add j)) len cap) (b : Nat) (hb : b < ad.block) (u0 u1 u2 : Value) (hn : n = W.heap.size := by rfl) :
    Row k (((W.setCell ⟨b, 0, none⟩ u0).setCell ⟨b, 1, none⟩ u1).setCell ⟨b, 2, none⟩ u2).heap.size (((W.setCell ⟨b, 0, none⟩ u0).setCell ⟨b, 1, none⟩ u1).setCell ⟨b, 2, none⟩ u2) sv zs := by
  subst hv hn
  have hK : KeepP (fun g => g = ad.block) W (((W.setCell ⟨b, 0, none⟩ u0).setCell ⟨b, 1, none⟩ u1).setCell ⟨b, 2, none⟩ u2) :=
    ((KeepP.setCell (fun g => g = ad.block) W ⟨b, 0, none⟩ u0 (by dsimp only; omega)).trans (KeepP.setCell _ _ ⟨b, 1, none⟩ u1 (by dsimp only; omega))).trans (KeepP.setCell _ _ ⟨b, 2, none⟩ u2 (by dsimp only; omega))
  refine RowP.mono (fun g hg => ?_) (q := fun g => g < _) (p := fun g => g < W.heap.size) ?_
  · simpa using hg
  · rcases h with e | ⟨b', off, cap', e, h1, h2, hb', hc⟩
    · exact .inl e
    · refine .inr ⟨b', off, cap', e, h1, h2, hb', fun j' hj => ?_⟩
      have hbb : b' = ad.block := by
        simp only [Value.slice.injEq, Option.some.injEq] at e
        have := congrArg Addr.block e.1
        rw [show (ad.add j).block = ad.block from by unfold Addr.add; split <;> rfl] at this
        exact this.symm
      rw [hK.cell hbb]
      exact hc j' hj
set_option maxRecDepth 100000 in
set_option maxHeartbeats 4000000 in
theorem refJoin_ok (a : Option Addr) (cap : Nat) (l : List Int) (x y : Nat) (ai : Option Addr) (ci : Nat) (ins : List Int) (p q : Nat) (bi : Option Addr) (di : Nat) (jns S L : List Int) (w : World) (hr : Row .i64 w.heap.size w (.slice a l.length cap) l) (hri : Row .i64 w.heap.size w (.slice ai ins.length ci) ins) (hrj : Row .i64 w.heap.size w (.slice bi jns.length di) jns)
    (hl : l.length ≤ 1000) (hil : ins.length ≤ 1000) (hjl : jns.length ≤ 1000) (hxy : x + y ≤ l.length) (hip : ins.any strangeB = false) (hS : l.take x ++ ins ++ l.drop (x + y) = S) (hSl : S.length ≤ 1000) (hpq : p + q ≤ S.length) (hjp : jns.any strangeB = false) (hL : S.take p ++ jns ++ S.drop (p + q) = L) :
    Calls Try.prog 23 #[.slice a l.length cap, .agg #[.int .i64 (x : Int), .int .i64 (y : Int), .slice ai ins.length ci], .agg #[.int .i64 (p : Int), .int .i64 (q : Int), .slice bi jns.length di]] w fun e w' => ∃ (t st D : Nat) (a2 : Option Addr) (c2 : Nat), t = min x p ∧ st = min (l.length - x - y) (S.length - p - q) ∧ D + st + t = l.length ∧ e = .returned (.agg #[.int .i64 (t : Int), .int .i64 (D : Int), .slice a2 ((L.drop t).take (L.length - st - t)).length c2]) ∧ Row .i64 w'.heap.size w' (.slice a2 ((L.drop t).take (L.length - st - t)).length c2) ((L.drop t).take (L.length - st - t)) ∧ Below w.heap.size w w' := by
  have b0 := laidB (laidB (laidB (Below.refl w.heap.size w) (.cells #[.int .i64 (x : Int), .int .i64 (y : Int), .slice ai ins.length ci] 25)) (.cells #[.int .i64 (p : Int), .int .i64 (q : Int), .slice bi jns.length di] 25)) (.cells #[.int .i64 0, .int .i64 0, .slice none 0 0] 25)
  have F0 := Cel.new ((w.alloc (.cells #[.int .i64 (x : Int), .int .i64 (y : Int), .slice ai ins.length ci] 25)).alloc (.cells #[.int .i64 (p : Int), .int .i64 (q : Int), .slice bi jns.length di] 25)) 25 #[.int .i64 0, .int .i64 0, .slice none 0 0]
  rw [show ((w.alloc (.cells #[.int .i64 (x : Int), .int .i64 (y : Int), .slice ai ins.length ci] 25)).alloc (.cells #[.int .i64 (p : Int), .int .i64 (q : Int), .slice bi jns.length di] 25)).heap.size = w.heap.size + 2 from by simp] at F0
  have C0 := ((Cel.new w 25 #[.int .i64 (x : Int), .int .i64 (y : Int), .slice ai ins.length ci]).alloc (.cells #[.int .i64 (p : Int), .int .i64 (q : Int), .slice bi jns.length di] 25)).alloc (.cells #[.int .i64 0, .int .i64 0, .slice none 0 0] 25)
  have D0 := (Cel.new (w.alloc (.cells #[.int .i64 (x : Int), .int .i64 (y : Int), .slice ai ins.length ci] 25)) 25 #[.int .i64 (p : Int), .int .i64 (q : Int), .slice bi jns.length di]).alloc (.cells #[.int .i64 0, .int .i64 0, .slice none 0 0] 25)
  rw [show (w.alloc (.cells #[.int .i64 (x : Int), .int .i64 (y : Int), .slice ai ins.length ci] 25)).heap.size = w.heap.size + 1 from by simp] at D0
  have hr0 := rowB hr b0
  have hrj0 := rowB hrj b0
  have hri0 := rowB hri b0
  clear hr hri hrj
  go_enter Try.func23, Try.ntmps23
  go_wp2_with fail
  have hs0 : w.heap.size + 3 ≤ (((w.alloc (.cells #[.int .i64 (x : Int), .int .i64 (y : Int), .slice ai ins.length ci] 25)).alloc (.cells #[.int .i64 (p : Int), .int .i64 (q : Int), .slice bi jns.length di] 25)).alloc (.cells #[.int .i64 0, .int .i64 0, .slice none 0 0] 25)).heap.size := by simp
  generalize ((w.alloc (.cells #[.int .i64 (x : Int), .int .i64 (y : Int), .slice ai ins.length ci] 25)).alloc (.cells #[.int .i64 (p : Int), .int .i64 (q : Int), .slice bi jns.length di] 25)).alloc (.cells #[.int .i64 0, .int .i64 0, .slice none 0 0] 25) = W1 at *
  have hsp := refSplice_any a cap l x y ai ci ins W1 hr0 hri0 (by omega) (by omega) hxy
  rw [hS] at hsp
  refine hsp.mono ?_
  rintro e W5 ⟨v5, rfl, ho5, hb⟩
  have hrS := (row_of_owns ho5).1
  obtain ⟨a2, c2, rfl⟩ := row_slice hrS
  clear hsp ho5
  have hb5 := stepB b0 hb
  have C5 := C0.step hb
  have D5 := D0.step hb
  have F5 := F0.step hb
  have hrj5 := rowB hrj0 hb
  have hs5 := Nat.le_trans hs0 hb.size
  have HIP := Lib.hid hip
  have HSS := Lib.hid hS
  clear hb b0 F0 hs0 hr0 hri0 C0 D0 hrj0 hip hS
  have d0 : W5.cell? ⟨w.heap.size + 1, 0, none⟩ = some (.int .i64 (p : Int)) := D5.cell 0
  have d1 : W5.cell? ⟨w.heap.size + 1, 1, none⟩ = some (.int .i64 (q : Int)) := D5.cell 1
  have d2 : W5.cell? ⟨w.heap.size + 1, 2, none⟩ = some (.slice bi jns.length di) := D5.cell 2
  dsimp only
  go_wp2_with fail
  have hsp := refSplice_any a2 c2 S p q bi di jns W5 hrS hrj5 (by omega) (by omega) hpq
  rw [hL] at hsp
  refine hsp.mono ?_
  rintro e W2 ⟨v6, rfl, ho6, hb⟩
  have hrL := (row_of_owns ho6).1
  obtain ⟨b, cb, rfl⟩ := row_slice hrL
  have hlt6 := ho6.lt
  clear hsp ho6
  have b2 := stepB hb5 hb
  have C2 := C5.step hb
  have D2 := D5.step hb
  have F2 := F5.step hb
  have hs2 := Nat.le_trans hs5 hb.size
  have hs6 := hs5
  have hLl : L.length = S.length - q + jns.length := by rw [← hL]; simp; omega
  clear hb hb5 F5 hs5 hrS hrj5 C5 D5 d0 d1 d2 hjp hL
  have d0 : W2.cell? ⟨w.heap.size + 1, 0, none⟩ = some (.int .i64 (p : Int)) := D2.cell 0
  have d1 : W2.cell? ⟨w.heap.size + 1, 1, none⟩ = some (.int .i64 (q : Int)) := D2.cell 1
  have c0 : W2.cell? ⟨w.heap.size, 0, none⟩ = some (.int .i64 (x : Int)) := C2.cell 0
  have c1 : W2.cell? ⟨w.heap.size, 1, none⟩ = some (.int .i64 (y : Int)) := C2.cell 1
  obtain ⟨k, hk, hkI⟩ : ∃ k : Nat, k = min x p ∧ min (x : Int) (p : Int) = (k : Int) := ⟨min x p, rfl, by omega⟩
  obtain ⟨s, hs, hsI⟩ : ∃ s : Nat, s = min (l.length - x - y) (S.length - p - q) ∧ min ((l.length : Int) - (x : Int) - (y : Int)) ((S.length : Int) - (p : Int) - (q : Int)) = (s : Int) := ⟨min (l.length - x - y) (S.length - p - q), rfl, by omega⟩
  obtain ⟨D, hD, hDI⟩ : ∃ D : Nat, D + s + k = l.length ∧ (l.length : Int) - (k : Int) - (s : Int) = (D : Int) := ⟨l.length - s - k, by omega, by omega⟩
  obtain ⟨h, hh, hhI⟩ : ∃ h : Nat, h + s = L.length ∧ (L.length : Int) - (s : Int) = (h : Int) := ⟨L.length - s, by omega, by omega⟩
  have hkh : k ≤ h := by omega
  have hcb := hrL.lencap
  unfold maxLen at hcb
  have z4 : (k : Int) ≤ (h : Int) := by omega
  have z5 : (h : Int) ≤ cb := by omega
  have hLI : (L.length : Int) ≤ 3000 := by omega
  have hlI : (l.length : Int) ≤ 1000 := by omega
  have hSI : (S.length : Int) ≤ 1000 := by omega
  have hxI : (x : Int) ≤ 1000 := by omega
  have hyI : (y : Int) ≤ 1000 := by omega
  have hpI : (p : Int) ≤ 1000 := by omega
  have hqI : (q : Int) ≤ 1000 := by omega
  have HK := Lib.hid hk
  have HS := Lib.hid hs
  have HD := Lib.hid hD
  have HH := Lib.hid hh
  have hkL : k ≤ L.length := by omega
  clear hk hs hD hh hLl hxy hpq hl hil hjl hSl
  dsimp only
  have f0 : W2.cell? ⟨w.heap.size + 2, 0, none⟩ = some (.int .i64 0) := F2.cell 0
  have f1 : W2.cell? ⟨w.heap.size + 2, 1, none⟩ = some (.int .i64 0) := F2.cell 1
  have f2 : W2.cell? ⟨w.heap.size + 2, 2, none⟩ = some (.slice none 0 0) := F2.cell 2
  have g0 : W2.frozen? ⟨w.heap.size + 2, 0, none⟩ = false := F2.free 0
  have g1 : W2.frozen? ⟨w.heap.size + 2, 1, none⟩ = false := F2.free 1
  have g2 : W2.frozen? ⟨w.heap.size + 2, 2, none⟩ = false := F2.free 2
  rcases b with _ | ad
  · obtain ⟨hm0, hc0⟩ : L.length = 0 ∧ cb = 0 := by
      rcases hrL with ⟨a', cap', e, _, hn, hnil⟩ | ⟨b', off, cap', e, _⟩
      · simp only [Value.slice.injEq] at e
        obtain ⟨rfl, hz, rfl⟩ := e
        exact ⟨hz, hn rfl⟩
      · simp at e
    obtain rfl : k = 0 := by omega
    obtain rfl : h = 0 := by have := HH.out; omega
    have hDI0 : (l.length : Int) - (s : Int) = (D : Int) := by omega
    subst hc0
    have hmn : (L.drop 0).take (L.length - s - 0) = [] := by rw [show L.length - s - 0 = 0 from by omega, List.take_zero]
    have HMN := Lib.hid hmn
    have HM0 := Lib.hid hm0
    clear hm0 hmn hrL
    go_wp2_with fail
    refine bodyPost_ret (results_cell_row rfl _ _ (w.heap.size + 2) 25 _ (0, 0) _ rfl (((F2.set 0 (.int .i64 0)).set 1 (.int .i64 (D : Int))).set 2 (.slice none 0 0)) Try.underlying25 rfl rfl) rfl ?_
    refine ⟨0, s, D, none, 0, HK.out, HS.out, HD.out, ?_, ?_, ((b2.setCell (p := ⟨w.heap.size + 2, 0, none⟩) (by simp) _).setCell (p := ⟨w.heap.size + 2, 1, none⟩) (by simp) _).setCell (p := ⟨w.heap.size + 2, 2, none⟩) (by simp) _⟩
    · rw [HMN.out]; try rfl
    · rw [HMN.out]; exact nil_row .i64 _ _
  · have hdr := row_drop_some hrL k (by omega)
    have hadr : ∃ g o, ad = ⟨g, o, none⟩ ∨ L.length = 0 := by
      rcases hrL with ⟨a', cap', e, _, hn, hnil⟩ | ⟨b', off, cap', e, _⟩
      · exact ⟨0, 0, .inr (by rw [hnil]; rfl)⟩
      · simp only [Value.slice.injEq, Option.some.injEq] at e
        exact ⟨b', off, .inl e.1⟩
    by_cases hcp : cb = k
    · subst hcp
      have hhc : h = cb := by omega
      subst hhc
      have hmn : (L.drop h).take (L.length - s - h) = [] := by rw [show L.length - s - h = 0 from by have := HH.out; omega, List.take_zero]
      have HMN := Lib.hid hmn
      clear hdr hmn hrL
      go_wp2_with fail
      refine bodyPost_ret (results_cell_row rfl _ _ (w.heap.size + 2) 25 _ (0, 0) _ rfl (((F2.set 0 (.int .i64 (h : Int))).set 1 (.int .i64 (D : Int))).set 2 (.slice (some ad) 0 0)) Try.underlying25 rfl rfl) rfl ?_
      refine ⟨h, s, D, (some ad), 0, HK.out, HS.out, HD.out, ?_, ?_, ((b2.setCell (p := ⟨w.heap.size + 2, 0, none⟩) (by simp) _).setCell (p := ⟨w.heap.size + 2, 1, none⟩) (by simp) _).setCell (p := ⟨w.heap.size + 2, 2, none⟩) (by simp) _⟩
      · rw [HMN.out]; try rfl
      · rw [HMN.out]; exact .inl ⟨some ad, 0, rfl, by decide, (fun h => by cases h), rfl⟩
    · have hd := row_take_some hdr.1 (h - k) (by rw [List.length_drop]; have := HH.out; omega)
      have hlz : ((L.drop k).take (h - k)).length = h - k := by rw [List.length_take, List.length_drop]; have := HH.out; omega
      have HLZ := Lib.hid hlz
      have hgb : W5.heap.size ≤ ad.block := (hlt6 ad.block rfl).1
      clear hdr hlz hrL hlt6
      go_wp2_with fail
      refine bodyPost_ret (results_cell_row rfl _ _ (w.heap.size + 2) 25 _ (0, 0) _ rfl (((F2.set 0 (.int .i64 (k : Int))).set 1 (.int .i64 (D : Int))).set 2 (.slice (some (ad.add k)) (h - k) (cb - k))) Try.underlying25 rfl rfl) rfl ?_
      refine ⟨k, s, D, (some (ad.add k)), (cb - k), HK.out, HS.out, HD.out, ?_, ?_, ((b2.setCell (p := ⟨w.heap.size + 2, 0, none⟩) (by simp) _).setCell (p := ⟨w.heap.size + 2, 1, none⟩) (by simp) _).setCell (p := ⟨w.heap.size + 2, 2, none⟩) (by simp) _⟩
      · rw [show L.length - s - k = h - k from by have := HH.out; omega, HLZ.out]; try rfl
      · rw [show L.length - s - k = h - k from by have := HH.out; omega, HLZ.out]
        exact row_far3 hd ad k (h - k) (cb - k) rfl (w.heap.size + 2) (by omega) _ _ _
end Go.Proofs.Ytmfekbljfnjkgaa
