/- Contracts for package edits: Join. -/
import Derived.Test.YtmfekbljfnjkgaaEdM
namespace Go.Proofs.Ytmfekbljfnjkgaa
open Go.RowKit Go.Shelf
set_option linter.unusedVariables false

theorem splice_gen (a : Option Addr) (cap : Nat) (l : List Int) (x y : Int) (ai : Option Addr) (ci : Nat) (ins S : List Int) (C : Int) (w : World) (hr : Row .i64 w.heap.size w (.slice a l.length cap) l) (hri : Row .i64 w.heap.size w (.slice ai ins.length ci) ins)
    (hl : l.length ≤ 100000) (hil : ins.length ≤ 100000) (hwa : (Lit.int .i64 x).wf = true) (hwd : (Lit.int .i64 y).wf = true) (hC : checkI l x y ins = C) (hS : spliceL l x y ins = S) :
    Calls Try.prog 19 #[.slice a l.length cap, .agg #[.int .i64 x, .int .i64 y, .slice ai ins.length ci]] w fun e w' => ∃ a2 c2, e = .returned (.tuple #[.slice a2 S.length c2, .int .i64 C]) ∧ Row .i64 w'.heap.size w' (.slice a2 S.length c2) S ∧ Below w.heap.size w w' := by
  subst hC hS
  refine (splice_any a cap l x y ai ci ins w hr hri hl hil hwa hwd).mono ?_
  rintro e w' ⟨v, rfl, ho, hb⟩
  have hrow := (row_of_owns ho).1
  obtain ⟨a2, c2, rfl⟩ := row_slice hrow
  exact ⟨a2, c2, rfl, hrow, hb⟩
theorem row_set3b {k : IntKind} {W : World} {sv : Value} {zs : List Int} {base : Nat} {e : TypeId} {n : Nat} (h : W.ownsRow base e 1 sv n (zs.map (Value.int k))) (b : Nat) (hb : b < base) (u0 u1 u2 : Value) :
    RowP k (fun g => base ≤ g ∧ g < (((W.setCell ⟨b, 0, none⟩ u0).setCell ⟨b, 1, none⟩ u1).setCell ⟨b, 2, none⟩ u2).heap.size) (((W.setCell ⟨b, 0, none⟩ u0).setCell ⟨b, 1, none⟩ u1).setCell ⟨b, 2, none⟩ u2) sv zs := by
  have h1 := (row_own2' h)
  have K := ((KeepP.setCell (fun g => base ≤ g ∧ g < W.heap.size) W ⟨b, 0, none⟩ u0 (fun q => by have := q.1; simp at this; omega)).trans (KeepP.setCell _ _ ⟨b, 1, none⟩ u1 (fun q => by have := q.1; simp at this; omega))).trans (KeepP.setCell _ _ ⟨b, 2, none⟩ u2 (fun q => by have := q.1; simp at this; omega))
  exact (h1.keep K).mono (fun g hg => ⟨hg.1, by simp; exact hg.2⟩)
/-- The joined edit's begin, number of symbols, and new symbols. -/
def joinAt (x p : Nat) : Nat := min x p
def joinStay (n x y k p q : Nat) : Nat := min (n - x - y) (k - p - q)
set_option maxRecDepth 100000 in
set_option maxHeartbeats 4000000 in
theorem join_bad1 (a : Option Addr) (cap : Nat) (l : List Int) (x y : Int) (ai : Option Addr) (ci : Nat) (ins : List Int) (p q : Int) (bi : Option Addr) (di : Nat) (jns : List Int) (C : Int) (w : World) (hr : Row .i64 w.heap.size w (.slice a l.length cap) l) (hri : Row .i64 w.heap.size w (.slice ai ins.length ci) ins)
    (hl : l.length ≤ 100000) (hil : ins.length ≤ 100000) (hwx : (Lit.int .i64 x).wf = true) (hwy : (Lit.int .i64 y).wf = true) (hC : checkI l x y ins = C) (hC0 : C ≠ 0) :
    Calls Try.prog 21 #[.slice a l.length cap, .agg #[.int .i64 x, .int .i64 y, .slice ai ins.length ci], .agg #[.int .i64 p, .int .i64 q, .slice bi jns.length di]] w fun e w' => e = .returned (.tuple #[.agg #[.int .i64 0, .int .i64 0, .slice none 0 0], .int .i64 C]) ∧ Below w.heap.size w w' := by
  have b0 := laidB (laidB (laidB (Below.refl w.heap.size w) (.cells #[.int .i64 x, .int .i64 y, .slice ai ins.length ci] 25)) (.cells #[.int .i64 p, .int .i64 q, .slice bi jns.length di] 25)) (.cells #[.int .i64 0, .int .i64 0, .slice none 0 0] 25)
  have F0 := Cel.new ((w.alloc (.cells #[.int .i64 x, .int .i64 y, .slice ai ins.length ci] 25)).alloc (.cells #[.int .i64 p, .int .i64 q, .slice bi jns.length di] 25)) 25 #[.int .i64 0, .int .i64 0, .slice none 0 0]
  rw [show ((w.alloc (.cells #[.int .i64 x, .int .i64 y, .slice ai ins.length ci] 25)).alloc (.cells #[.int .i64 p, .int .i64 q, .slice bi jns.length di] 25)).heap.size = w.heap.size + 2 from by simp] at F0
  have hr0 := rowB hr b0
  have hri0 := rowB hri b0
  clear hr hri
  go_enter Try.func21, Try.ntmps21
  go_wp2_with fail
  have hs0 : w.heap.size + 3 ≤ (((w.alloc (.cells #[.int .i64 x, .int .i64 y, .slice ai ins.length ci] 25)).alloc (.cells #[.int .i64 p, .int .i64 q, .slice bi jns.length di] 25)).alloc (.cells #[.int .i64 0, .int .i64 0, .slice none 0 0] 25)).heap.size := by simp
  generalize ((w.alloc (.cells #[.int .i64 x, .int .i64 y, .slice ai ins.length ci] 25)).alloc (.cells #[.int .i64 p, .int .i64 q, .slice bi jns.length di] 25)).alloc (.cells #[.int .i64 0, .int .i64 0, .slice none 0 0] 25) = W1 at *
  refine (splice_gen a cap l x y ai ci ins _ C W1 hr0 hri0 hl hil hwx hwy hC rfl).mono ?_
  rintro e W2 ⟨a2, c2, rfl, -, hb⟩
  generalize spliceL l x y ins = S
  have hb2 := stepB b0 hb
  have F2 := F0.step hb
  have hs2 := Nat.le_trans hs0 hb.size
  have hne : (C != 0) = true := by simpa using hC0
  clear hb b0 F0 hs0 hr0 hri0 hwx hwy hC hC0
  have e0 : W2.cell? ⟨w.heap.size + 2, 0, none⟩ = some (.int .i64 0) := F2.cell 0
  have e1 : W2.cell? ⟨w.heap.size + 2, 1, none⟩ = some (.int .i64 0) := F2.cell 1
  have e2 : W2.cell? ⟨w.heap.size + 2, 2, none⟩ = some (.slice none 0 0) := F2.cell 2
  have z0 : W2.frozen? ⟨w.heap.size + 2, 0, none⟩ = false := F2.free 0
  have z1 : W2.frozen? ⟨w.heap.size + 2, 1, none⟩ = false := F2.free 1
  have z2 : W2.frozen? ⟨w.heap.size + 2, 2, none⟩ = false := F2.free 2
  dsimp only
  go_wp2_with fail
  refine bodyPost_ret (v := .tuple #[.agg #[.int .i64 0, .int .i64 0, .slice none 0 0], .int .i64 C]) (results_row_tmp rfl _ _ (w.heap.size + 2) _ _ rfl rfl (run_loadVar_row _ _ 25 _ _ (0, 0) _ (((F2.set 0 (.int .i64 0)).set 1 (.int .i64 0)).set 2 (.slice none 0 0)) Try.underlying25 rfl rfl)) rfl ?_
  exact ⟨rfl, ((hb2.setCell (p := ⟨w.heap.size + 2, 0, none⟩) (by simp) _).setCell (p := ⟨w.heap.size + 2, 1, none⟩) (by simp) _).setCell (p := ⟨w.heap.size + 2, 2, none⟩) (by simp) _⟩
set_option maxRecDepth 100000 in
set_option maxHeartbeats 4000000 in
theorem join_bad2 (a : Option Addr) (cap : Nat) (l : List Int) (x y : Int) (ai : Option Addr) (ci : Nat) (ins : List Int) (p q : Int) (bi : Option Addr) (di : Nat) (jns S : List Int) (C : Int) (w : World) (hr : Row .i64 w.heap.size w (.slice a l.length cap) l) (hri : Row .i64 w.heap.size w (.slice ai ins.length ci) ins) (hrj : Row .i64 w.heap.size w (.slice bi jns.length di) jns)
    (hl : l.length ≤ 100000) (hil : ins.length ≤ 100000) (hjl : jns.length ≤ 100000) (hwx : (Lit.int .i64 x).wf = true) (hwy : (Lit.int .i64 y).wf = true) (hwp : (Lit.int .i64 p).wf = true) (hwq : (Lit.int .i64 q).wf = true) (hc1 : checkI l x y ins = 0) (hS : spliceL l x y ins = S) (hSl : S.length ≤ 100000) (hC : checkI S p q jns = C) (hC0 : C ≠ 0) :
    Calls Try.prog 21 #[.slice a l.length cap, .agg #[.int .i64 x, .int .i64 y, .slice ai ins.length ci], .agg #[.int .i64 p, .int .i64 q, .slice bi jns.length di]] w fun e w' => e = .returned (.tuple #[.agg #[.int .i64 0, .int .i64 0, .slice none 0 0], .int .i64 C]) ∧ Below w.heap.size w w' := by
  have b0 := laidB (laidB (laidB (Below.refl w.heap.size w) (.cells #[.int .i64 x, .int .i64 y, .slice ai ins.length ci] 25)) (.cells #[.int .i64 p, .int .i64 q, .slice bi jns.length di] 25)) (.cells #[.int .i64 0, .int .i64 0, .slice none 0 0] 25)
  have F0 := Cel.new ((w.alloc (.cells #[.int .i64 x, .int .i64 y, .slice ai ins.length ci] 25)).alloc (.cells #[.int .i64 p, .int .i64 q, .slice bi jns.length di] 25)) 25 #[.int .i64 0, .int .i64 0, .slice none 0 0]
  rw [show ((w.alloc (.cells #[.int .i64 x, .int .i64 y, .slice ai ins.length ci] 25)).alloc (.cells #[.int .i64 p, .int .i64 q, .slice bi jns.length di] 25)).heap.size = w.heap.size + 2 from by simp] at F0
  have D0 := (Cel.new (w.alloc (.cells #[.int .i64 x, .int .i64 y, .slice ai ins.length ci] 25)) 25 #[.int .i64 p, .int .i64 q, .slice bi jns.length di]).alloc (.cells #[.int .i64 0, .int .i64 0, .slice none 0 0] 25)
  rw [show (w.alloc (.cells #[.int .i64 x, .int .i64 y, .slice ai ins.length ci] 25)).heap.size = w.heap.size + 1 from by simp] at D0
  have hr0 := rowB hr b0
  have hrj0 := rowB hrj b0
  have hri0 := rowB hri b0
  clear hr hri hrj
  go_enter Try.func21, Try.ntmps21
  go_wp2_with fail
  have hs0 : w.heap.size + 3 ≤ (((w.alloc (.cells #[.int .i64 x, .int .i64 y, .slice ai ins.length ci] 25)).alloc (.cells #[.int .i64 p, .int .i64 q, .slice bi jns.length di] 25)).alloc (.cells #[.int .i64 0, .int .i64 0, .slice none 0 0] 25)).heap.size := by simp
  generalize ((w.alloc (.cells #[.int .i64 x, .int .i64 y, .slice ai ins.length ci] 25)).alloc (.cells #[.int .i64 p, .int .i64 q, .slice bi jns.length di] 25)).alloc (.cells #[.int .i64 0, .int .i64 0, .slice none 0 0] 25) = W1 at *
  refine (splice_gen a cap l x y ai ci ins S 0 W1 hr0 hri0 hl hil hwx hwy hc1 hS).mono ?_
  rintro e W5 ⟨a2, c2, rfl, hrS, hb⟩
  have hb5 := stepB b0 hb
  have D5 := D0.step hb
  have F5 := F0.step hb
  have hrj5 := rowB hrj0 hb
  have hs5 := Nat.le_trans hs0 hb.size
  clear hb b0 F0 hs0 hr0 hri0 hwx hwy hc1 hS D0 hrj0
  have d0 : W5.cell? ⟨w.heap.size + 1, 0, none⟩ = some (.int .i64 p) := D5.cell 0
  have d1 : W5.cell? ⟨w.heap.size + 1, 1, none⟩ = some (.int .i64 q) := D5.cell 1
  have d2 : W5.cell? ⟨w.heap.size + 1, 2, none⟩ = some (.slice bi jns.length di) := D5.cell 2
  dsimp only
  go_wp2_with fail
  refine (splice_gen a2 c2 S p q bi di jns _ C W5 hrS hrj5 hSl hjl hwp hwq hC rfl).mono ?_
  rintro e W2 ⟨a3, c3, rfl, -, hb⟩
  generalize spliceL S p q jns = L
  have hb2 := stepB hb5 hb
  have F2 := F5.step hb
  have hs2 := Nat.le_trans hs5 hb.size
  have hne : (C != 0) = true := by simpa using hC0
  clear hb hb5 F5 hs5 hrS hrj5 hwp hwq hC hC0 d0 d1 d2 D5
  have e0 : W2.cell? ⟨w.heap.size + 2, 0, none⟩ = some (.int .i64 0) := F2.cell 0
  have e1 : W2.cell? ⟨w.heap.size + 2, 1, none⟩ = some (.int .i64 0) := F2.cell 1
  have e2 : W2.cell? ⟨w.heap.size + 2, 2, none⟩ = some (.slice none 0 0) := F2.cell 2
  have z0 : W2.frozen? ⟨w.heap.size + 2, 0, none⟩ = false := F2.free 0
  have z1 : W2.frozen? ⟨w.heap.size + 2, 1, none⟩ = false := F2.free 1
  have z2 : W2.frozen? ⟨w.heap.size + 2, 2, none⟩ = false := F2.free 2
  dsimp only
  go_wp2_with fail
  refine bodyPost_ret (v := .tuple #[.agg #[.int .i64 0, .int .i64 0, .slice none 0 0], .int .i64 C]) (results_row_tmp rfl _ _ (w.heap.size + 2) _ _ rfl rfl (run_loadVar_row _ _ 25 _ _ (0, 0) _ (((F2.set 0 (.int .i64 0)).set 1 (.int .i64 0)).set 2 (.slice none 0 0)) Try.underlying25 rfl rfl)) rfl ?_
  exact ⟨rfl, ((hb2.setCell (p := ⟨w.heap.size + 2, 0, none⟩) (by simp) _).setCell (p := ⟨w.heap.size + 2, 1, none⟩) (by simp) _).setCell (p := ⟨w.heap.size + 2, 2, none⟩) (by simp) _⟩
set_option maxRecDepth 100000 in
set_option maxHeartbeats 4000000 in
theorem join_ok (a : Option Addr) (cap : Nat) (l : List Int) (x y : Nat) (ai : Option Addr) (ci : Nat) (ins : List Int) (p q : Nat) (bi : Option Addr) (di : Nat) (jns S L : List Int) (w : World) (hr : Row .i64 w.heap.size w (.slice a l.length cap) l) (hri : Row .i64 w.heap.size w (.slice ai ins.length ci) ins) (hrj : Row .i64 w.heap.size w (.slice bi jns.length di) jns)
    (hl : l.length ≤ 1000) (hil : ins.length ≤ 1000) (hjl : jns.length ≤ 1000) (hxy : x + y ≤ l.length) (hip : ins.any strangeB = false) (hS : l.take x ++ ins ++ l.drop (x + y) = S) (hSl : S.length ≤ 1000) (hpq : p + q ≤ S.length) (hjp : jns.any strangeB = false) (hL : S.take p ++ jns ++ S.drop (p + q) = L) :
    Calls Try.prog 21 #[.slice a l.length cap, .agg #[.int .i64 (x : Int), .int .i64 (y : Int), .slice ai ins.length ci], .agg #[.int .i64 (p : Int), .int .i64 (q : Int), .slice bi jns.length di]] w fun e w' => ∃ (t st D : Nat) (a2 : Option Addr) (c2 : Nat), t = min x p ∧ st = min (l.length - x - y) (S.length - p - q) ∧ D + st + t = l.length ∧ e = .returned (.tuple #[.agg #[.int .i64 (t : Int), .int .i64 (D : Int), .slice a2 ((L.drop t).take (L.length - st - t)).length c2], .int .i64 0]) ∧ RowP .i64 (fun g => w.heap.size ≤ g ∧ g < w'.heap.size) w' (.slice a2 ((L.drop t).take (L.length - st - t)).length c2) ((L.drop t).take (L.length - st - t)) ∧ Below w.heap.size w w' := by
  have b0 := laidB (laidB (laidB (Below.refl w.heap.size w) (.cells #[.int .i64 (x : Int), .int .i64 (y : Int), .slice ai ins.length ci] 25)) (.cells #[.int .i64 (p : Int), .int .i64 (q : Int), .slice bi jns.length di] 25)) (.cells #[.int .i64 0, .int .i64 0, .slice none 0 0] 25)
  have F0 := Cel.new ((w.alloc (.cells #[.int .i64 (x : Int), .int .i64 (y : Int), .slice ai ins.length ci] 25)).alloc (.cells #[.int .i64 (p : Int), .int .i64 (q : Int), .slice bi jns.length di] 25)) 25 #[.int .i64 0, .int .i64 0, .slice none 0 0]
  rw [show ((w.alloc (.cells #[.int .i64 (x : Int), .int .i64 (y : Int), .slice ai ins.length ci] 25)).alloc (.cells #[.int .i64 (p : Int), .int .i64 (q : Int), .slice bi jns.length di] 25)).heap.size = w.heap.size + 2 from by simp] at F0
  have C0 := ((Cel.new w 25 #[.int .i64 (x : Int), .int .i64 (y : Int), .slice ai ins.length ci]).alloc (.cells #[.int .i64 (p : Int), .int .i64 (q : Int), .slice bi jns.length di] 25)).alloc (.cells #[.int .i64 0, .int .i64 0, .slice none 0 0] 25)
  have D0 := (Cel.new (w.alloc (.cells #[.int .i64 (x : Int), .int .i64 (y : Int), .slice ai ins.length ci] 25)) 25 #[.int .i64 (p : Int), .int .i64 (q : Int), .slice bi jns.length di]).alloc (.cells #[.int .i64 0, .int .i64 0, .slice none 0 0] 25)
  rw [show (w.alloc (.cells #[.int .i64 (x : Int), .int .i64 (y : Int), .slice ai ins.length ci] 25)).heap.size = w.heap.size + 1 from by simp] at D0
  have hr0 := rowB hr b0
  have hrj0 := rowB hrj b0
  have hri0 := rowB hri b0
  clear hr hri hrj
  go_enter Try.func21, Try.ntmps21
  go_wp2_with fail
  have hs0 : w.heap.size + 3 ≤ (((w.alloc (.cells #[.int .i64 (x : Int), .int .i64 (y : Int), .slice ai ins.length ci] 25)).alloc (.cells #[.int .i64 (p : Int), .int .i64 (q : Int), .slice bi jns.length di] 25)).alloc (.cells #[.int .i64 0, .int .i64 0, .slice none 0 0] 25)).heap.size := by simp
  generalize ((w.alloc (.cells #[.int .i64 (x : Int), .int .i64 (y : Int), .slice ai ins.length ci] 25)).alloc (.cells #[.int .i64 (p : Int), .int .i64 (q : Int), .slice bi jns.length di] 25)).alloc (.cells #[.int .i64 0, .int .i64 0, .slice none 0 0] 25) = W1 at *
  refine (splice_ok a cap l x y ai ci ins S W1 hr0 hri0 hl hil hxy hip hS).mono ?_
  rintro e W5 ⟨a2, c2, rfl, hrS, hb⟩
  have hb5 := stepB b0 hb
  have C5 := C0.step hb
  have D5 := D0.step hb
  have F5 := F0.step hb
  have hrj5 := rowB hrj0 hb
  have hs5 := Nat.le_trans hs0 hb.size
  have HIP := Lib.hid hip
  have HSS := Lib.hid hS
  clear hb b0 F0 hs0 hr0 hri0 C0 D0 hrj0 hip hS
  have d0 : W5.cell? ⟨w.heap.size + 1, 0, none⟩ = some (.int .i64 (p : Int)) := D5.cell 0
  have d1 : W5.cell? ⟨w.heap.size + 1, 1, none⟩ = some (.int .i64 (q : Int)) := D5.cell 1
  have d2 : W5.cell? ⟨w.heap.size + 1, 2, none⟩ = some (.slice bi jns.length di) := D5.cell 2
  dsimp only
  go_wp2_with fail
  refine (splice_ok a2 c2 S p q bi di jns L W5 hrS hrj5 hSl hjl hpq hjp hL).mono ?_
  rintro e W2 ⟨b, cb, rfl, hrL, hb⟩
  have b2 := stepB hb5 hb
  have C2 := C5.step hb
  have D2 := D5.step hb
  have F2 := F5.step hb
  have hs2 := Nat.le_trans hs5 hb.size
  have hLl : L.length = S.length - q + jns.length := by rw [← hL]; simp; omega
  clear hb hb5 F5 hs5 hrS hrj5 C5 D5 d0 d1 d2 hjp hL
  have d0 : W2.cell? ⟨w.heap.size + 1, 0, none⟩ = some (.int .i64 (p : Int)) := D2.cell 0
  have d1 : W2.cell? ⟨w.heap.size + 1, 1, none⟩ = some (.int .i64 (q : Int)) := D2.cell 1
  have c0 : W2.cell? ⟨w.heap.size, 0, none⟩ = some (.int .i64 (x : Int)) := C2.cell 0
  have c1 : W2.cell? ⟨w.heap.size, 1, none⟩ = some (.int .i64 (y : Int)) := C2.cell 1
  obtain ⟨k, hk, hkI⟩ : ∃ k : Nat, k = min x p ∧ min (x : Int) (p : Int) = (k : Int) := ⟨min x p, rfl, by omega⟩
  obtain ⟨s, hs, hsI⟩ : ∃ s : Nat, s = min (l.length - x - y) (S.length - p - q) ∧ min ((l.length : Int) - (x : Int) - (y : Int)) ((S.length : Int) - (p : Int) - (q : Int)) = (s : Int) := ⟨min (l.length - x - y) (S.length - p - q), rfl, by omega⟩
  obtain ⟨D, hD, hDI⟩ : ∃ D : Nat, D + s + k = l.length ∧ (l.length : Int) - (s : Int) - (k : Int) = (D : Int) := ⟨l.length - s - k, by omega, by omega⟩
  obtain ⟨h, hh, hhI⟩ : ∃ h : Nat, h + s = L.length ∧ (L.length : Int) - (s : Int) = (h : Int) := ⟨L.length - s, by omega, by omega⟩
  have hkh : k ≤ h := by omega
  have hcb := hrL.lencap
  unfold maxLen at hcb
  have z4 : (k : Int) ≤ (h : Int) := by omega
  have z5 : (h : Int) ≤ cb := by omega
  have hLI : (L.length : Int) ≤ 3000 := by omega
  have hlI : (l.length : Int) ≤ 1000 := by omega
  have hSI : (S.length : Int) ≤ 1000 := by omega
  have hxI : (x : Int) ≤ 1000 := by omega
  have hyI : (y : Int) ≤ 1000 := by omega
  have hpI : (p : Int) ≤ 1000 := by omega
  have hqI : (q : Int) ≤ 1000 := by omega
  have HK := Lib.hid hk
  have HS := Lib.hid hs
  have HD := Lib.hid hD
  have HH := Lib.hid hh
  have hkL : k ≤ L.length := by omega
  clear hk hs hD hh hLl hxy hpq hl hil hjl hSl
  dsimp only
  rcases b with _ | ad
  · obtain ⟨hm0, hc0⟩ : L.length = 0 ∧ cb = 0 := by
      rcases hrL with ⟨a', cap', e, _, hn, hnil⟩ | ⟨b', off, cap', e, _⟩
      · simp only [Value.slice.injEq] at e
        obtain ⟨rfl, hz, rfl⟩ := e
        exact ⟨hz, hn rfl⟩
      · simp at e
    obtain rfl : k = 0 := by omega
    obtain rfl : h = 0 := by have := HH.out; omega
    have hDI0 : (l.length : Int) - (s : Int) = (D : Int) := by omega
    subst hc0
    have hd : Row .i64 W2.heap.size W2 (.slice none 0 0) ((L.drop 0).take (0 - 0)) := row_empty rfl (by simp) (by decide) (fun _ => rfl)
    have HM0 := Lib.hid hm0
    clear hm0
    generalize hZ : (L.drop 0).take (0 - 0) = Z at *
    have HZ := Lib.hid hZ
    have hZl : Z.length ≤ 100000 := by rw [← hZ, List.length_take, List.length_drop]; omega
    clear hZ
    go_wp2_with fail
    refine (cloneInts_any _ _ Z _ hd (by omega)).mono ?_
    rintro e W4 ⟨a4, c4, rfl, hown, hrow, hb4⟩
    have b4 := stepB b2 hb4
    have F4 := F2.step hb4
    have f0 : W4.cell? ⟨w.heap.size + 2, 0, none⟩ = some (.int .i64 0) := F4.cell 0
    have f1 : W4.cell? ⟨w.heap.size + 2, 1, none⟩ = some (.int .i64 0) := F4.cell 1
    have f2 : W4.cell? ⟨w.heap.size + 2, 2, none⟩ = some (.slice none 0 0) := F4.cell 2
    have g0 : W4.frozen? ⟨w.heap.size + 2, 0, none⟩ = false := F4.free 0
    have g1 : W4.frozen? ⟨w.heap.size + 2, 1, none⟩ = false := F4.free 1
    have g2 : W4.frozen? ⟨w.heap.size + 2, 2, none⟩ = false := F4.free 2
    clear b2 F2 hrL hd hb4 z4 z5 C2 D2 c0 c1 d0 d1
    dsimp only
    go_wp2_with fail
    refine bodyPost_ret (v := .tuple #[.agg #[.int .i64 0, .int .i64 (D : Int), .slice a4 Z.length c4], .int .i64 0]) (results_row_tmp rfl _ _ (w.heap.size + 2) _ _ rfl rfl (run_loadVar_row _ _ 25 _ _ (0, 0) _ (((F4.set 0 (.int .i64 0)).set 1 (.int .i64 (D : Int))).set 2 (.slice a4 Z.length c4)) Try.underlying25 rfl rfl)) rfl ?_
    refine ⟨0, s, D, a4, c4, HK.out, HS.out, HD.out, ?_, ?_, ((b4.setCell (p := ⟨w.heap.size + 2, 0, none⟩) (by simp) _).setCell (p := ⟨w.heap.size + 2, 1, none⟩) (by simp) _).setCell (p := ⟨w.heap.size + 2, 2, none⟩) (by simp) _⟩
    · rw [show L.length - s - 0 = 0 - 0 from by have := HH.out; omega, HZ.out]; try rfl
    · rw [show L.length - s - 0 = 0 - 0 from by have := HH.out; omega, HZ.out]
      exact (row_set3b hown _ (by omega) _ _ _).mono (fun g hg => ⟨by omega, hg.2⟩)
  · have hdr := row_drop_some hrL k (by omega)
    by_cases hcp : cb = k
    · subst hcp
      have hhc : h = cb := by omega
      subst hhc
      have hd : Row .i64 W2.heap.size W2 (.slice (some ad) 0 0) ((L.drop h).take (h - h)) := by
        rw [Nat.sub_self, List.take_zero]
        exact .inl ⟨some ad, 0, rfl, by decide, (fun h => by cases h), rfl⟩
      clear hdr
      generalize hZ : (L.drop h).take (h - h) = Z at *
      have HZ := Lib.hid hZ
      have hZl : Z.length ≤ 100000 := by rw [← hZ, List.length_take, List.length_drop]; omega
      clear hZ
      go_wp2_with fail
      refine (cloneInts_any _ _ Z _ hd (by omega)).mono ?_
      rintro e W4 ⟨a4, c4, rfl, hown, hrow, hb4⟩
      have b4 := stepB b2 hb4
      have F4 := F2.step hb4
      have f0 : W4.cell? ⟨w.heap.size + 2, 0, none⟩ = some (.int .i64 0) := F4.cell 0
      have f1 : W4.cell? ⟨w.heap.size + 2, 1, none⟩ = some (.int .i64 0) := F4.cell 1
      have f2 : W4.cell? ⟨w.heap.size + 2, 2, none⟩ = some (.slice none 0 0) := F4.cell 2
      have g0 : W4.frozen? ⟨w.heap.size + 2, 0, none⟩ = false := F4.free 0
      have g1 : W4.frozen? ⟨w.heap.size + 2, 1, none⟩ = false := F4.free 1
      have g2 : W4.frozen? ⟨w.heap.size + 2, 2, none⟩ = false := F4.free 2
      clear b2 F2 hrL hd hb4 z4 z5 C2 D2 c0 c1 d0 d1
      dsimp only
      go_wp2_with fail
      refine bodyPost_ret (v := .tuple #[.agg #[.int .i64 (h : Int), .int .i64 (D : Int), .slice a4 Z.length c4], .int .i64 0]) (results_row_tmp rfl _ _ (w.heap.size + 2) _ _ rfl rfl (run_loadVar_row _ _ 25 _ _ (0, 0) _ (((F4.set 0 (.int .i64 (h : Int))).set 1 (.int .i64 (D : Int))).set 2 (.slice a4 Z.length c4)) Try.underlying25 rfl rfl)) rfl ?_
      refine ⟨h, s, D, a4, c4, HK.out, HS.out, HD.out, ?_, ?_, ((b4.setCell (p := ⟨w.heap.size + 2, 0, none⟩) (by simp) _).setCell (p := ⟨w.heap.size + 2, 1, none⟩) (by simp) _).setCell (p := ⟨w.heap.size + 2, 2, none⟩) (by simp) _⟩
      · rw [show L.length - s - h = h - h from by have := HH.out; omega, HZ.out]; try rfl
      · rw [show L.length - s - h = h - h from by have := HH.out; omega, HZ.out]
        exact (row_set3b hown _ (by omega) _ _ _).mono (fun g hg => ⟨by omega, hg.2⟩)
    · have hd := row_take_some hdr.1 (h - k) (by rw [List.length_drop]; have := HH.out; omega)
      clear hdr
      generalize hZ : (L.drop k).take (h - k) = Z at *
      have HZ := Lib.hid hZ
      have hZl : Z.length ≤ 100000 := by rw [← hZ, List.length_take, List.length_drop]; omega
      clear hZ
      go_wp2_with fail
      refine (cloneInts_any _ _ Z _ hd (by omega)).mono ?_
      rintro e W4 ⟨a4, c4, rfl, hown, hrow, hb4⟩
      have b4 := stepB b2 hb4
      have F4 := F2.step hb4
      have f0 : W4.cell? ⟨w.heap.size + 2, 0, none⟩ = some (.int .i64 0) := F4.cell 0
      have f1 : W4.cell? ⟨w.heap.size + 2, 1, none⟩ = some (.int .i64 0) := F4.cell 1
      have f2 : W4.cell? ⟨w.heap.size + 2, 2, none⟩ = some (.slice none 0 0) := F4.cell 2
      have g0 : W4.frozen? ⟨w.heap.size + 2, 0, none⟩ = false := F4.free 0
      have g1 : W4.frozen? ⟨w.heap.size + 2, 1, none⟩ = false := F4.free 1
      have g2 : W4.frozen? ⟨w.heap.size + 2, 2, none⟩ = false := F4.free 2
      clear b2 F2 hrL hd hb4 z4 z5 C2 D2 c0 c1 d0 d1
      dsimp only
      go_wp2_with fail
      refine bodyPost_ret (v := .tuple #[.agg #[.int .i64 (k : Int), .int .i64 (D : Int), .slice a4 Z.length c4], .int .i64 0]) (results_row_tmp rfl _ _ (w.heap.size + 2) _ _ rfl rfl (run_loadVar_row _ _ 25 _ _ (0, 0) _ (((F4.set 0 (.int .i64 (k : Int))).set 1 (.int .i64 (D : Int))).set 2 (.slice a4 Z.length c4)) Try.underlying25 rfl rfl)) rfl ?_
      refine ⟨k, s, D, a4, c4, HK.out, HS.out, HD.out, ?_, ?_, ((b4.setCell (p := ⟨w.heap.size + 2, 0, none⟩) (by simp) _).setCell (p := ⟨w.heap.size + 2, 1, none⟩) (by simp) _).setCell (p := ⟨w.heap.size + 2, 2, none⟩) (by simp) _⟩
      · rw [show L.length - s - k = h - k from by have := HH.out; omega, HZ.out]; try rfl
      · rw [show L.length - s - k = h - k from by have := HH.out; omega, HZ.out]
        exact (row_set3b hown _ (by omega) _ _ _).mono (fun g hg => ⟨by omega, hg.2⟩)
end Go.Proofs.Ytmfekbljfnjkgaa
