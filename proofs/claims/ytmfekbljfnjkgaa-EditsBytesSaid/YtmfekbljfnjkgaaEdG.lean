/- Contracts for package edits: the reference's Edit, the generator. -/
import Derived.Test.YtmfekbljfnjkgaaEdF
namespace Go.Proofs.Ytmfekbljfnjkgaa
open Go.RowKit Go.Shelf
set_option linter.unusedVariables false

theorem arith_ed (m s : Nat) (h : (m : Int) < 1048576) (hs : s ≤ 1000000) : ∃ p d r q z : Nat, (m : Int) % ((s : Int) + 1) = (p : Int) ∧ wrap64 ((m : Int) / 64) = (d : Int) ∧ Int.tmod (d : Int) 4 = (r : Int) ∧ Int.tmod (m : Int) 7 = (q : Int) ∧ (s : Int) - (p : Int) = (z : Int) ∧ p ≤ s ∧ z = s - p ∧ r ≤ 3 ∧ d ≤ 1000000 := by
  have h1 : (m : Int) % ((s : Int) + 1) = ((m % (s + 1) : Nat) : Int) := by push_cast; rfl
  have h2 : m % (s + 1) < s + 1 := Nat.mod_lt _ (by omega)
  refine ⟨m % (s + 1), m / 64, m / 64 % 4, m % 7, s - m % (s + 1), h1, ?_, ?_, ?_, ?_, by omega, rfl, by omega, by omega⟩
  · rw [IntWalk.wrap64_in _ (by omega)]; omega
  · rw [Int.tmod_eq_emod_of_nonneg (by omega)]; omega
  · rw [Int.tmod_eq_emod_of_nonneg (by omega)]; omega
  · omega
theorem arith_ed2 (m : Nat) (h : (m : Int) < 1048576) : ∃ a b r : Nat, wrap64 ((m : Int) / 12) = (a : Int) ∧ wrap64 ((m : Int) / 144) = (b : Int) ∧ Int.tmod (m : Int) 4 = (r : Int) ∧ r ≤ 3 ∧ a ≤ 1000000 ∧ b ≤ 1000000 := by
  refine ⟨m / 12, m / 144, m % 4, ?_, ?_, ?_, by omega, by omega, by omega⟩
  · rw [IntWalk.wrap64_in _ (by omega)]; omega
  · rw [IntWalk.wrap64_in _ (by omega)]; omega
  · rw [Int.tmod_eq_emod_of_nonneg (by omega)]; omega
/-- An edit of a text of so many symbols. -/
def EdPost (size : Nat) (w : World) (e : Ending) (w' : World) : Prop :=
  ∃ (x y : Nat) (ins : List Int) (a : Option Addr) (c : Nat), e = .returned (.agg #[.int .i64 (x : Int), .int .i64 (y : Int), .slice a ins.length c]) ∧ x + y ≤ size ∧ ins.length ≤ 3 ∧ (∀ z ∈ ins, 10 ≤ z ∧ z ≤ 200) ∧ Row .i64 w'.heap.size w' (.slice a ins.length c) ins ∧ Below w.heap.size w w'
set_option maxRecDepth 100000 in
set_option maxHeartbeats 4000000 in
theorem edit27_any (size : Nat) (n m : Int) (w : World) (hs : size ≤ 1000000) (hn : (Lit.int .i64 n).wf = true) (hm : (Lit.int .i64 m).wf = true) :
    Calls Try.prog 11 #[.int .i64 (size : Int), .int .i64 n, .int .i64 m] w (EdPost size w) := by
  have b0 := laidB (Below.refl w.heap.size w) (.cells #[.int .i64 0, .int .i64 0, .slice none 0 0] 25)
  have C0 := Cel.new w 25 #[.int .i64 0, .int .i64 0, .slice none 0 0]
  have hs0 : w.heap.size + 1 ≤ (w.alloc (.cells #[.int .i64 0, .int .i64 0, .slice none 0 0] 25)).heap.size := by simp
  go_enter Try.func11, Try.ntmps11
  go_wp2_with fail
  generalize hW : w.alloc (.cells #[.int .i64 0, .int .i64 0, .slice none 0 0] 25) = W1 at *
  have hW1 : W1.heap.size = w.heap.size + 1 := by rw [← hW]; simp
  clear hW
  refine (around_any n 1048576 _ hn (by decide) (by decide)).mono ?_
  rintro e X ⟨rfl, hX⟩
  subst hX
  have ha0 := aroundI_lo n 1048576 (by decide)
  have ha1 := aroundI_hi n 1048576 (by decide)
  generalize aroundI n 1048576 = N at *
  obtain ⟨k, rfl⟩ := Int.eq_ofNat_of_zero_le ha0
  dsimp only
  go_wp2_with fail
  refine (around_any m 1048576 _ hm (by decide) (by decide)).mono ?_
  rintro e X ⟨rfl, hX⟩
  subst hX
  have hc0 := aroundI_lo m 1048576 (by decide)
  have hc1 := aroundI_hi m 1048576 (by decide)
  generalize aroundI m 1048576 = M at *
  obtain ⟨j, rfl⟩ := Int.eq_ofNat_of_zero_le hc0
  obtain ⟨p, d, r, q, z, h1, h2, h3, h4, h5, hps, hz, hr3, hd⟩ := arith_ed k size ha1 hs
  obtain ⟨ja, jb, jr, g1, g2, g3, hjr, hja, hjb⟩ := arith_ed2 j hc1
  have HZ := Lib.hid hz
  have hsI : (size : Int) ≤ 1000000 := by omega
  have hwj : ∀ x ∈ [(j : Int), (ja : Int), (jb : Int)], (Lit.int .i64 x).wf = true := by
    intro x hx
    simp only [List.mem_cons, List.not_mem_nil, or_false] at hx
    simp [Lit.wf, IntKind.min, IntKind.max, IntKind.signed, IntKind.bits]
    omega
  have HWJ := Lib.hid hwj
  clear hz hwj ha0 ha1 hc0 hc1 hd hja hjb hs hn hm
  have hdz : (0 : Int) < (size : Int) + 1 := by omega
  obtain ⟨Y, hY, hYz⟩ : ∃ Y : Nat, min (z : Int) (r : Int) = (Y : Int) ∧ Y ≤ z := ⟨min z r, by omega, by omega⟩
  dsimp only
  by_cases hq : (q : Int) = 0
  · go_wp2_with fail
    have hb2 := laidB (laidB b0 (.cells #[.int .i64 (p : Int), .int .i64 (z : Int), .slice none 0 0] 25)) (.cells #[.int .i64 (j : Int), .int .i64 (ja : Int), .int .i64 (jb : Int)] 3)
    have C2 := (C0.alloc (.cells #[.int .i64 (p : Int), .int .i64 (z : Int), .slice none 0 0] 25)).alloc (.cells #[.int .i64 (j : Int), .int .i64 (ja : Int), .int .i64 (jb : Int)] 3)
    have D2 := (Cel.new X 25 #[.int .i64 (p : Int), .int .i64 (z : Int), .slice none 0 0]).alloc (.cells #[.int .i64 (j : Int), .int .i64 (ja : Int), .int .i64 (jb : Int)] 3)
    rw [hW1] at D2
    have hr2 := row_new (k := .i64) (X.alloc (.cells #[.int .i64 (p : Int), .int .i64 (z : Int), .slice none 0 0] 25)) 3 [(j : Int), (ja : Int), (jb : Int)] (by simp [maxLen]) 3 rfl #[.int .i64 (j : Int), .int .i64 (ja : Int), .int .i64 (jb : Int)] rfl
    rw [← World.size_alloc (o := .cells #[.int .i64 (j : Int), .int .i64 (ja : Int), .int .i64 (jb : Int)] 3), World.size_alloc (w := X), hW1] at hr2
    have hs2 : w.heap.size + 3 ≤ ((X.alloc (.cells #[.int .i64 (p : Int), .int .i64 (z : Int), .slice none 0 0] 25)).alloc (.cells #[.int .i64 (j : Int), .int .i64 (ja : Int), .int .i64 (jb : Int)] 3)).heap.size := by simp [hW1]
    generalize (X.alloc (.cells #[.int .i64 (p : Int), .int .i64 (z : Int), .slice none 0 0] 25)).alloc (.cells #[.int .i64 (j : Int), .int .i64 (ja : Int), .int .i64 (jb : Int)] 3) = W2 at *
    refine (text5_any _ 3 [(j : Int), (ja : Int), (jb : Int)] jr W2 hr2 (by omega) HWJ.out).mono ?_
    have hl5 := text5_len [(j : Int), (ja : Int), (jb : Int)] jr
    have ho5 := Lib.hid (text5_ok [(j : Int), (ja : Int), (jb : Int)] jr)
    generalize text5 [(j : Int), (ja : Int), (jb : Int)] jr = T at *
    rintro e W3 ⟨v, rfl, hown, hb⟩
    have hrow := row_own2' hown
    obtain ⟨a5, c5, rfl⟩ := row_slice (row_of_owns hown).1
    have b3 := stepB hb2 hb
    have C3 := C2.step hb
    have D3 := D2.step hb
    have hs3 := Nat.le_trans hs2 hb.size
    clear hb2 C2 D2 hr2 HWJ hb hown g1 g2 g3 h1 h2 h3 h4 h5 b0 C0 hs0 hdz
    have c0 : W3.cell? ⟨w.heap.size, 0, none⟩ = some (.int .i64 0) := C3.cell 0
    have c1 : W3.cell? ⟨w.heap.size, 1, none⟩ = some (.int .i64 0) := C3.cell 1
    have c2 : W3.cell? ⟨w.heap.size, 2, none⟩ = some (.slice none 0 0) := C3.cell 2
    have cz0 : W3.frozen? ⟨w.heap.size, 0, none⟩ = false := C3.free 0
    have cz1 : W3.frozen? ⟨w.heap.size, 1, none⟩ = false := C3.free 1
    have cz2 : W3.frozen? ⟨w.heap.size, 2, none⟩ = false := C3.free 2
    have d0 : W3.cell? ⟨w.heap.size + 1, 0, none⟩ = some (.int .i64 (p : Int)) := D3.cell 0
    have d1 : W3.cell? ⟨w.heap.size + 1, 1, none⟩ = some (.int .i64 (z : Int)) := D3.cell 1
    have d2 : W3.cell? ⟨w.heap.size + 1, 2, none⟩ = some (.slice none 0 0) := D3.cell 2
    have dz2 : W3.frozen? ⟨w.heap.size + 1, 2, none⟩ = false := D3.free 2
    have D4 := D3.set 2 (.slice a5 T.length c5)
    have C4 := C3.far (p := ⟨w.heap.size + 1, 2, none⟩) (by dsimp only; omega) (.slice a5 T.length c5)
    have x0 : (W3.setCell ⟨w.heap.size + 1, 2, none⟩ (.slice a5 T.length c5)).cell? ⟨w.heap.size + 1, 0, none⟩ = some (.int .i64 (p : Int)) := D4.cell 0
    have x1 : (W3.setCell ⟨w.heap.size + 1, 2, none⟩ (.slice a5 T.length c5)).cell? ⟨w.heap.size + 1, 1, none⟩ = some (.int .i64 (z : Int)) := D4.cell 1
    have x2 : (W3.setCell ⟨w.heap.size + 1, 2, none⟩ (.slice a5 T.length c5)).cell? ⟨w.heap.size + 1, 2, none⟩ = some (.slice a5 T.length c5) := D4.cell 2
    have y0 : (W3.setCell ⟨w.heap.size + 1, 2, none⟩ (.slice a5 T.length c5)).cell? ⟨w.heap.size, 0, none⟩ = some (.int .i64 0) := C4.cell 0
    have y1 : (W3.setCell ⟨w.heap.size + 1, 2, none⟩ (.slice a5 T.length c5)).cell? ⟨w.heap.size, 1, none⟩ = some (.int .i64 0) := C4.cell 1
    have y2 : (W3.setCell ⟨w.heap.size + 1, 2, none⟩ (.slice a5 T.length c5)).cell? ⟨w.heap.size, 2, none⟩ = some (.slice none 0 0) := C4.cell 2
    have yz0 := C4.free 0
    have yz1 := C4.free 1
    have yz2 := C4.free 2
    dsimp only
    go_wp2_with fail
    refine bodyPost_ret (results_cell_row rfl _ _ w.heap.size 25 _ (0, 0) _ rfl (((C4.set 0 (.int .i64 (p : Int))).set 1 (.int .i64 (z : Int))).set 2 (.slice a5 T.length c5)) Try.underlying25 rfl rfl) rfl ?_
    refine ⟨p, z, T, a5, c5, rfl, by have := HZ.out; omega, by omega, ho5.out, ?_, (((b3.setCell (by dsimp only; omega) _).setCell (by dsimp only; omega) _).setCell (by dsimp only; omega) _).setCell (by dsimp only; omega) _⟩
    refine RowP.mono (fun g hg => ?_) (RowP.keep ((((KeepP.setCell (fun g => W2.heap.size ≤ g ∧ g < W3.heap.size) W3 ⟨w.heap.size + 1, 2, none⟩ _ ?_).trans (KeepP.setCell _ _ ⟨w.heap.size, 0, none⟩ _ ?_)).trans (KeepP.setCell _ _ ⟨w.heap.size, 1, none⟩ _ ?_)).trans (KeepP.setCell _ _ ⟨w.heap.size, 2, none⟩ _ ?_)) hrow)
    · simp; omega
    all_goals exact fun h => by have := h.1; dsimp only at this; omega
  · go_wp2_with fail
    have hb2 := laidB (laidB b0 (.cells #[.int .i64 (p : Int), .int .i64 (Y : Int), .slice none 0 0] 25)) (.cells #[.int .i64 (j : Int), .int .i64 (ja : Int), .int .i64 (jb : Int)] 3)
    have C2 := (C0.alloc (.cells #[.int .i64 (p : Int), .int .i64 (Y : Int), .slice none 0 0] 25)).alloc (.cells #[.int .i64 (j : Int), .int .i64 (ja : Int), .int .i64 (jb : Int)] 3)
    have D2 := (Cel.new X 25 #[.int .i64 (p : Int), .int .i64 (Y : Int), .slice none 0 0]).alloc (.cells #[.int .i64 (j : Int), .int .i64 (ja : Int), .int .i64 (jb : Int)] 3)
    rw [hW1] at D2
    have hr2 := row_new (k := .i64) (X.alloc (.cells #[.int .i64 (p : Int), .int .i64 (Y : Int), .slice none 0 0] 25)) 3 [(j : Int), (ja : Int), (jb : Int)] (by simp [maxLen]) 3 rfl #[.int .i64 (j : Int), .int .i64 (ja : Int), .int .i64 (jb : Int)] rfl
    rw [← World.size_alloc (o := .cells #[.int .i64 (j : Int), .int .i64 (ja : Int), .int .i64 (jb : Int)] 3), World.size_alloc (w := X), hW1] at hr2
    have hs2 : w.heap.size + 3 ≤ ((X.alloc (.cells #[.int .i64 (p : Int), .int .i64 (Y : Int), .slice none 0 0] 25)).alloc (.cells #[.int .i64 (j : Int), .int .i64 (ja : Int), .int .i64 (jb : Int)] 3)).heap.size := by simp [hW1]
    generalize (X.alloc (.cells #[.int .i64 (p : Int), .int .i64 (Y : Int), .slice none 0 0] 25)).alloc (.cells #[.int .i64 (j : Int), .int .i64 (ja : Int), .int .i64 (jb : Int)] 3) = W2 at *
    refine (text5_any _ 3 [(j : Int), (ja : Int), (jb : Int)] jr W2 hr2 (by omega) HWJ.out).mono ?_
    have hl5 := text5_len [(j : Int), (ja : Int), (jb : Int)] jr
    have ho5 := Lib.hid (text5_ok [(j : Int), (ja : Int), (jb : Int)] jr)
    generalize text5 [(j : Int), (ja : Int), (jb : Int)] jr = T at *
    rintro e W3 ⟨v, rfl, hown, hb⟩
    have hrow := row_own2' hown
    obtain ⟨a5, c5, rfl⟩ := row_slice (row_of_owns hown).1
    have b3 := stepB hb2 hb
    have C3 := C2.step hb
    have D3 := D2.step hb
    have hs3 := Nat.le_trans hs2 hb.size
    clear hb2 C2 D2 hr2 HWJ hb hown g1 g2 g3 h1 h2 h3 h4 h5 b0 C0 hs0 hdz hY
    have c0 : W3.cell? ⟨w.heap.size, 0, none⟩ = some (.int .i64 0) := C3.cell 0
    have c1 : W3.cell? ⟨w.heap.size, 1, none⟩ = some (.int .i64 0) := C3.cell 1
    have c2 : W3.cell? ⟨w.heap.size, 2, none⟩ = some (.slice none 0 0) := C3.cell 2
    have cz0 : W3.frozen? ⟨w.heap.size, 0, none⟩ = false := C3.free 0
    have cz1 : W3.frozen? ⟨w.heap.size, 1, none⟩ = false := C3.free 1
    have cz2 : W3.frozen? ⟨w.heap.size, 2, none⟩ = false := C3.free 2
    have d0 : W3.cell? ⟨w.heap.size + 1, 0, none⟩ = some (.int .i64 (p : Int)) := D3.cell 0
    have d1 : W3.cell? ⟨w.heap.size + 1, 1, none⟩ = some (.int .i64 (Y : Int)) := D3.cell 1
    have d2 : W3.cell? ⟨w.heap.size + 1, 2, none⟩ = some (.slice none 0 0) := D3.cell 2
    have dz2 : W3.frozen? ⟨w.heap.size + 1, 2, none⟩ = false := D3.free 2
    have D4 := D3.set 2 (.slice a5 T.length c5)
    have C4 := C3.far (p := ⟨w.heap.size + 1, 2, none⟩) (by dsimp only; omega) (.slice a5 T.length c5)
    have x0 : (W3.setCell ⟨w.heap.size + 1, 2, none⟩ (.slice a5 T.length c5)).cell? ⟨w.heap.size + 1, 0, none⟩ = some (.int .i64 (p : Int)) := D4.cell 0
    have x1 : (W3.setCell ⟨w.heap.size + 1, 2, none⟩ (.slice a5 T.length c5)).cell? ⟨w.heap.size + 1, 1, none⟩ = some (.int .i64 (Y : Int)) := D4.cell 1
    have x2 : (W3.setCell ⟨w.heap.size + 1, 2, none⟩ (.slice a5 T.length c5)).cell? ⟨w.heap.size + 1, 2, none⟩ = some (.slice a5 T.length c5) := D4.cell 2
    have y0 : (W3.setCell ⟨w.heap.size + 1, 2, none⟩ (.slice a5 T.length c5)).cell? ⟨w.heap.size, 0, none⟩ = some (.int .i64 0) := C4.cell 0
    have y1 : (W3.setCell ⟨w.heap.size + 1, 2, none⟩ (.slice a5 T.length c5)).cell? ⟨w.heap.size, 1, none⟩ = some (.int .i64 0) := C4.cell 1
    have y2 : (W3.setCell ⟨w.heap.size + 1, 2, none⟩ (.slice a5 T.length c5)).cell? ⟨w.heap.size, 2, none⟩ = some (.slice none 0 0) := C4.cell 2
    have yz0 := C4.free 0
    have yz1 := C4.free 1
    have yz2 := C4.free 2
    dsimp only
    go_wp2_with fail
    refine bodyPost_ret (results_cell_row rfl _ _ w.heap.size 25 _ (0, 0) _ rfl (((C4.set 0 (.int .i64 (p : Int))).set 1 (.int .i64 (Y : Int))).set 2 (.slice a5 T.length c5)) Try.underlying25 rfl rfl) rfl ?_
    refine ⟨p, Y, T, a5, c5, rfl, by have := HZ.out; omega, by omega, ho5.out, ?_, (((b3.setCell (by dsimp only; omega) _).setCell (by dsimp only; omega) _).setCell (by dsimp only; omega) _).setCell (by dsimp only; omega) _⟩
    refine RowP.mono (fun g hg => ?_) (RowP.keep ((((KeepP.setCell (fun g => W2.heap.size ≤ g ∧ g < W3.heap.size) W3 ⟨w.heap.size + 1, 2, none⟩ _ ?_).trans (KeepP.setCell _ _ ⟨w.heap.size, 0, none⟩ _ ?_)).trans (KeepP.setCell _ _ ⟨w.heap.size, 1, none⟩ _ ?_)).trans (KeepP.setCell _ _ ⟨w.heap.size, 2, none⟩ _ ?_)) hrow)
    · simp; omega
    all_goals exact fun h => by have := h.1; dsimp only at this; omega
end Go.Proofs.Ytmfekbljfnjkgaa
