/- Package disk: settle. -/
import Derived.Test.YtafmapcblcnccaaDkJ
namespace Go.Proofs.Ytafmapcblcnccaa
open Go.RowKit Go.Shelf
set_option linter.unusedVariables false

theorem row_one {W : World} {q : Nat → Prop} {a : Option Addr} {c : Nat} {n : Int} (h : RowP .i64 q W (.slice a 1 c) [n]) : ∃ g off, a = some ⟨g, off, none⟩ ∧ W.cell? ⟨g, off, none⟩ = some (.int .i64 n) ∧ 1 ≤ c := by
  rcases h with ⟨_, _, _, _, _, h⟩ | ⟨g, off, cap, h1, h2, h3, _, h4⟩
  · cases h
  · injection h1 with e1 _ e2
    subst e1 e2
    exact ⟨g, off, rfl, (h4 0 (Nat.zero_lt_one)).trans rfl, by simp at h2; exact h2⟩
set_option maxRecDepth 100000 in
set_option maxHeartbeats 4000000 in
theorem settle_some {n0 p m : Nat} {s : DS} {v : Value} (w : World) (h : Dk w n0 p m s v) (n : Int) (bs : List Int) (d : Nat) (hf : s.f = some (n, bs, d)) (h0 : 0 ≤ n) (h64 : n < 64) :
    Calls Try.prog 54 #[.pointer (some ⟨p, 0, none⟩)] w fun e w' => e = .returned (.tuple #[]) ∧ Dk w' n0 p m { s with f := some (n, bs, bs.length) } v ∧ OnlyP (fun k => k = m) w w' := by
  have hF := filesD_any w h (by rw [hf]; exact ⟨h0, h64⟩)
  rw [show (numsD s.f).length = 1 from by rw [hf]; rfl] at hF
  have HF := Lib.hid hF
  have HN := Lib.hid (show numsD s.f = [n] by rw [hf]; rfl)
  have hrow := h.row
  rw [hf] at hrow
  obtain ⟨av, cv, rfl⟩ := hrow.slice
  have HH := Lib.hid h
  have HR := Lib.hid hrow
  have hbl := hrow.2.2.2.1
  have HE := Lib.hid hf
  clear h hf hrow hF
  go_enter Try.func54, Try.ntmps54
  go_wp2_with fail
  refine HF.out.mono ?_
  rintro e w1 ⟨a, c, rfl, hr1, b1⟩
  rw [HN.out] at hr1
  dsimp only
  obtain ⟨g, off, rfl, hcell, hc1⟩ := row_one hr1
  have h1 := HH.out.step b1
  have c1 := h1.box.cell 1
  have hm1 : MapL w1 m [(n, .agg #[.slice av bs.length cv, .int .i64 (d : Int)])] := by have := h1.map; rw [HE.out] at this; exact this
  have hlk := hm1.look (P := Try.prog) (t := 72) (k := 3) Try.underlying72 Try.underlying3 _ (zeroF w1) n false
  simp only [Bool.false_eq_true, if_false, lkL, if_true, Option.getD_some] at hlk
  obtain ⟨X, hX⟩ : ∃ X, X = w1.alloc (.cells #[.slice av bs.length cv, .int .i64 (d : Int)] 79) := ⟨_, rfl⟩
  have bX : Below w1.heap.size w1 X := by rw [hX]; exact laidB (Below.refl _ _) _
  have CX : Cel X w1.heap.size 79 #[.slice av bs.length cv, .int .i64 (d : Int)] := by rw [hX]; exact Cel.new _ _ _
  obtain ⟨Z, hZ⟩ : ∃ Z, Z = X.setCell ⟨w1.heap.size, 1, none⟩ (.int .i64 (bs.length : Int)) := ⟨_, rfl⟩
  have CZ : Cel Z w1.heap.size 79 #[.slice av bs.length cv, .int .i64 (bs.length : Int)] := by rw [hZ]; exact CX.set 1 _
  have oZ : OnlyP (fun i => i = w1.heap.size) X Z := by rw [hZ]; exact OnlyP.set (fun i => i = w1.heap.size) _ _ _ rfl
  have hpw := h1.box.lt
  have hmw := hm1.lt
  have hcX := h1.box.step bX
  have hcZ := hcX.only oZ (by omega)
  have hmZ := ((hm1.step bX).only oZ (by omega)).step ((Below.refl Z.heap.size Z).drew)
  obtain ⟨W', hrun, k1, k2⟩ := hmZ.put (P := Try.prog) (t := 72) (k := 3) Try.underlying72 Try.underlying3 n (.agg #[.slice av bs.length cv, .int .i64 (bs.length : Int)])
  have hq : ∀ k, (some m : Option Nat) = some k → k = m := fun k e => by cases e; rfl
  have o1 : OnlyP (fun k => k = m) w1 W' := ((OnlyP.of_below bX).trans' oZ (fun i e => .inr (by omega))).trans ((OnlyP.of_below ((Below.refl Z.heap.size Z).drew)).trans (OnlyP.of_grown k2 hq))
  have o2 : OnlyP (fun k => k = m) w W' := (OnlyP.of_below b1).trans o1
  have hcW := h1.box.only o1 h1.pm
  have howW := owns_same (W' := W') HR.out.1 (fun b e => o2.block b (owns_lt' HR.out.1 e) (fun hh => HH.out.vm (by rw [e, hh])))
  have k1' : MapL W' m (entD (.slice av bs.length cv) (some (n, bs, bs.length))) := by simpa [entD, putL] using k1
  have FIN : Hid (Dk W' n0 p m { s with f := some (n, bs, bs.length) } (.slice av bs.length cv) ∧ OnlyP (fun k => k = m) w W') :=
    Lib.hid ⟨⟨hcW, k1', ⟨howW, HR.out.2.1, Nat.le_refl _, HR.out.2.2.2⟩, HH.out.room0, HH.out.room1, HH.out.plan0, HH.out.plan1, HH.out.basep, HH.out.basem⟩, o2⟩
  have x0 := CX.cell 0
  have x1 := CX.cell 1
  have xf := CX.free 1
  have z0 : Z.drew.cell? ⟨w1.heap.size, 0, none⟩ = some (.slice av bs.length cv) := CZ.cell 0
  have z1 : Z.drew.cell? ⟨w1.heap.size, 1, none⟩ = some (.int .i64 (bs.length : Int)) := CZ.cell 1
  have zp : Z.drew.cell? ⟨p, 1, none⟩ = some (.map (some m)) := hcZ.cell 1
  clear hcW howW k1 k1' k2 hmZ hcZ hcX CZ CX oZ o1 o2 hm1 h1 hr1 bX
  go_wp2_with fail
  go_loopw [8] (fun i wr => (i = .int .i64 0 ∧ wr = w1) ∨ (i = .int .i64 1 ∧ wr = W')) (fun i _ => 1 - (intOf i).toNat)
  case atStart => exact .inl ⟨rfl, rfl⟩
  case round =>
    rcases hrel with ⟨rfl, rfl⟩ | ⟨rfl, rfl⟩
    · go_upto_region 4 with (fail)
      rw [← hX]
      clear hX
      go_upto_region 5 with (fail)
      rw [← hZ]
      clear hZ
      go_region_law (fail)
      all_goals
        go_wp2_with fail
        go_roundw
        case rel => exact .inr (by simp)
        case measure => simp [intOf]
    · go_wp2_with fail
      go_end0
      exact ⟨rfl, FIN.out⟩
end Go.Proofs.Ytafmapcblcnccaa
