/- Package disk: Used, put. -/
import Derived.Test.YtafmapcblcnccaaDkA
import Derived.Test.YtafmapcblcnccaaMapW
import Derived.Deep.RegionLaw
import Derived.Deep.DeepCutAuto
import Derived.Deep.AppendLies
namespace Go.Proofs.Ytafmapcblcnccaa
open Go.RowKit Go.Shelf
set_option linter.unusedVariables false

theorem RangeL.left {W : World} {r m : Nat} {l left : List (Int × Value)} (h : RangeL W r m l left) : W.rangeLeft m r = left.length := by
  obtain ⟨es, clock, since, seen, c0, g1, g2, g3, g4, g5, g6, g7, g7', g8⟩ := h.ex
  have := ents_len g8
  unfold World.rangeLeft
  rw [g1, g2]
  simpa using this
theorem one_at {x p : Int × Value} {j : Nat} (h : [x][j]? = some p) : j = 0 ∧ p = x := by
  rcases j with _ | j
  · simp at h; exact ⟨rfl, h.symm⟩
  · simp at h
def lenD : Option (Int × List Int × Nat) → Nat
  | none => 0
  | some (_, bs, _) => bs.length
theorem len_none : lenD none = 0 := rfl
theorem rowD.slice {W : World} {n0 : Nat} {v : Value} {n : Int} {bs : List Int} {d : Nat} (h : rowD W n0 v (some (n, bs, d))) : ∃ a c, v = .slice a bs.length c := row_slice (row_of_owns h.1).1
set_option maxHeartbeats 4000000 in
theorem used_any {n0 p m : Nat} {s : DS} {v : Value} (w : World) (h : Dk w n0 p m s v) :
    Calls Try.prog 24 #[.pointer (some ⟨p, 0, none⟩)] w fun e w' => e = .returned (.int .i64 (lenD s.f : Int)) ∧ Below w.heap.size w w' := by
  have c1 := h.box.cell 1
  have hm := h.map
  have hrow := h.row
  clear h
  generalize s.f = f at *
  cases f with
  | none =>
    have hm' : MapL w m [] := hm
    clear hm hrow
    go_enter Try.func24, Try.ntmps24
    go_wp2_with (at_range; refine wpList_rangeL _ rfl _ rfl Try.underlying72 rfl hm' ?_; intro o' hR)
    try go_frame
    have hb := laidB (Below.refl w.heap.size w) o'
    clear c1
    go_wp2_with fail
    go_loopw [3] (fun sv wr => sv = .int .i64 0 ∧ RangeL wr w.heap.size m [] [] ∧ Below w.heap.size w wr) (fun _ _ => 0)
    case atStart => exact ⟨rfl, hR, hb⟩
    case round =>
      obtain ⟨rfl, hR2, hb2⟩ := hrel
      clear hR hb
      go_wp2_with (at_next; refine wpList_nextL _ rfl _ rfl rfl hR2 (fun _ => ?_) (fun j p' W' hj => absurd hj (by simp)))
      try go_frame
      go_wp2_with fail
      go_ret
      exact ⟨rfl, hb2⟩
  | some x =>
    obtain ⟨n, bs, d⟩ := x
    obtain ⟨a, c, rfl⟩ := hrow.slice
    have hl := hrow.2.2.2.1
    have hl0 := hrow.2.1
    have hm' : MapL w m [(n, .agg #[.slice a bs.length c, .int .i64 (d : Int)])] := hm
    clear hm hrow
    have hlen : lenD (some (n, bs, d)) = bs.length := rfl
    rw [hlen]
    clear hlen
    generalize bs.length = L at *
    have hw1 : IntKind.i64.wrap (L : Int) = (L : Int) := IntWalk.i64_in _ (by omega)
    go_enter Try.func24, Try.ntmps24
    go_wp2_with (at_range; refine wpList_rangeL _ rfl _ rfl Try.underlying72 rfl hm' ?_; intro o' hR)
    try go_frame
    have hb := laidB (Below.refl w.heap.size w) o'
    clear c1
    go_wp2_with fail
    go_loopw [3] (fun sv wr => ∃ left, RangeL wr w.heap.size m [(n, .agg #[.slice a L c, .int .i64 (d : Int)])] left ∧ Below w.heap.size w wr ∧ ((sv = .int .i64 0 ∧ left = [(n, .agg #[.slice a L c, .int .i64 (d : Int)])]) ∨ (sv = .int .i64 (L : Int) ∧ left = []))) (fun _ wr => wr.rangeLeft m w.heap.size)
    case atStart => exact ⟨_, hR, hb, .inl ⟨rfl, rfl⟩⟩
    case round =>
      obtain ⟨left, hR2, hb2, hcs⟩ := hrel
      clear hR hb
      rcases hcs with ⟨rfl, rfl⟩ | ⟨rfl, rfl⟩
      · have hmeas := Lib.hid hR2.left
        have hb2' := Lib.hid hb2
        have hR2' := Lib.hid hR2
        clear hR2 hb2
        go_wp2_with (at_next; refine wpList_nextL _ rfl _ rfl rfl hR2'.out (fun h => absurd h (by simp)) ?_; intro j p' W' hj hR3 hg hsz hen; obtain ⟨rfl, rfl⟩ := one_at hj; replace hg := Lib.hid hg; replace hR3 := Lib.hid hR3; clear hj; dsimp only at hen)
        try go_frame
        have hb3 : Below w.heap.size w W' := hb2'.out.grown hg.out hb2'.out.size (fun k e => by injection e with e; omega)
        have hR4 : RangeL W' w.heap.size m [(n, .agg #[.slice a L c, .int .i64 (d : Int)])] [] := hR3.out
        have HR5 := Lib.hid (fun o => hR4.step (laidB (Below.refl W'.heap.size W') o))
        have hm5 := Lib.hid (fun o => (HR5.out o).left)
        go_roundw
        case rel => exact ⟨[], HR5.out _, laidB hb3 _, .inr (by simp)⟩
        case measure => rw [hmeas.out, hm5.out]; simp
      · go_wp2_with (at_next; refine wpList_nextL _ rfl _ rfl rfl hR2 (fun _ => ?_) (fun j p' W' hj => absurd hj (by simp)))
        try go_frame
        go_wp2_with fail
        go_ret
        exact ⟨rfl, hb2⟩
set_option maxRecDepth 100000 in
set_option maxHeartbeats 4000000 in
theorem put_any {p m : Nat} {l : List (Int × Value)} (rm : Int) (off : Bool) (pl : Int) (n : Int) (a : Option Addr) (L c : Nat) (d : Int) (w : World) (hc : Cel w p 74 #[.int .i64 rm, .map (some m), .bool off, .int .i64 pl]) (hm : MapL w m l) :
    Calls Try.prog 51 #[.pointer (some ⟨p, 0, none⟩), .int .i64 n, .agg #[.slice a L c, .int .i64 d]] w fun e w' => e = .returned (.tuple #[]) ∧ MapL w' m (if L = 0 then delL l n else putL l n (.agg #[.slice a L c, .int .i64 d])) ∧ OnlyP (fun k => k = m) w w' := by
  obtain ⟨X, hX⟩ : ∃ X, X = w.alloc (.cells #[.slice a L c, .int .i64 d] 79) := ⟨_, rfl⟩
  have bX : Below w.heap.size w X := by rw [hX]; exact laidB (Below.refl _ _) _
  have CX : Cel X w.heap.size 79 #[.slice a L c, .int .i64 d] := by rw [hX]; exact Cel.new _ _ _
  have x0 := CX.cell 0
  have x1 := CX.cell 1
  have hcX := hc.step bX
  have y1 := hcX.cell 1
  have hmX := hm.step bX
  have hq : ∀ k, (some m : Option Nat) = some k → k = m := fun k e => by cases e; rfl
  clear hcX CX hc hm
  by_cases hL : L = 0
  · rw [if_pos hL]
    subst hL
    obtain ⟨W', hrun, h1, h2⟩ := hmX.del (P := Try.prog) (t := 72) (k := 3) Try.underlying72 Try.underlying3 n 0
    have H1 := Lib.hid h1
    have H2 := Lib.hid h2
    clear h1 h2 hmX
    go_enter Try.func51, Try.ntmps51
    go_upto_region 1 with (fail)
    rw [← hX]
    clear hX
    go_wp2_with fail
    refine bodyPost_ret (results_none rfl _ _ _) rfl ?_
    exact ⟨rfl, H1.out, (OnlyP.of_below bX).trans (OnlyP.of_grown H2.out hq)⟩
  · rw [if_neg hL]
    have hb : ((L : Int) == 0) = false := by simpa using hL
    obtain ⟨W', hrun, h1, h2⟩ := (hmX.step ((Below.refl X.heap.size X).drew)).put (P := Try.prog) (t := 72) (k := 3) Try.underlying72 Try.underlying3 n (.agg #[.slice a L c, .int .i64 d])
    have H1 := Lib.hid h1
    have H2 := Lib.hid h2
    clear h1 h2 hmX
    go_enter Try.func51, Try.ntmps51
    go_upto_region 1 with (fail)
    rw [← hX]
    clear hX
    go_upto_region 3 with (fail)
    go_region_law (fail)
    all_goals
      go_wp2_with fail
      go_end0
      exact ⟨rfl, H1.out, (OnlyP.of_below ((bX).drew)).trans (OnlyP.of_grown H2.out hq)⟩
end Go.Proofs.Ytafmapcblcnccaa
