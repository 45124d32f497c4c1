/- The contract of the reference's Encode (rexmillref27). -/
import Derived.Test.YtmfekbljfnjkgaaEbC
import Derived.Test.YtmfekbljfnjkgaaStepApp
import Derived.Deep.RegionLaw
import Derived.Deep.AppendLies
import Derived.Deep.DeepCutAuto
namespace Go.Proofs.Ytmfekbljfnjkgaa
open Go.RowKit Go.Shelf
set_option linter.unusedVariables false
set_option maxRecDepth 100000

/-- What the reference has gathered: bytes of its own, the item's box as it was. -/
def AccP (w : World) (cs : Array Value) (s : Value) (zs : List Int) (wx : World) : Prop :=
  wx.ownsRow (w.heap.size + 1) 5 1 s zs.length (zs.map (Value.int .u8)) ∧ Cel wx w.heap.size 63 cs ∧ Below w.heap.size w wx
theorem AccP.lt {w wx : World} {cs : Array Value} {s : Value} {zs : List Int} (h : AccP w cs s zs wx) : w.heap.size < wx.heap.size := h.2.1.lt
theorem AccP.ne {w wx : World} {cs : Array Value} {s : Value} {zs : List Int} (h : AccP w cs s zs wx) : s.ownBlock ≠ some w.heap.size := fun e => by have := own_base h.1 e; omega
theorem AccP.grown {w wx wy : World} {cs : Array Value} {s s' : Value} {zs zs' : List Int} (h : AccP w cs s zs wx) (hg : wx.grownBy wy s.ownBlock) (ho : wy.ownsRow (w.heap.size + 1) 5 1 s' zs'.length (zs'.map (Value.int .u8))) : AccP w cs s' zs' wy :=
  ⟨ho, h.2.1.grown hg h.ne, h.2.2.grown hg h.2.2.size (fun k e => by have := own_base h.1 e; omega)⟩
theorem AccP.step {w wx wy : World} {cs : Array Value} {s : Value} {zs : List Int} (h : AccP w cs s zs wx) (hb : Below wx.heap.size wx wy) : AccP w cs s zs wy :=
  ⟨owns_kept_below h.1 hb, h.2.1.step hb, h.2.2.trans (hb.mono h.2.2.size)⟩
/-- Own bytes of a call, behind other calls and appends. -/
theorem owns_far {wx wy : World} {base : Nat} {v s : Value} {n : Nat} {xs : List Value} (h : wx.ownsRow base 5 1 v n xs) (hg : wx.grownBy wy s.ownBlock) (hs : ∀ k, s.ownBlock = some k → k < base) : wy.ownsRow base 5 1 v n xs :=
  h.kept hg (by
    cases hv : v.ownBlock with
    | none => exact .inl rfl
    | some q =>
      right
      intro e
      have h1 := hs q e.symm
      have h2 := own_base h hv
      omega)
theorem own_lt {w : World} {base : Nat} {e : TypeId} {size : Nat} {v : Value} {n : Nat} {xs : List Value} (h : w.ownsRow base e size v n xs) {k : Nat} (hk : v.ownBlock = some k) : k < w.heap.size := by
  rcases h.2 with ⟨rfl, _⟩ | ⟨g, cp, cur, rfl, hb, hg, _⟩
  · simp [Value.ownBlock] at hk
  · obtain rfl : g = k := by simpa [Value.ownBlock] using hk
    exact (Array.getElem?_eq_some_iff.1 hg).1
set_option maxHeartbeats 4000000 in
theorem refEnc27_any (c nu ba at' de : Int) (a : Option Addr) (cap : Nat) (ins : List Int) (w : World) (hr : Row .i64 w.heap.size w (.slice a ins.length cap) ins) (hl : ins.length ≤ 100000)
    (h1 : (Lit.int .i64 c).wf = true) (h2 : (Lit.int .i64 nu).wf = true) (h3 : (Lit.int .i64 ba).wf = true) (h4 : (Lit.int .i64 at').wf = true) (h5 : (Lit.int .i64 de).wf = true) (hwf : ∀ n ∈ ins, (Lit.int .i64 n).wf = true) :
    Calls Try.prog 39 #[.agg #[.int .i64 c, .int .i64 nu, .int .i64 ba, .int .i64 at', .int .i64 de, .slice a ins.length cap]] w fun e w' => ∃ v, e = .returned v ∧ w'.ownsRow w.heap.size 5 1 v (itemB c nu ba at' de ins).length ((itemB c nu ba at' de ins).map (Value.int .u8)) ∧ Below w.heap.size w w' := by
  obtain ⟨i0, hi, hz0, hz1, hz2⟩ := info_parts info_byte
  have HI1 := Lib.hid (fun W : World => refInt_any c W h1)
  have HI2 := Lib.hid (fun W : World => refInt_any nu W h2)
  have HI3 := Lib.hid (fun W : World => refInt_any ba W h3)
  have HI4 := Lib.hid (fun W : World => refInt_any at' W h4)
  have HI5 := Lib.hid (fun W : World => refInt_any de W h5)
  have l1 := sint_le c
  have l2 := sint_le nu
  have l3 := sint_le ba
  have l4 := sint_le at'
  have l5 := sint_le de
  have HB : Hid (itemB c nu ba at' de ins = ((((sint c ++ sint nu) ++ sint ba) ++ sint at') ++ sint de) ++ sints ins) := Lib.hid rfl
  obtain ⟨X, hX⟩ : ∃ X, X = w.alloc (.cells #[.int .i64 c, .int .i64 nu, .int .i64 ba, .int .i64 at', .int .i64 de, .slice a ins.length cap] 63) := ⟨_, rfl⟩
  have C0 : Cel X.drew w.heap.size 63 #[.int .i64 c, .int .i64 nu, .int .i64 ba, .int .i64 at', .int .i64 de, .slice a ins.length cap] := by rw [hX]; exact Cel.new w _ _
  have b0 : Below w.heap.size w X.drew := by rw [hX]; exact (laidB (Below.refl _ _) _).drew
  have sX : X.drew.heap.size = w.heap.size + 1 := by rw [hX]; simp
  clear h1 h2 h3 h4 h5
  generalize sint c = S1 at *
  generalize sint nu = S2 at *
  generalize sint ba = S3 at *
  generalize sint at' = S4 at *
  generalize sint de = S5 at *
  obtain ⟨cs, hcs⟩ : ∃ x : Array Value, (#[.int .i64 c, .int .i64 nu, .int .i64 ba, .int .i64 at', .int .i64 de, .slice a ins.length cap] : Array Value) = x := ⟨_, rfl⟩
  rw [hcs] at C0
  have e0 : cs[0]? = some (.int .i64 c) := by rw [← hcs]; rfl
  have e1 : cs[1]? = some (.int .i64 nu) := by rw [← hcs]; rfl
  have e2 : cs[2]? = some (.int .i64 ba) := by rw [← hcs]; rfl
  have e3 : cs[3]? = some (.int .i64 at') := by rw [← hcs]; rfl
  have e4 : cs[4]? = some (.int .i64 de) := by rw [← hcs]; rfl
  have e5 : cs[5]? = some (.slice a ins.length cap) := by rw [← hcs]; rfl
  have HC : Hid (∀ W, Cel W w.heap.size 63 cs → W.cell? ⟨w.heap.size, 0, none⟩ = some (.int .i64 c) ∧ W.cell? ⟨w.heap.size, 1, none⟩ = some (.int .i64 nu) ∧ W.cell? ⟨w.heap.size, 2, none⟩ = some (.int .i64 ba) ∧ W.cell? ⟨w.heap.size, 3, none⟩ = some (.int .i64 at') ∧ W.cell? ⟨w.heap.size, 4, none⟩ = some (.int .i64 de) ∧ W.cell? ⟨w.heap.size, 5, none⟩ = some (.slice a ins.length cap)) :=
    Lib.hid (fun W h => ⟨(h.cell 0).trans e0, (h.cell 1).trans e1, (h.cell 2).trans e2, (h.cell 3).trans e3, (h.cell 4).trans e4, (h.cell 5).trans e5⟩)
  clear hcs e0 e1 e2 e3 e4 e5
  obtain ⟨x0, x1, -, -, -, -⟩ := HC.out _ C0
  go_enter Try.func39, Try.ntmps39
  go_upto_region 1 with (fail)
  rw [← hX]
  clear hX
  go_cut [3] (fun s wx => AccP w cs s (S1 ++ S2) wx)
  case first =>
    go_region_law (first
      | (have gd := o9; clear gd; refine step_append_row (by rfl) (.tmp 6) (.tmp 9) 64 (by rfl) (w.heap.size + 1) 5 i0 .u8 (.int .u8 0) 1 Try.underlying64 hi hz0 hz1 hz2 rfl _ _ S1 (by rfl) o6 _ S2 _ (by rfl) (row_of_owns o9).1 (by unfold maxLen; omega) (by omega) (by omega) ?_; intro v3 wz o10 g10 d10; have A10 : AccP w cs v3 (S1 ++ S2) wz := ⟨o10, C9.grown g10 (fun e => by have := own_base o6 e; omega), b9.grown g10 b9.size (fun k e => by have := own_base o6 e; omega)⟩)
      | (have gd := o6; clear gd; go_simp; go_at_call 60; refine (HI2.out _).mono ?_; rintro e w9 ⟨g9, c9, rfl, o9, bb9⟩; dsimp only; replace o6 := owns_kept_below o6 bb9; have C9 := C6.step bb9; have b9 := stepB b6 bb9; have s9 := bb9.size)
      | (go_simp; go_at_call 60; refine (HI1.out _).mono ?_; rintro e w6 ⟨g6, c6, rfl, o6, bb6⟩; dsimp only; replace o6 := owns_base o6 (show w.heap.size + 1 ≤ _ by omega); have C6 := C0.step bb6; have b6 := stepB b0 bb6; have s6 := bb6.size; obtain ⟨y0, y1, -, -, -, -⟩ := HC.out _ C6))
    all_goals
      go_wp2_with fail
      go_meet
      exact A10
  case rest =>
    clear x0 x1 C0 b0 sX
    have hl12 : (S1 ++ S2).length ≤ 22 := by rw [List.length_append]; omega
    generalize S1 ++ S2 = SA at *
    have A := hcut
    replace A := A.step (Below.refl _ _).drew
    have lt3 : ∀ k, u3.ownBlock = some k → k < wc.drew.heap.size := fun k hk => own_lt A.1 hk
    obtain ⟨-, -, x2, x3, x4, x5⟩ := HC.out _ A.2.1
    clear hcut
    go_upto_region 2 with (fail)
    go_cut [3] (fun s wx => AccP w cs s ((SA ++ S3) ++ S4) wx)
    case first =>
      go_region_law (first
        | (have gd := k1; clear gd; have gd := o2; clear gd; refine step_append_row (by rfl) (.tmp 15) (.tmp 19) 64 (by rfl) (w.heap.size + 1) 5 i0 .u8 (.int .u8 0) 1 Try.underlying64 hi hz0 hz1 hz2 rfl _ _ (SA ++ S3) (by rfl) A.1 _ S4 _ (by rfl) (row_of_owns o2).1 (by rw [List.length_append]; unfold maxLen; omega) (by rw [List.length_append]; omega) (by have := A.lt; omega) ?_; intro v20 w20 o20 g20 d20; replace A := A.grown g20 o20)
        | (have gd := o1; clear gd; (fail_if_success (have gd := k1)); refine step_append_row (by rfl) (.tmp 11) (.tmp 14) 64 (by rfl) (w.heap.size + 1) 5 i0 .u8 (.int .u8 0) 1 Try.underlying64 hi hz0 hz1 hz2 rfl _ _ SA (by rfl) A.1 _ S3 _ (by rfl) (row_of_owns o1).1 (by unfold maxLen; omega) (by omega) (by have := A.lt; omega) ?_; intro v15 w15 o15 g15 d15; have k1 : True := trivial; (try replace o2 := owns_far o2 g15 (fun k hk => by have := lt3 k hk; omega)); replace A := A.grown g15 o15; have sz3 := A.lt; obtain ⟨-, -, x2, x3, x4, x5⟩ := HC.out _ A.2.1)
        | (have gd := o1; clear gd; go_simp; go_at_call 60; refine (HI4.out _).mono ?_; rintro e w19 ⟨g19, c19, rfl, o2, bb2⟩; dsimp only; (try replace o1 := owns_kept_below o1 bb2); replace A := A.step bb2; have s2 := bb2.size; obtain ⟨-, -, x2, x3, x4, x5⟩ := HC.out _ A.2.1)
        | (go_simp; go_at_call 60; refine (HI3.out _).mono ?_; rintro e w14 ⟨g14, c14, rfl, o1, bb1⟩; dsimp only; replace A := A.step bb1; have s1 := bb1.size; obtain ⟨-, -, x2, x3, x4, x5⟩ := HC.out _ A.2.1))
      all_goals
        go_wp2_with fail
        go_meet
        exact A
    case rest =>
      clear x2 x3 x4 x5 A
      have hl34 : ((SA ++ S3) ++ S4).length ≤ 44 := by rw [List.length_append, List.length_append]; omega
      generalize (SA ++ S3) ++ S4 = SB at *
      have hss : (sints ins).length ≤ 2000000 := by
        have h1 := sints_le ins
        have h3 := (vint_length ins.length).2
        rw [sints, List.length_append]
        omega
      have HR := Lib.hid (fun (W : World) (hW : Below w.heap.size w W) => refInts_any a cap ins W (rowB hr hW) hl hwf)
      clear hr hwf
      have A := hcut
      replace A := A.step (Below.refl _ _).drew
      have lt4 : ∀ k, u3.ownBlock = some k → k < wc.drew.heap.size := fun k hk => own_lt A.1 hk
      obtain ⟨-, -, x2, x3, x4, x5⟩ := HC.out _ A.2.1
      clear hcut lt3
      generalize sints ins = SI at *
      go_upto_region 3 with (fail)
      go_cut [3] (fun s wx => AccP w cs s ((SB ++ S5) ++ SI) wx)
      case first =>
        go_region_law (first
          | (have gd := k1; clear gd; have gd := o2; clear gd; refine step_append_row (by rfl) (.tmp 26) (.tmp 30) 64 (by rfl) (w.heap.size + 1) 5 i0 .u8 (.int .u8 0) 1 Try.underlying64 hi hz0 hz1 hz2 rfl _ _ (SB ++ S5) (by rfl) A.1 _ SI _ (by rfl) (row_of_owns o2).1 (by rw [List.length_append]; unfold maxLen; omega) (by rw [List.length_append]; omega) (by have := A.lt; omega) ?_; intro v20 w20 o20 g20 d20; replace A := A.grown g20 o20)
          | (have gd := o1; clear gd; (fail_if_success (have gd := k1)); refine step_append_row (by rfl) (.tmp 21) (.tmp 25) 64 (by rfl) (w.heap.size + 1) 5 i0 .u8 (.int .u8 0) 1 Try.underlying64 hi hz0 hz1 hz2 rfl _ _ SB (by rfl) A.1 _ S5 _ (by rfl) (row_of_owns o1).1 (by unfold maxLen; omega) (by omega) (by have := A.lt; omega) ?_; intro v15 w15 o15 g15 d15; have k1 : True := trivial; (try replace o2 := owns_far o2 g15 (fun k hk => by have := lt4 k hk; omega)); replace A := A.grown g15 o15; have sz3 := A.lt; obtain ⟨-, -, x2, x3, x4, x5⟩ := HC.out _ A.2.1)
          | (have gd := o1; clear gd; go_simp; go_at_call 61; refine (HR.out _ A.2.2).mono ?_; rintro e w19 ⟨g19, c19, rfl, o2, bb2⟩; dsimp only; (try replace o1 := owns_kept_below o1 bb2); replace A := A.step bb2; have s2 := bb2.size; obtain ⟨-, -, x2, x3, x4, x5⟩ := HC.out _ A.2.1)
          | (go_simp; go_at_call 60; refine (HI5.out _).mono ?_; rintro e w14 ⟨g14, c14, rfl, o1, bb1⟩; dsimp only; replace A := A.step bb1; have s1 := bb1.size; obtain ⟨-, -, x2, x3, x4, x5⟩ := HC.out _ A.2.1))
        all_goals
          go_wp2_with fail
          go_meet
          exact A
      case rest =>
        rw [← HB.out] at hcut
        go_wp2_with fail
        go_ret
        exact ⟨_, rfl, owns_base hcut.1 (Nat.le_succ _), hcut.2.2⟩
end Go.Proofs.Ytmfekbljfnjkgaa
