/- The documented example of package disk. -/
import Derived.Test.YtafmapcblcnccaaDkR
import Derived.Test.YtafmapcblcnccaaRefB
namespace Go.Proofs.Ytafmapcblcnccaa
open Go.RowKit Go.Shelf
set_option linter.unusedVariables false

theorem owns_only {W W' : World} {q : Nat → Prop} {base : Nat} {e : TypeId} {size : Nat} {v : Value} {n : Nat} {xs : List Value} (h : W.ownsRow base e size v n xs) (ho : OnlyP q W W') (hq : ∀ k, base ≤ k → k < W.heap.size → ¬ q k) : W'.ownsRow base e size v n xs :=
  owns_same h (fun b hb => ho.block b (owns_lt' h hb) (hq b (own_base h hb) (owns_lt' h hb)))
set_option maxRecDepth 100000 in
set_option maxHeartbeats 4000000 in
/-- Read gives a row of its own. -/
theorem readD_own {n0 p m : Nat} {s : DS} {v : Value} (w : World) (h : Dk w n0 p m s v) (n : Int) (h0 : 0 ≤ n) (h1 : n < 64) (hoff : s.off = false) (zs : List Int) (hz : bytesAt s.f n = zs) (L : Nat) (hL : zs.length = L) (hbl : zs.length ≤ 10000000) :
    Calls Try.prog 22 #[.pointer (some ⟨p, 0, none⟩), .int .i64 n] w fun e w' => ∃ a c, e = .returned (.tuple #[.slice a L c, .int .i64 0]) ∧ w'.ownsRow w.heap.size 5 1 (.slice a L c) L (zs.map (Value.int .u8)) ∧ Below w.heap.size w w' := by
  have HIS := isFile_any n w
  rw [decide_eq_true h0, decide_eq_true h1] at HIS
  have c2 := h.box.cell 2
  rw [hoff] at c2
  have c1 := h.box.cell 1
  obtain ⟨a, c, d, hl, hr⟩ := look_at h n
  have hlk := h.map.look (P := Try.prog) (t := 72) (k := 3) Try.underlying72 Try.underlying3 _ (zeroF w) n false
  simp only [Bool.false_eq_true, if_false] at hlk
  rw [hl] at hlk
  rw [hz] at hlk hr
  have hfd : (Instr.field 79 (.agg #[.slice a zs.length c, .int .i64 d]) 0).run Try.prog w = .ok (.slice a zs.length c) w := by kernel_rfl
  have HCL := Lib.hid (cloneBytes_any _ _ _ w hr hbl)
  have HI := Lib.hid HIS
  subst hL
  clear hl hr hbl HIS hoff h hz
  go_enter Try.func22, Try.ntmps22
  go_wp2_with fail
  refine HI.out.mono ?_
  rintro e w1 ⟨rfl, hw1'⟩
  subst hw1'
  dsimp only [Bool.and_self]
  go_wp2_with fail
  refine HCL.out.mono ?_
  rintro e w2 ⟨a2, c2', rfl, ho2, -, b2⟩
  dsimp only
  go_wp2_with fail
  go_ret2
  exact ⟨a2, c2', rfl, ho2, b2⟩
theorem key_of {n : Int} {bs : List Int} {d : Nat} (h0 : 0 ≤ n) (h1 : n < 64) : keyD (some (n, bs, d)) := ⟨h0, h1⟩
set_option maxRecDepth 100000 in
set_option maxHeartbeats 8000000 in
theorem lives30_any (w : World) : Calls Try.prog 19 #[] w fun e W' => e = .returned (.bool true) ∧ Below w.heap.size w W' := by
  go_enter Try.func19, Try.ntmps19
  go_wp2_with fail
  refine (newD_ok 100 (by decide) (by decide) w).mono ?_
  rintro e w1 ⟨rfl, hD, b1⟩
  dsimp only
  have HB1 := Lib.hid b1
  have hD1 := Lib.hid (hD.step (laidB (Below.refl _ _) (.cells #[.int .u8 1, .int .u8 2] 5)))
  have hr1 := Lib.hid (litB w1 [1, 2] (by decide) 2 rfl #[.int .u8 1, .int .u8 2] rfl)
  have HB1' := Lib.hid (laidB b1 (.cells #[.int .u8 1, .int .u8 2] 5))
  clear hD b1
  go_wp2_with fail
  refine (append_is (s' := ⟨100, -1, false, some (3, [1, 2], 0)⟩) _ hD1.out 3 _ 2 2 [1, 2] rfl hr1.out (by decide) (by decide) (fun _ _ _ h => by cases h) 0 (by kernel_rfl)).mono ?_
  rintro e w2 ⟨rfl, v2, hD2, o2, -⟩
  dsimp only
  have HB2 := Lib.hid (HB1'.out.trans (hD1.out.below o2 (Nat.le_refl _)))
  clear o2 hD1 hr1 HB1 HB1'
  have HD2 := Lib.hid hD2
  clear hD2
  go_wp2_with fail
  refine (sync_is (s' := ⟨100, -1, false, some (3, [1, 2], 2)⟩) _ HD2.out (key_of (by decide) (by decide)) 0 (by kernel_rfl)).mono ?_
  rintro e w3 ⟨rfl, v3, hD3, o3, -⟩
  dsimp only
  have HB3 := Lib.hid (HB2.out.trans (HD2.out.below o3 (Nat.le_refl _)))
  have hD3' := Lib.hid (hD3.step (laidB (Below.refl _ _) (.cells #[.int .u8 255] 5)))
  have hr3 := Lib.hid (litB w3 [255] (by decide) 1 rfl #[.int .u8 255] rfl)
  have HB3' := Lib.hid (laidB HB3.out (.cells #[.int .u8 255] 5))
  clear o3 HD2 HB2 hD3
  go_wp2_with fail
  refine (append_is (s' := ⟨100, -1, false, some (3, [1, 2, 255], 2)⟩) _ hD3'.out 3 _ 1 1 [255] rfl hr3.out (by decide) (by decide) (fun _ _ _ h => by cases h; intro h; exact absurd rfl h) 0 (by kernel_rfl)).mono ?_
  rintro e w4 ⟨rfl, v4, hD4, o4, -⟩
  dsimp only
  have HB4 := Lib.hid (HB3'.out.trans (hD3'.out.below o4 (Nat.le_refl _)))
  have HD4 := Lib.hid hD4
  clear o4 hD3' hr3 HB3 HB3' hD4
  go_wp2_with fail
  refine (copy_any _ HD4.out (by decide)).mono ?_
  rintro e w5 ⟨vc, rfl, hC5, b5⟩
  dsimp only
  have HB5 := Lib.hid (HB4.out.trans (b5.mono HB4.out.size))
  have hA5 := HD4.out.fresh hC5
  have HD5 := Lib.hid ((HD4.out.step b5).step (laidB (Below.refl _ _) (.cells #[.int .i64 1] 3)))
  have HC5 := Lib.hid (hC5.step (laidB (Below.refl _ _) (.cells #[.int .i64 1] 3)))
  have HA5 := Lib.hid hA5
  have hr5 := Lib.hid (litI w5 [1] (by decide) 1 rfl #[.int .i64 1] rfl)
  have HB5' := Lib.hid (laidB HB5.out (.cells #[.int .i64 1] 3))
  have hs4 : w.heap.size ≤ w4.heap.size := HB4.out.size
  clear hA5 hC5 b5 HD4 HB4 HB5
  generalize w4.heap.size = pc at *
  go_wp2_with fail
  refine (crash_is (s' := ⟨100, -1, false, some (3, [1, 2, 254], 3)⟩) _ HD5.out (key_of (by decide) (by decide)) _ 1 1 [1] rfl hr5.out 7 (by kernel_rfl)).mono ?_
  rintro e w6 ⟨rfl, hP⟩
  dsimp only
  obtain ⟨v6, hD6, hC6, hA6, o6⟩ := hP.beside HC5.out HA5.out
  have HB6 := Lib.hid (HB5'.out.trans (HD5.out.below o6 (Nat.le_refl _)))
  have HD6 := Lib.hid hD6
  have HC6 := Lib.hid hC6
  have HA6 := Lib.hid hA6
  clear hD6 hC6 hA6 o6 hP HB5' HC5 HA5 HD5 hr5
  go_wp2_with fail
  refine (crash_is (s' := ⟨100, -1, false, some (3, [1, 2], 2)⟩) _ HC6.out (key_of (by decide) (by decide)) none 0 0 [] rfl (nil_row _ _ _) 7 (by kernel_rfl)).mono ?_
  rintro e w7 ⟨rfl, hP⟩
  dsimp only
  obtain ⟨v7, hC7, hD7, hA7, o7⟩ := hP.beside HD6.out HA6.out.symm
  have HB7 := Lib.hid (HB6.out.trans (HC6.out.below o7 hs4))
  have HD7 := Lib.hid hD7
  have HC7 := Lib.hid hC7
  have HA7 := Lib.hid hA7
  clear hD7 hC7 hA7 o7 hP HB6 HC6 HA6 HD6
  go_wp2_with fail
  refine (readD_own _ HD7.out 3 (by decide) (by decide) rfl [1, 2, 254] rfl 3 rfl (by decide)).mono ?_
  rintro e w8 ⟨a8, c8, rfl, hx8, b8⟩
  dsimp only
  have HB8 := Lib.hid (HB7.out.trans (b8.mono HB7.out.size))
  have HC8 := Lib.hid (HC7.out.step b8)
  have HX8 := Lib.hid hx8
  have hblk := Lib.hid (fun k (hk : DkB pc (pc + 1) v7 k) => (HC7.out.blk hk).2)
  have hs8 := b8.size
  clear b8 hx8 HD7 HA7 HB7 HC7
  go_wp2_with fail
  refine (readD_own _ HC8.out 3 (by decide) (by decide) rfl [1, 2] rfl 2 rfl (by decide)).mono ?_
  rintro e w9 ⟨a9, c9, rfl, hx9, b9⟩
  dsimp only
  have HB9 := Lib.hid (HB8.out.trans (b9.mono HB8.out.size))
  have HC9 := Lib.hid (HC8.out.step b9)
  have HX9 := Lib.hid (owns_kept_below HX8.out b9)
  have HY9 := Lib.hid hx9
  have hs9 := b9.size
  clear b9 hx9 HC8 HX8 HB8
  go_wp2_with fail
  refine (arm_any 0 (by decide) _ HC9.out).mono ?_
  rintro e w10 ⟨rfl, hC10, o10⟩
  dsimp only
  have HB10 := Lib.hid (HB9.out.trans (HC9.out.below (o10.mono (fun i e => .inl e)) hs4))
  have HX10 := Lib.hid (owns_only HX9.out o10 (fun k h1 _ h3 => by have := hblk.out k (.inl h3); omega))
  have HY10 := Lib.hid (owns_only HY9.out o10 (fun k h1 _ h3 => by have := hblk.out k (.inl h3); omega))
  have HC10 := Lib.hid hC10
  have hs10 := o10.size
  clear hC10 o10 HB9 HX9 HY9 HC9
  go_wp2_with fail
  refine (append_is (s' := ⟨100, -1, true, some (3, [1, 2], 2)⟩) _ HC10.out 1 none 0 0 [] rfl (nil_row _ _ _) (by decide) (by decide) (fun _ _ _ _ _ => rfl) 19 (by kernel_rfl)).mono ?_
  rintro e w11 ⟨rfl, v11, hC11, o11, -⟩
  dsimp only
  have HB11 := Lib.hid (HB10.out.trans (HC10.out.below o11 hs4))
  have HX11 := Lib.hid (owns_only HX10.out o11 (fun k h1 _ h3 => by have := hblk.out k h3; omega))
  have HY11 := Lib.hid (owns_only HY10.out o11 (fun k h1 _ h3 => by have := hblk.out k h3; omega))
  have HC11 := Lib.hid hC11
  clear hC11 o11 HB10 HX10 HY10 HC10 hblk hs8 hs9 hs10
  go_wp2_with fail
  refine (read_is _ HC11.out 3 (by decide) [] 19 0 rfl (by kernel_rfl)).mono ?_
  rintro e w12 ⟨a12, c12, rfl, -, b12⟩
  dsimp only
  have r1 := litB w12 [1, 2, 254] (by decide) 3 rfl #[.int .u8 1, .int .u8 2, .int .u8 254] rfl
  have b13 := laidB (Below.refl w12.heap.size w12) (.cells #[.int .u8 1, .int .u8 2, .int .u8 254] 5)
  have x12 := rowB (row_of_owns (owns_kept_below HX11.out b12)).1 b13
  have hsm := sameBytes_any a8 3 c8 [1, 2, 254] _ 3 3 [1, 2, 254] _ x12 r1
  rw [show (([1, 2, 254] : List Int) == [1, 2, 254]) = true from by decide] at hsm
  have HSM := Lib.hid hsm
  have HB13 := Lib.hid ((HB11.out.trans (b12.mono HB11.out.size)).trans (b13.mono (Nat.le_trans HB11.out.size b12.size)))
  have HY13 := Lib.hid (rowB (row_of_owns (owns_kept_below HY11.out b12)).1 b13)
  clear hsm x12 r1 b12 b13 HX11 HY11 HC11 HB11
  go_wp2_with fail
  refine HSM.out.mono ?_
  rintro e w14 ⟨rfl, b14⟩
  dsimp only
  have r2 := litB w14 [1, 2] (by decide) 2 rfl #[.int .u8 1, .int .u8 2] rfl
  have b15 := laidB (Below.refl w14.heap.size w14) (.cells #[.int .u8 1, .int .u8 2] 5)
  have y15 := rowB (rowB HY13.out b14) b15
  have hsm := sameBytes_any a9 2 c9 [1, 2] _ 2 2 [1, 2] _ y15 r2
  rw [show (([1, 2] : List Int) == [1, 2]) = true from by decide] at hsm
  have HSM2 := Lib.hid hsm
  have HB15 := Lib.hid (stepB (stepB HB13.out b14) b15)
  clear hsm y15 r2 b14 b15 HSM HY13 HB13
  go_wp2_with fail
  refine HSM2.out.mono ?_
  rintro e w16 ⟨rfl, b16⟩
  dsimp only
  go_wp2_with fail
  go_ret
  exact ⟨rfl, stepB HB15.out b16⟩
end Go.Proofs.Ytafmapcblcnccaa
