/- Package disk: Crash of a disk with a file. -/
import Derived.Test.YtafmapcblcnccaaDkP
namespace Go.Proofs.Ytafmapcblcnccaa
open Go.RowKit Go.Shelf
set_option linter.unusedVariables false

/-- A byte of the file is stored anew. -/
theorem Dk.turned {W W' : World} {n0 p m : Nat} {s : DS} {g c : Nat} {L : Nat} (h : Dk W n0 p m s (.slice (some ⟨g, 0, none⟩) L c)) (n : Int) (cs : List Int) (d : Nat) (hf : s.f = some (n, cs, d)) (j : Nat) (x : Int) (hx : 0 ≤ x ∧ x < 256) (hW : W' = (W.setCell ⟨g, j, none⟩ (.int .u8 x)).drew) :
    Dk W' n0 p m { s with f := some (n, cs.set j x, d) } (.slice (some ⟨g, 0, none⟩) L c) ∧ OnlyP (DkB p m (.slice (some ⟨g, 0, none⟩) L c)) W W' := by
  have hgp : g ≠ p := fun e => h.vp (by rw [← e]; rfl)
  have hgm : g ≠ m := fun e => h.vm (by rw [← e]; rfl)
  have ho : OnlyP (fun i => i = g) W W' := by
    rw [hW]
    exact (OnlyP.set (fun i => i = g) W ⟨g, j, none⟩ (.int .u8 x) rfl).trans (OnlyP.of_below ((Below.refl _ _).drew))
  have hrow := h.row
  rw [hf] at hrow
  have hL : L = cs.length := by
    have h1 := hrow.1
    rcases h1.2 with ⟨_, h2⟩ | ⟨g', cap, cur, h2, _⟩
    · have := hrow.2.1; omega
    · injection h2
  subst hL
  have hs := owns_kept_below (owns_set hrow.1 j x) ((Below.refl _ _).drew)
  rw [← hW] at hs
  refine ⟨⟨h.box.only ho (fun e => hgp e.symm), ?_, ?_, h.room0, h.room1, h.plan0, h.plan1, h.basep, h.basem⟩, ho.mono (fun i e => .inr (.inr (by rw [e]; rfl)))⟩
  · have := h.map.only ho (fun e => hgm e.symm)
    rw [hf] at this
    exact this
  · refine ⟨by simpa using hs, by simpa using hrow.2.1, by simpa using hrow.2.2.1, by simpa using hrow.2.2.2.1, fun y hy => ?_⟩
    rcases List.mem_or_eq_of_mem_set hy with hy | rfl
    · exact hrow.2.2.2.2 y hy
    · exact hx
theorem Dk.blk {W : World} {n0 p m : Nat} {s : DS} {v : Value} (h : Dk W n0 p m s v) {k : Nat} (hk : DkB p m v k) : n0 ≤ k ∧ k < W.heap.size := by
  rcases hk with rfl | rfl | hk
  · exact ⟨h.basep, h.box.lt⟩
  · exact ⟨h.basem, h.map.lt⟩
  · obtain ⟨h1, cur, hh⟩ := h.row.at hk
    exact ⟨h1, (Array.getElem?_eq_some_iff.1 hh).1⟩
theorem info_loose : (Try.prog.info? 85).map (fun i => (i.zero, i.size, i.bytes)) = some (some (.agg #[.int .i64 0, .int .i64 0, .int .i64 0]), 3, 24) := by kernel_rfl
theorem news3L (w : World) (cs : Array Value) : ∀ j u, cs.toList[j]? = some u → (w.alloc (.cells cs 85)).cell? (Addr.add ⟨w.heap.size, 0, none⟩ j) = some u := by
  intro j u hu
  rw [addr_add, Nat.zero_add, World.cell?_alloc_new]
  simpa using hu
theorem owns_formL {w : World} {base : Nat} {e : TypeId} {v : Value} {x y z : Value} (h : w.ownsRow base e 3 v 1 [x, y, z]) : ∃ g cap, v = .slice (some ⟨g, 0, none⟩) 1 cap ∧ base ≤ g ∧ w.cell? ⟨g, 0, none⟩ = some x ∧ w.cell? ⟨g, 1, none⟩ = some y ∧ w.cell? ⟨g, 2, none⟩ = some z := by
  rcases h.2 with ⟨rfl, h1⟩ | ⟨g, cp, cur, rfl, hb, hg, hcap, hm, hs, ht⟩
  · omega
  · have hcell : ∀ q u, [x, y, z][q]? = some u → w.cell? ⟨g, q, none⟩ = some u := by
      intro q u hu
      have e : w.cell? ⟨g, q, none⟩ = cur[q]? := by unfold World.cell?; rw [hg]; rfl
      rw [e]
      rw [← ht, List.getElem?_take] at hu
      split at hu
      · simpa using hu
      · simp at hu
    exact ⟨g, cp, rfl, hb, hcell 0 x rfl, hcell 1 y rfl, hcell 2 z rfl⟩
/-- What stands behind the first loop. -/
structure CrA (w W : World) (n0 p m : Nat) (s : DS) (v : Value) (n : Int) (d K gl : Nat) (v2 : Value) : Prop where
  dk : Dk W n0 p m (s.cut n (d + K)) v2
  only : OnlyP (DkB p m v) w W
  own : v2.ownBlock = v.ownBlock ∨ v2.ownBlock = none ∨ ∃ k, v2.ownBlock = some k ∧ w.heap.size ≤ k
  l0 : W.cell? ⟨gl, 0, none⟩ = some (.int .i64 n)
  l1 : W.cell? ⟨gl, 1, none⟩ = some (.int .i64 (d : Int))
  l2 : W.cell? ⟨gl, 2, none⟩ = some (.int .i64 (K : Int))
set_option maxRecDepth 100000 in
set_option maxHeartbeats 8000000 in
theorem crash_some {n0 p m : Nat} {s : DS} {v : Value} (w : World) (h : Dk w n0 p m s v) (n : Int) (bs : List Int) (d : Nat) (hf : s.f = some (n, bs, d)) (h0 : 0 ≤ n) (h64 : n < 64) (ak : Option Addr) (ck : Nat) (keep : List Int) (hkr : Row .i64 w.heap.size w (.slice ak keep.length ck) keep) (flip : Int) :
    Calls Try.prog 32 #[.pointer (some ⟨p, 0, none⟩), .slice ak keep.length ck, .int .i64 flip] w fun e w' => e = .returned (.tuple #[]) ∧ DkAfter w w' n0 p m (s.crash keep flip) v := by
  obtain ⟨i0, hi, hz0, hz1, hz2⟩ := info_parts3 info_loose
  have hF := filesD_any w h (by rw [hf]; exact ⟨h0, h64⟩)
  rw [show (numsD s.f).length = 1 from by rw [hf]; rfl] at hF
  have HF := Lib.hid hF
  have HN := Lib.hid (show numsD s.f = [n] by rw [hf]; rfl)
  have hrow := h.row
  rw [hf] at hrow
  obtain ⟨av, cv, rfl⟩ := hrow.slice
  have HH := Lib.hid h
  have hbl := hrow.2.2.2.1
  have hdl := hrow.2.2.1
  have hsv := surv_le keep bs.length d hdl
  have HE := Lib.hid hf
  have HKR := Lib.hid hkr
  have hsd : surv keep bs.length d = if 0 < keep.length then (min (max (keep[0]?.getD 0) 0) ((bs.length : Int) - (d : Int))).toNat else 0 := rfl
  have HSD := Lib.hid hsd
  obtain ⟨K, hK⟩ : ∃ K, K = surv keep bs.length d := ⟨_, rfl⟩
  rw [← hK] at hsv
  have HK := Lib.hid hK
  clear h hf hrow hF hkr hsd hK
  go_enter Try.func32, Try.ntmps32
  go_wp2_with fail
  refine HF.out.mono ?_
  rintro e w1 ⟨a, c, rfl, hr1, b1⟩
  rw [HN.out] at hr1
  dsimp only
  obtain ⟨g, off, rfl, hcell, hc1⟩ := row_one hr1
  have h1 := HH.out.step b1
  have H1 := Lib.hid h1
  have c1 := h1.box.cell 1
  have hm1 : MapL w1 m [(n, .agg #[.slice av bs.length cv, .int .i64 (d : Int)])] := by have := h1.map; rw [HE.out] at this; exact this
  have hlk := hm1.look (P := Try.prog) (t := 72) (k := 3) Try.underlying72 Try.underlying3 _ (zeroF w1) n false
  simp only [Bool.false_eq_true, if_false, lkL, if_true, Option.getD_some] at hlk
  obtain ⟨X, hX⟩ : ∃ X, X = w1.alloc (.cells #[.slice av bs.length cv, .int .i64 (d : Int)] 79) := ⟨_, rfl⟩
  have bX : Below w1.heap.size w1 X := by rw [hX]; exact laidB (Below.refl _ _) _
  have CX : Cel X w1.heap.size 79 #[.slice av bs.length cv, .int .i64 (d : Int)] := by rw [hX]; exact Cel.new _ _ _
  have HB1 := Lib.hid b1
  have HBX := Lib.hid bX
  have HCX := Lib.hid CX
  clear h1 hm1 hr1 bX CX b1
  go_wp2_with fail
  go_loopw [6, 7, 18] (fun vl al i wr => (vl = .slice none 0 0 ∧ al = .int .i64 0 ∧ i = .int .i64 0 ∧ wr = w1) ∨ (∃ gl cl v2, vl = .slice (some ⟨gl, 0, none⟩) 1 cl ∧ al = .int .i64 (K : Int) ∧ i = .int .i64 1 ∧ Hid (CrA w wr n0 p m s (.slice av bs.length cv) n d K gl v2))) (fun _ _ i _ => 1 - (intOf i).toNat)
  case atStart => exact .inl ⟨rfl, rfl, rfl, rfl⟩
  case round =>
    rcases hrel with ⟨rfl, rfl, rfl, rfl⟩ | ⟨gl, cl, v2, rfl, rfl, rfl, HA⟩
    · go_upto_region 6 with (fail)
      rw [← hX]
      clear hX
      go_upto_if 32 with (fail)
      go_cut [11] (fun sv wx => sv = .int .i64 (K : Int) ∧ Below X.heap.size X wx)
      case first =>
        have hw2 : IntKind.i64.wrap ((bs.length : Int) - (d : Int)) = (bs.length : Int) - (d : Int) := IntWalk.i64_in _ (by omega)
        by_cases hk0 : 0 < keep.length
        · have hkX := rowB (rowB HKR.out HB1.out) HBX.out
          obtain ⟨gk, ok, ha, _, hcc⟩ := hkX.at (by omega)
          have k0 := hcc 0 hk0
          have HSK : (K : Int) = min (max (keep[0]?.getD 0) 0) ((bs.length : Int) - (d : Int)) := by
            rw [HK.out, HSD.out, if_pos hk0]; omega
          have hi0 : (0 : Int) < (keep.length : Int) := by omega
          have hka := Lib.hid ha
          subst ha
          clear hcc hkX
          generalize keep[0]?.getD 0 = kv at *
          have x0 : X.drew.cell? ⟨wr.heap.size, 0, none⟩ = some (.slice av bs.length cv) := HCX.out.cell 0
          have x1 : X.drew.cell? ⟨wr.heap.size, 1, none⟩ = some (.int .i64 (d : Int)) := HCX.out.cell 1
          have k1 : X.drew.cell? ⟨gk, ok, none⟩ = some (.int .i64 kv) := k0
          have HSK' := Lib.hid HSK
          clear HSK hc1 hcell hlk c1
          go_upto_region 8 with (fail)
          go_region_law (fail)
          all_goals
            go_wp2_with fail
            go_meet
            have := HSK'.out
            exact ⟨by congr 1; omega, (Below.refl _ _).drew⟩
        · have hK0 : K = 0 := by rw [HK.out, HSD.out, if_neg hk0]
          have hi0 : ¬ (0 : Int) < (keep.length : Int) := by omega
          go_wp2_with fail
          go_meet
          exact ⟨by rw [hK0]; rfl, Below.refl _ _⟩
      case rest =>
        obtain ⟨rfl, bW⟩ := hcut
        have CW := HCX.out.step bW
        have x1 := CW.cell 1
        have bwc : Below wr.heap.size wr wc := stepB HBX.out bW
        have hwc : wr.heap.size + 1 ≤ wc.heap.size := CW.lt
        have HBW := Lib.hid bwc
        have HCW := Lib.hid CW
        clear hc1 hcell hlk c1 CW bwc bW HCX HBX
        go_wp2_with (at_builtin; refine wpList_append_own _ rfl _ _ 83 rfl wc.heap.size 85 i0 (.agg #[.int .i64 0, .int .i64 0, .int .i64 0]) 3 24 Try.underlying83 hi hz0 hz1 hz2 rfl (by decide) _ _ _ rfl (World.ownsRow_nil _ _ _ _) ⟨wc.heap.size, 0, none⟩ 1 1 _ rfl rfl (news3L wc _) (by intro u hu; simp at hu; rcases hu with rfl | rfl | rfl <;> rfl) (by unfold maxLen; omega) (by omega) (by simp) ?_; intro v' w2 hown' hgrow' _; obtain ⟨gl, cl, hv', hgl, g0, g1, g2⟩ := owns_formL hown'; subst hv'; have y1 := ((HCW.out.alloc _).grown hgrow' (by intro h; cases h)).cell 1; replace hgrow' := Lib.hid hgrow'; replace g0 := Lib.hid g0; replace g1 := Lib.hid g1; replace g2 := Lib.hid g2; clear hown')
        have b2 : Below wr.heap.size wr w2 := stepB (stepB HBW.out (laidB (Below.refl _ _) _)) ((Below.refl _ _).grown hgrow'.out (Nat.le_refl _) (fun k e => by cases e))
        have d2 := H1.out.step b2
        have hw3 : IntKind.i64.wrap ((d : Int) + (K : Int)) = (d : Int) + (K : Int) := IntWalk.i64_in _ (by omega)
        have eb : bytesAt s.f n = bs := by rw [HE.out]; simp [bytesAt]
        have hct := cutD_any w2 d2 n (d + K) (by rw [eb]; omega)
        rw [Int.natCast_add] at hct
        have HCT := Lib.hid hct
        have HB2 := Lib.hid b2
        have HD2 := Lib.hid d2
        have HGL := Lib.hid hgl
        clear hct b2 d2 eb hgl
        go_wp2_with fail
        refine HCT.out.mono ?_
        rintro e w3 ⟨rfl, v3, d3, o3, q3⟩
        have nb : ∀ i, DkB p m (.slice av bs.length cv) i → i < wr.heap.size := fun i hi => (H1.out.blk hi).2
        have ng : ¬ DkB p m (.slice av bs.length cv) gl := fun hh => by have := nb _ hh; have := HGL.out; omega
        have hgs := World.block_lt_of_cell? w2 _ g0.out
        have hc3 : ∀ o u, w2.cell? ⟨gl, o, none⟩ = some u → w3.cell? ⟨gl, o, none⟩ = some u := fun o u hu => by
          rw [← hu]
          unfold World.cell?
          rw [o3.block gl hgs ng]
        have HA : Hid (CrA w w3 n0 p m s (.slice av bs.length cv) n d K gl v3) := Lib.hid
          { dk := d3
            only := (OnlyP.of_below (HB1.out.trans (HB2.out.mono HB1.out.size))).trans o3
            own := by
              rcases q3 with q | q | ⟨k, q, q'⟩
              · exact .inl q
              · exact .inr (.inl q)
              · exact .inr (.inr ⟨k, q, Nat.le_trans HB1.out.size (Nat.le_trans HB2.out.size q')⟩)
            l0 := hc3 _ _ g0.out
            l1 := hc3 _ _ g1.out
            l2 := hc3 _ _ g2.out }
        clear d3 o3 q3 nb ng hgs hc3 y1 hw3
        dsimp only
        go_wp2_with fail
        go_roundw
        case rel => exact .inr ⟨gl, cl, v3, rfl, rfl, by simp, HA⟩
        case measure => simp [intOf]
    · have hd2 := Lib.hid HA.out.dk
      by_cases hc : 0 ≤ flip ∧ 0 < K
      · obtain ⟨hc0, hc1'⟩ := hc
        have hK0 : (0 : Int) < (K : Int) := by omega
        have hw8 : IntKind.i64.wrap (8 * (K : Int)) = 8 * (K : Int) := IntWalk.i64_in _ (by omega)
        clear hlk c1 hcell hc1
        have hb0 : 0 ≤ flip % (8 * (K : Int)) := Int.emod_nonneg _ (by omega)
        have hb1 : flip % (8 * (K : Int)) < 8 * (K : Int) := Int.emod_lt_of_pos _ (by omega)
        obtain ⟨wo, ewo⟩ : ∃ X, X = wr := ⟨_, rfl⟩
        subst ewo
        obtain ⟨b, hb⟩ : ∃ b : Int, b = flip % (8 * (K : Int)) := ⟨_, rfl⟩
        have hb' : flip.tmod (8 * (K : Int)) = b := by rw [hb, Int.tmod_eq_emod_of_nonneg hc0]
        rw [← hb] at hb0 hb1
        have hwb : IntKind.i64.wrap b = b := IntWalk.i64_in _ (by omega)
        have eC : (s.cut n (d + K)).f = some (n, bs.take (d + K), d) := by
          have h1 : ¬ d + K = 0 := by omega
          show cutF s.f n (d + K) = _
          rw [HE.out]
          show (if n = n then (if d + K = 0 then none else some (n, bs.take (d + K), min d (d + K))) else some (n, bs, d)) = _
          rw [if_pos rfl, if_neg h1, Nat.min_eq_left (by omega)]
        have hln : (bs.take (d + K)).length = d + K := by rw [List.length_take]; omega
        have hrow2 := hd2.out.row
        rw [eC] at hrow2
        have hr2 := hrow2.1
        rw [hln] at hr2
        obtain ⟨g2, c2', rfl, hcap2⟩ : ∃ g2 c2, v2 = .slice (some ⟨g2, 0, none⟩) (d + K) c2 ∧ True := by
          rcases hr2.2 with ⟨_, h2⟩ | ⟨g', cap, cur, h2, _⟩
          · omega
          · exact ⟨g', cap, h2, trivial⟩
        obtain ⟨Y, hY⟩ : ∃ Y, Y = wo.alloc (.cells #[.int .i64 n, .int .i64 (d : Int), .int .i64 (K : Int)] 85) := ⟨_, rfl⟩
        have bY : Below wo.heap.size wo Y := by rw [hY]; exact laidB (Below.refl _ _) _
        have CY : Cel Y wo.heap.size 85 #[.int .i64 n, .int .i64 (d : Int), .int .i64 (K : Int)] := by rw [hY]; exact Cel.new _ _ _
        have bYd : Below wo.heap.size wo Y.drew := bY.drew
        have dY := hd2.out.step bYd
        have y0 : Y.drew.cell? ⟨wo.heap.size, 0, none⟩ = some (.int .i64 n) := CY.cell 0
        have y1 : Y.drew.cell? ⟨wo.heap.size, 1, none⟩ = some (.int .i64 (d : Int)) := CY.cell 1
        have y2 := CY.cell 2
        have yp := dY.box.cell 1
        have l0 := HA.out.l0
        have l1 := HA.out.l1
        have l2 := HA.out.l2
        have hlk2 := dY.map.look (P := Try.prog) (t := 72) (k := 3) Try.underlying72 Try.underlying3 _ (zeroF Y.drew) n false
        simp only [Bool.false_eq_true, if_false] at hlk2
        rw [show (lkL (entD (.slice (some ⟨g2, 0, none⟩) (d + K) c2') (s.cut n (d + K)).f) n).getD (.agg #[.slice none 0 0, .int .i64 0]) = .agg #[.slice (some ⟨g2, 0, none⟩) (d + K) c2', .int .i64 (d : Int)] from by rw [eC]; simp [entD, lkL]] at hlk2
        have hfd : (Instr.field 79 (.agg #[.slice (some ⟨g2, 0, none⟩) (d + K) c2', .int .i64 (d : Int)]) 0).run Try.prog Y.drew = .ok (.slice (some ⟨g2, 0, none⟩) (d + K) c2') Y.drew := by kernel_rfl
        have hwd : IntKind.i64.wrap (8 * (d : Int)) = 8 * (d : Int) := IntWalk.i64_in _ (by omega)
        have hwdb : IntKind.i64.wrap (8 * (d : Int) + b) = 8 * (d : Int) + b := IntWalk.i64_in _ (by omega)
        obtain ⟨B, hB⟩ : ∃ B : Nat, B = 8 * d + b.toNat := ⟨_, rfl⟩
        have hBb : bitAt flip K d = B := by unfold bitAt; rw [hB, hb]
        have hBi : 8 * (d : Int) + b = (B : Int) := by omega
        have hj : B / 8 < d + K := by omega
        have hrY := owns_kept_below hr2 bYd
        have hcY := owns_cell hrY (B / 8) hj
        rw [← Nat.zero_add (B / 8)] at hcY
        have hfz : Y.drew.frozen? ⟨g2, 0 + B / 8, none⟩ = false := by
          rcases hrY.2 with ⟨_, h2⟩ | ⟨g', cap, cur, h2, _, hh, _⟩
          · omega
          · injection h2 with h2
            injection h2 with h2
            injection h2 with h2
            subst h2
            exact Cel.free hh _
        have hinv := invert_any g2 0 (d + K) c2' B _ Y.drew hj (by omega) hcY hfz (by omega)
        rw [← hBi] at hinv
        have htn := fun W' hW => Dk.turned (W' := W') dY n (bs.take (d + K)) d eC (0 + B / 8) _ (xor8_rng' ((bs.take (d + K))[0 + B / 8]?.getD 0) (128 / 2 ^ min (B % 8) 8)) hW
        have HINV := Lib.hid hinv
        have HTN := Lib.hid htn
        have HEC := Lib.hid eC
        have HBB := Lib.hid hBb
        have HBY := Lib.hid bYd
        have HSD2 := Lib.hid dY
        have HBE := Lib.hid hb
        clear hb hb' hinv htn eC hBb bYd dY CY bY hcY hfz hrY hBi hj hB hrow2 hr2 hln hcap2
        go_wp2_with fail
        go_loopw [12, 76] (fun bv i wr => bv = .int .i64 b ∧ i = .int .i64 0 ∧ wr = wo) (fun _ _ _ => 0)
        case atStart => exact ⟨by rw [← HBE.out], rfl, rfl⟩
        case round =>
          obtain ⟨rfl, rfl, rfl⟩ := hrel
          have hKb : b < 8 * (K : Int) := hb1
          go_upto_region 18 with (fail)
          rw [← hY]
          clear hY l0 l1 l2
          go_upto_region 19 with (fail)
          clear y2 hX
          go_region_law ((go_simp; go_at_call 55; refine HINV.out.mono ?_; rintro e W4 ⟨rfl, hW4⟩; replace hW4 := Lib.hid hW4; dsimp only))
          all_goals
            obtain ⟨d4, o4⟩ := HTN.out _ hW4.out
            clear hW4 y0 y1 yp hlk2 hfd
            go_wp2_with fail
            have eF : (bs.take (d + K)).set (0 + B / 8) (bits .xor .u8 ((bs.take (d + K))[0 + B / 8]?.getD 0) (128 / 2 ^ min (B % 8) 8)) = turnB (bs.take (d + K)) B := by unfold turnB; simp only [Nat.zero_add]
            rw [eF] at d4
            have hK4 : keyD ({ s.cut n (d + K) with f := some (n, turnB (bs.take (d + K)) B, d) } : DS).f := ⟨h0, h64⟩
            refine (settle_any W4 d4 hK4).mono ?_
            rintro e W5 ⟨rfl, d5, o5⟩
            have hCF : settleF ({ s.cut n (d + K) with f := some (n, turnB (bs.take (d + K)) B, d) } : DS).f = crashF s.f keep flip := by
              rw [HE.out]
              show some (n, turnB (bs.take (d + K)) B, (turnB (bs.take (d + K)) B).length) = if d + surv keep bs.length d = 0 then none else some (n, crashB bs d keep flip, (crashB bs d keep flip).length)
              have e1 : crashB bs d keep flip = turnB (bs.take (d + K)) B := by
                unfold crashB
                rw [← HK.out, if_pos ⟨hc0, hc1'⟩, HBB.out]
              rw [e1, ← HK.out, if_neg (by omega)]
            have FIN := Lib.hid (crash_fin (w := w) (s := s) _ d4 rfl d5 _ hCF)
            have c2 := d5.box.cell 2
            have c3 := d5.box.cell 3
            have f2 := d5.box.free 2
            have f3 := d5.box.free 3
            have O5 := Lib.hid ((OnlyP.of_below (q := DkB p m (.slice (some ⟨g2, 0, none⟩) (d + K) c2')) HBY.out).trans (o4.trans (o5.mono (fun i e => .inr (.inl e)))))
            clear d4 o4 d5 o5 eF hK4 hCF
            dsimp only
            go_wp2_with fail
            go_end0
            refine ⟨rfl, _, FIN.out.1, (HA.out.only.trans' (O5.out.trans (FIN.out.2.mono (fun i e => .inl e))) (fun i hi => ?_)), HA.out.own⟩
            rcases hi with hi | hi | hi
            · exact .inl (.inl hi)
            · exact .inl (.inr (.inl hi))
            · rcases HA.out.own with q | q | ⟨k, q, q'⟩
              · exact .inl (.inr (.inr (by rw [← q]; exact hi)))
              · rw [q] at hi; cases hi
              · rw [q] at hi; injection hi with hi; exact .inr (by omega)
      · have hK' : keyD (s.cut n (d + K)).f := by
          show keyD (cutF s.f n (d + K))
          rw [HE.out]
          show keyD (if n = n then (if d + K = 0 then none else some (n, bs.take (d + K), min d (d + K))) else some (n, bs, d))
          rw [if_pos rfl]
          split
          · trivial
          · exact ⟨h0, h64⟩
        have hCF : settleF (s.cut n (d + K)).f = crashF s.f keep flip := by
          show settleF (cutF s.f n (d + K)) = _
          rw [HE.out]
          show settleF (if n = n then (if d + K = 0 then none else some (n, bs.take (d + K), min d (d + K))) else some (n, bs, d)) = if d + surv keep bs.length d = 0 then none else some (n, crashB bs d keep flip, (crashB bs d keep flip).length)
          have e1 : crashB bs d keep flip = bs.take (d + K) := by
            unfold crashB
            rw [← HK.out, if_neg hc]
          rw [if_pos rfl, e1, ← HK.out]
          by_cases hz : d + K = 0
          · rw [if_pos hz, if_pos hz]; rfl
          · rw [if_neg hz, if_neg hz]; rfl
        have HKD := Lib.hid hK'
        have HCF := Lib.hid hCF
        clear hK' hCF hlk c1 hcell hc1 hX
        obtain ⟨wo, ewo⟩ : ∃ X, X = wr := ⟨_, rfl⟩
        subst ewo
        obtain ⟨h9, h8⟩ | ⟨h9, h8⟩ : (0 ≤ flip ∧ ¬ (0 : Int) < (K : Int)) ∨ (¬ 0 ≤ flip ∧ True) := by
          by_cases h7 : 0 ≤ flip
          · exact .inl ⟨h7, fun h6 => hc ⟨h7, by omega⟩⟩
          · exact .inr ⟨h7, trivial⟩
        all_goals
          clear hc
          go_wp2_with fail
          refine (settle_any wo hd2.out HKD.out).mono ?_
          rintro e W5 ⟨rfl, d5, o5⟩
          have FIN := Lib.hid (crash_fin (w := w) (s := s) _ hd2.out rfl d5 _ HCF.out)
          have c2 := d5.box.cell 2
          have c3 := d5.box.cell 3
          have f2 := d5.box.free 2
          have f3 := d5.box.free 3
          have O5 := Lib.hid (HA.out.only.trans (o5.mono (fun i e => .inr (.inl e))))
          clear d5 o5
          dsimp only
          go_wp2_with fail
          go_end0
          exact ⟨rfl, _, FIN.out.1, O5.out.trans (FIN.out.2.mono (fun i e => .inl e)), HA.out.own⟩
end Go.Proofs.Ytafmapcblcnccaa
