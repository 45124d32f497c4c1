/- TextDecodes: the walk. -/
import Derived.Test.YtnfelphemdchpaaTxtDec
import Derived.Test.YtnfelphemdchpaaTxtU
import Derived.Test.YtnfelphemdchpaaAppRow
import Derived.Test.YtnfelphemdchpaaTxtDy
import Derived.Test.YtnfelphemdchpaaTxtE
import Derived.Deep.RegionLaw
import Derived.Deep.DeepCutAuto
namespace Go.Proofs.Ytnfelphemdchpaa
open Go.RowKit Go.Shelf
set_option linter.unusedVariables false
set_option linter.unusedSimpArgs false

theorem same_rows (a : Option Addr) (ca : Nat) (z : List Int) (b : Option Addr) (cb : Nat) (w : World) (hra : Row .i64 w.heap.size w (.slice a z.length ca) z) (hrb : Row .i64 w.heap.size w (.slice b z.length cb) z) :
    Calls Try.prog 22 #[.slice a z.length ca, .slice b z.length cb] w fun e w' => e = .returned (.bool true) ∧ Below w.heap.size w w' := by
  have h := sameInts_any a z.length ca z b z.length cb z w hra hrb
  simpa using h

set_option maxRecDepth 100000 in
set_option maxHeartbeats 400000000 in
theorem textDecodes_walk (a0 : Option Addr) (len0 cap0 : Nat) (z0 : List Int) (a1 : Option Addr) (len1 cap1 : Nat) (z1 : List Int) (a2 : Int) (a3 : Int) (a4 : Bool) (w : World) (w0 : IsRow .i64 w a0 len0 cap0 z0) (w1 : IsRow .u8 w a1 len1 cap1 z1) (w2 : (Lit.int .i64 a2).wf = true) (w3 : (Lit.int .u8 a3).wf = true) :
    Calls Try.prog 4 #[.slice a0 len0 cap0, .slice a1 len1 cap1, .int .i64 a2, .int .u8 a3, .bool a4] w fun e w' => e = .returned (.bool true) ∧ Below w.heap.size w w' := by
  obtain ⟨i0, hi, hz0, hz1, hz2⟩ := info_parts info_cb
  obtain ⟨hr0, hw0⟩ := w0.row
  obtain ⟨hr1, hw1⟩ := w1.row
  have hl0 := hr0.len
  have hl1 := hr1.len
  clear w0 w1
  generalize z0.take len0 = l0 at *
  generalize z1.take len1 = l1 at *
  subst hl0 hl1
  go_enter Try.func4, Try.ntmps4
  go_wp2_with fail
  refine (text_row a0 cap0 l0 20 true w hr0 (by decide) hw0).mono ?_
  rintro e q1 ⟨at1, ct1, rfl, -, hT, b1⟩
  have hTl := textT_len l0 20 true
  have hTs := Lib.hid (textT_ok l0 20 true)
  have hr1' := rowB hr1 b1
  generalize textT l0 20 true = T at *
  clear hr0 hw0 hr1
  dsimp only
  go_wp2_with fail
  have hem := encM_ok true T hTs.out (by omega)
  have hEl := encL_len true T
  have hEr := Lib.hid (byte_rng true T hTs.out)
  have henc := refEncode_any at1 ct1 T true q1 hT (by omega)
  rw [hem.1, hem.2] at henc
  have HENC := Lib.hid henc
  clear henc hem
  generalize encL true T = E at *
  have hEl' : E.length ≤ 80 := by omega
  refine HENC.out.mono ?_
  rintro e q2 ⟨v2, rfl, hown2, bb⟩
  have hE := (row_of_owns hown2).1
  obtain ⟨ab, cb, rfl⟩ := row_slice hE
  clear hown2 HENC
  replace hr1' := rowB hr1' bb
  replace b1 := stepB b1 bb
  clear bb hT
  have hM := World.ownsRow_made (base := q2.heap.size) (e := 5) (size := 1) q2 #[] 0 (Nat.le_refl _) (Nat.zero_le _) rfl
  have hE6 := rowB hE (laidB (Below.refl _ _) (.cells #[] 5))
  dsimp only
  go_upto_if 31 with (at_builtin; refine wpList_append_row rfl _ _ 26 rfl q2.heap.size 5 i0 .u8 _ 1 Try.underlying26 hi hz0 hz1 hz2 rfl _ _ [] rfl hM _ E _ rfl hE6 (by unfold maxLen; omega) (by omega) (by simp) ?_; intro v3 q3 hown3 hgrow3 hb3; rw [List.nil_append] at hown3; obtain ⟨ag, cg, rfl⟩ := row_slice (row_of_owns hown3).1; clear hgrow3)
  have HGL := Lib.hid hEl'
  clear hM hE6
  go_cut [] (fun wx => ∃ Z : List Int, Z.length = E.length ∧ (∀ x ∈ Z, 0 ≤ x ∧ x < 256) ∧ wx.ownsRow q2.heap.size 5 1 (.slice ag E.length cg) E.length (Z.map (Value.int .u8)) ∧ Below q2.heap.size q3 wx)
  case first =>
    by_cases hz : E.length = 0
    · have hzb : ¬ 0 < E.length := by omega
      have HZ := Lib.hid hz; clear hz
      go_wp2_with fail
      go_meet
      exact ⟨E, rfl, hEr.out, hown3, Below.refl _ _⟩
    · have hzp : 0 < E.length := by omega
      have HZ := Lib.hid hz; clear hz
      obtain ⟨p, hp⟩ := Int.eq_ofNat_of_zero_le (aroundI_lo a2 (E.length : Int) (by omega))
      have hp2 := aroundI_hi a2 (E.length : Int) (by omega)
      have har := around_any a2 (E.length : Int) q3 w2 (by omega) (by omega)
      rw [hp] at hp2 har
      have HAR := Lib.hid har
      have hpE : p < E.length := by omega
      have hp0 : (0 : Int) ≤ (p : Int) := by omega
      obtain ⟨g, rfl, hgb, _⟩ := owns_at hown3 hzp
      have hfz := hown3.frozenAt p
      have hcl := owns_cell hown3 p hpE
      clear har hp
      go_wp2_with fail
      refine HAR.out.mono ?_
      rintro e q4 ⟨rfl, hq4⟩
      subst hq4
      dsimp only
      go_wp2_with fail
      go_meet
      refine ⟨E.set p a3, by simp, ?_, owns_set hown3 p a3, (Below.refl _ _).setCell (by dsimp only; omega) _⟩
      intro x hx
      rcases List.mem_or_eq_of_mem_set hx with h | rfl
      · exact hEr.out x h
      · have := w3
        simp [Lit.wf, IntKind.min, IntKind.max, IntKind.signed, IntKind.bits] at this
        omega
  case rest =>
    obtain ⟨Z, hZl, hZr, hownZ, bz⟩ := hcut
    clear hown3
    have bq : Below q2.heap.size q2 wc := ((laidB (Below.refl q2.heap.size q2) (.cells #[] 5)).trans hb3).trans bz
    replace hE := rowB hE bq
    replace hr1' := rowB hr1' bq
    replace b1 := stepB b1 bq
    have hZrow := (row_of_owns hownZ).1
    rw [← hZl] at hZrow hownZ
    clear bq hownZ bz hb3
    go_upto_region 5 with (fail)
    have hrE : RB wc (.slice ab E.length cb) := ⟨ab, cb, E, rfl, hE, by omega, rng_mem hEr.out⟩
    have hrZ : RB wc (.slice ag E.length cg) := ⟨ag, cg, Z, by rw [hZl], hZrow, by omega, rng_mem hZr⟩
    have hEc := hE.lencap
    unfold maxLen at hEc
    obtain ⟨p, hp⟩ := Int.eq_ofNat_of_zero_le (aroundI_lo a2 ((E.length : Int) + 1) (by omega))
    have hp2 := aroundI_hi a2 ((E.length : Int) + 1) (by omega)
    rw [hp] at hp2
    have hpE : p ≤ E.length := by omega
    have hpc : p ≤ cb := by omega
    have HAR := Lib.hid (show ∀ W : World, Calls Try.prog 18 #[.int .i64 a2, .int .i64 (IntKind.i64.wrap ((E.length : Int) + 1))] W (fun e w' => e = .returned (.int .i64 (p : Int)) ∧ w' = W) from fun W => by
      have := around_any a2 ((E.length : Int) + 1) W w2 (by omega) (by omega)
      rw [hp] at this
      rw [show IntKind.i64.wrap ((E.length : Int) + 1) = (E.length : Int) + 1 from IntWalk.i64_in _ (by omega)]
      exact this)
    have hrP : RB wc (.slice ab p cb) := by
      have e : (E.take p).length = p := by rw [List.length_take]; omega
      refine ⟨ab, cb, E.take p, by rw [e], ?_, by omega, fun i => take_rng (rng_mem hEr.out) p i⟩
      rw [e]
      exact row_take' hE p (by omega)
    have HZ1 := Lib.hid (u8_rng hw1)
    have HE := Lib.hid hE
    have HZE := Lib.hid (rng_mem hEr.out)
    have HA3 : 0 ≤ a3 ∧ a3 < 256 := by
      have := w3
      simp [Lit.wf, IntKind.min, IntKind.max, IntKind.signed, IntKind.bits] at this
      omega
    have HZA := Lib.hid (show ∀ i : Nat, 0 ≤ [a3][i]?.getD 0 ∧ [a3][i]?.getD 0 < 256 from rng_mem (by intro x hx; simp at hx; omega))
    have hbd : Below wc.heap.size wc wc.drew := (Below.refl _ _).drew
    clear hE hZl hZr hZrow hEr hw1 HGL hTl hTs hEl hp hp2 w2 w3 HA3
    go_cut [14] (fun s wx => ∃ g, s = .slice (some ⟨g, 0, none⟩) 6 6 ∧ SixP wx g ∧ Below wc.heap.size wc wx)
    case first =>
      refine wp_region_any (by kernel_rfl) ?_
      change wpAny _ _ _ _ _ _ _ (World.drew _)
      refine wpAny_take (i := 0) (v := ?v0) rfl (by kernel_rfl) (by kernel_rfl) (by kernel_rfl) (fun _ _ _ h => h) (Or.inl ⟨by kernel_rfl, ?hy0⟩) ?rest0
      case hy0 => intro w; go_simp; first | done | with_reducible rfl
      case rest0 =>
      refine wpAny_take (i := 1) (v := ?v1) rfl (by kernel_rfl) (by kernel_rfl) (by kernel_rfl) (fun _ _ _ h => h) (Or.inl ⟨by kernel_rfl, ?hy1⟩) ?rest1
      case hy1 => intro w; go_simp; first | done | with_reducible rfl
      case rest1 =>
      refine wpAny_take (i := 3) (v := ?v3) rfl (by kernel_rfl) (by kernel_rfl) (by kernel_rfl) (fun _ _ _ h => h) (Or.inl ⟨by kernel_rfl, ?hy3⟩) ?rest3
      case hy3 => intro w; go_simp; first | done | with_reducible rfl
      case rest3 =>
      refine wpAny_take (i := 5) (v := ?v5) rfl (by kernel_rfl) (by kernel_rfl) (by kernel_rfl) (fun _ _ _ h => h) (Or.inl ⟨by kernel_rfl, ?hy5⟩) ?rest5
      case hy5 => intro w; go_simp; first | done | with_reducible rfl
      case rest5 =>
      refine wpAny_take (i := 7) (v := ?v7) rfl (by kernel_rfl) (by kernel_rfl) (by kernel_rfl) (fun _ _ _ h => h) (Or.inl ⟨by kernel_rfl, ?hy7⟩) ?rest7
      case hy7 => intro w; go_simp; first | done | with_reducible rfl
      case rest7 =>
      refine wpAny_take (i := 10) (v := ?v10) rfl (by kernel_rfl) (by kernel_rfl) (by kernel_rfl) (fun _ _ _ h => h) (Or.inl ⟨by kernel_rfl, ?hy10⟩) ?rest10
      case hy10 => intro w; go_simp; first | done | with_reducible rfl
      case rest10 =>
      refine wpAny_take (i := 11) (v := ?v11) rfl (by kernel_rfl) (by kernel_rfl) (by kernel_rfl) (fun _ _ _ h => h) (Or.inl ⟨by kernel_rfl, ?hy11⟩) ?rest11
      case hy11 => intro w; go_simp; first | done | with_reducible rfl
      case rest11 =>
      refine wpAny_take (i := 12) (v := ?v12) rfl (by kernel_rfl) (by kernel_rfl) (by kernel_rfl) (fun _ _ _ h => h) (Or.inl ⟨by kernel_rfl, ?hy12⟩) ?rest12
      case hy12 => intro w; go_simp; first | done | with_reducible rfl
      case rest12 =>
      refine wpAny_take (i := 13) (v := ?v13) rfl (by kernel_rfl) (by kernel_rfl) (by kernel_rfl) (fun _ _ _ h => h) (Or.inl ⟨by kernel_rfl, ?hy13⟩) ?rest13
      case hy13 => intro w; go_simp; first | done | with_reducible rfl
      case rest13 =>
      refine wpAny_take (i := 14) (v := ?v14) rfl (by kernel_rfl) (by kernel_rfl) (by kernel_rfl) (fun _ _ _ h => h) (Or.inl ⟨by kernel_rfl, ?hy14⟩) ?rest14
      case hy14 => intro w; go_simp; first | done | with_reducible rfl
      case rest14 =>
      refine wpAny_take (i := 17) (v := ?v17) rfl (by kernel_rfl) (by kernel_rfl) (by kernel_rfl) (fun _ _ _ h => h) (Or.inl ⟨by kernel_rfl, ?hy17⟩) ?rest17
      case hy17 => intro w; go_simp; first | done | with_reducible rfl
      case rest17 =>
      refine wpAny_take (i := 19) (v := ?v19) rfl (by kernel_rfl) (by kernel_rfl) (by kernel_rfl) (fun _ _ _ h => h) (Or.inl ⟨by kernel_rfl, ?hy19⟩) ?rest19
      case hy19 => intro w; go_simp; first | done | with_reducible rfl
      case rest19 =>
      simp only [Act.put, List.getElem_toArray, List.getElem_cons_succ, List.getElem_cons_zero, List.setIfInBounds_toArray, List.set_cons_zero, List.set_cons_succ]
      refine wpAny_by [0, 1, 3, 5, 7, 10, 11, 12, 13, 14, 17, 19] [2, 4, 6, 8, 9, 15, 16, 18, 20, 21, 22, 23] [41, 43, 45, 47, 48, 54, 55, 57, 59, 60, 61, 14] (fun l x W => ∃ own, DecC wc.heap.size wc.drew E a3 (p : Int) (.slice ab p cb) own l x W) (by kernel_rfl) ?h0 ⟨fun o ho => ?s2, fun o ho => ?s4, fun o ho => ?s6, fun o ho => ?s8, fun o ho => ?s9, fun o ho => ?s15, fun o ho => ?s16, fun o ho => ?s18, fun o ho => ?s20, fun o ho => ?s21, fun o ho => ?s22, fun o ho => ?s23, trivial⟩ ?fin
      case h0 => exact ⟨fun _ => 0, ⟨⟨fun _ _ => rfl, Nat.le_refl _, Below.refl _ _⟩, fun h => absurd h (by decide), fun h => absurd h (by decide), fun h => absurd h (by decide), fun h => absurd h (by decide), fun h => absurd h (by decide), fun h => absurd h (by decide), fun h => absurd h (by decide), fun h => absurd h (by decide), fun h => absurd h (by decide), fun h => absurd h (by decide), fun h => absurd h (by decide), fun h => absurd h (by decide), fun h => absurd h (by decide), fun h => absurd h (by decide), fun h => absurd h (by decide)⟩⟩
      case s2 =>
        simp only [List.getElem?_toArray, List.getElem?_cons_succ, List.getElem?_cons_zero, Option.some.injEq] at ho
        subst ho
        unfold StepOk
        intro l x W hni hd hC K
        obtain ⟨own, h⟩ := hC
        have hbW : Below wc.heap.size wc W := hbd.trans h.tg.below
        simp only [putAll, Act.put, List.setIfInBounds_toArray, List.set_cons_zero, List.set_cons_succ]
        intro hK
        go_simp
        refine (few_u a1 cap1 l1 40 W (rowB hr1' hbW) (by decide) (by decide) HZ1.out).mono ?_
        rintro e w41 ⟨a41, c41, y41, rfl, l41, r41, o41, -, B41⟩
        dsimp only
        exact hK _ _ ⟨_, (h.keep B41 (s := 1) (by decide)).add2 y41 (OwnT.new o41 h.tg.size) (by omega) r41⟩
      case s4 =>
        simp only [List.getElem?_toArray, List.getElem?_cons_succ, List.getElem?_cons_zero, Option.some.injEq] at ho
        subst ho
        unfold StepOk
        intro l x W hni hd hC K
        obtain ⟨own, h⟩ := hC
        have hbW : Below wc.heap.size wc W := hbd.trans h.tg.below
        simp only [putAll, Act.put, List.setIfInBounds_toArray, List.set_cons_zero, List.set_cons_succ]
        intro hK
        have ho : (W.alloc (.cells #[] 5)).ownsRow W.heap.size 5 1 (.slice (some ⟨W.heap.size, 0, none⟩) 0 0) ([] : List Int).length (([] : List Int).map (Value.int .u8)) := owns_cel [] (Cel.new _ _ _) (Nat.le_refl _) rfl (by simp [maxLen])
        have hN := (h.keep (laidB (Below.refl W.heap.size W) (.cells #[] 5)) (s := 2) (by decide)).add4 (OwnT.new ho h.tg.size)
        go_simp
        exact hK _ _ ⟨_, hN⟩
      case s6 =>
        simp only [List.getElem?_toArray, List.getElem?_cons_succ, List.getElem?_cons_zero, Option.some.injEq] at ho
        subst ho
        unfold StepOk
        intro l x W hni hd hC K
        obtain ⟨own, h⟩ := hC
        have hbW : Below wc.heap.size wc W := hbd.trans h.tg.below
        have h4 : l 4 := hd ⟨4, .data⟩ (by simp) rfl
        intro hK
        have o43 := h.c43 h4 hni
        refine step_append_row (by rfl) (.tmp 43) (.tmp 44) 26 (by rfl) wc.heap.size 5 i0 .u8 (.int .u8 0) 1 Try.underlying26 hi hz0 hz1 hz2 rfl (x 43) _ [] (by kernel_rfl) o43.1 _ E (fun b => b < _) (by kernel_rfl) (rowB HE.out hbW) (by unfold maxLen; simp only [List.length_nil]; omega) (by simp only [List.length_nil]; omega) h.tg.size ?_
        intro v45 w45 o45 g45 d45
        simp only [Act.put, List.setIfInBounds_toArray]
        rw [List.nil_append] at o45
        exact hK _ _ ⟨_, h.turn6 (o43.turns g45) h4 hni (o43.app o45 d45)⟩
      case s8 =>
        simp only [List.getElem?_toArray, List.getElem?_cons_succ, List.getElem?_cons_zero, Option.some.injEq] at ho
        subst ho
        unfold StepOk
        intro l x W hni hd hC K
        obtain ⟨own, h⟩ := hC
        have hbW : Below wc.heap.size wc W := hbd.trans h.tg.below
        simp only [putAll, Act.put, List.setIfInBounds_toArray, List.set_cons_zero, List.set_cons_succ]
        intro hK
        have ho : (W.alloc (.cells #[.int .u8 a3] 5)).ownsRow W.heap.size 5 1 (.slice (some ⟨W.heap.size, 0, none⟩) 1 1) ([a3] : List Int).length (([a3] : List Int).map (Value.int .u8)) := owns_cel [a3] (Cel.new _ _ _) (Nat.le_refl _) rfl (by simp [maxLen])
        have hN := (h.keep (laidB (Below.refl W.heap.size W) (.cells #[.int .u8 a3] 5)) (s := 3) (by decide)).add8 (OwnT.new ho h.tg.size)
        go_simp
        exact hK _ _ ⟨_, hN⟩
      case s9 =>
        simp only [List.getElem?_toArray, List.getElem?_cons_succ, List.getElem?_cons_zero, Option.some.injEq] at ho
        subst ho
        unfold StepOk
        intro l x W hni hd hC K
        obtain ⟨own, h⟩ := hC
        have hbW : Below wc.heap.size wc W := hbd.trans h.tg.below
        have h6 : l 6 := hd ⟨6, .data⟩ (by simp) rfl
        have h8 : l 8 := hd ⟨8, .data⟩ (by simp) rfl
        intro hK
        have o45 := h.c45 h6 hni
        refine step_append_row (by rfl) (.tmp 45) (.tmp 47) 26 (by rfl) wc.heap.size 5 i0 .u8 (.int .u8 0) 1 Try.underlying26 hi hz0 hz1 hz2 rfl (x 45) _ E (by kernel_rfl) o45.1 (x 47) [a3] (fun b => b < _) (by kernel_rfl) (h.c47 h8).row (by unfold maxLen; simp only [List.length_cons, List.length_nil]; omega) (by simp only [List.length_cons, List.length_nil]; omega) h.tg.size ?_
        intro v48 w48 o48 g48 d48
        simp only [Act.put, List.setIfInBounds_toArray]
        exact hK _ _ ⟨_, h.turn9 (o45.turns g48) h6 hni (o45.app o48 d48)⟩
      case s15 =>
        simp only [List.getElem?_toArray, List.getElem?_cons_succ, List.getElem?_cons_zero, Option.some.injEq] at ho
        subst ho
        unfold StepOk
        intro l x W hni hd hC K
        obtain ⟨own, h⟩ := hC
        have hbW : Below wc.heap.size wc W := hbd.trans h.tg.below
        simp only [putAll, Act.put, List.setIfInBounds_toArray, List.set_cons_zero, List.set_cons_succ]
        intro hK
        go_simp
        refine (HAR.out _).mono ?_
        rintro e w54 ⟨rfl, hw54⟩
        subst hw54
        dsimp only
        exact hK _ _ ⟨_, (h.keep (Below.refl _ _) (s := 1) (by decide)).add15 rfl⟩
      case s16 =>
        simp only [List.getElem?_toArray, List.getElem?_cons_succ, List.getElem?_cons_zero, Option.some.injEq] at ho
        subst ho
        unfold StepOk
        intro l x W hni hd hC K
        obtain ⟨own, h⟩ := hC
        have hbW : Below wc.heap.size wc W := hbd.trans h.tg.below
        have h15 : l 15 := hd ⟨15, .data⟩ (by simp) rfl
        have e54 := h.c54 h15
        simp only [putAll, Act.put, List.setIfInBounds_toArray, List.set_cons_zero, List.set_cons_succ]
        intro hK
        simp only [e54] at hK
        go_simp
        exact hK _ _ ⟨_, (h.keep (Below.refl _ _) (s := 1) (by decide)).add16 rfl⟩
      case s18 =>
        simp only [List.getElem?_toArray, List.getElem?_cons_succ, List.getElem?_cons_zero, Option.some.injEq] at ho
        subst ho
        unfold StepOk
        intro l x W hni hd hC K
        obtain ⟨own, h⟩ := hC
        have hbW : Below wc.heap.size wc W := hbd.trans h.tg.below
        simp only [putAll, Act.put, List.setIfInBounds_toArray, List.set_cons_zero, List.set_cons_succ]
        intro hK
        have ho : (W.alloc (.cells #[.int .u8 a3] 5)).ownsRow W.heap.size 5 1 (.slice (some ⟨W.heap.size, 0, none⟩) 1 1) ([a3] : List Int).length (([a3] : List Int).map (Value.int .u8)) := owns_cel [a3] (Cel.new _ _ _) (Nat.le_refl _) rfl (by simp [maxLen])
        have hN := (h.keep (laidB (Below.refl W.heap.size W) (.cells #[.int .u8 a3] 5)) (s := 4) (by decide)).add18 (OwnT.new ho h.tg.size)
        go_simp
        exact hK _ _ ⟨_, hN⟩
      case s20 =>
        simp only [List.getElem?_toArray, List.getElem?_cons_succ, List.getElem?_cons_zero, Option.some.injEq] at ho
        subst ho
        unfold StepOk
        intro l x W hni hd hC K
        obtain ⟨own, h⟩ := hC
        have hbW : Below wc.heap.size wc W := hbd.trans h.tg.below
        simp only [putAll, Act.put, List.setIfInBounds_toArray, List.set_cons_zero, List.set_cons_succ]
        intro hK
        go_simp
        refine (few_u a1 cap1 l1 3 W (rowB hr1' hbW) (by decide) (by decide) HZ1.out).mono ?_
        rintro e w41 ⟨a41, c41, y41, rfl, l41, r41, o41, -, B41⟩
        dsimp only
        exact hK _ _ ⟨_, (h.keep B41 (s := 5) (by decide)).add20 y41 (OwnT.new o41 h.tg.size) (by omega) r41⟩
      case s21 =>
        simp only [List.getElem?_toArray, List.getElem?_cons_succ, List.getElem?_cons_zero, Option.some.injEq] at ho
        subst ho
        unfold StepOk
        intro l x W hni hd hC K
        obtain ⟨own, h⟩ := hC
        have hbW : Below wc.heap.size wc W := hbd.trans h.tg.below
        have h18 : l 18 := hd ⟨18, .data⟩ (by simp) rfl
        have h20 : l 20 := hd ⟨20, .data⟩ (by simp) rfl
        intro hK
        have o57 := h.c57 h18 hni
        obtain ⟨ys, o59, yl, yr⟩ := h.c59 h20
        refine step_append_row (by rfl) (.tmp 57) (.tmp 59) 26 (by rfl) wc.heap.size 5 i0 .u8 (.int .u8 0) 1 Try.underlying26 hi hz0 hz1 hz2 rfl (x 57) _ [a3] (by kernel_rfl) o57.1 (x 59) ys (fun b => b < _) (by kernel_rfl) o59.row (by unfold maxLen; simp only [List.length_cons, List.length_nil]; omega) (by simp only [List.length_cons, List.length_nil]; omega) h.tg.size ?_
        intro v60 w60 o60 g60 d60
        simp only [Act.put, List.setIfInBounds_toArray]
        exact hK _ _ ⟨_, h.turn21 (o57.turns g60) hni ([a3] ++ ys) (o57.app o60 d60) (by simp; omega) (rng_app HZA.out yr)⟩
      case s22 =>
        simp only [List.getElem?_toArray, List.getElem?_cons_succ, List.getElem?_cons_zero, Option.some.injEq] at ho
        subst ho
        unfold StepOk
        intro l x W hni hd hC K
        obtain ⟨own, h⟩ := hC
        have hbW : Below wc.heap.size wc W := hbd.trans h.tg.below
        have h2 : l 2 := hd ⟨2, .data⟩ (by simp) rfl
        have h9 : l 9 := hd ⟨9, .data⟩ (by simp) rfl
        have h16 : l 16 := hd ⟨16, .data⟩ (by simp) rfl
        have h21 : l 21 := hd ⟨21, .data⟩ (by simp) rfl
        have e55 := h.c55 h16
        obtain ⟨y1, o1, l1', r1⟩ := h.c41 h2
        obtain ⟨y6, o6, l6, r6⟩ := h.c60 h21
        have K5 := hrP.step hbW
        obtain ⟨e1, d1, x1⟩ := row_slice o1.row
        obtain ⟨e4, d4, x4⟩ := row_slice (h.c48 h9).row
        obtain ⟨e6, d6, x6⟩ := row_slice o6.row
        have K1 : RB W (x 41) := rb_own o1.1 (by omega) r1
        have K4 : RB W (x 48) := rb_own (h.c48 h9).1 (by simp; omega) (rng_app HZE.out HZA.out)
        have K6 : RB W (x 60) := rb_own o6.1 l6 r6
        rw [show (E ++ [a3]).length = E.length + 1 from by simp] at x4
        rw [x1] at K1
        rw [x4] at K4
        rw [x6] at K6
        simp only [putAll, Act.put, List.setIfInBounds_toArray, List.set_cons_zero, List.set_cons_succ]
        intro hK
        simp only [e55, x1, x4, x6] at hK
        go_simp
        exact hK _ _ ⟨_, (h.keep (laidB (Below.refl _ _) _) (s := 6) (by decide)).add22 W.heap.size rfl (six_new (hrE.step hbW) K1 (hrZ.step hbW) K4 K5 K6) h9 h21⟩
      case s23 =>
        simp only [List.getElem?_toArray, List.getElem?_cons_succ, List.getElem?_cons_zero, Option.some.injEq] at ho
        subst ho
        unfold StepOk
        intro l x W hni hd hC K
        obtain ⟨own, h⟩ := hC
        have hbW : Below wc.heap.size wc W := hbd.trans h.tg.below
        have h22 : l 22 := hd ⟨22, .data⟩ (by simp) rfl
        obtain ⟨g, e61, hS⟩ := h.c61 h22
        simp only [putAll, Act.put, List.setIfInBounds_toArray, List.set_cons_zero, List.set_cons_succ]
        intro hK
        simp only [e61] at hK
        go_simp
        exact hK _ _ ⟨_, (h.keep (Below.refl _ _) (s := 1) (by decide)).add23 g rfl hS h22⟩
      case fin =>
        intro x W hC
        obtain ⟨own, h⟩ := hC
        obtain ⟨g, e14, hS⟩ := h.c14 (show 23 < 24 from by decide)
        have hbW : Below wc.heap.size wc W := hbd.trans h.tg.below
        simp only [putAll, Act.put, List.setIfInBounds_toArray, List.set_cons_zero, List.set_cons_succ]
        go_wp2_with fail
        go_meet
        exact ⟨g, e14, hS, hbW⟩
    case rest =>
      obtain ⟨g, rfl, hS, bS⟩ := hcut
      have b2 := stepB b1 bS
      clear hrE hrZ hrP HAR HZE HZA HZ1 HE hbd b1 bS hr1' hpc hpE hEc hEl'
      go_wp2_with fail
      go_loopw [15] (fun i wr => ∃ m : Nat, m ≤ 6 ∧ i = .int .i64 (m : Int) ∧ SixP wr g ∧ Below w.heap.size w wr) (fun i _ => 6 - (intOf i).toNat)
      case atStart => exact ⟨0, by omega, rfl, hS, b2⟩
      case round =>
        obtain ⟨m, hm, rfl, hS', hB⟩ := hrel
        by_cases hlt : m < 6
        · obtain ⟨v, hc, a, c, zs, rfl, hrow, hzl, hzr⟩ := hS'.2 m hlt
          have hm2 : (m : Int) < 6 := by omega
          have hm0 : (0 : Int) ≤ (m : Int) := by omega
          obtain ⟨D1, D2, hD⟩ : ∃ D1 D2, decodeM a4 zs = (D1, D2) := ⟨_, _, rfl⟩
          have hd := decode_any a c zs a4 wr hrow (by omega) hzr
          have hd2 : ∀ W : World, Below wr.heap.size wr W → _ := fun W hW => refDecode_any a c zs a4 W (rowB hrow hW) (by omega) hzr
          rw [hD] at hd
          simp only [hD] at hd2
          have HD := Lib.hid hd
          have HD2 := Lib.hid hd2
          have HC := Lib.hid (show ∀ W : World, Below wr.heap.size wr W → W.cell? ⟨g, m, none⟩ = some (.slice a zs.length c) from fun W hW => cellB hc hW)
          have HS := Lib.hid hS'
          clear hd hd2 hD hS hS' hrow hzl hzr
          go_wp2_with fail
          refine HD.out.mono ?_
          rintro e w8 ⟨a2, c2, rfl, -, hr2, b8⟩
          have hc8 := HC.out w8 b8
          have hS8 := HS.out.step b8
          have hB8 := stepB hB b8
          have hd2 := HD2.out w8 b8
          clear HD HD2 HC HS hc hB
          dsimp only
          go_wp2_with fail
          refine hd2.mono ?_
          rintro e w9 ⟨v9, rfl, ho9, b9⟩
          obtain ⟨a9, c9, rfl⟩ := row_slice (row_of_owns ho9).1
          have hs := same_rows a2 c2 D1 a9 c9 w9 (rowB hr2 b9) (row_of_owns ho9).1
          have hS9 := hS8.step b9
          have hB9 := stepB hB8 b9
          clear hd2 hS8 hB8 hr2 b8 b9 ho9 hc8
          dsimp only
          go_wp2_with fail
          refine hs.mono ?_
          rintro e w10 ⟨rfl, b10⟩
          have hS10 := hS9.step b10
          have hB10 := stepB hB9 b10
          clear hs hS9 hB9
          dsimp only
          go_wp2_with fail
          go_roundw
          case rel => exact ⟨m + 1, by omega, by go_num, hS10, hB10⟩
          case measure => simp [intOf]; omega
        · have hm6 : ¬ (m : Int) < 6 := by omega
          have hlv := lives4_any wr
          have HLV := Lib.hid hlv
          clear hlv
          go_wp2_with fail
          refine HLV.out.mono ?_
          rintro e w9 ⟨rfl, hb9⟩
          have b3 := stepB hB hb9
          dsimp only
          go_wp2_with fail
          go_ret
          exact ⟨rfl, b3⟩
end Go.Proofs.Ytnfelphemdchpaa
