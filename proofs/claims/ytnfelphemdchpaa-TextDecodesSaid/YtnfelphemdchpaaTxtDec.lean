/- Contracts of the reference: Decode. -/
import Derived.Test.YtnfelphemdchpaaTxtNum
namespace Go.Proofs.Ytnfelphemdchpaa
open Go.RowKit Go.Shelf
set_option linter.unusedVariables false

theorem cond_none (r : Bool) (b : List Int) (hl : 0 < b.length) (hz : ∀ i : Nat, 0 ≤ b[i]?.getD 0 ∧ b[i]?.getD 0 < 256) (h : ∀ n, 1 ≤ n → n ≤ 4 → n ≤ b.length → condB r b n = false) : (oneI r b).2 = 0 := by
  by_cases h0 : (oneI r b).2 = 0
  · exact h0
  · obtain ⟨m, _, h1, h2, h3, h4⟩ := cond_at r b hl hz h0
    rw [h m h1 h2 h3] at h4
    cases h4
theorem decodeM_bad (r : Bool) (l pre : List Int) (h : pre ++ [-1] = symsL r l) : decodeM r l = ([], 9) := by
  unfold decodeM
  rw [if_pos (by rw [← h, List.any_append]; simp [negB])]
theorem decodeM_good (r : Bool) (l : List Int) (hl : l.length ≤ 1000) (h : (symsL r l).any negB = false) : decodeM r l = (symsL r l, 0) := by
  have hs : (symsL r l).length ≤ l.length := symsF_len r l.length l (Nat.le_refl _)
  unfold decodeM
  rw [if_neg (by rw [h]; decide), if_neg (by omega)]
set_option maxRecDepth 100000 in
set_option maxHeartbeats 2000000 in
theorem refDecode_any (a : Option Addr) (cap : Nat) (l : List Int) (r : Bool) (w : World) (hr : Row .u8 w.heap.size w (.slice a l.length cap) l) (hl : l.length ≤ 1000) (hz : ∀ i : Nat, 0 ≤ l[i]?.getD 0 ∧ l[i]?.getD 0 < 256) :
    Calls Try.prog 21 #[.slice a l.length cap, .bool r] w fun e w' => ∃ v, e = .returned (.tuple #[v, .int .i64 (decodeM r l).2]) ∧ w'.ownsRow w.heap.size 3 1 v (decodeM r l).1.length ((decodeM r l).1.map (Value.int .i64)) ∧ Below w.heap.size w w' := by
  obtain ⟨i0, hi, hz0, hz1, hz2⟩ := info_parts info_int
  have hlc := hr.lencap
  unfold maxLen at hlc
  have HZ := Lib.hid hz
  clear hz
  generalize hD : decodeM r l = D
  have HD := Lib.hid hD
  clear hD
  go_enter Try.func21, Try.ntmps21
  go_wp2_with fail
  go_loopw [6, 7] (fun v i wr => ∃ (m : Nat) (pre : List Int), m ≤ l.length ∧ i = .int .i64 (m : Int) ∧ pre.length ≤ m ∧ Hid (pre ++ symsL r (l.drop m) = symsL r l) ∧ Hid (pre.any negB = false) ∧ wr.ownsRow w.heap.size 3 1 v pre.length (pre.map (Value.int .i64)) ∧ Below w.heap.size w wr) (fun _ i _ => l.length - (intOf i).toNat)
  case atStart => exact ⟨0, [], Nat.zero_le _, rfl, Nat.le_refl _, Lib.hid rfl, Lib.hid rfl, World.ownsRow_nil _ _ _ _, Below.refl _ _⟩
  case round =>
    obtain ⟨m, pre, hm, rfl, hpl, HS, HN, hown, hB⟩ := hrel
    by_cases hlt : m < l.length
    · have hi1 : (m : Int) < l.length := by omega
      have hi0 : (0 : Int) ≤ (m : Int) := by omega
      have hBl : 0 < (l.drop m).length := by rw [List.length_drop]; omega
      have HBZ : Hid (∀ i : Nat, 0 ≤ (l.drop m)[i]?.getD 0 ∧ (l.drop m)[i]?.getD 0 < 256) := Lib.hid (fun i => drop_rng HZ.out m i)
      have hbl : (l.drop m).length = l.length - m := List.length_drop
      generalize hBB : l.drop m = b at *
      have HBB := Lib.hid hBB
      have HBL := Lib.hid hbl
      clear hBB hbl
      go_wp2_with fail
      go_loopw [6, 8, 9] (fun v s i wr => ∃ (k : Nat) (s' : Int) (Q : List Int), 1 ≤ k ∧ k ≤ 5 ∧ i = .int .i64 (k : Int) ∧ s = .int .i64 s' ∧ Q.length ≤ pre.length + 1 ∧ Hid ((s' = 0 ∧ Q = pre ∧ ∀ n, 1 ≤ n → n < k → condB r b n = false) ∨ (s' ≠ 0 ∧ (oneI r b).2 = s' ∧ Q = pre ++ [(oneI r b).1])) ∧ wr.ownsRow w.heap.size 3 1 v Q.length (Q.map (Value.int .i64)) ∧ Below w.heap.size w wr) (fun _ _ i _ => 5 - (intOf i).toNat)
      case atStart => exact ⟨1, 0, pre, by omega, by omega, rfl, rfl, by omega, Lib.hid (.inl ⟨rfl, rfl, fun n h1 h2 => by omega⟩), hown, hB⟩
      case round =>
        clear hown hB
        obtain ⟨k, s, Q, hk1, hk5, rfl, rfl, hQl, HQ, hown, hB⟩ := hrel
        by_cases hs : s = 0
        · subst hs
          have hQ := HQ.out.resolve_right (fun h => h.1 rfl)
          obtain ⟨_, rfl, hno⟩ := hQ
          have HNO := Lib.hid hno
          clear hno HQ
          by_cases hk4 : k ≤ 4
          · have hk4' : (k : Int) ≤ 4 := by omega
            by_cases hkb : k ≤ l.length - m
            · have hkb' : (k : Int) ≤ (l.length : Int) - (m : Int) := by omega
              rcases a with _ | ad
              · exfalso
                rcases hr with ⟨a', cap', e, _, hn, rfl⟩ | ⟨b', off, cap', e, _⟩
                · simp at hlt
                · simp at e
              have hdr := (row_drop_some (rowB hr hB) m (by omega)).1
              rw [HBB.out] at hdr
              have hcm : ¬ cap = m := by omega
              have hnum := refNumber_any (some (ad.add m)) (cap - m) b k wr (by rw [HBL.out]; exact hdr) (by rw [HBL.out]; omega) HBZ.out hk1 hk4 (by rw [HBL.out]; exact hkb)
              rw [HBL.out] at hnum
              have HNUM := Lib.hid hnum
              have HCD : Hid (condB r b k = (isSymB (numM b k) r && (decide (b.take (oneL r (numM b k)).length = oneL r (numM b k)) && decide ((oneL r (numM b k)).length = k)))) := Lib.hid rfl
              have HCO : Hid (condB r b k = true → oneI r b = (numM b k, (k : Int))) := Lib.hid (cond_of r b k)
              clear hnum
              generalize numM b k = N at *
              go_wp2_with fail
              refine HNUM.out.mono ?_
              rintro e w2 ⟨rfl, hw2⟩
              subst hw2
              dsimp only
              go_wp2_with fail
              refine (refSymbol_any N r _).mono ?_
              rintro e w3 ⟨rfl, hw3⟩
              subst hw3
              dsimp only
              cases hsy : isSymB N r
              · have HCF : Hid (condB r b k = false) := Lib.hid (by rw [HCD.out, hsy]; rfl)
                clear hsy
                go_wp2_with fail
                go_quiet (fail)
                go_wp2_with fail
                go_roundw
                case rel => exact ⟨k + 1, 0, Q, by omega, by omega, by go_num, rfl, by omega, Lib.hid (.inl ⟨rfl, rfl, fun n h1 h2 => by
                  rcases Nat.lt_or_ge n k with h | h
                  · exact HNO.out n h1 h
                  · rw [show n = k from by omega]; exact HCF.out⟩), by first | exact hown | exact owns_kept_below hown (below_drewN (Below.refl _ _) _), by first | exact hB | exact below_drewN hB _ | exact hB.drew⟩
                case measure => simp [intOf]; omega
              · have hOl := (oneL_len r N)
                have HSY := Lib.hid hsy
                clear hsy
                generalize hO : oneL r N = O at *
                have HO := Lib.hid hO
                clear hO
                have hO1000 : O.length ≤ 1000 := by omega
                have HONE : Hid (∀ W, Calls Try.prog 46 #[.int .i64 N, .bool r] W (OnePost W O)) := Lib.hid (fun W => by rw [← HO.out]; exact refOne_any N r W HSY.out)
                have HBEG : Hid (∀ W b2 c2, Row .u8 W.heap.size W (.slice (some (ad.add m)) (l.length - m) (cap - m)) b → Row .u8 W.heap.size W (.slice b2 O.length c2) O → Calls Try.prog 53 #[.slice (some (ad.add m)) (l.length - m) (cap - m), .slice b2 O.length c2] W fun e w' => e = .returned (.bool (decide (b.take O.length = O))) ∧ Below W.heap.size W w') := Lib.hid (fun W b2 c2 h1 h2 => by
                  have h := refBegins_any (some (ad.add m)) (cap - m) b b2 c2 O W (by rw [HBL.out]; exact h1) h2
                  rw [HBL.out] at h
                  exact h)
                have k0 : Below w3.heap.size w3 w3.drew := (Below.refl w3.heap.size w3).drew
                cases hbg : decide (b.take O.length = O)
                · have HCF : Hid (condB r b k = false) := Lib.hid (by rw [HCD.out, hbg]; simp)
                  rw [hbg] at HBEG
                  clear hbg
                  go_wp2_with fail
                  first | (go_region_with (first
                    | (go_at_call 53; refine (HBEG.out _ _ _ (rowB hdr k1) hrow1).mono ?_; rintro e r2 ⟨rfl, bb2⟩; dsimp only; have k2 := stepB k1 bb2)
                    | (go_at_call 46; refine (HONE.out _).mono ?_; rintro e r1 hp1; have hq1 := onePost_row hp1 hO1000; obtain ⟨he1, hw1⟩ := hp1; subst he1; obtain ⟨hrow1, bb1⟩ := hq1; clear hw1; dsimp only; have k1 := stepB k0 bb1))) | fail
                  all_goals
                    go_wp2_with fail
                    go_roundw
                    case rel => exact ⟨k + 1, 0, Q, by omega, by omega, by go_num, rfl, by omega, Lib.hid (.inl ⟨rfl, rfl, fun n h1 h2 => by
                      rcases Nat.lt_or_ge n k with h | h
                      · exact HNO.out n h1 h
                      · rw [show n = k from by omega]; exact HCF.out⟩), owns_kept_below hown k2, stepB hB k2⟩
                    case measure => simp [intOf]; omega
                · rw [hbg] at HBEG
                  by_cases hle : O.length = k
                  · have HCT : Hid (condB r b k = true) := Lib.hid (by rw [HCD.out, hbg, HSY.out, hle]; simp)
                    have hle' : ((O.length : Int) = (k : Int)) := by omega
                    clear hbg hle
                    go_wp2_with fail
                    go_region_held3 (fun w' => True) (exact trivial) (first
                      | (go_at_call 46; refine (HONE.out _).mono ?_; rintro e r3 hp3; have hq3 := onePost_row hp3 hO1000; obtain ⟨he3, hw3⟩ := hp3; subst he3; obtain ⟨hrow3, bb3⟩ := hq3; clear hw3; dsimp only; have k3 := stepB k2 bb3)
                      | (go_at_call 53; refine (HBEG.out _ _ _ (rowB hdr k1) hrow1).mono ?_; rintro e r2 ⟨rfl, bb2⟩; dsimp only; have k2 := stepB k1 bb2)
                      | (go_at_call 46; refine (HONE.out _).mono ?_; rintro e r1 hp1; have hq1 := onePost_row hp1 hO1000; obtain ⟨he1, hw1⟩ := hp1; subst he1; obtain ⟨hrow1, bb1⟩ := hq1; clear hw1; dsimp only; have k1 := stepB k0 bb1))
                    have hown3 := owns_kept_below hown k3
                    have hB3 := stepB hB k3
                    have hs3 := hB3.size
                    clear hle' k0 k1 k2 k3 hrow1 hrow3
                    go_wp2_with (at_builtin; refine wpList_append_own _ rfl _ _ 22 rfl w.heap.size 3 i0 (.int .i64 0) 1 8 Try.underlying22 hi hz0 hz1 hz2 rfl (by decide) _ _ _ rfl (hown3.alloc _) ⟨r3.heap.size, 0, none⟩ 1 1 [.int .i64 N] rfl rfl (cell_one_new _ _ _) (by simp [Value.oneCell']) (by unfold maxLen; omega) (by omega) (by simp; omega) ?_; intro v4 w4 hown4 hgrow4 _)
                    have hb4 : Below w.heap.size w w4 := (laidB hB3 _).grown hgrow4 (by simp; omega) (fun j ej => own_base hown3 ej)
                    go_roundw
                    case rel => exact ⟨k + 1, (k : Int), Q ++ [N], by omega, by omega, by go_num, rfl, by simp, Lib.hid (.inr ⟨by omega, by rw [HCO.out HCT.out], by rw [HCO.out HCT.out]⟩), by rw [List.length_append, List.map_append]; exact hown4, hb4⟩
                    case measure => simp [intOf]; omega
                  · have HCF : Hid (condB r b k = false) := Lib.hid (by rw [HCD.out]; simp [hle])
                    have hle' : ¬ ((O.length : Int) = (k : Int)) := by omega
                    clear hbg hle
                    go_wp2_with fail
                    go_region_held3 (fun w' => True) (exact trivial) (first
                      | (go_at_call 46; refine (HONE.out _).mono ?_; rintro e r3 hp3; have hq3 := onePost_row hp3 hO1000; obtain ⟨he3, hw3⟩ := hp3; subst he3; obtain ⟨hrow3, bb3⟩ := hq3; clear hw3; dsimp only; have k3 := stepB k2 bb3)
                      | (go_at_call 53; refine (HBEG.out _ _ _ (rowB hdr k1) hrow1).mono ?_; rintro e r2 ⟨rfl, bb2⟩; dsimp only; have k2 := stepB k1 bb2)
                      | (go_at_call 46; refine (HONE.out _).mono ?_; rintro e r1 hp1; have hq1 := onePost_row hp1 hO1000; obtain ⟨he1, hw1⟩ := hp1; subst he1; obtain ⟨hrow1, bb1⟩ := hq1; clear hw1; dsimp only; have k1 := stepB k0 bb1))
                    go_wp2_with fail
                    go_roundw
                    case rel => exact ⟨k + 1, 0, Q, by omega, by omega, by go_num, rfl, by omega, Lib.hid (.inl ⟨rfl, rfl, fun n h1 h2 => by
                      rcases Nat.lt_or_ge n k with h | h
                      · exact HNO.out n h1 h
                      · rw [show n = k from by omega]; exact HCF.out⟩), owns_kept_below hown k3, stepB hB k3⟩
                    case measure => simp [intOf]; omega
            · have hkb' : ¬ (k : Int) ≤ (l.length : Int) - (m : Int) := by omega
              have HE : Hid (D = ([], 9)) := Lib.hid (by
                have h0 := cond_none r b hBl HBZ.out (fun n h1 h2 h3 => HNO.out n h1 (by rw [HBL.out] at h3; omega))
                rw [← HD.out]
                exact decodeM_bad r l Q (by rw [← HS.out, symsL_bad r b hBl h0]))
              go_wp2_with fail
              go_ret2
              exact ⟨_, by rw [HE.out]; rfl, by rw [HE.out]; exact World.ownsRow_nil _ _ _ _, hB⟩
          · have hk4' : ¬ (k : Int) ≤ 4 := by omega
            have HE : Hid (D = ([], 9)) := Lib.hid (by
              have h0 := cond_none r b hBl HBZ.out (fun n h1 h2 h3 => HNO.out n h1 (by omega))
              rw [← HD.out]
              exact decodeM_bad r l Q (by rw [← HS.out, symsL_bad r b hBl h0]))
            go_wp2_with fail
            go_ret2
            exact ⟨_, by rw [HE.out]; rfl, by rw [HE.out]; exact World.ownsRow_nil _ _ _ _, hB⟩
        · obtain ⟨_, ho, hQ⟩ := HQ.out.resolve_left (fun h => hs h.1)
          have h0 : (oneI r (l.drop m)).2 ≠ 0 := by rw [HBB.out, ho]; exact hs
          have hst := symsL_step r l pre m hlt (by rw [HBB.out]; exact HS.out) h0
          have hsy := (oneI_back r b hBl HBZ.out (by rw [ho]; exact hs)).1
          rw [HBB.out, ho, ← hQ] at hst
          obtain ⟨t1, t2, t3⟩ := hst
          have hng : Q.any negB = false := by
            rw [hQ, List.any_append, HN.out]
            simp [sym_pos r _ hsy]
          obtain ⟨s', rfl⟩ := Int.eq_ofNat_of_zero_le (show 0 ≤ s from by omega)
          rw [Int.toNat_natCast] at t1 t3
          have T1 := Lib.hid t1
          have HNG := Lib.hid hng
          have hs1 : ¬ s' = 0 := by omega
          have hs2 : ¬ ((s' : Int) = 0) := by omega
          clear t1 hng hsy ho hQ h0 HQ hs
          have hsl : m + s' ≤ 1000 := by omega
          have hfin : ∀ hx : True, pre.length + 1 ≤ m + s' := fun _ => by omega
          have hQm : Q.length ≤ m + s' := by omega
          by_cases hk4 : k ≤ 4
          · by_cases hkb : k ≤ l.length - m
            · have hk4' : (k : Int) ≤ 4 := by omega
              have hkb' : (k : Int) ≤ (l.length : Int) - (m : Int) := by omega
              go_wp2_with fail
              go_roundw
              case rel => exact ⟨m + s', Q, t3, by go_num, hQm, T1, HNG, hown, hB⟩
              case measure => simp [intOf]; omega
            · have hk4' : (k : Int) ≤ 4 := by omega
              have hkb' : ¬ (k : Int) ≤ (l.length : Int) - (m : Int) := by omega
              go_wp2_with fail
              go_roundw
              case rel => exact ⟨m + s', Q, t3, by go_num, hQm, T1, HNG, hown, hB⟩
              case measure => simp [intOf]; omega
          · have hk4' : ¬ (k : Int) ≤ 4 := by omega
            go_wp2_with fail
            go_roundw
            case rel => exact ⟨m + s', Q, t3, by go_num, hQm, T1, HNG, hown, hB⟩
            case measure => simp [intOf]; omega
    · have hml : m = l.length := by omega
      have HE : Hid (D = (pre, 0)) := Lib.hid (by
        have h1 := HS.out
        rw [hml, List.drop_length, symsL_nil, List.append_nil] at h1
        rw [← HD.out, h1]
        exact decodeM_good r l hl (by rw [← h1]; exact HN.out))
      have h6 : (pre.length : Int) ≤ 1000 := by omega
      obtain ⟨av, nv, cv, rfl⟩ := owns_slice hown
      obtain rfl : nv = pre.length := by
        rcases hown.2 with ⟨e, h⟩ | ⟨g, cp, cur, e, _⟩
        · simp at e h; simp [h]; omega
        · simp at e; omega
      go_wp2_with fail
      go_ret2
      refine ⟨_, by rw [HE.out]; rfl, ?_, hB⟩
      rw [HE.out]
      exact hown
end Go.Proofs.Ytnfelphemdchpaa
