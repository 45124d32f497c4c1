/- MeterDivides: the walk. -/
import Derived.Test.YtcohajmappdckaaMtL
import Derived.Test.YtcohajmappdckaaAppRow
namespace Go.Proofs.Ytcohajmappdckaa
open Go.RowKit Go.Shelf
set_option linter.unusedVariables false

theorem sum_bd {l : List Int} (h : ∀ x ∈ l, 1 ≤ x ∧ x ≤ 50) : (l.length : Int) ≤ l.sum ∧ l.sum ≤ 50 * l.length := by
  induction l with
  | nil => simp
  | cons a l ih =>
    have h0 := h a (List.mem_cons_self ..)
    have := ih (fun x hx => h x (List.mem_cons_of_mem _ hx))
    simp
    omega
/-- Take of the only rule of a meter, in its first period of ten. -/
theorem take_one (A tk x q t : Int) (h0 : 0 ≤ tk) (h1 : tk ≤ t) (h2 : t ≤ 9) (hq : 0 ≤ q) (hq2 : q ≤ 1099511627776) :
    (MS.mk A 10 tk [x]).take 0 q t = (min q (A - x), 0, ⟨A, 10, t, [x + min q (A - x)]⟩) := by
  have hc : (MS.mk A 10 tk [x]).chk 0 q t = 0 := by
    unfold MS.chk
    dsimp only
    rw [if_neg (by simp), if_neg (by omega), if_neg (by omega), if_neg (by omega)]
  have hf : (MS.mk A 10 tk [x]).fresh t = false := by
    unfold MS.fresh
    dsimp only
    rw [decide_eq_false_iff_not]
    omega
  have ha : (MS.mk A 10 tk [x]).at 0 t = x := by
    unfold MS.at
    rw [hf]
    rfl
  have hg : (MS.mk A 10 tk [x]).give 0 q t = min q (A - x) := by
    unfold MS.give
    rw [ha]
  have hp : (MS.mk A 10 tk [x]).usAt t = [x] := by
    unfold MS.usAt
    rw [hf]
    rfl
  unfold MS.take
  rw [if_pos hc]
  show ((MS.mk A 10 tk [x]).give 0 q t, (0 : Int), (MS.mk A 10 tk [x]).put 0 t ((MS.mk A 10 tk [x]).at 0 t + (MS.mk A 10 tk [x]).give 0 q t)) = _
  rw [ha, hg]
  unfold MS.put
  rw [hp]
  rfl
theorem take_one_any (p u : Nat) (A tk x q t : Int) (w : World) (h : Mt w p u ⟨A, 10, tk, [x]⟩) (h0 : 0 ≤ tk) (h1 : tk ≤ t) (h2 : t ≤ 9) (hq : 0 ≤ q) (hq2 : q ≤ 1099511627776) :
    Calls Try.prog 19 #[.pointer (some ⟨p, 0, none⟩), .int .i64 0, .int .i64 q, .int .i64 t] w fun e w' => ∃ g, e = .returned (.tuple #[.int .i64 g, .int .i64 0]) ∧ g = min q (A - x) ∧ Mt w' p u ⟨A, 10, t, [x + g]⟩ ∧ OnlyP (Two p u) w w' := by
  have := take_any p u _ 0 q t w h
  rw [take_one A tk x q t h0 h1 h2 hq hq2] at this
  exact this.mono fun e w' ⟨he, hm, ho⟩ => ⟨_, he, rfl, hm, ho⟩
set_option maxRecDepth 100000 in
set_option maxHeartbeats 8000000 in
theorem meterDivides_walk (a0 : Int) (a1 : Option Addr) (len1 cap1 : Nat) (z1 : List Int) (a2 : Option Addr) (len2 cap2 : Nat) (z2 : List Int) (w : World) (w0 : (Lit.int .i64 a0).wf = true) (w1 : IsRow .i64 w a1 len1 cap1 z1) (w2 : IsRow .i64 w a2 len2 cap2 z2) :
    Calls Try.prog 9 #[.int .i64 a0, .slice a1 len1 cap1, .slice a2 len2 cap2] w fun e w' => e = .returned (.bool true) ∧ Below w.heap.size w w' := by
  obtain ⟨i0, hi, hz0, hz1, hz2⟩ := info_parts info_im
  obtain ⟨hr1, hw1⟩ := w1.row
  obtain ⟨hr2, hw2⟩ := w2.row
  have hl1 := hr1.len
  have hl2 := hr2.len
  have hlc1 := hr1.lencap
  have hlc2 := hr2.lencap
  unfold maxLen at hlc1 hlc2
  clear w1 w2
  generalize z1.take len1 = l1 at *
  generalize z2.take len2 = l2 at *
  subst hl1 hl2
  have hT0 := aroundI_lo a0 10000 (by decide)
  have hT1 := aroundI_hi a0 10000 (by decide)
  have hAT := around_any a0 10000 w w0 (by decide) (by decide)
  generalize aroundI a0 10000 = T at *
  have HW1 := Lib.hid hw1
  have HW2 := Lib.hid hw2
  have HAT := Lib.hid hAT
  have HR1 := Lib.hid hr1
  have HR2 := Lib.hid hr2
  clear hw1 hw2 hAT hr1 hr2 w0
  go_enter Try.func9, Try.ntmps9
  go_wp2_with fail
  refine HAT.out.mono ?_
  rintro e q1 ⟨rfl, hq1⟩
  subst hq1
  dsimp only
  go_wp2_with fail
  go_loopw [8, 9] (fun v i wr => ∃ (k : Nat) (zs : List Int) (av : Option Addr) (cv : Nat), k ≤ l1.length ∧ k ≤ 9 ∧ i = .int .i64 (k : Int) ∧ v = .slice av k cv ∧ zs.length = k ∧ Hid (wr.ownsRow q1.heap.size 3 1 (.slice av k cv) k (zs.map (Value.int .i64))) ∧ Hid (∀ x ∈ zs, 1 ≤ x ∧ x ≤ 50) ∧ Hid (Below q1.heap.size q1 wr)) (fun _ i _ => l1.length - (intOf i).toNat)
  case atStart => exact ⟨0, [], none, 0, Nat.zero_le _, Nat.zero_le _, rfl, rfl, rfl, Lib.hid (World.ownsRow_nil _ _ _ _), Lib.hid (by simp), Lib.hid (Below.refl _ _)⟩
  case round =>
    obtain ⟨k, zs, av, cv, hk, hk9, rfl, rfl, hzl, HO, HZ, HB⟩ := hrel
    have HZL := Lib.hid hzl
    clear hzl
    by_cases hlt : k < l1.length ∧ k < 9
    · obtain ⟨hlt, hlt9⟩ := hlt
      obtain ⟨b, off, rfl, ck⟩ := rowM_cell (rowB HR1.out HB.out) k hlt
      have hi1 : (k : Int) < l1.length := by omega
      have hi9 : (k : Int) < 9 := by omega
      have hi0 : (0 : Int) ≤ (k : Int) := by omega
      have hx : (Lit.int .i64 (l1[k]?.getD 0)).wf = true := by
        rw [List.getElem?_eq_getElem hlt]
        exact HW1.out _ (List.getElem_mem _)
      have g0 := aroundI_lo (l1[k]?.getD 0) 50 (by decide)
      have g1 := aroundI_hi (l1[k]?.getD 0) 50 (by decide)
      have har := around_any (l1[k]?.getD 0) 50 wr hx (by decide) (by decide)
      generalize l1[k]?.getD 0 = X at *
      generalize aroundI X 50 = Y at *
      have HAR := Lib.hid har
      clear har hx
      go_wp2_with fail
      refine HAR.out.mono ?_
      rintro e q2 ⟨rfl, hq2⟩
      subst hq2
      dsimp only
      go_wp2_with (at_builtin; refine wpList_append_row rfl _ _ 22 rfl q1.heap.size 3 i0 .i64 (.int .i64 0) 8 Try.underlying22 hi hz0 hz1 hz2 rfl _ _ zs rfl (HO.out.alloc _) (.slice (some ⟨q2.heap.size, 0, none⟩) 1 1) [1 + Y] _ rfl (litM q2 [1 + Y] (by simp) 1 rfl _ rfl) (by unfold maxLen; simp; omega) (by simp; omega) (by have := HB.out.size; simp; omega) ?_; intro v' w2 hown' hgrow' hbel'; obtain ⟨a', c', hv'⟩ := row_slice (row_of_owns hown').1; have hlen : (zs ++ [1 + Y]).length = k + 1 := (by simp [HZL.out]); rw [hlen] at hv' hown'; subst hv'; have HLEN := Lib.hid hlen; clear hlen)
      have HO2 := Lib.hid hown'
      have HB2 := Lib.hid ((HB.out.alloc HB.out.size _).trans hbel')
      clear hown' hgrow' hbel'
      go_roundw
      case rel => exact ⟨k + 1, zs ++ [1 + Y], a', c', by omega, by omega, by go_num, rfl, HLEN.out, HO2, Lib.hid (fun x hx => by rcases List.mem_append.1 hx with h | h; exact HZ.out x h; simp at h; omega), HB2⟩
      case measure => simp [intOf]; omega
    · have hrow := (row_of_owns HO.out).1
      have hsb := sum_bd HZ.out
      have hb := HB.out
      have hwf : ∀ x ∈ zs, 0 ≤ x ∧ x ≤ 1048576 := fun x hx => by have := HZ.out x hx; omega
      by_cases hk0 : k = 0
      · have hzn : zs.sum = 0 := by
          rw [HZL.out] at hsb
          omega
        have hl0 : ¬ k < l1.length := by omega
        have hl0i : ¬ (k : Int) < l1.length := by omega
        have hkb : ((k : Int) == 0) = true := by simp [hk0]
        have hrow2 := hrow
        rw [← HZL.out] at hrow2
        have hsn := shares_none T av cv zs wr hrow2 hT0 (by omega) (by rw [HZL.out]; omega) hwf hzn
        rw [HZL.out] at hsn
        have HSN := Lib.hid hsn
        have HLV := Lib.hid lives33_any
        clear hsn hrow hrow2 hwf hzn hsb hk0 hlt hb
        go_wp2_with fail
        refine HSN.out.mono ?_
        rintro e q2 ⟨rfl, b2⟩
        have B2 := Lib.hid (stepB HB.out b2)
        clear b2 HSN HB
        dsimp only
        go_wp2_with fail
        refine (HLV.out _).mono ?_
        rintro e q3 ⟨rfl, b3⟩
        dsimp only
        go_wp2_with fail
        go_ret
        exact ⟨rfl, stepB B2.out b3⟩
      · have hrow2 := hrow
        rw [← HZL.out] at hrow2
        have hso := shares_ok T av cv zs wr hrow2 ⟨hT0, by omega, by rw [HZL.out] at hsb; omega, by rw [HZL.out] at hsb; omega, by rw [HZL.out]; omega, hwf⟩ (by rw [HZL.out]; omega)
        have hsl := sharesM_len T zs
        have hss := sharesM_sum T zs (by rw [HZL.out] at hsb; omega)
        have hsz := sharesM_lo T zs hT0 (by rw [HZL.out] at hsb; omega) (fun x hx => (hwf x hx).1)
        rw [HZL.out] at hso hsl
        generalize sharesM T zs = L at *
        have hLz : ∀ x ∈ L, 0 ≤ x := by
          intro x hx
          obtain ⟨i, hi, rfl⟩ := List.getElem_of_mem hx
          have := hsz i
          rw [List.getElem?_eq_getElem hi] at this
          exact this
        have hkb : ((k : Int) == 0) = false := beq_eq_false_iff_ne.2 (by omega)
        have HSO := Lib.hid hso
        have HSL := Lib.hid hsl
        have HSS := Lib.hid hss
        have HLZ := Lib.hid hLz
        have HLV := Lib.hid lives33_any
        have HR2' := Lib.hid (rowB HR2.out HB.out)
        clear hso hsl hss hsz hLz hrow hrow2 hwf hsb hk0 hb
        obtain h9 | h9 : (k < l1.length ∧ decide ((k : Int) < 9) = false) ∨ (¬ k < l1.length ∧ True) := by
          by_cases hl0 : k < l1.length
          · exact .inl ⟨hl0, decide_eq_false (by omega)⟩
          · exact .inr ⟨hl0, trivial⟩
        all_goals
          obtain ⟨hl0, h9⟩ := h9
          go_wp2_with fail
          refine HSO.out.mono ?_
          rintro e q2 ⟨a3, rfl, hr3, b2⟩
          have B2 := Lib.hid (stepB HB.out b2)
          have R2 := Lib.hid (rowB HR2'.out b2)
          have R3 := Lib.hid hr3
          clear b2 HSO HB HR2 HR2' hr3 HR1 HO hl0
          dsimp only
          go_wp2_with fail
          go_loopw [12, 13] (fun gv i wr => ∃ m : Nat, m ≤ k ∧ i = .int .i64 (m : Int) ∧ gv = .int .i64 ((L.take m).sum) ∧ Hid (Row .i64 wr.heap.size wr (.slice a3 k k) L) ∧ Hid (Row .i64 wr.heap.size wr (.slice a2 l2.length cap2) l2) ∧ Hid (Below q1.heap.size q1 wr)) (fun _ i _ => k - (intOf i).toNat)
          case atStart => exact ⟨0, Nat.zero_le _, rfl, rfl, R3, R2, B2⟩
          case round =>
            clear R3 R2 B2
            obtain ⟨m, hm, rfl, rfl, RL, RW, BO⟩ := hrel
            obtain ⟨wo, hwo⟩ : ∃ X, X = wr := ⟨_, rfl⟩
            subst hwo
            have ht := sum_take HLZ.out m
            rw [HSS.out] at ht
            by_cases hlt : m < k
            · have hmL : m < L.length := by rw [HSL.out]; exact hlt
              have ht2 := sum_take HLZ.out (m + 1)
              rw [HSS.out] at ht2
              have hts := sum_take_succ L m hmL
              have hA0 : 0 ≤ L[m]?.getD 0 := by
                rw [List.getElem?_eq_getElem hmL]
                exact HLZ.out _ (List.getElem_mem _)
              obtain ⟨b3, off3, ha3, _, hc3⟩ := RL.out.at (by omega)
              have cm := hc3 m hmL
              have HA3 := Lib.hid ha3
              have hi1 : (m : Int) < (k : Int) := by omega
              have hi0 : (0 : Int) ≤ (m : Int) := by omega
              have hpl := (RL.out.at (by omega))
              clear hc3 hpl
              subst ha3
              have CM := Lib.hid (show ∀ W, Below wo.heap.size wo W → W.cell? ⟨b3, off3 + m, none⟩ = some (.int .i64 (L[m]?.getD 0)) from fun W hW => cellB cm hW)
              generalize hY2 : (L.take (m + 1)).sum = Y2 at *
              generalize (L.take m).sum = Y at *
              generalize L[m]?.getD 0 = A at *
              have HY2 := Lib.hid hY2
              have HTS := Lib.hid hts
              have hA1 : A ≤ 10000 := by omega
              have hY0 : 0 ≤ Y := by omega
              have hY1 : Y ≤ 10000 := by omega
              clear hY2 hts ht ht2 hmL
              go_wp2_with fail
              refine (new_ok 1 1 rfl A 10 wo (by decide) (by decide) hA0 (by omega) (by decide) (by decide)).mono ?_
              rintro e q4 ⟨p, u, rfl, hp, hu, hM, b4⟩
              have hM' : Mt q4 p u ⟨A, 10, 0, [0]⟩ := hM
              have M4 := Lib.hid hM'
              have B4 := Lib.hid b4
              clear hM hM' b4
              have cm4 := CM.out q4 B4.out
              dsimp only
              go_wp2_with fail
              go_loopw [12, 16] (fun gv i wr => ∃ (j : Nat) (tk x : Int), j ≤ l2.length ∧ j ≤ 5 ∧ i = .int .i64 (j : Int) ∧ gv = .int .i64 (Y + x) ∧ 0 ≤ tk ∧ tk ≤ 2 * j ∧ tk ≤ 9 ∧ 0 ≤ x ∧ x ≤ A ∧ Hid (Mt wr p u ⟨A, 10, tk, [x]⟩) ∧ Hid (Below wo.heap.size wo wr)) (fun _ i _ => l2.length - (intOf i).toNat)
              case atStart => exact ⟨0, 0, 0, Nat.zero_le _, Nat.zero_le _, rfl, by simp, by omega, by omega, by omega, by omega, hA0, M4, B4⟩
              case round =>
                clear M4 B4 cm4 cm
                obtain ⟨j, tk, x, hj, hj5, rfl, rfl, htk0, htk1, htk9, hx0, hx1, MJ, BJ⟩ := hrel
                by_cases hlt2 : j < l2.length ∧ j < 5
                · obtain ⟨hjl, hj5'⟩ := hlt2
                  obtain ⟨b5, off5, ha5, c5⟩ := rowM_cell (rowB RW.out BJ.out) j hjl
                  have HA5 := Lib.hid ha5
                  subst ha5
                  have hj1 : (j : Int) < l2.length := by omega
                  have hj2 : (j : Int) < 5 := by omega
                  have hj0 : (0 : Int) ≤ (j : Int) := by omega
                  have hx : (Lit.int .i64 (l2[j]?.getD 0)).wf = true := by
                    rw [List.getElem?_eq_getElem hjl]
                    exact HW2.out _ (List.getElem_mem _)
                  have g0 := aroundI_lo (l2[j]?.getD 0) 5000 (by decide)
                  have g1 := aroundI_hi (l2[j]?.getD 0) 5000 (by decide)
                  have har := around_any (l2[j]?.getD 0) 5000 wr hx (by decide) (by decide)
                  generalize l2[j]?.getD 0 = X at *
                  generalize aroundI X 5000 = q at *
                  have HAR := Lib.hid har
                  clear har hx
                  go_wp2_with fail
                  refine HAR.out.mono ?_
                  rintro e q5 ⟨rfl, hq5⟩
                  subst hq5
                  dsimp only
                  go_wp2_with fail
                  refine (take_one_any p u A tk x q _ _ MJ.out htk0 (by omega) (by omega) g0 (by omega)).mono ?_
                  rintro e q6 ⟨g, rfl, hg, hM6, ho6⟩
                  have M6 := Lib.hid hM6
                  have B6 := Lib.hid (BJ.out.trans (ho6.below BJ.out.size (fun k hk => by rcases hk with rfl | rfl <;> assumption)))
                  have cm6 := CM.out q6 B6.out
                  have hg0 : 0 ≤ g := by omega
                  have hg1 : x + g ≤ A := by omega
                  have hg2 : g ≤ A := by omega
                  clear hg hM6 ho6
                  dsimp only
                  go_wp2_with fail
                  go_roundw
                  case rel => exact ⟨j + 1, 2 * j, x + g, by omega, by omega, by go_num, by go_num, by omega, by omega, by omega, by omega, hg1, M6, B6⟩
                  case measure => simp [intOf]; omega
                · obtain hj9 | hj9 : (j < l2.length ∧ decide ((j : Int) < 5) = false) ∨ (¬ j < l2.length ∧ True) := by
                    by_cases hl0 : j < l2.length
                    · exact .inl ⟨hl0, decide_eq_false (by omega)⟩
                    · exact .inr ⟨hl0, trivial⟩
                  all_goals
                    obtain ⟨hjl, hj9⟩ := hj9
                    go_wp2_with fail
                    refine (take_one_any p u A tk x 1099511627776 9 _ MJ.out htk0 (by omega) (by omega) (by omega) (by omega)).mono ?_
                    rintro e q6 ⟨g, rfl, hg, hM6, ho6⟩
                    have B6 := Lib.hid (BJ.out.trans (ho6.below BJ.out.size (fun k hk => by rcases hk with rfl | rfl <;> assumption)))
                    have hg0 : 0 ≤ g := by omega
                    have hg1 : x + g ≤ A := by omega
                    have hge : Hid (Y + x + g = Y2) := Lib.hid (by rw [HTS.out]; omega)
                    clear hg hM6 ho6
                    dsimp only
                    go_wp2_with fail
                    go_roundw
                    case rel => exact ⟨m + 1, by omega, by go_num, by rw [HY2.out, hge.out], Lib.hid (rowB RL.out B6.out), Lib.hid (rowB RW.out B6.out), Lib.hid (stepB BO.out B6.out)⟩
                    case measure => simp [intOf]; omega
            · have hme : (L.take m).sum = T := by rw [sum_all _ _ (by rw [HSL.out]; omega), HSS.out]
              rw [hme]
              clear hme ht
              go_wp2_with fail
              refine (HLV.out _).mono ?_
              rintro e q3 ⟨rfl, b3⟩
              dsimp only
              go_wp2_with fail
              go_ret
              exact ⟨rfl, stepB BO.out b3⟩
end Go.Proofs.Ytcohajmappdckaa
