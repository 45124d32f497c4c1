/- MeterCopies: the walk. -/
import Derived.Test.YtcohajmappdckaaWMeterRuns
import Derived.Test.YtcohajmappdckaaMtW
namespace Go.Proofs.Ytcohajmappdckaa
open Go.RowKit Go.Shelf
set_option linter.unusedVariables false

theorem Pair.lt {W : World} {p u q : Nat} {x : Value} {s : MS} {N : Nat} (h : Pair W p u q x s N) (k : Nat) (hk : PB p u q x k) : k < W.heap.size := by
  rcases hk with (e | e) | (e | e)
  · rw [e]; exact h.m.box.lt
  · rw [e]; exact h.m.row.lt
  · rw [e]; exact h.r.box.lt
  · exact h.r.own_lt e
theorem OpsRow.mono {q r : Nat → Prop} {W : World} {x : Value} {l : List OpM} (h : OpsRow q W x l) (hq : ∀ b, q b → r b) : OpsRow r W x l := by
  obtain ⟨a, cap, e, h1⟩ := h
  refine ⟨a, cap, e, h1.imp id ?_⟩
  rintro ⟨b, e2, hb, hc⟩
  exact ⟨b, e2, hq b hb, hc⟩
/-- Two meters with their models, apart. -/
structure CopL (w0 W : World) (lo hi : Nat) (v1 : Value) (l1 : List OpM) (v2 : Value) (l2 : List OpM) (p u q : Nat) (x : Value) (s : MS) (N : Nat) (p2 u2 q2 : Nat) (x2 : Value) (s2 : MS) (N2 : Nat) : Prop where
  pr : Pair W p u q x s N
  pr2 : Pair W p2 u2 q2 x2 s2 N2
  d : ∀ k, PB p u q x k → ¬ PB p2 u2 q2 x2 k
  o1 : ∀ k, PB p u q x k → w0.heap.size ≤ k ∧ ¬ (lo ≤ k ∧ k < hi)
  o2 : ∀ k, PB p2 u2 q2 x2 k → w0.heap.size ≤ k ∧ ¬ (lo ≤ k ∧ k < hi)
  ops1 : OpsRow (fun b => lo ≤ b ∧ b < hi) W v1 l1
  ops2 : OpsRow (fun b => lo ≤ b ∧ b < hi) W v2 l2
  bel : Below w0.heap.size w0 W
  hs : hi ≤ W.heap.size
section
variable {w0 W W' : World} {lo hi : Nat} {v1 : Value} {l1 : List OpM} {v2 : Value} {l2 : List OpM} {p u q : Nat} {x : Value} {s : MS} {N : Nat} {p2 u2 q2 : Nat} {x2 : Value} {s2 : MS} {N2 : Nat}
theorem CopL.swap (h : CopL w0 W lo hi v1 l1 v2 l2 p u q x s N p2 u2 q2 x2 s2 N2) : CopL w0 W lo hi v1 l1 v2 l2 p2 u2 q2 x2 s2 N2 p u q x s N :=
  ⟨h.pr2, h.pr, fun k h1 h2 => h.d k h2 h1, h.o2, h.o1, h.ops1, h.ops2, h.bel, h.hs⟩
theorem CopL.step (h : CopL w0 W lo hi v1 l1 v2 l2 p u q x s N p2 u2 q2 x2 s2 N2) (hb : Below W.heap.size W W') : CopL w0 W' lo hi v1 l1 v2 l2 p u q x s N p2 u2 q2 x2 s2 N2 :=
  ⟨h.pr.step hb, h.pr2.step hb, h.d, h.o1, h.o2, h.ops1.step hb, h.ops2.step hb, stepB h.bel hb, Nat.le_trans h.hs hb.size⟩
theorem CopL.next (h : CopL w0 W lo hi v1 l1 v2 l2 p u q x s N p2 u2 q2 x2 s2 N2) (ha : StepAfter W W' p u q x (N + 1)) : ∃ x' s', CopL w0 W' lo hi v1 l1 v2 l2 p u q x' s' (N + 1) p2 u2 q2 x2 s2 N2 := by
  obtain ⟨s', x', h1, h2, h3⟩ := ha
  have hs := h.hs
  have hbs := h.bel.size
  have hnew : ∀ k, PB p u q x' k → PB p u q x k ∨ W.heap.size ≤ k := by
    rintro k (e | (e | e))
    · exact .inl (.inl e)
    · exact .inl (.inr (.inl e))
    · rcases h3 with e2 | ⟨k2, e2, hk⟩
      · exact .inl (.inr (.inr (by rw [← e2]; exact e)))
      · rw [e2] at e; injection e with e; exact .inr (by omega)
  refine ⟨x', s', h1, h.pr2.only h2 (fun k hk hk2 => h.d k hk2 hk), ?_, ?_, h.o2, h.ops1.only h2 (fun b hb hp => (h.o1 b hp).2 hb), h.ops2.only h2 (fun b hb hp => (h.o1 b hp).2 hb), h.bel.trans (h2.below hbs (fun k hk => (h.o1 k hk).1)), Nat.le_trans hs h2.size⟩
  · intro k hk hk2
    rcases hnew k hk with e | e
    · exact h.d k e hk2
    · have := h.pr2.lt k hk2; omega
  · intro k hk
    rcases hnew k hk with e | e
    · exact h.o1 k e
    · omega
theorem CopL.more (h : CopL w0 W lo hi v1 l1 v2 l2 p u q x s N p2 u2 q2 x2 s2 N2) {M M2 : Nat} (h1 : N ≤ M) (h2 : N2 ≤ M2) : CopL w0 W lo hi v1 l1 v2 l2 p u q x s M p2 u2 q2 x2 s2 M2 :=
  ⟨h.pr.more h1, h.pr2.more h2, h.d, h.o1, h.o2, h.ops1, h.ops2, h.bel, h.hs⟩
theorem CopL.store (h : CopL w0 W lo hi v1 l1 v2 l2 p u q x s N p2 u2 q2 x2 s2 N2) (g i : Nat) (v : Value) (h1 : ∀ k, PB p u q x k → k ≠ g) (h2 : ∀ k, PB p2 u2 q2 x2 k → k ≠ g) (h3 : ¬ (lo ≤ g ∧ g < hi)) (h4 : w0.heap.size ≤ g) : CopL w0 (W.setCell ⟨g, i, none⟩ v) lo hi v1 l1 v2 l2 p u q x s N p2 u2 q2 x2 s2 N2 := by
  have ho : OnlyP (fun k => k = g) W (W.setCell ⟨g, i, none⟩ v) := OnlyP.set _ _ _ _ rfl
  exact ⟨h.pr.only ho h1, h.pr2.only ho h2, h.d, h.o1, h.o2, h.ops1.only ho (fun b hb e => h3 (by rw [← e]; exact hb)), h.ops2.only ho (fun b hb e => h3 (by rw [← e]; exact hb)), h.bel.setCell h4 _, Nat.le_trans h.hs ho.size⟩
end
set_option maxRecDepth 100000 in
set_option maxHeartbeats 16000000 in
theorem meterCopies_walk (a0 : Option Addr) (len0 cap0 : Nat) (z0 : List Int) (a1 : Option Addr) (len1 cap1 : Nat) (z1 : List Int) (a2 : Option Addr) (len2 cap2 : Nat) (z2 : List Int) (w : World) (w0 : IsRow .i64 w a0 len0 cap0 z0) (w1 : IsRow .i64 w a1 len1 cap1 z1) (w2 : IsRow .i64 w a2 len2 cap2 z2) :
    Calls Try.prog 5 #[.slice a0 len0 cap0, .slice a1 len1 cap1, .slice a2 len2 cap2] w fun e w' => e = .returned (.bool true) ∧ Below w.heap.size w w' := by
  obtain ⟨hr0, hw0⟩ := w0.row
  obtain ⟨hr1, hw1⟩ := w1.row
  obtain ⟨hr2, hw2⟩ := w2.row
  have hl0 := hr0.len
  have hl1 := hr1.len
  have hl2 := hr2.len
  clear w0 w1 w2
  generalize z0.take len0 = l0 at *
  generalize z1.take len1 = l1 at *
  generalize z2.take len2 = l2 at *
  subst hl0 hl1 hl2
  have HR0 := Lib.hid hr0
  have HW0 := Lib.hid hw0
  have HR1 := Lib.hid hr1
  have HW1 := Lib.hid hw1
  have HR2 := Lib.hid hr2
  have HW2 := Lib.hid hw2
  have HLV := Lib.hid lives33_any
  clear hr0 hw0 hr1 hw1 hr2 hw2
  go_enter Try.func5, Try.ntmps5
  go_wp2_with fail
  refine (new_ok 4 4 rfl 9 6 w (by decide) (by decide) (by decide) (by decide) (by decide) (by decide)).mono ?_
  rintro e q5 ⟨p, u, rfl, hp, hu, hM, b3⟩
  have HM3 := Lib.hid hM
  have HB3 := Lib.hid b3
  clear hM b3
  dsimp only
  go_wp2_with fail
  refine (rnew_ok 4 4 rfl 9 6 _ (by decide) (by decide) (by decide) (by decide) (by decide) (by decide)).mono ?_
  rintro e q6 ⟨rfl, hR, b6⟩
  have hM6 := HM3.out.step b6
  have b7 := stepB HB3.out b6
  have hrow6 := rowB HR0.out b7
  have hpl := HM3.out.box.lt
  have hul := HM3.out.row.lt
  have hpr : Pair q6 p u q5.heap.size (.slice none 0 0) (MS.new 4 9 6) 0 := ⟨hM6, hR, by omega, by omega, by simp [Value.ownBlock], by simp [Value.ownBlock]⟩
  have hql := hR.box.lt
  have hqs := HB3.out.size
  have HPR := Lib.hid hpr
  have HB7 := Lib.hid b7
  have HR6 := Lib.hid hrow6
  clear hR b6 hM6 b7 hrow6 hpr HR0 HM3 HB3
  dsimp only
  go_wp2_with fail
  refine (script_any a0 cap0 l0 15 15 rfl q6 HR6.out HW0.out (by decide)).mono ?_
  intro e q7 hps
  unfold ScriptPost at hps
  obtain ⟨v, ops, rfl, hol, hok, hop, b8⟩ := hps
  have hopl : ∃ a c, v = .slice a ops.length c := by
    obtain ⟨a, c, rfl, _⟩ := hop
    exact ⟨a, c, rfl⟩
  obtain ⟨av, cv, hv⟩ := hopl
  subst hv
  have hL : RunL w q7 p u q5.heap.size q6.heap.size q7.heap.size (.slice none 0 0) (MS.new 4 9 6) 0 (.slice av ops.length cv) ops :=
    ⟨HPR.out.step b8, hop, by simp [Value.ownBlock], stepB HB7.out b8, ⟨hp, by have := HPR.out.m.box.lt; omega⟩, ⟨hu, by have := HPR.out.m.row.lt; omega⟩, ⟨hqs, hql⟩, b8.size, Nat.le_refl _⟩
  have HL := Lib.hid hL
  have hol2 : (ops.length : Int) ≤ 15 := by omega
  clear hL HPR HB7 HR6 HW0 hok hop b8 hpl hul hql hqs hp hu
  dsimp only
  go_wp2_with fail
  go_loopw [11] (fun iv wr => ∃ (k : Nat) (x : Value) (s : MS), k ≤ ops.length ∧ iv = .int .i64 (k : Int) ∧ Hid (RunL w wr p u q5.heap.size q6.heap.size q7.heap.size x s k (.slice av ops.length cv) ops)) (fun i _ => ops.length - (intOf i).toNat)
  case atStart => exact ⟨0, _, _, Nat.zero_le _, rfl, HL⟩
  case round =>
    clear HL
    obtain ⟨k, x, s, hk, rfl, HL⟩ := hrel
    by_cases hlt : k < ops.length
    · obtain ⟨b, K, R, N, Wt, hav, -, c0, c1, c2, c3⟩ := ops_at HL.out.ops k hlt
      have HAV := Lib.hid hav
      clear hav
      obtain rfl : av = some ⟨b, 0, none⟩ := HAV.out
      have hi1 : (k : Int) < (ops.length : Int) := by omega
      have hi0 : (0 : Int) ≤ (k : Int) := by omega
      have hst := step_any p u q5.heap.size x s k K R N Wt wr HL.out.pr (by omega)
      have HST := Lib.hid hst
      clear hst
      go_wp2_with fail
      refine HST.out.mono ?_
      rintro e wa ⟨rfl, ha⟩
      obtain ⟨x', s', hL2⟩ := HL.out.next ha
      have HL2 := Lib.hid hL2
      clear hL2 ha HST HL c0 c1 c2 c3
      dsimp only
      go_wp2_with fail
      go_roundw
      case rel => exact ⟨k + 1, x', s', by omega, by go_num, HL2⟩
      case measure => simp [intOf]; omega
    · have hi1 : ¬ (k : Int) < (ops.length : Int) := by omega
      obtain ⟨wz, hwz⟩ : ∃ Y, Y = wr := ⟨_, rfl⟩
      subst hwz
      have hcp := copy_any p u s wz HL.out.pr.m
      have HCP := Lib.hid hcp
      clear hcp hol2
      go_wp2_with fail
      refine HCP.out.mono ?_
      rintro e x1 ⟨rfl, hm1, b1⟩
      have hL1 := HL.out.step b1
      have hrc := rcopy_any q5.heap.size x s k x1 hL1.pr.r (by omega)
      have HRC := Lib.hid hrc
      have HM1 := Lib.hid hm1
      have HL1 := Lib.hid hL1
      have B1 := Lib.hid b1
      clear hrc hm1 hL1 b1 HCP
      dsimp only
      go_wp2_with fail
      refine HRC.out.mono ?_
      rintro e x2 ⟨q2, y2, rfl, hq2, hy2, hr2, b2⟩
      have hwz1 := B1.out.size
      have hpl2 := HM1.out.box.lt
      have hul2 := HM1.out.row.lt
      have hpr2 : Pair x2 wz.heap.size (wz.heap.size + 1) q2 y2 s k := ⟨HM1.out.step b2, hr2, by omega, by omega, fun e => by have := hy2 _ e; omega, fun e => by have := hy2 _ e; omega⟩
      have hL2 := HL1.out.step b2
      have hbp := HL.out.bp
      have hbu := HL.out.bu
      have hbq := HL.out.bq
      have hlh := HL.out.lh
      have hhs := HL.out.hs
      have hown := HL.out.own
      have hpb2 : ∀ k, PB wz.heap.size (wz.heap.size + 1) q2 y2 k → wz.heap.size ≤ k := by
        rintro k ((e | e) | (e | e))
        · omega
        · omega
        · omega
        · have := hy2 k e; omega
      have hC : CopL w x2 x2.heap.size x2.heap.size (.slice none 0 0) [] (.slice none 0 0) [] p u q5.heap.size x s k wz.heap.size (wz.heap.size + 1) q2 y2 s k := by
        refine ⟨hL2.pr, hpr2, ?_, ?_, ?_, ⟨none, 0, rfl, .inl rfl⟩, ⟨none, 0, rfl, .inl rfl⟩, hL2.bel, Nat.le_refl _⟩
        · intro j hj hj2
          have h1 := HL.out.pr.lt j hj
          have h2 := hpb2 j hj2
          omega
        · intro j hj
          refine ⟨?_, by omega⟩
          rcases hj with (e | e) | (e | e)
          · omega
          · omega
          · omega
          · have := hown j e; omega
        · intro j hj
          have := hpb2 j hj
          have := HL.out.bel.size
          exact ⟨by omega, by omega⟩
      have HC := Lib.hid hC
      clear hC hpr2 hL2 hbp hbu hbq hlh hhs hown hpb2 hr2 b2 HRC HM1 HL1 B1 HL hwz1 hpl2 hul2 hq2 hy2
      generalize wz.heap.size + 1 = u2 at *
      generalize wz.heap.size = p2 at *
      dsimp only
      go_wp2_with fail
      have hus := used_any p u s x2 HC.out.pr.m
      have HUS := Lib.hid hus
      have hg1 := HC.out.pr.lt
      have hg2 := HC.out.pr2.lt
      have hws := HC.out.bel.size
      have hn5 := HC.out.pr.m.ok.n1
      have hub := HC.out.pr.m.ok.used
      have hsh := HC.out.pr.m.ok.sh1
      have HUB := Lib.hid hub
      clear hus hub
      refine HUS.out.mono ?_
      rintro e x3 ⟨rfl, hcel, b3⟩
      have HC3 := Lib.hid (HC.out.step b3)
      have HCEL := Lib.hid hcel
      have HG1 := Lib.hid hg1
      have HG2 := Lib.hid hg2
      clear hcel b3 HC HUS hg1 hg2
      obtain ⟨n, hn⟩ : ∃ n, s.us.length = n := ⟨_, rfl⟩
      have HN := Lib.hid hn
      rw [hn] at hn5 ⊢
      clear hn
      generalize x2.heap.size = g at *
      have hni : (n : Int) ≤ 500 := by omega
      dsimp only
      go_wp2_with fail
      go_loopw [15] (fun iv wr => ∃ (j : Nat) (zs : List Int), j ≤ n ∧ iv = .int .i64 (j : Int) ∧ Hid (zs.length = n) ∧ Hid (∀ i, j ≤ i → zs[i]?.getD 0 = s.us[i]?.getD 0) ∧ Hid (Cel wr g 3 (celI zs)) ∧ Hid (CopL w wr g g (.slice none 0 0) [] (.slice none 0 0) [] p u q5.heap.size x s k p2 u2 q2 y2 s k)) (fun i _ => n - (intOf i).toNat)
      case atStart => exact ⟨0, s.us, Nat.zero_le _, rfl, HN, Lib.hid (fun _ _ => rfl), HCEL, HC3⟩
      case round =>
        clear HCEL HC3
        obtain ⟨j, zs, hj, rfl, HZ, HE, HCEL, HC⟩ := hrel
        by_cases hltj : j < n
        · have cj := cel_at HCEL.out j (by rw [HZ.out]; exact hltj)
          have fj := HCEL.out.free j
          have hv := HUB.out j
          rw [HE.out j (Nat.le_refl _)] at cj
          have hj1 : (j : Int) < (n : Int) := by omega
          have hj0 : (0 : Int) ≤ (j : Int) := by omega
          have HC2 := Lib.hid (HC.out.store g j (.int .i64 (s.us[j]?.getD 0 + 5)) (fun k hk => Nat.ne_of_lt (HG1.out k hk)) (fun k hk => Nat.ne_of_lt (HG2.out k hk)) (by omega) hws)
          have HCEL2 := Lib.hid (cel_put HCEL.out j (s.us[j]?.getD 0 + 5))
          have HE2 : Hid (∀ i, j + 1 ≤ i → (zs.set j (s.us[j]?.getD 0 + 5))[i]?.getD 0 = s.us[i]?.getD 0) := Lib.hid (fun i hi => by rw [List.getElem?_set, if_neg (by omega)]; exact HE.out i (by omega))
          have HZ2 : Hid ((zs.set j (s.us[j]?.getD 0 + 5)).length = n) := Lib.hid (by rw [List.length_set]; exact HZ.out)
          generalize zs.set j (s.us[j]?.getD 0 + 5) = zs2 at *
          generalize s.us[j]?.getD 0 = V at *
          generalize s.sh = SH at *
          clear HE HZ HCEL HC
          go_wp2_with fail
          go_roundw
          case rel => exact ⟨j + 1, zs2, by omega, by go_num, HZ2, HE2, HCEL2, HC2⟩
          case measure => simp [intOf]; omega
        · have hj1 : ¬ (j : Int) < (n : Int) := by omega
          obtain ⟨wy, hwy⟩ : ∃ Y, Y = wr := ⟨_, rfl⟩
          subst hwy
          have hrow1 := rowB HR1.out HC.out.bel
          have HRW1 := Lib.hid hrow1
          clear hrow1 HE HZ HCEL HUB HG1 HG2
          go_wp2_with fail
          refine (script_any a1 cap1 l1 10 10 rfl wy HRW1.out HW1.out (by decide)).mono ?_
          intro e y5 hps
          unfold ScriptPost at hps
          obtain ⟨v1, xs, rfl, hxl, -, hxo, b5⟩ := hps
          obtain ⟨av1, cv1, hv1⟩ : ∃ a c, v1 = .slice a xs.length c := by
            obtain ⟨a, c, rfl, _⟩ := hxo
            exact ⟨a, c, rfl⟩
          subst hv1
          have HC5 := Lib.hid (HC.out.step b5)
          have HXO := Lib.hid hxo
          have B5 := Lib.hid b5
          have HRW2 := Lib.hid (rowB HR2.out HC5.out.bel)
          clear hxo b5 HRW1
          dsimp only
          go_wp2_with fail
          refine (script_any a2 cap2 l2 10 10 rfl y5 HRW2.out HW2.out (by decide)).mono ?_
          intro e y6 hps
          unfold ScriptPost at hps
          obtain ⟨v2, ys, rfl, hyl, -, hyo, b6⟩ := hps
          obtain ⟨av2, cv2, hv2⟩ : ∃ a c, v2 = .slice a ys.length c := by
            obtain ⟨a, c, rfl, _⟩ := hyo
            exact ⟨a, c, rfl⟩
          subst hv2
          have hC6 := HC5.out.step b6
          have hs5 := B5.out.size
          have hs6 := b6.size
          have hL : CopL w y6 wy.heap.size y6.heap.size (.slice av1 xs.length cv1) xs (.slice av2 ys.length cv2) ys p u q5.heap.size x s k p2 u2 q2 y2 s k :=
            ⟨hC6.pr, hC6.pr2, hC6.d, fun j hj => ⟨(hC6.o1 j hj).1, by have := HC.out.pr.lt j hj; omega⟩, fun j hj => ⟨(hC6.o2 j hj).1, by have := HC.out.pr2.lt j hj; omega⟩,
              (HXO.out.step b6).mono (fun b hb => ⟨hb.1, by omega⟩), hyo.mono (fun b hb => ⟨by omega, hb.2⟩), hC6.bel, Nat.le_refl _⟩
          have HL := Lib.hid hL
          have hkk : k ≤ 15 := by omega
          have hxl1 : (xs.length : Int) ≤ 10 := by omega
          have hyl1 : (ys.length : Int) ≤ 10 := by omega
          clear hL hC6 hyo b6 HC HC5 HXO B5 HRW2 hs5 hs6
          dsimp only
          go_wp2_with fail
          go_loopw [18] (fun iv wr => ∃ (j : Nat) (x y2 : Value) (s s2 : MS), (j ≤ xs.length ∨ j ≤ ys.length) ∧ iv = .int .i64 (j : Int) ∧ Hid (CopL w wr wy.heap.size y6.heap.size (.slice av1 xs.length cv1) xs (.slice av2 ys.length cv2) ys p u q5.heap.size x s (k + j) p2 u2 q2 y2 s2 (k + j))) (fun i _ => xs.length + ys.length + 1 - (intOf i).toNat)
          case atStart => exact ⟨0, _, _, _, _, .inl (Nat.zero_le _), rfl, HL⟩
          case round =>
            clear HL
            obtain ⟨j, x, y2, s, s2, hj, rfl, HL⟩ := hrel
            have hj0 : (0 : Int) ≤ (j : Int) := by omega
            have hkj : k + j ≤ 1000 := by omega
            by_cases hA : j < xs.length
            · obtain ⟨b, K, R, N, Wt, hav, -, c0, c1, c2, c3⟩ := ops_at HL.out.ops1 j hA
              have HAV := Lib.hid hav
              clear hav
              have hA1 : (j : Int) < (xs.length : Int) := by omega
              have hst := step_any p u q5.heap.size x s (k + j) K R N Wt wr HL.out.pr hkj
              have HST := Lib.hid hst
              clear hst
              have hav1 := HAV.out
              subst hav1
              by_cases hB : j < ys.length
              · have hB1 : (j : Int) < (ys.length : Int) := by omega
                go_wp2_with fail
                refine HST.out.mono ?_
                rintro e wa ⟨rfl, ha⟩
                obtain ⟨x', s', hL2⟩ := HL.out.next ha
                obtain ⟨b, K, R, N, Wt, hav, -, d0, d1, d2, d3⟩ := ops_at hL2.ops2 j hB
                have hst := step_any p2 u2 q2 y2 s2 (k + j) K R N Wt wa hL2.pr2 hkj
                have HST2 := Lib.hid hst
                have HL2 := Lib.hid hL2
                have hav2 := hav
                clear hst hL2 ha HST HL c0 c1 c2 c3 hav
                subst hav2
                dsimp only
                go_wp2_with fail
                refine HST2.out.mono ?_
                rintro e wb ⟨rfl, ha⟩
                obtain ⟨y', s2', hL3⟩ := HL2.out.swap.next ha
                have HL3 := Lib.hid hL3.swap
                clear hL3 ha HST2 HL2 d0 d1 d2 d3
                dsimp only
                go_wp2_with fail
                go_roundw
                case rel => exact ⟨j + 1, x', y', s', s2', .inl hA, by go_num, HL3⟩
                case measure => simp [intOf]; omega
              · have hB1 : decide ((j : Int) < (ys.length : Int)) = false := decide_eq_false (by omega)
                go_wp2_with fail
                refine HST.out.mono ?_
                rintro e wa ⟨rfl, ha⟩
                obtain ⟨x', s', hL2⟩ := HL.out.next ha
                have HL2 := Lib.hid (hL2.more (M := k + (j + 1)) (M2 := k + (j + 1)) (by omega) (by omega))
                clear hL2 ha HST HL c0 c1 c2 c3
                dsimp only
                go_wp2_with fail
                go_roundw
                case rel => exact ⟨j + 1, x', y2, s', s2, .inl hA, by go_num, HL2⟩
                case measure => simp [intOf]; omega
            · have hA1 : decide ((j : Int) < (xs.length : Int)) = false := decide_eq_false (by omega)
              by_cases hB : j < ys.length
              · have hB1 : (j : Int) < (ys.length : Int) := by omega
                obtain ⟨b, K, R, N, Wt, hav, -, d0, d1, d2, d3⟩ := ops_at HL.out.ops2 j hB
                have hst := step_any p2 u2 q2 y2 s2 (k + j) K R N Wt wr HL.out.pr2 hkj
                have HST2 := Lib.hid hst
                have hav2 := hav
                clear hst hav
                subst hav2
                go_wp2_with fail
                refine HST2.out.mono ?_
                rintro e wb ⟨rfl, ha⟩
                obtain ⟨y', s2', hL3⟩ := HL.out.swap.next ha
                have HL3 := Lib.hid (hL3.swap.more (M := k + (j + 1)) (M2 := k + (j + 1)) (by omega) (by omega))
                clear hL3 ha HST2 HL d0 d1 d2 d3
                dsimp only
                go_wp2_with fail
                go_roundw
                case rel => exact ⟨j + 1, x, y', s, s2', .inr hB, by go_num, HL3⟩
                case measure => simp [intOf]; omega
              · have hB1 : decide ((j : Int) < (ys.length : Int)) = false := decide_eq_false (by omega)
                have hus := used_any p u s wr HL.out.pr.m
                have hn51 := HL.out.pr.m.ok.n1
                have hn52 := HL.out.pr2.m.ok.n1
                have HUS := Lib.hid hus
                clear hus
                go_wp2_with fail
                refine HUS.out.mono ?_
                rintro e w3 ⟨rfl, hcel, b3⟩
                have HL3 := Lib.hid (HL.out.step b3)
                have hru := rused_any _ _ _ _ w3 HL3.out.pr.r hkj
                have HRU := Lib.hid hru
                have HRW := Lib.hid (row_celI hcel hn51)
                clear hru hcel b3 HUS HL
                dsimp only
                go_wp2_with fail
                refine HRU.out.mono ?_
                rintro e w4 ⟨a9, c9, rfl, hr3, b4⟩
                have hsm := same_us _ _ _ _ s.us w4 (rowB HRW.out b4) hr3
                have HSM := Lib.hid hsm
                have HL4 := Lib.hid (HL3.out.step b4)
                clear hsm hr3 b4 HL3 HRW HRU
                dsimp only
                go_wp2_with fail
                refine HSM.out.mono ?_
                rintro e w5 ⟨rfl, b5⟩
                have HL5 := Lib.hid (HL4.out.step b5)
                have hus := used_any p2 u2 s2 w5 HL5.out.pr2.m
                have HUS2 := Lib.hid hus
                clear hus b5 HL4 HSM
                dsimp only
                go_wp2_with fail
                refine HUS2.out.mono ?_
                rintro e w6 ⟨rfl, hcel, b6⟩
                have HL6 := Lib.hid (HL5.out.step b6)
                have hru := rused_any _ _ _ _ w6 HL6.out.pr2.r hkj
                have HRU := Lib.hid hru
                have HRW := Lib.hid (row_celI hcel hn52)
                clear hru hcel b6 HUS2 HL5
                dsimp only
                go_wp2_with fail
                refine HRU.out.mono ?_
                rintro e w7 ⟨a8, c8, rfl, hr3, b7⟩
                have hsm := same_us _ _ _ _ s2.us w7 (rowB HRW.out b7) hr3
                have HSM := Lib.hid hsm
                have HL7 := Lib.hid (HL6.out.step b7)
                clear hsm hr3 b7 HL6 HRW HRU
                dsimp only
                go_wp2_with fail
                refine HSM.out.mono ?_
                rintro e w8 ⟨rfl, b8⟩
                have HB8 := Lib.hid (HL7.out.step b8).bel
                clear b8 HL7 HSM
                dsimp only
                go_wp2_with fail
                refine (HLV.out _).mono ?_
                rintro e wh ⟨rfl, bh⟩
                have hb2 := stepB HB8.out bh
                dsimp only
                go_wp2_with fail
                go_ret
                exact ⟨rfl, hb2⟩
end Go.Proofs.Ytcohajmappdckaa
