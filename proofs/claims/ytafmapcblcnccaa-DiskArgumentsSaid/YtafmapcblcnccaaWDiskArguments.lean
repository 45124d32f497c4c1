/- DiskArguments: the walk. -/
import Derived.Test.YtafmapcblcnccaaDkS
import Derived.Test.YtafmapcblcnccaaRefA
namespace Go.Proofs.Ytafmapcblcnccaa
open Go.RowKit Go.Shelf
set_option linter.unusedVariables false

theorem new_bytes (n : Int) (b : List Int) : bytesAt (newF none n b) n = b := by
  unfold newF
  dsimp only
  split
  · next h => rw [List.eq_nil_of_length_eq_zero h]; rfl
  · simp [bytesAt]
theorem new_len (n : Int) (b : List Int) : lenD (newF none n b) = b.length := by
  unfold newF
  dsimp only
  split
  · next h => rw [h]; rfl
  · rfl
theorem cut_bytes (f : Option (Int × List Int × Nat)) (n : Int) (k : Nat) : bytesAt (cutF f n k) n = (bytesAt f n).take k := by
  cases f with
  | none => simp [cutF, bytesAt]
  | some x =>
    obtain ⟨n', bs, d⟩ := x
    by_cases hn : n = n'
    · by_cases hk : k = 0
      · simp [cutF, bytesAt, hn, hk]
      · simp [cutF, bytesAt, hn, hk]
    · simp [cutF, bytesAt, hn]
theorem row_takeD {k : IntKind} {n₀ : Nat} {W : World} {a : Option Addr} {n cap : Nat} {zs : List Int} (h : Row k n₀ W (.slice a n cap) zs) (j : Nat) (hj : j ≤ zs.length) : Row k n₀ W (.slice a j cap) (zs.take j) := by
  rcases h with ⟨a', cap', e, h1, h2, rfl⟩ | ⟨b, off, cap', e, h1, h2, hb, hc⟩
  · simp at hj
    subst hj
    injection e with e1 _ e3
    subst e1 e3
    exact .inl ⟨_, _, rfl, h1, h2, rfl⟩
  · injection e with e1 _ e3
    subst e1 e3
    have hl : (zs.take j).length = j := by rw [List.length_take]; omega
    by_cases h0 : j = 0
    · subst h0
      exact .inl ⟨_, _, rfl, h2, (fun h => by cases h), rfl⟩
    · refine .inr ⟨b, off, cap, by rw [hl], by omega, h2, hb, fun i hi => ?_⟩
      rw [hl] at hi
      rw [hc i (by omega), List.getElem?_take, if_pos hi]
def DS.app1 (room n : Int) (b : List Int) : DS := ⟨room, -1, false, newF none n b⟩
theorem app_new (room n : Int) (b : List Int) : (newDS room).app n b = if ¬ (0 ≤ n ∧ n < 64) then (1, newDS room) else if room < (b.length : Int) then (18, newDS room) else (0, DS.app1 room n b) := by
  unfold DS.app
  have e : (lenD (newDS room).f : Int) + b.length = b.length := by
    show ((0 : Nat) : Int) + _ = _
    omega
  have e2 : (newDS room).room = room := rfl
  have e3 : ¬ (newDS room).off = true := by unfold newDS; simp
  rw [e, e2]
  simp only [if_neg e3]
  rfl
theorem tr_new (room n k : Int) (b : List Int) (h0 : 0 ≤ n) (h1 : n < 64) : (DS.app1 room n b).tr n k = if k < 0 ∨ (b.length : Int) < k then (1, DS.app1 room n b) else (0, (DS.app1 room n b).cut n k.toNat) := by
  unfold DS.tr
  have e : bytesAt (DS.app1 room n b).f n = b := new_bytes n b
  have e1 : ¬ (DS.app1 room n b).off = true := by unfold DS.app1; simp
  have e2 : ¬ (DS.app1 room n b).stepOk = false := by unfold DS.app1 DS.stepOk; simp
  have e3 : (DS.app1 room n b).step = DS.app1 room n b := rfl
  rw [e, if_neg e1, if_neg e2, e3]
  by_cases h : k < 0 ∨ (b.length : Int) < k
  · rw [if_pos h, if_pos (.inr h)]
  · rw [if_neg h, if_neg (by rintro (h5 | h5); exact h5 ⟨h0, h1⟩; exact h h5)]
theorem mem_rng {zs : List Int} (h : ∀ i : Nat, 0 ≤ zs[i]?.getD 0 ∧ zs[i]?.getD 0 < 256) : ∀ x ∈ zs, 0 ≤ x ∧ x < 256 := by
  intro x hx
  obtain ⟨i, hi⟩ := List.getElem?_of_mem hx
  have := h i
  rw [hi] at this
  exact this
set_option maxRecDepth 100000 in
set_option maxHeartbeats 8000000 in
theorem diskArguments_walk (a0 : Int) (a1 : Int) (a2 : Int) (a3 : Option Addr) (len3 cap3 : Nat) (z3 : List Int) (w : World) (w0 : (Lit.int .i64 a0).wf = true) (w1 : (Lit.int .i64 a1).wf = true) (w2 : (Lit.int .i64 a2).wf = true) (w3 : IsRow .u8 w a3 len3 cap3 z3) :
    Calls Try.prog 4 #[.int .i64 a0, .int .i64 a1, .int .i64 a2, .slice a3 len3 cap3] w fun e w' => e = .returned (.bool true) ∧ Below w.heap.size w w' := by
  have HLV := Lib.hid lives30_any
  obtain ⟨hr, hw⟩ := w3.row
  have hz := take_rng (u8_rng hw) (60 : Int).toNat
  have hzl : ((z3.take len3).take (60 : Int).toNat).length ≤ 60 := by rw [List.length_take]; exact Nat.min_le_left _ _
  by_cases hbad : a0 < 0 ∨ 16777216 < a0
  · have HN := Lib.hid (newD_bad a0 hbad w)
    clear hr hw hz hzl w0 w1 w2 w3
    go_enter Try.func4, Try.ntmps4
    go_wp2_with fail
    refine HN.out.mono ?_
    rintro e q1 ⟨rfl, hq1⟩
    subst hq1
    dsimp only
    obtain ⟨h9, h8⟩ | ⟨h9, h8⟩ : (a0 < 0 ∧ True) ∨ (¬ a0 < 0 ∧ 16777216 < a0) := by
      by_cases h7 : a0 < 0
      · exact .inl ⟨h7, trivial⟩
      · exact .inr ⟨h7, by omega⟩
    all_goals
      clear hbad
      go_wp2_with fail
      refine (HLV.out _).mono ?_
      rintro e q2 ⟨rfl, b2⟩
      dsimp only
      go_wp2_with fail
      go_ret
      exact ⟨rfl, b2⟩
  · have h0 : 0 ≤ a0 := by omega
    have h1 : a0 ≤ 16777216 := by omega
    have n0 : ¬ a0 < 0 := by omega
    have n1 : ¬ 16777216 < a0 := by omega
    have HN := Lib.hid (newD_ok a0 h0 h1 w)
    have HR := Lib.hid hr
    obtain ⟨own, hown⟩ : ∃ own, own = (z3.take len3).take (60 : Int).toNat := ⟨_, rfl⟩
    rw [← hown] at hz hzl
    obtain ⟨err, s1, hE1⟩ : ∃ err s1, (newDS a0).app a1 own = (err, s1) := ⟨_, _, rfl⟩
    obtain ⟨zs, rerr, hE2⟩ : ∃ zs rerr, s1.rd a1 = (zs, rerr) := ⟨_, _, rfl⟩
    obtain ⟨Lz, hLz⟩ : ∃ L, zs.length = L := ⟨_, rfl⟩
    have HE1 := Lib.hid hE1
    have HE2 := Lib.hid hE2
    have HLZ := Lib.hid hLz
    have HOW := Lib.hid hown
    have HZ := Lib.hid (mem_rng hz)
    obtain ⟨L, hL⟩ : ∃ L, own.length = L := ⟨_, rfl⟩
    have HL := Lib.hid hL
    have hL60 : L ≤ 60 := by omega
    clear hbad hr hw hz hzl w0 w1 w2 w3 hE1 hE2 hLz hown hL h0 h1
    go_enter Try.func4, Try.ntmps4
    go_wp2_with fail
    refine HN.out.mono ?_
    rintro e q1 ⟨rfl, hD1, b1⟩
    dsimp only
    have HD1 := Lib.hid hD1
    have HB1 := Lib.hid b1
    have HR1 := Lib.hid (rowB HR.out b1)
    clear hD1 b1 HN HR
    generalize w.heap.size + 1 = p at *
    go_wp2_with fail
    refine (few_int _ _ 60 _ HR1.out (by decide) (by decide)).mono ?_
    rintro e q2 ⟨ao, co, rfl, ho2, -, b2⟩
    rw [← HOW.out, HL.out] at ho2
    rw [← HOW.out, HL.out]
    dsimp only
    have HD2 := Lib.hid (HD1.out.step b2)
    have HB2 := Lib.hid (stepB HB1.out b2)
    have HO2 := Lib.hid ho2
    have hs2 := HD1.out.box.lt
    have hlm := HD1.out.map.lt
    have hlt := Lib.hid (fun k (hk : DkB p w.heap.size (.slice none 0 0) k) => (HD1.out.blk hk).2)
    clear b2 ho2 HR1 HD1 HB1
    go_wp2_with fail
    refine (append_is (s' := s1) _ HD2.out a1 ao L co own HL.out.symm (row_of_owns HO2.out).1 (by rw [HL.out]; omega) HZ.out (fun _ _ _ h => by cases h) err HE1.out).mono ?_
    rintro e q3 ⟨rfl, v3, hD3, o3, hv3⟩
    dsimp only
    have hob := Lib.hid (fun b (hb : (Value.slice ao L co).ownBlock = some b) => (⟨own_base HO2.out hb, owns_lt' HO2.out hb⟩ : q1.heap.size ≤ b ∧ b < q2.heap.size))
    have hvb : Hid (∀ b, v3.ownBlock = some b → q2.heap.size ≤ b) := Lib.hid (fun b hb => by
      rcases hv3 with q | q | ⟨k, q, q'⟩
      · rw [q] at hb; cases hb
      · rw [q] at hb; cases hb
      · rw [q] at hb; injection hb with hb; omega)
    clear hv3
    have hlc := Lib.hid (row_of_owns HO2.out).1.lencap
    have HO3 := Lib.hid (owns_only HO2.out o3 (fun k h1 _ h3 => by have := hlt.out k h3; omega))
    have HB3 := Lib.hid (HB2.out.trans (HD2.out.below o3 (Nat.le_refl _)))
    have HD3 := Lib.hid hD3
    clear hD3 o3 HD2 HB2 HO2 hlt
    have hlen3 : lenD s1.f ≤ 10000000 := by
      have e := HE1.out
      rw [app_new] at e
      split at e
      · cases e; exact Nat.zero_le _
      · split at e
        · cases e; exact Nat.zero_le _
        · cases e
          show lenD (newF none a1 own) ≤ _
          rw [new_len, HL.out]; omega
    go_wp2_with fail
    refine (read_is _ HD3.out a1 hlen3 zs rerr Lz HLZ.out HE2.out).mono ?_
    rintro e q4 ⟨ax, cx, rfl, hx4, b4⟩
    dsimp only
    have HO4 := Lib.hid (owns_kept_below HO3.out b4)
    have HB4 := Lib.hid (stepB HB3.out b4)
    have HD4 := Lib.hid (HD3.out.step b4)
    have HX4 := Lib.hid hx4
    clear hx4 b4 HO3 HB3 HD3 hlen3
    by_cases hf : 0 ≤ a1 ∧ a1 < 64
    · obtain ⟨f0, f1⟩ := hf
      have f2 : ¬ a1 < 0 := by omega
      have f3 : ¬ 63 < a1 := by omega
      have hE := HE1.out
      rw [app_new, if_neg (fun h => h ⟨f0, f1⟩), HL.out] at hE
      by_cases hr : a0 < (L : Int)
      · rw [if_pos hr] at hE
        obtain ⟨rfl, rfl⟩ : err = 18 ∧ s1 = newDS a0 := by cases hE; exact ⟨rfl, rfl⟩
        obtain ⟨rfl, rfl⟩ : zs = [] ∧ rerr = 0 := by
          have e := HE2.out
          unfold DS.rd at e
          rw [if_neg (fun h => h ⟨f0, f1⟩), if_neg (by unfold newDS; simp)] at e
          cases e
          exact ⟨rfl, rfl⟩
        obtain rfl : Lz = 0 := HLZ.out.symm
        clear hE
        go_wp2_with fail
        refine (used_any _ HD4.out).mono ?_
        rw [show ((lenD (newDS a0).f : Nat) : Int) = 0 from rfl]
        rintro e q6 ⟨rfl, b6⟩
        dsimp only
        have HB6 := Lib.hid (stepB HB4.out b6)
        clear b6 HB4 HD4 HX4 HO4
        go_wp2_with fail
        refine (HLV.out _).mono ?_
        rintro e q7 ⟨rfl, b7⟩
        dsimp only
        go_wp2_with fail
        go_ret
        exact ⟨rfl, stepB HB6.out b7⟩
      · rw [if_neg hr] at hE
        obtain ⟨rfl, rfl⟩ : err = 0 ∧ s1 = DS.app1 a0 a1 own := by cases hE; exact ⟨rfl, rfl⟩
        obtain ⟨rfl, rfl⟩ : own = zs ∧ rerr = 0 := by
          have e := HE2.out
          unfold DS.rd at e
          rw [if_neg (fun h => h ⟨f0, f1⟩), if_neg (by unfold DS.app1; simp)] at e
          rw [show bytesAt (DS.app1 a0 a1 own).f a1 = own from new_bytes _ _] at e
          cases e
          exact ⟨rfl, rfl⟩
        obtain rfl : L = Lz := by rw [← HLZ.out, ← HL.out]
        clear hE
        have hsm := sameBytes_any ax L cx own ao L co own _ HX4.out (row_of_owns HO4.out).1
        rw [beq_self_eq_true] at hsm
        have HSM := Lib.hid hsm
        have HTR := Lib.hid (tr_new a0 a1 a2 own f0 f1)
        have HUS := Lib.hid (new_len a1 own)
        clear hsm
        go_wp2_with fail
        refine HSM.out.mono ?_
        rintro e q5 ⟨rfl, b5⟩
        dsimp only
        have HD5 := Lib.hid (HD4.out.step b5)
        have HB5 := Lib.hid (stepB HB4.out b5)
        have HO5 := Lib.hid (owns_kept_below HO4.out b5)
        clear HSM b5 HB4 HD4 HX4 HO4
        go_wp2_with fail
        by_cases hb : a2 < 0 ∨ (own.length : Int) < a2
        · have HTR' := HTR.out
          rw [if_pos hb] at HTR'
          have HTR2 := Lib.hid HTR'
          rw [HL.out] at hb
          refine (truncD_any _ HD5.out a1 a2).mono ?_
          rw [HTR']
          rintro e q6 ⟨rfl, v6, hD6, o6, -⟩
          dsimp only
          have HD6 := Lib.hid hD6
          have HB6 := Lib.hid (HB5.out.trans (HD5.out.below o6 (Nat.le_refl _)))
          clear hD6 o6 HD5 HB5 HO5 HTR'
          obtain ⟨h9, h8⟩ | ⟨h9, h8⟩ : (a2 < 0 ∧ True) ∨ (¬ a2 < 0 ∧ (L : Int) < a2) := by
            by_cases h7 : a2 < 0
            · exact .inl ⟨h7, trivial⟩
            · exact .inr ⟨h7, by omega⟩
          all_goals
            clear hb
            go_wp2_with fail
            refine (used_any _ HD6.out).mono ?_
            rw [show lenD (DS.app1 a0 a1 own).f = L from HUS.out.trans HL.out]
            rintro e q7 ⟨rfl, b7⟩
            dsimp only
            have HB7 := Lib.hid (stepB HB6.out b7)
            clear b7 HB6 HD6
            go_wp2_with fail
            refine (HLV.out _).mono ?_
            rintro e q8 ⟨rfl, b8⟩
            dsimp only
            go_wp2_with fail
            go_ret
            exact ⟨rfl, stepB HB7.out b8⟩
        · have HTR' := HTR.out
          rw [if_neg hb] at HTR'
          rw [HL.out] at hb
          have k0 : 0 ≤ a2 := by omega
          have k1 : a2 ≤ (L : Int) := by omega
          have k2 : ¬ a2 < 0 := by omega
          have k3 : ¬ (L : Int) < a2 := by omega
          have k4 : a2 ≤ (co : Int) := by have := hlc.out; omega
          refine (truncD_any _ HD5.out a1 a2).mono ?_
          rw [HTR']
          rintro e q6 ⟨rfl, v6, hD6, o6, -⟩
          dsimp only
          have HD6 := Lib.hid hD6
          have HB6 := Lib.hid (HB5.out.trans (HD5.out.below o6 (Nat.le_refl _)))
          have HO6 := Lib.hid (owns_same HO5.out (fun b hb => o6.block b (owns_lt' HO5.out hb) (fun h3 => by
            have g1 := hob.out b hb
            rcases h3 with h3 | h3 | h3
            · omega
            · omega
            · have := hvb.out b h3; omega)))
          clear hD6 o6 HD5 HB5 HO5 HTR' hb
          go_wp2_with fail
          obtain ⟨ys, hys⟩ : ∃ ys, own.take a2.toNat = ys := ⟨_, rfl⟩
          have hyl : ys.length = a2.toNat := by rw [← hys, List.length_take, HL.out]; omega
          have hby : bytesAt ((DS.app1 a0 a1 own).cut a1 a2.toNat).f a1 = ys := by
            show bytesAt (cutF (newF none a1 own) a1 a2.toNat) a1 = ys
            rw [cut_bytes, new_bytes, hys]
          refine (readD_own _ HD6.out a1 f0 f1 rfl ys hby a2.toNat hyl (by omega)).mono ?_
          rintro e q7 ⟨ay, cy, rfl, hy7, b7⟩
          dsimp only
          have HB7 := Lib.hid (stepB HB6.out b7)
          have hro := row_takeD (row_of_owns (owns_kept_below HO6.out b7)).1 a2.toNat (by rw [HL.out]; omega)
          rw [hys] at hro
          have hsm := sameBytes_any ay a2.toNat cy ys ao a2.toNat co ys _ (row_of_owns hy7).1 hro
          rw [beq_self_eq_true] at hsm
          have HSM := Lib.hid hsm
          clear hsm hro b7 hy7 HB6 HO6 HD6 hys hyl hby
          go_wp2_with fail
          refine HSM.out.mono ?_
          rintro e q8 ⟨rfl, b8⟩
          dsimp only
          have HB8 := Lib.hid (stepB HB7.out b8)
          clear b8 HB7 HSM
          go_wp2_with fail
          refine (HLV.out _).mono ?_
          rintro e q9 ⟨rfl, b9⟩
          dsimp only
          go_wp2_with fail
          go_ret
          exact ⟨rfl, stepB HB8.out b9⟩
    · obtain ⟨rfl, rfl⟩ : err = 1 ∧ s1 = newDS a0 := by
        have e := HE1.out
        rw [app_new, if_pos hf] at e
        cases e
        exact ⟨rfl, rfl⟩
      obtain ⟨rfl, rfl⟩ : zs = [] ∧ rerr = 1 := by
        have e := HE2.out
        unfold DS.rd at e
        rw [if_pos hf] at e
        cases e
        exact ⟨rfl, rfl⟩
      obtain rfl : Lz = 0 := HLZ.out.symm
      have htr : (newDS a0).tr a1 0 = (1, newDS a0) := by unfold DS.tr; rw [if_pos (.inl hf)]
      have HTR := Lib.hid htr
      clear htr
      obtain ⟨h9, h8⟩ | ⟨h9, h8⟩ : (a1 < 0 ∧ True) ∨ (¬ a1 < 0 ∧ 63 < a1) := by
        by_cases h7 : a1 < 0
        · exact .inl ⟨h7, trivial⟩
        · exact .inr ⟨h7, by omega⟩
      all_goals
        clear hf
        go_wp2_with fail
        refine (truncD_any _ HD4.out a1 0).mono ?_
        rw [HTR.out]
        rintro e q5 ⟨rfl, v5, hD5, o5, -⟩
        dsimp only
        have HB5 := Lib.hid (HB4.out.trans (HD4.out.below o5 (Nat.le_refl _)))
        have HD5 := Lib.hid hD5
        clear hD5 o5 HB4 HX4 HO4
        go_wp2_with fail
        refine (used_any _ HD5.out).mono ?_
        rw [show ((lenD (newDS a0).f : Nat) : Int) = 0 from rfl]
        rintro e q6 ⟨rfl, b6⟩
        dsimp only
        have HB6 := Lib.hid (stepB HB5.out b6)
        clear b6 HB5 HD5 HD4
        go_wp2_with fail
        refine (HLV.out _).mono ?_
        rintro e q7 ⟨rfl, b7⟩
        dsimp only
        go_wp2_with fail
        go_ret
        exact ⟨rfl, stepB HB6.out b7⟩
end Go.Proofs.Ytafmapcblcnccaa
