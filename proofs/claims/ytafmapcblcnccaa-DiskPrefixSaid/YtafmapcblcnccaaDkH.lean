/- Package disk: Truncate. -/
import Derived.Test.YtafmapcblcnccaaDkG
namespace Go.Proofs.Ytafmapcblcnccaa
open Go.RowKit Go.Shelf
set_option linter.unusedVariables false

def DS.tr (s : DS) (n k : Int) : Int × DS :=
  if ¬ (0 ≤ n ∧ n < 64) ∨ k < 0 ∨ ((bytesAt s.f n).length : Int) < k then (1, s) else if s.off = true then (19, s) else if s.stepOk = false then (19, s.step) else (0, s.step.cut n k.toNat)
theorem isFile_no (n : Int) (hn : ¬ (0 ≤ n ∧ n < 64)) : (decide (0 ≤ n) && decide (n < 64)) = false := by
  rw [Bool.and_eq_false_iff]
  by_cases h0 : 0 ≤ n
  · right; simp; omega
  · left; simp; omega
set_option maxRecDepth 100000 in
set_option maxHeartbeats 4000000 in
theorem truncD_any {n0 p m : Nat} {s : DS} {v : Value} (w : World) (h : Dk w n0 p m s v) (n k : Int) :
    Calls Try.prog 23 #[.pointer (some ⟨p, 0, none⟩), .int .i64 n, .int .i64 k] w fun e w' => e = .returned (.int .i64 (s.tr n k).1) ∧ DkAfter w w' n0 p m (s.tr n k).2 v := by
  have HIS := isFile_any n w
  by_cases hn : 0 ≤ n ∧ n < 64
  · rw [decide_eq_true hn.1, decide_eq_true hn.2] at HIS
    have HI := Lib.hid HIS
    clear HIS
    by_cases hk0 : k < 0
    · have e1 : s.tr n k = (1, s) := by unfold DS.tr; rw [if_pos (.inr (.inl hk0))]
      rw [e1]
      have HD := Lib.hid (DkAfter.same h)
      clear h e1 hn
      go_enter Try.func23, Try.ntmps23
      go_wp2_with fail
      refine HI.out.mono ?_
      rintro e w1 ⟨rfl, hw1'⟩
      subst hw1'
      dsimp only [Bool.and_self]
      go_wp2_with fail
      go_ret
      exact ⟨rfl, HD.out⟩
    · obtain ⟨a, c, d, hl, hr⟩ := look_at h n
      have hlk := h.map.look (P := Try.prog) (t := 72) (k := 3) Try.underlying72 Try.underlying3 _ (zeroF w) n false
      simp only [Bool.false_eq_true, if_false] at hlk
      rw [hl] at hlk
      have hfd : (Instr.field 79 (.agg #[.slice a (bytesAt s.f n).length c, .int .i64 d]) 0).run Try.prog w = .ok (.slice a (bytesAt s.f n).length c) w := by kernel_rfl
      have c1 := h.box.cell 1
      have c2 := h.box.cell 2
      by_cases hL : ((bytesAt s.f n).length : Int) < k
      · have e1 : s.tr n k = (1, s) := by unfold DS.tr; rw [if_pos (.inr (.inr hL))]
        rw [e1]
        have HD := Lib.hid (DkAfter.same h)
        clear h e1 hn hl hr c2
        generalize (bytesAt s.f n).length = L at *
        go_enter Try.func23, Try.ntmps23
        go_wp2_with fail
        refine HI.out.mono ?_
        rintro e w1 ⟨rfl, hw1'⟩
        subst hw1'
        dsimp only [Bool.and_self]
        go_wp2_with fail
        go_ret
        exact ⟨rfl, HD.out⟩
      · have hneg : ¬ (¬ (0 ≤ n ∧ n < 64) ∨ k < 0 ∨ ((bytesAt s.f n).length : Int) < k) := by
          rintro (h1 | h1 | h1)
          · exact h1 hn
          · exact hk0 h1
          · exact hL h1
        by_cases hoff : s.off = true
        · have e1 : s.tr n k = (19, s) := by unfold DS.tr; rw [if_neg hneg, if_pos hoff]
          rw [e1]
          rw [hoff] at c2
          have HD := Lib.hid (DkAfter.same h)
          clear h e1 hn hl hr hneg hoff
          generalize (bytesAt s.f n).length = L at *
          go_enter Try.func23, Try.ntmps23
          go_wp2_with fail
          refine HI.out.mono ?_
          rintro e w1 ⟨rfl, hw1'⟩
          subst hw1'
          dsimp only [Bool.and_self]
          go_wp2_with fail
          go_ret
          exact ⟨rfl, HD.out⟩
        · have hoff' : s.off = false := by simpa using hoff
          rw [hoff'] at c2
          have HST := Lib.hid (stepD_any w h)
          have hLb := h.lenf
          by_cases hst : s.stepOk = false
          · have e1 : s.tr n k = (19, s.step) := by unfold DS.tr; rw [if_neg hneg, if_neg hoff, if_pos hst]
            rw [e1]
            have HS := Lib.hid hst
            clear h e1 hn hl hr hneg hoff hoff' hst hLb
            generalize (bytesAt s.f n).length = L at *
            go_enter Try.func23, Try.ntmps23
            go_wp2_with fail
            refine HI.out.mono ?_
            rintro e w1 ⟨rfl, hw1'⟩
            subst hw1'
            dsimp only [Bool.and_self]
            go_wp2_with fail
            refine HST.out.mono ?_
            rintro e w2 ⟨rfl, h2, o2⟩
            rw [HS.out]
            dsimp only
            go_wp2_with fail
            go_ret
            exact ⟨rfl, v, h2, o2.mono (fun i e => .inl e), .inl rfl⟩
          · have hst' : s.stepOk = true := by simpa using hst
            have e1 : s.tr n k = (0, s.step.cut n k.toNat) := by unfold DS.tr; rw [if_neg hneg, if_neg hoff, if_neg hst]
            rw [e1]
            have HS := Lib.hid hst'
            obtain ⟨K, rfl⟩ := Int.eq_ofNat_of_zero_le (show 0 ≤ k by omega)
            rw [Int.toNat_natCast]
            have hKL : K ≤ (bytesAt s.step.f n).length := by rw [step_f]; omega
            have HK := Lib.hid hKL
            clear h e1 hn hl hr hneg hoff hoff' hst hst' hLb hKL
            generalize hLL : (bytesAt s.f n).length = L at *
            clear hLL
            go_enter Try.func23, Try.ntmps23
            go_wp2_with fail
            refine HI.out.mono ?_
            rintro e w1 ⟨rfl, hw1'⟩
            subst hw1'
            dsimp only [Bool.and_self]
            go_wp2_with fail
            refine HST.out.mono ?_
            rintro e w2 ⟨rfl, h2, o2⟩
            rw [HS.out]
            dsimp only
            go_wp2_with fail
            refine (cutD_any w2 h2 n K HK.out).mono ?_
            rintro e w3 ⟨rfl, v', h3, o3, hb⟩
            dsimp only
            go_wp2_with fail
            go_ret
            refine ⟨rfl, v', h3, (o2.mono (fun i e => .inl e)).trans o3, ?_⟩
            rcases hb with hb | hb | ⟨j, hb, hj⟩
            · exact .inl hb
            · exact .inr (.inl hb)
            · exact .inr (.inr ⟨j, hb, by have := o2.size; omega⟩)
  · have e1 : s.tr n k = (1, s) := by unfold DS.tr; rw [if_pos (.inl hn)]
    rw [e1]
    rw [isFile_no n hn] at HIS
    have HI := Lib.hid HIS
    have HD := Lib.hid (DkAfter.same h)
    clear HIS e1 h hn
    go_enter Try.func23, Try.ntmps23
    go_wp2_with fail
    refine HI.out.mono ?_
    rintro e w1 ⟨rfl, hw1'⟩
    subst hw1'
    dsimp only
    go_wp2_with fail
    go_ret
    exact ⟨rfl, HD.out⟩
end Go.Proofs.Ytafmapcblcnccaa
