/- Contracts for package edits: the reference's Diff. -/
import Derived.Test.YtmfekbljfnjkgaaEdH
import Derived.Test.YtmfekbljfnjkgaaTxtJ
namespace Go.Proofs.Ytmfekbljfnjkgaa
open Go.RowKit Go.Shelf
set_option linter.unusedVariables false

set_option maxRecDepth 100000 in
set_option maxHeartbeats 4000000 in
theorem refDiff_any (a : Option Addr) (ca : Nat) (l : List Int) (b : Option Addr) (cb : Nat) (m : List Int) (w : World) (hra : Row .i64 w.heap.size w (.slice a l.length ca) l) (hrb : Row .i64 w.heap.size w (.slice b m.length cb) m) (hla : l.length ≤ 100000) (hlb : m.length ≤ 100000) :
    Calls Try.prog 26 #[.slice a l.length ca, .slice b m.length cb] w fun e w' => ∃ (p s D : Nat) (a2 : Option Addr) (c2 : Nat), IsPre l m p ∧ IsSuf l m p s ∧ D = l.length - s - p ∧ e = .returned (.agg #[.int .i64 (p : Int), .int .i64 (D : Int), .slice a2 ((m.drop p).take (m.length - s - p)).length c2]) ∧ Row .i64 w'.heap.size w' (.slice a2 ((m.drop p).take (m.length - s - p)).length c2) ((m.drop p).take (m.length - s - p)) ∧ Below w.heap.size w w' := by
  obtain ⟨mn, hm1, hm2, hm3, hmi⟩ : ∃ mn : Nat, mn ≤ l.length ∧ mn ≤ m.length ∧ (mn = l.length ∨ mn = m.length) ∧ min (l.length : Int) (m.length : Int) = (mn : Int) := ⟨min l.length m.length, by omega, by omega, by omega, by omega⟩
  have hla2 : (l.length : Int) ≤ 100000 := by omega
  have hlb2 : (m.length : Int) ≤ 100000 := by omega
  have HM3 := Lib.hid hm3
  have hca := hra.lencap
  have hcb := hrb.lencap
  unfold maxLen at hca hcb
  clear hm3 hla hlb
  have b0 := laidB (Below.refl w.heap.size w) (.cells #[.int .i64 0, .int .i64 0, .slice none 0 0] 25)
  have C0 := Cel.new w 25 #[.int .i64 0, .int .i64 0, .slice none 0 0]
  have hra0 := rowB hra b0
  have hrb0 := rowB hrb b0
  go_enter Try.func26, Try.ntmps26
  go_wp2_with fail
  generalize w.alloc (.cells #[.int .i64 0, .int .i64 0, .slice none 0 0] 25) = W1 at *
  go_loopw [5] (fun i wr => ∃ k : Nat, k ≤ mn ∧ i = .int .i64 (k : Int) ∧ (∀ j, j < k → l[j]?.getD 0 = m[j]?.getD 0) ∧ Below W1.heap.size W1 wr) (fun i _ => mn - (intOf i).toNat)
  case atStart => exact ⟨0, Nat.zero_le _, rfl, fun j h => absurd h (Nat.not_lt_zero j), Below.refl _ _⟩
  case round =>
    obtain ⟨k, hk, rfl, hsame, hb⟩ := hrel
    have hkI : (0 : Int) ≤ (k : Int) := by omega
    by_cases hgo : k < mn ∧ l[k]?.getD 0 = m[k]?.getD 0
    · obtain ⟨hlt, he⟩ := hgo
      obtain ⟨x, ox, rfl, cx⟩ := row_cell (rowB hra0 hb) k (by omega)
      obtain ⟨y, oy, rfl, cy⟩ := row_cell (rowB hrb0 hb) k (by omega)
      have hk1 : (k : Int) < l.length := by omega
      have hk2 : (k : Int) < m.length := by omega
      have hw1 : IntKind.i64.wrap ((k : Int) + 1) = (k : Int) + 1 := IntWalk.i64_in _ (by omega)
      have hs2 : ∀ j, j < k + 1 → l[j]?.getD 0 = m[j]?.getD 0 := by
        intro j hj
        by_cases h : j = k
        · subst h; exact he
        · exact hsame j (by omega)
      have HS := Lib.hid hs2
      rw [← he] at cy
      clear hs2 he hsame
      generalize l[k]?.getD 0 = u at *
      go_wp2_with fail
      go_quiet (fail)
      go_wp2_with fail
      go_roundw
      case rel => exact ⟨k + 1, by omega, by go_num, HS.out, below_drewN hb _⟩
      case measure => simp [intOf]; omega
    · have hpre : IsPre l m k := by
        refine ⟨by omega, by omega, hsame, fun h1 h2 h3 => hgo ⟨?_, h3⟩⟩
        have := HM3.out
        omega
      clear hsame
      by_cases hlt : k < mn
      all_goals first
        | (have he : l[k]?.getD 0 ≠ m[k]?.getD 0 := fun h => hgo ⟨hlt, h⟩
           obtain ⟨x, ox, rfl, cx⟩ := row_cell (rowB hra0 hb) k (by omega)
           obtain ⟨y, oy, rfl, cy⟩ := row_cell (rowB hrb0 hb) k (by omega)
           have hk1 : (k : Int) < l.length := by omega
           have hk2 : (k : Int) < m.length := by omega
           clear hgo
           generalize l[k]?.getD 0 = u at *
           generalize m[k]?.getD 0 = u2 at *
           have hne : (u == u2) = false := by simpa using he
           go_wp2_with fail
           go_quiet (fail)
           have hb2 := below_drewN hb nq
           clear cx cy hne he hk1 hk2 hlt hb
           go_upto_region 4 with (fail)
           generalize (some (⟨x, ox, none⟩ : Addr)) = a at *
           generalize (some (⟨y, oy, none⟩ : Addr)) = b at *
           generalize wr.drewN nq = W2 at *)
        | (clear hgo
           by_cases hl : (k : Int) < l.length
           all_goals first
             | (have hm : decide (k < m.length) = false := decide_eq_false (by have := HM3.out; omega)
                have hl' : (k : Int) < l.length := hl
                go_wp2_with fail
                go_quiet (fail)
                have hb2 := below_drewN hb nq
                clear hl hl' hm hlt hb
                go_upto_region 4 with (fail)
                generalize wr.drewN nq = W2 at *)
             | (have hm : decide (k < l.length) = false := decide_eq_false (by omega)
                go_wp2_with fail
                go_quiet (fail)
                have hb2 := below_drewN hb nq
                clear hl hm hlt hb
                go_upto_region 4 with (fail)
                generalize wr.drewN nq = W2 at *))
      all_goals
        have hkm : k ≤ mn := hk
        obtain ⟨q, hq, hqk⟩ : ∃ q : Nat, (mn : Int) - (k : Int) = (q : Int) ∧ k + q = mn := ⟨mn - k, by omega, by omega⟩
        go_wp2_with fail
        go_loopw [6] (fun i wr => ∃ s : Nat, s ≤ q ∧ i = .int .i64 (s : Int) ∧ (∀ j, j < s → l[l.length - 1 - j]?.getD 0 = m[m.length - 1 - j]?.getD 0) ∧ Below W1.heap.size W1 wr) (fun i _ => q - (intOf i).toNat)
        case atStart => exact ⟨0, Nat.zero_le _, rfl, fun j h => absurd h (Nat.not_lt_zero j), hb2⟩
        case round =>
          obtain ⟨s, hs, rfl, hsame, hb⟩ := hrel
          have hsI : (0 : Int) ≤ (s : Int) := by omega
          have f1 : IntKind.i64.wrap ((l.length : Int) - (k : Int)) = (l.length : Int) - (k : Int) := IntWalk.i64_in _ (by omega)
          have f2 : IntKind.i64.wrap ((m.length : Int) - (k : Int)) = (m.length : Int) - (k : Int) := IntWalk.i64_in _ (by omega)
          by_cases hgo2 : s < q ∧ l[l.length - 1 - s]?.getD 0 = m[m.length - 1 - s]?.getD 0
          · obtain ⟨hlt, he⟩ := hgo2
            obtain ⟨x, ox, rfl, cx⟩ := row_cell (rowB hra0 hb) (l.length - 1 - s) (by omega)
            obtain ⟨y, oy, rfl, cy⟩ := row_cell (rowB hrb0 hb) (m.length - 1 - s) (by omega)
            have e1 : IntKind.i64.wrap ((l.length : Int) - (s : Int)) = (l.length : Int) - (s : Int) := IntWalk.i64_in _ (by omega)
            have e2 : IntKind.i64.wrap ((l.length : Int) - (s : Int) - 1) = (l.length : Int) - (s : Int) - 1 := IntWalk.i64_in _ (by omega)
            have e3 : (0 : Int) ≤ (l.length : Int) - (s : Int) - 1 := by omega
            have e4 : (l.length : Int) - (s : Int) - 1 < l.length := by omega
            have e5 : ((l.length : Int) - (s : Int) - 1).toNat = l.length - 1 - s := by omega
            have e6 : IntKind.i64.wrap ((m.length : Int) - (s : Int)) = (m.length : Int) - (s : Int) := IntWalk.i64_in _ (by omega)
            have e7 : IntKind.i64.wrap ((m.length : Int) - (s : Int) - 1) = (m.length : Int) - (s : Int) - 1 := IntWalk.i64_in _ (by omega)
            have e8 : (0 : Int) ≤ (m.length : Int) - (s : Int) - 1 := by omega
            have e9 : (m.length : Int) - (s : Int) - 1 < m.length := by omega
            have e10 : ((m.length : Int) - (s : Int) - 1).toNat = m.length - 1 - s := by omega
            have g1 : (s : Int) < (l.length : Int) - (k : Int) := by omega
            have g2 : (s : Int) < (m.length : Int) - (k : Int) := by omega
            have hw1 : IntKind.i64.wrap ((s : Int) + 1) = (s : Int) + 1 := IntWalk.i64_in _ (by omega)
            have hs2 : ∀ j, j < s + 1 → l[l.length - 1 - j]?.getD 0 = m[m.length - 1 - j]?.getD 0 := by
              intro j hj
              by_cases h : j = s
              · subst h; exact he
              · exact hsame j (by omega)
            have HS := Lib.hid hs2
            rw [← he] at cy
            clear hs2 he hsame
            generalize l[l.length - 1 - s]?.getD 0 = u at *
            go_wp2_with fail
            go_quiet (fail)
            go_wp2_with fail
            go_roundw
            case rel => exact ⟨s + 1, by omega, by go_num, HS.out, below_drewN hb _⟩
            case measure => simp [intOf]; omega
          · have hsuf : IsSuf l m k s := by
              refine ⟨by omega, by omega, hsame, fun h1 h2 h3 => hgo2 ⟨?_, h3⟩⟩
              have := HM3.out
              omega
            clear hsame
            by_cases hlt : s < q
            all_goals first
              | (have he : l[l.length - 1 - s]?.getD 0 ≠ m[m.length - 1 - s]?.getD 0 := fun h => hgo2 ⟨hlt, h⟩
                 obtain ⟨x, ox, rfl, cx⟩ := row_cell (rowB hra0 hb) (l.length - 1 - s) (by omega)
                 obtain ⟨y, oy, rfl, cy⟩ := row_cell (rowB hrb0 hb) (m.length - 1 - s) (by omega)
                 have e1 : IntKind.i64.wrap ((l.length : Int) - (s : Int)) = (l.length : Int) - (s : Int) := IntWalk.i64_in _ (by omega)
                 have e2 : IntKind.i64.wrap ((l.length : Int) - (s : Int) - 1) = (l.length : Int) - (s : Int) - 1 := IntWalk.i64_in _ (by omega)
                 have e3 : (0 : Int) ≤ (l.length : Int) - (s : Int) - 1 := by omega
                 have e4 : (l.length : Int) - (s : Int) - 1 < l.length := by omega
                 have e5 : ((l.length : Int) - (s : Int) - 1).toNat = l.length - 1 - s := by omega
                 have e6 : IntKind.i64.wrap ((m.length : Int) - (s : Int)) = (m.length : Int) - (s : Int) := IntWalk.i64_in _ (by omega)
                 have e7 : IntKind.i64.wrap ((m.length : Int) - (s : Int) - 1) = (m.length : Int) - (s : Int) - 1 := IntWalk.i64_in _ (by omega)
                 have e8 : (0 : Int) ≤ (m.length : Int) - (s : Int) - 1 := by omega
                 have e9 : (m.length : Int) - (s : Int) - 1 < m.length := by omega
                 have e10 : ((m.length : Int) - (s : Int) - 1).toNat = m.length - 1 - s := by omega
                 have g1 : (s : Int) < (l.length : Int) - (k : Int) := by omega
                 have g2 : (s : Int) < (m.length : Int) - (k : Int) := by omega
                 clear hgo2
                 generalize l[l.length - 1 - s]?.getD 0 = u at *
                 generalize m[m.length - 1 - s]?.getD 0 = u2 at *
                 have hne : (u == u2) = false := by simpa using he
                 go_wp2_with fail
                 go_quiet (fail)
                 have hb3 := below_drewN hb nq
                 clear cx cy hne he hlt hb e1 e2 e3 e4 e5 e6 e7 e8 e9 e10 g1 g2
                 go_upto_region 7 with (fail)
                 generalize (some (⟨x, ox, none⟩ : Addr)) = a at *
                 generalize (some (⟨y, oy, none⟩ : Addr)) = b at *
                 generalize wr.drewN nq = W3 at *)
              | (clear hgo2
                 by_cases hl : (s : Int) < (l.length : Int) - (k : Int)
                 all_goals first
                   | (have hm : decide ((s : Int) < (m.length : Int) - (k : Int)) = false := decide_eq_false (by have := HM3.out; omega)
                      have hl' : (s : Int) < (l.length : Int) - (k : Int) := hl
                      go_wp2_with fail
                      go_quiet (fail)
                      have hb3 := below_drewN hb nq
                      clear hl hl' hm hlt hb
                      go_upto_region 7 with (fail)
                      generalize wr.drewN nq = W3 at *)
                   | (have hm : decide ((s : Int) < (l.length : Int) - (k : Int)) = false := decide_eq_false (by omega)
                      go_wp2_with fail
                      go_quiet (fail)
                      have hb3 := below_drewN hb nq
                      clear hl hm hlt hb
                      go_upto_region 7 with (fail)
                      generalize wr.drewN nq = W3 at *))
            all_goals
              have hkh : k + s ≤ m.length := hsuf.2.1
              obtain ⟨h, hh⟩ : ∃ h : Nat, h = m.length - s := ⟨_, rfl⟩
              obtain ⟨D, hD⟩ : ∃ D : Nat, D = l.length - s - k := ⟨_, rfl⟩
              have hkl : k + s ≤ l.length := hsuf.1
              have z2 : (m.length : Int) - (s : Int) = (h : Int) := by omega
              have z3 : (l.length : Int) - (k : Int) - (s : Int) = (D : Int) := by omega
              have z4 : (k : Int) ≤ (h : Int) := by omega
              have z5 : (h : Int) ≤ cb := by omega
              have HD := Lib.hid hD
              have HH := Lib.hid hh
              have z0 : h ≤ m.length ∧ m.length ≤ h + s := by omega
              clear hD hh hq hqk hmi f1 f2 hkI hsI
              have C3 := C0.step hb3
              have b3 := stepB b0 hb3
              have c0 : W3.cell? ⟨w.heap.size, 0, none⟩ = some (.int .i64 0) := C3.cell 0
              have c1 : W3.cell? ⟨w.heap.size, 1, none⟩ = some (.int .i64 0) := C3.cell 1
              have c2 : W3.cell? ⟨w.heap.size, 2, none⟩ = some (.slice none 0 0) := C3.cell 2
              have g0 : W3.frozen? ⟨w.heap.size, 0, none⟩ = false := C3.free 0
              have g1 : W3.frozen? ⟨w.heap.size, 1, none⟩ = false := C3.free 1
              have g2 : W3.frozen? ⟨w.heap.size, 2, none⟩ = false := C3.free 2
              clear hb2 hra0 hrb0 hra
              rcases b with _ | ad
              · obtain ⟨hm0, hc0⟩ : m.length = 0 ∧ cb = 0 := by
                  rcases hrb with ⟨a', cap', e, _, hn, hnil⟩ | ⟨b', off, cap', e, _⟩
                  · simp only [Value.slice.injEq] at e
                    obtain ⟨rfl, hz, rfl⟩ := e
                    exact ⟨hz, hn rfl⟩
                  · simp at e
                obtain rfl : k = 0 := by omega
                obtain rfl : s = 0 := by omega
                subst hc0
                obtain rfl : h = 0 := by omega
                obtain rfl : D = l.length := by have := HD.out; omega
                have hmn : (m.drop 0).take (m.length - 0 - 0) = [] := by simp; exact List.eq_nil_of_length_eq_zero hm0
                have HMN := Lib.hid hmn
                clear hmn
                go_wp2_with fail
                refine bodyPost_ret (results_cell_row rfl _ _ w.heap.size 25 _ (0, 0) _ rfl (((C3.set 0 (.int .i64 0)).set 1 (.int .i64 (l.length : Int))).set 2 (.slice none 0 0)) Try.underlying25 rfl rfl) rfl ?_
                refine ⟨0, 0, l.length, none, 0, hpre, hsuf, HD.out, ?_, ?_, ((b3.setCell (by dsimp only; omega) _).setCell (by dsimp only; omega) _).setCell (by dsimp only; omega) _⟩
                · rw [HMN.out]; rfl
                · rw [HMN.out]; exact nil_row .i64 _ _
              · have hdr := row_drop_some hrb k (by omega)
                by_cases hcp : cb = k
                · subst hcp
                  have hhc : h = cb := by omega
                  subst hhc
                  have hml : (m.drop h).take (m.length - s - h) = [] := by rw [show m.length - s - h = 0 from by omega, List.take_zero]
                  have HMN := Lib.hid hml
                  clear hml hdr
                  go_wp2_with fail
                  refine bodyPost_ret (results_cell_row rfl _ _ w.heap.size 25 _ (0, 0) _ rfl (((C3.set 0 (.int .i64 (h : Int))).set 1 (.int .i64 (D : Int))).set 2 (.slice (some ad) 0 0)) Try.underlying25 rfl rfl) rfl ?_
                  refine ⟨h, s, D, some ad, 0, hpre, hsuf, HD.out, ?_, ?_, ((b3.setCell (by dsimp only; omega) _).setCell (by dsimp only; omega) _).setCell (by dsimp only; omega) _⟩
                  · rw [HMN.out]; rfl
                  · rw [HMN.out]; exact .inl ⟨some ad, 0, rfl, by decide, (fun h => by cases h), rfl⟩
                · have hd := row_take_some hdr.1 (h - k) (by rw [List.length_drop]; omega)
                  have hlz : ((m.drop k).take (h - k)).length = h - k := by rw [List.length_take, List.length_drop]; omega
                  have HLZ := Lib.hid hlz
                  clear hdr hlz
                  go_wp2_with fail
                  refine bodyPost_ret (results_cell_row rfl _ _ w.heap.size 25 _ (0, 0) _ rfl (((C3.set 0 (.int .i64 (k : Int))).set 1 (.int .i64 (D : Int))).set 2 (.slice (some (ad.add k)) (h - k) (cb - k))) Try.underlying25 rfl rfl) rfl ?_
                  have bz := ((b3.setCell (p := ⟨w.heap.size, 0, none⟩) (by dsimp only; omega) (.int .i64 (k : Int))).setCell (p := ⟨w.heap.size, 1, none⟩) (by dsimp only; omega) (.int .i64 (D : Int))).setCell (p := ⟨w.heap.size, 2, none⟩) (by dsimp only; omega) (.slice (some (ad.add k)) (h - k) (cb - k))
                  refine ⟨k, s, D, some (ad.add k), cb - k, hpre, hsuf, HD.out, ?_, ?_, bz⟩
                  · rw [show m.length - s - k = h - k from by have := HH.out; omega, HLZ.out]; rfl
                  · rw [show m.length - s - k = h - k from by have := HH.out; omega, HLZ.out]
                    exact RowP.mono (fun g hg => Nat.lt_of_lt_of_le hg bz.size) (RowP.below bz hd)
end Go.Proofs.Ytmfekbljfnjkgaa
