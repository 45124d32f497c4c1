/- Contracts for package edits: Diff. -/
import Derived.Test.YtmfekbljfnjkgaaEdA
import Derived.Test.YtmfekbljfnjkgaaTxtF
import Derived.Deep.DeepCutAuto
namespace Go.Proofs.Ytmfekbljfnjkgaa
open Go.RowKit Go.Shelf
set_option linter.unusedVariables false

/-- k is how many symbols two texts share at the begin. -/
def IsPre (l m : List Int) (k : Nat) : Prop := k ≤ l.length ∧ k ≤ m.length ∧ (∀ i, i < k → l[i]?.getD 0 = m[i]?.getD 0) ∧ (k < l.length → k < m.length → l[k]?.getD 0 ≠ m[k]?.getD 0)
/-- s is how many they share at the end, behind k. -/
def IsSuf (l m : List Int) (k s : Nat) : Prop := k + s ≤ l.length ∧ k + s ≤ m.length ∧ (∀ i, i < s → l[l.length - 1 - i]?.getD 0 = m[m.length - 1 - i]?.getD 0) ∧ (k + s < l.length → k + s < m.length → l[l.length - 1 - s]?.getD 0 ≠ m[m.length - 1 - s]?.getD 0)
theorem isPre_one {l m : List Int} {k j : Nat} (h : IsPre l m k) (g : IsPre l m j) : k = j := by
  obtain ⟨h1, h2, h3, h4⟩ := h
  obtain ⟨g1, g2, g3, g4⟩ := g
  rcases Nat.lt_trichotomy k j with c | c | c
  · exact absurd (g3 k c) (h4 (by omega) (by omega))
  · exact c
  · exact absurd (h3 j c) (g4 (by omega) (by omega))
theorem isSuf_one {l m : List Int} {p k j : Nat} (h : IsSuf l m p k) (g : IsSuf l m p j) : k = j := by
  obtain ⟨h1, h2, h3, h4⟩ := h
  obtain ⟨g1, g2, g3, g4⟩ := g
  rcases Nat.lt_trichotomy k j with c | c | c
  · exact absurd (g3 k c) (h4 (by omega) (by omega))
  · exact c
  · exact absurd (h3 j c) (g4 (by omega) (by omega))
set_option maxRecDepth 100000 in
set_option maxHeartbeats 4000000 in
theorem diff_any (a : Option Addr) (ca : Nat) (l : List Int) (b : Option Addr) (cb : Nat) (m : List Int) (w : World) (hra : Row .i64 w.heap.size w (.slice a l.length ca) l) (hrb : Row .i64 w.heap.size w (.slice b m.length cb) m) (hla : l.length ≤ 100000) (hlb : m.length ≤ 100000) :
    Calls Try.prog 25 #[.slice a l.length ca, .slice b m.length cb] w fun e w' => ∃ (p s D : Nat) (a2 : Option Addr) (c2 : Nat), IsPre l m p ∧ IsSuf l m p s ∧ D = l.length - s - p ∧ e = .returned (.agg #[.int .i64 (p : Int), .int .i64 (D : Int), .slice a2 ((m.drop p).take (m.length - s - p)).length c2]) ∧ Row .i64 w'.heap.size w' (.slice a2 ((m.drop p).take (m.length - s - p)).length c2) ((m.drop p).take (m.length - s - p)) ∧ Below w.heap.size w w' := by
  obtain ⟨mn, hm1, hm2, hm3, hmi⟩ : ∃ mn : Nat, mn ≤ l.length ∧ mn ≤ m.length ∧ (mn = l.length ∨ mn = m.length) ∧ min (l.length : Int) (m.length : Int) = (mn : Int) := ⟨min l.length m.length, by omega, by omega, by omega, by omega⟩
  have hla2 : (l.length : Int) ≤ 100000 := by omega
  have hlb2 : (m.length : Int) ≤ 100000 := by omega
  have HM3 := Lib.hid hm3
  have hca := hra.lencap
  have hcb := hrb.lencap
  unfold maxLen at hca hcb
  clear hm3 hla hlb
  have b0 := laidB (Below.refl w.heap.size w) (.cells #[.int .i64 0, .int .i64 0, .slice none 0 0] 25)
  have C0 := Cel.new w 25 #[.int .i64 0, .int .i64 0, .slice none 0 0]
  have hra0 := rowB hra b0
  have hrb0 := rowB hrb b0
  go_enter Try.func25, Try.ntmps25
  go_wp2_with fail
  generalize w.alloc (.cells #[.int .i64 0, .int .i64 0, .slice none 0 0] 25) = W1 at *
  clear hra hrb
  go_loopw [5] (fun i wr => ∃ k : Nat, k ≤ mn ∧ i = .int .i64 (k : Int) ∧ (∀ j, j < k → l[j]?.getD 0 = m[j]?.getD 0) ∧ Below W1.heap.size W1 wr) (fun i _ => mn - (intOf i).toNat)
  case atStart => exact ⟨0, Nat.zero_le _, rfl, fun j h => absurd h (Nat.not_lt_zero j), Below.refl _ _⟩
  case round =>
    obtain ⟨k, hk, rfl, hsame, hb⟩ := hrel
    have hkI : (0 : Int) ≤ (k : Int) := by omega
    by_cases hgo : k < mn ∧ l[k]?.getD 0 = m[k]?.getD 0
    · obtain ⟨hlt, he⟩ := hgo
      have hltI : (k : Int) < (mn : Int) := by omega
      obtain ⟨x, ox, rfl, cx⟩ := row_cell (rowB hra0 hb) k (by omega)
      obtain ⟨y, oy, rfl, cy⟩ := row_cell (rowB hrb0 hb) k (by omega)
      have hk1 : (k : Int) < l.length := by omega
      have hk2 : (k : Int) < m.length := by omega
      have hw1 : IntKind.i64.wrap ((k : Int) + 1) = (k : Int) + 1 := IntWalk.i64_in _ (by omega)
      have hs2 : ∀ j, j < k + 1 → l[j]?.getD 0 = m[j]?.getD 0 := by
        intro j hj
        by_cases h : j = k
        · subst h; exact he
        · exact hsame j (by omega)
      have HS := Lib.hid hs2
      rw [← he] at cy
      clear hs2 he hsame
      generalize l[k]?.getD 0 = u at *
      go_wp2_with fail
      go_quiet (fail)
      go_wp2_with fail
      go_roundw
      case rel => exact ⟨k + 1, by omega, by go_num, HS.out, below_drewN hb _⟩
      case measure => simp [intOf]; omega
    · have hpre : IsPre l m k := by
        refine ⟨by omega, by omega, hsame, fun h1 h2 h3 => hgo ⟨?_, h3⟩⟩
        have := HM3.out
        omega
      clear hsame
      by_cases hlt : k < mn
      all_goals first
        | (have he : l[k]?.getD 0 ≠ m[k]?.getD 0 := fun h => hgo ⟨hlt, h⟩
           have hltI : (k : Int) < (mn : Int) := by omega
           obtain ⟨x, ox, rfl, cx⟩ := row_cell (rowB hra0 hb) k (by omega)
           obtain ⟨y, oy, rfl, cy⟩ := row_cell (rowB hrb0 hb) k (by omega)
           have hk1 : (k : Int) < l.length := by omega
           have hk2 : (k : Int) < m.length := by omega
           clear hgo
           generalize l[k]?.getD 0 = u at *
           generalize m[k]?.getD 0 = u2 at *
           have hne : (u == u2) = false := by simpa using he
           go_wp2_with fail
           go_quiet (fail)
           have hb2 := below_drewN hb nq
           clear cx cy hne he hltI hk1 hk2 hlt hb
           go_upto_region 4 with (fail)
           generalize (some (⟨x, ox, none⟩ : Addr)) = a at *
           generalize (some (⟨y, oy, none⟩ : Addr)) = b at *
           generalize wr.drewN nq = W2 at *)
        | (have hltI : ¬ (k : Int) < (mn : Int) := by omega
           clear hgo
           go_wp2_with fail
           go_quiet (fail)
           have hb2 := below_drewN hb nq
           clear hltI hlt hb
           go_upto_region 4 with (fail)
           generalize wr.drewN nq = W2 at *)
      all_goals
        have hkm : k ≤ mn := hk
        obtain ⟨q, hq, hqk⟩ : ∃ q : Nat, (mn : Int) - (k : Int) = (q : Int) ∧ k + q = mn := ⟨mn - k, by omega, by omega⟩
        go_wp2_with fail
        go_loopw [6] (fun i wr => ∃ s : Nat, s ≤ q ∧ i = .int .i64 (s : Int) ∧ (∀ j, j < s → l[l.length - 1 - j]?.getD 0 = m[m.length - 1 - j]?.getD 0) ∧ Below W1.heap.size W1 wr) (fun i _ => q - (intOf i).toNat)
        case atStart => exact ⟨0, Nat.zero_le _, rfl, fun j h => absurd h (Nat.not_lt_zero j), hb2⟩
        case round =>
          obtain ⟨s, hs, rfl, hsame, hb⟩ := hrel
          have hsI : (0 : Int) ≤ (s : Int) := by omega
          have v1 : IntKind.i64.wrap ((mn : Int) - (k : Int)) = (q : Int) := by rw [IntWalk.i64_in _ (by omega)]; exact hq
          by_cases hgo2 : s < q ∧ l[l.length - 1 - s]?.getD 0 = m[m.length - 1 - s]?.getD 0
          · obtain ⟨hlt, he⟩ := hgo2
            have hltI : (s : Int) < (q : Int) := by omega
            obtain ⟨x, ox, rfl, cx⟩ := row_cell (rowB hra0 hb) (l.length - 1 - s) (by omega)
            obtain ⟨y, oy, rfl, cy⟩ := row_cell (rowB hrb0 hb) (m.length - 1 - s) (by omega)
            have e1 : IntKind.i64.wrap ((l.length : Int) - 1) = (l.length : Int) - 1 := IntWalk.i64_in _ (by omega)
            have e2 : IntKind.i64.wrap ((l.length : Int) - 1 - (s : Int)) = (l.length : Int) - 1 - (s : Int) := IntWalk.i64_in _ (by omega)
            have e3 : (0 : Int) ≤ (l.length : Int) - 1 - (s : Int) := by omega
            have e4 : (l.length : Int) - 1 - (s : Int) < l.length := by omega
            have e5 : ((l.length : Int) - 1 - (s : Int)).toNat = l.length - 1 - s := by omega
            have e6 : IntKind.i64.wrap ((m.length : Int) - 1) = (m.length : Int) - 1 := IntWalk.i64_in _ (by omega)
            have e7 : IntKind.i64.wrap ((m.length : Int) - 1 - (s : Int)) = (m.length : Int) - 1 - (s : Int) := IntWalk.i64_in _ (by omega)
            have e8 : (0 : Int) ≤ (m.length : Int) - 1 - (s : Int) := by omega
            have e9 : (m.length : Int) - 1 - (s : Int) < m.length := by omega
            have e10 : ((m.length : Int) - 1 - (s : Int)).toNat = m.length - 1 - s := by omega
            have hw1 : IntKind.i64.wrap ((s : Int) + 1) = (s : Int) + 1 := IntWalk.i64_in _ (by omega)
            have hs2 : ∀ j, j < s + 1 → l[l.length - 1 - j]?.getD 0 = m[m.length - 1 - j]?.getD 0 := by
              intro j hj
              by_cases h : j = s
              · subst h; exact he
              · exact hsame j (by omega)
            have HS := Lib.hid hs2
            rw [← he] at cy
            clear hs2 he hsame
            generalize l[l.length - 1 - s]?.getD 0 = u at *
            go_wp2_with fail
            go_quiet (fail)
            go_wp2_with fail
            go_roundw
            case rel => exact ⟨s + 1, by omega, by go_num, HS.out, below_drewN hb _⟩
            case measure => simp [intOf]; omega
          · have hsuf : IsSuf l m k s := by
              refine ⟨by omega, by omega, hsame, fun h1 h2 h3 => hgo2 ⟨?_, h3⟩⟩
              have := HM3.out
              omega
            clear hsame
            by_cases hlt : s < q
            all_goals first
              | (have he : l[l.length - 1 - s]?.getD 0 ≠ m[m.length - 1 - s]?.getD 0 := fun h => hgo2 ⟨hlt, h⟩
                 have hltI : (s : Int) < (q : Int) := by omega
                 obtain ⟨x, ox, rfl, cx⟩ := row_cell (rowB hra0 hb) (l.length - 1 - s) (by omega)
                 obtain ⟨y, oy, rfl, cy⟩ := row_cell (rowB hrb0 hb) (m.length - 1 - s) (by omega)
                 have e1 : IntKind.i64.wrap ((l.length : Int) - 1) = (l.length : Int) - 1 := IntWalk.i64_in _ (by omega)
                 have e2 : IntKind.i64.wrap ((l.length : Int) - 1 - (s : Int)) = (l.length : Int) - 1 - (s : Int) := IntWalk.i64_in _ (by omega)
                 have e3 : (0 : Int) ≤ (l.length : Int) - 1 - (s : Int) := by omega
                 have e4 : (l.length : Int) - 1 - (s : Int) < l.length := by omega
                 have e5 : ((l.length : Int) - 1 - (s : Int)).toNat = l.length - 1 - s := by omega
                 have e6 : IntKind.i64.wrap ((m.length : Int) - 1) = (m.length : Int) - 1 := IntWalk.i64_in _ (by omega)
                 have e7 : IntKind.i64.wrap ((m.length : Int) - 1 - (s : Int)) = (m.length : Int) - 1 - (s : Int) := IntWalk.i64_in _ (by omega)
                 have e8 : (0 : Int) ≤ (m.length : Int) - 1 - (s : Int) := by omega
                 have e9 : (m.length : Int) - 1 - (s : Int) < m.length := by omega
                 have e10 : ((m.length : Int) - 1 - (s : Int)).toNat = m.length - 1 - s := by omega
                 clear hgo2
                 generalize l[l.length - 1 - s]?.getD 0 = u at *
                 generalize m[m.length - 1 - s]?.getD 0 = u2 at *
                 have hne : (u == u2) = false := by simpa using he
                 go_wp2_with fail
                 go_quiet (fail)
                 have hb3 := below_drewN hb nq
                 clear cx cy hne he hltI hlt hb e1 e2 e3 e4 e5 e6 e7 e8 e9 e10
                 go_upto_region 7 with (fail)
                 generalize (some (⟨x, ox, none⟩ : Addr)) = a at *
                 generalize (some (⟨y, oy, none⟩ : Addr)) = b at *
                 generalize wr.drewN nq = W3 at *)
              | (have hltI : ¬ (s : Int) < (q : Int) := by omega
                 clear hgo2
                 go_wp2_with fail
                 go_quiet (fail)
                 have hb3 := below_drewN hb nq
                 clear hltI hlt hb
                 go_upto_region 7 with (fail)
                 generalize wr.drewN nq = W3 at *)
            all_goals
              have hkh : k + s ≤ m.length := hsuf.2.1
              obtain ⟨h, hh⟩ : ∃ h : Nat, h = m.length - s := ⟨_, rfl⟩
              have z1 : IntKind.i64.wrap ((m.length : Int) - (s : Int)) = (h : Int) := by rw [IntWalk.i64_in _ (by omega)]; omega
              obtain ⟨D, hD⟩ : ∃ D : Nat, D = l.length - s - k := ⟨_, rfl⟩
              have hkl : k + s ≤ l.length := hsuf.1
              have z2 : (m.length : Int) - (s : Int) = (h : Int) := by omega
              have z3 : (l.length : Int) - (s : Int) - (k : Int) = (D : Int) := by omega
              have z4 : (k : Int) ≤ (h : Int) := by omega
              have z5 : (h : Int) ≤ cb := by omega
              have HD := Lib.hid hD
              have HH := Lib.hid hh
              have z0 : h ≤ m.length ∧ m.length ≤ h + s := by omega
              have HQ := Lib.hid hq
              clear hD hh hq hqk hmi v1 hkI hsI
              have C3 := C0.step hb3
              have hrb3 := rowB hrb0 hb3
              have b3 := stepB b0 hb3
              clear hb2 hra0 hrb0
              rcases b with _ | ad
              · obtain ⟨hm0, hc0⟩ : m.length = 0 ∧ cb = 0 := by
                  rcases hrb3 with ⟨a', cap', e, _, hn, hnil⟩ | ⟨b', off, cap', e, _⟩
                  · simp only [Value.slice.injEq] at e
                    obtain ⟨rfl, hz, rfl⟩ := e
                    exact ⟨hz, hn rfl⟩
                  · simp at e
                obtain rfl : k = 0 := by omega
                obtain rfl : s = 0 := by omega
                subst hc0
                obtain rfl : h = 0 := by omega
                obtain rfl : D = l.length := by have := HD.out; omega
                have hd : Row .i64 W3.heap.size W3 (.slice none 0 0) ((m.drop 0).take (m.length - 0 - 0)) := row_empty rfl (by simp; exact List.eq_nil_of_length_eq_zero hm0) (by decide) (fun _ => rfl)
                go_wp2_with fail
                generalize hZ : (m.drop 0).take (m.length - 0 - 0) = Z at *
                have HZ := Lib.hid hZ
                have hZl : Z.length ≤ 100000 := by rw [← hZ, List.length_take, List.length_drop]; omega
                clear hZ
                refine (cloneInts_any _ _ Z _ hd (by omega)).mono ?_
                rintro e W4 ⟨a2, c2, rfl, hown, hrow, hb4⟩
                have b4 := stepB b3 hb4
                have C4 := C3.step hb4
                have hs4 := C3.lt
                have f0 : W4.cell? ⟨w.heap.size, 0, none⟩ = some (.int .i64 0) := C4.cell 0
                have f1 : W4.cell? ⟨w.heap.size, 1, none⟩ = some (.int .i64 0) := C4.cell 1
                have f2 : W4.cell? ⟨w.heap.size, 2, none⟩ = some (.slice none 0 0) := C4.cell 2
                have g0 : W4.frozen? ⟨w.heap.size, 0, none⟩ = false := C4.free 0
                have g1 : W4.frozen? ⟨w.heap.size, 1, none⟩ = false := C4.free 1
                have g2 : W4.frozen? ⟨w.heap.size, 2, none⟩ = false := C4.free 2
                clear b3 C3 hrb3 hd hb4 z1 z2 z4 z5
                dsimp only
                go_wp2_with fail
                refine bodyPost_ret (results_cell_row rfl _ _ w.heap.size 25 _ (0, 0) _ rfl (((C4.set 0 (.int .i64 0)).set 1 (.int .i64 (l.length : Int))).set 2 (.slice a2 Z.length c2)) Try.underlying25 rfl rfl) rfl ?_
                refine ⟨0, 0, l.length, a2, c2, hpre, hsuf, HD.out, ?_, ?_, ((b4.setCell (by dsimp only; omega) _).setCell (by dsimp only; omega) _).setCell (by dsimp only; omega) _⟩
                · rw [HZ.out]; rfl
                · rw [HZ.out]
                  exact row_set3 hown _ hs4 _ _ _
              · have hdr := row_drop_some hrb3 k (by omega)
                by_cases hcp : cb = k
                · subst hcp
                  have hhc : h = cb := by omega
                  subst hhc
                  have hd0 := row_take_some (hdr.2 (by omega)) (m.length - s - h) (by rw [List.length_drop]; omega)
                  have hml : m.length - s - h = 0 := by omega
                  have hd : Row .i64 W3.heap.size W3 (.slice (some ad) 0 0) ((m.drop h).take (m.length - s - h)) := by
                    rw [hml] at hd0 ⊢
                    rw [Nat.sub_self] at hd0
                    exact hd0
                  clear hdr hd0
                  go_wp2_with fail
                  generalize hZ : (m.drop h).take (m.length - s - h) = Z at *
                  have HZ := Lib.hid hZ
                  have hZl : Z.length ≤ 100000 := by rw [← hZ, List.length_take, List.length_drop]; omega
                  clear hZ
                  refine (cloneInts_any _ _ Z _ hd (by omega)).mono ?_
                  rintro e W4 ⟨a2, c2, rfl, hown, hrow, hb4⟩
                  have b4 := stepB b3 hb4
                  have C4 := C3.step hb4
                  have hs4 := C3.lt
                  have f0 : W4.cell? ⟨w.heap.size, 0, none⟩ = some (.int .i64 0) := C4.cell 0
                  have f1 : W4.cell? ⟨w.heap.size, 1, none⟩ = some (.int .i64 0) := C4.cell 1
                  have f2 : W4.cell? ⟨w.heap.size, 2, none⟩ = some (.slice none 0 0) := C4.cell 2
                  have g0 : W4.frozen? ⟨w.heap.size, 0, none⟩ = false := C4.free 0
                  have g1 : W4.frozen? ⟨w.heap.size, 1, none⟩ = false := C4.free 1
                  have g2 : W4.frozen? ⟨w.heap.size, 2, none⟩ = false := C4.free 2
                  clear b3 C3 hrb3 hd hb4 z1 z2 z4 z5
                  dsimp only
                  go_wp2_with fail
                  refine bodyPost_ret (results_cell_row rfl _ _ w.heap.size 25 _ (0, 0) _ rfl (((C4.set 0 (.int .i64 (h : Int))).set 1 (.int .i64 (D : Int))).set 2 (.slice a2 Z.length c2)) Try.underlying25 rfl rfl) rfl ?_
                  refine ⟨h, s, D, a2, c2, hpre, hsuf, HD.out, ?_, ?_, ((b4.setCell (by dsimp only; omega) _).setCell (by dsimp only; omega) _).setCell (by dsimp only; omega) _⟩
                  · rw [HZ.out]; rfl
                  · rw [HZ.out]
                    exact row_set3 hown _ hs4 _ _ _
                · have hd := row_take_some hdr.1 (h - k) (by rw [List.length_drop]; omega)
                  clear hdr
                  go_wp2_with fail
                  generalize hZ : (m.drop k).take (h - k) = Z at *
                  have HZ := Lib.hid hZ
                  have hZl : Z.length ≤ 100000 := by rw [← hZ, List.length_take, List.length_drop]; omega
                  clear hZ
                  refine (cloneInts_any _ _ Z _ hd (by omega)).mono ?_
                  rintro e W4 ⟨a2, c2, rfl, hown, hrow, hb4⟩
                  have b4 := stepB b3 hb4
                  have C4 := C3.step hb4
                  have hs4 := C3.lt
                  have f0 : W4.cell? ⟨w.heap.size, 0, none⟩ = some (.int .i64 0) := C4.cell 0
                  have f1 : W4.cell? ⟨w.heap.size, 1, none⟩ = some (.int .i64 0) := C4.cell 1
                  have f2 : W4.cell? ⟨w.heap.size, 2, none⟩ = some (.slice none 0 0) := C4.cell 2
                  have g0 : W4.frozen? ⟨w.heap.size, 0, none⟩ = false := C4.free 0
                  have g1 : W4.frozen? ⟨w.heap.size, 1, none⟩ = false := C4.free 1
                  have g2 : W4.frozen? ⟨w.heap.size, 2, none⟩ = false := C4.free 2
                  clear b3 C3 hrb3 hd hb4 z1 z2 z4 z5
                  dsimp only
                  go_wp2_with fail
                  refine bodyPost_ret (results_cell_row rfl _ _ w.heap.size 25 _ (0, 0) _ rfl (((C4.set 0 (.int .i64 (k : Int))).set 1 (.int .i64 (D : Int))).set 2 (.slice a2 Z.length c2)) Try.underlying25 rfl rfl) rfl ?_
                  refine ⟨k, s, D, a2, c2, hpre, hsuf, HD.out, ?_, ?_, ((b4.setCell (by dsimp only; omega) _).setCell (by dsimp only; omega) _).setCell (by dsimp only; omega) _⟩
                  · rw [show m.length - s - k = h - k from by have := HH.out; omega, HZ.out]; rfl
                  · rw [show m.length - s - k = h - k from by have := HH.out; omega, HZ.out]
                    exact row_set3 hown _ hs4 _ _ _
end Go.Proofs.Ytmfekbljfnjkgaa
