/- DiskPrefix: the walk. -/
import Derived.Test.YtafmapcblcnccaaDkU
import Derived.Test.YtafmapcblcnccaaRefA
import Derived.BigQuiet
import Derived.Deep.RegionHeld3
namespace Go.Proofs.Ytafmapcblcnccaa
open Go.RowKit Go.Shelf
set_option linter.unusedVariables false

/-- A slice of slices that came in: its first len elements are rows. -/
def IsRows (k : IntKind) (w : World) (a : Option Addr) (len cap : Nat) (A : Nat → Option Addr) (L C : Nat → Nat) (Z : Nat → List Int) : Prop :=
  len ≤ cap ∧ cap ≤ maxLen ∧ (a = none → len = 0) ∧ ∀ x, a = some x → ∀ r, r < len → w.cell? (x.add r) = some (.slice (A r) (L r) (C r)) ∧ IsRow k w (A r) (L r) (C r) (Z r)
theorem IsRows.at {k : IntKind} {w : World} {a : Option Addr} {len cap : Nat} {A : Nat → Option Addr} {L C : Nat → Nat} {Z : Nat → List Int} (h : IsRows k w a len cap A L C Z) (h0 : 0 < len) :
    ∃ b off, a = some ⟨b, off, none⟩ ∧ ∀ r, r < len → w.cell? ⟨b, off + r, none⟩ = some (.slice (A r) (L r) (C r)) ∧ IsRow k w (A r) (L r) (C r) (Z r) := by
  obtain ⟨h1, h2, h3, h4⟩ := h
  cases a with
  | none => have := h3 rfl; omega
  | some x =>
    obtain ⟨b, off, spot⟩ := x
    have h5 := h4 _ rfl
    have hs : spot = none := by simpa [Addr.add] using World.cell?_spot (h5 0 h0).1
    subst hs
    exact ⟨b, off, rfl, fun r hr => by have := h5 r hr; rwa [addr_add] at this⟩
theorem owns_formP {w : World} {base : Nat} {e : TypeId} {size : Nat} {v : Value} {n : Nat} {xs : List Value} (h : w.ownsRow base e size v n xs) : ∃ a cap, v = .slice a n cap := by
  rcases h.2 with ⟨rfl, rfl⟩ | ⟨g, cp, cur, rfl, _⟩
  · exact ⟨_, _, rfl⟩
  · exact ⟨_, _, rfl⟩
theorem mem_rngP {zs : List Int} (h : ∀ i : Nat, 0 ≤ zs[i]?.getD 0 ∧ zs[i]?.getD 0 < 256) : ∀ x ∈ zs, 0 ≤ x ∧ x < 256 := by
  intro x hx
  obtain ⟨i, hi⟩ := List.getElem?_of_mem hx
  have := h i
  rw [hi] at this
  exact this
set_option maxRecDepth 100000 in
set_option maxHeartbeats 16000000 in
theorem diskPrefix_walk (a0 : Option Addr) (len0 cap0 : Nat) (A0 : Nat → Option Addr) (L0 C0 : Nat → Nat) (Z0 : Nat → List Int) (a1 a2 a3 : Int) (w : World) (w0 : IsRows .u8 w a0 len0 cap0 A0 L0 C0 Z0) (w1 : (Lit.int .i64 a1).wf = true) (w2 : (Lit.int .i64 a2).wf = true) (w3 : (Lit.int .i64 a3).wf = true) :
    Calls Try.prog 6 #[.slice a0 len0 cap0, .int .i64 a1, .int .i64 a2, .int .i64 a3] w fun e w' => e = .returned (.bool true) ∧ Below w.heap.size w w' := by
  have HLV := Lib.hid lives30_any
  obtain ⟨i0, hi, hz0, hz1, hz2⟩ := info_parts3 info_u8
  have hlen : len0 ≤ 9223372036854775807 := by have h1 := w0.1; have h2 := w0.2.1; unfold maxLen at h2; omega
  have HROWS := Lib.hid w0
  have HN := Lib.hid (newD_ok 1000 (by decide) (by decide) w)
  have hm0 := aroundI_lo a1 6 (by decide)
  have hm1 := aroundI_hi a1 6 (by decide)
  have HAR := Lib.hid (fun W => around_any a1 6 W w1 (by decide) (by decide))
  generalize aroundI a1 6 = M at *
  clear w0 w1 w2 w3
  go_enter Try.func6, Try.ntmps6
  go_wp2_with fail
  refine HN.out.mono ?_
  rintro e q1 ⟨rfl, hD1, b1⟩
  dsimp only
  obtain ⟨p, hp⟩ : ∃ p, p = w.heap.size + 1 := ⟨_, rfl⟩
  rw [← hp] at hD1 ⊢
  have hp0 : w.heap.size ≤ p := by omega
  clear hp
  have HP1 : Hid (PX w q1 p (.slice none 0 0) [] [] 0 (.slice none 0 0)) := Lib.hid ⟨hD1, World.ownsRow_nil _ _ _ _, (fun b hb => by cases hb), b1, Nat.le_refl _, (fun x hx => by cases hx)⟩
  clear hD1 b1 HN
  go_wp2_with fail
  refine (HAR.out q1).mono ?_
  rintro e q2 ⟨rfl, hq2⟩
  subst hq2
  dsimp only
  clear HAR
  go_wp2_with fail
  go_loopw [11, 12, 14] (fun al fi i wr => ∃ (k N cv F : Nat) (av : Option Addr) (ALL : List Int) (v : Value), al = .slice av N cv ∧ fi = .int .i64 (F : Int) ∧ i = .int .i64 (k : Int) ∧ k ≤ 6 ∧ N ≤ 20 * k ∧ F ≤ N ∧ Hid (ALL.length = N) ∧ Hid (PX w wr p (.slice av N cv) ALL ALL F v)) (fun _ _ i _ => 7 - (intOf i).toNat)
  case atStart => exact ⟨0, 0, 0, 0, none, [], _, rfl, rfl, rfl, by omega, by omega, by omega, Lib.hid rfl, HP1⟩
  case round =>
    obtain ⟨k, N, cv, F, av, ALL, v, rfl, rfl, rfl, hk6, hN, hF, HN, HP⟩ := hrel
    by_cases hlt : k < len0 ∧ k < 6
    · obtain ⟨hlt, hk⟩ := hlt
      obtain ⟨b, off, ha, hcc⟩ := HROWS.out.at (by omega)
      obtain ⟨c0', hrow⟩ := hcc k hlt
      have c0 := (HP.out.below.cell (World.block_lt_of_cell? w _ c0')).trans c0'
      have HA := Lib.hid ha
      subst ha
      have i0' : (0 : Int) ≤ (k : Int) := by omega
      have i1 : (k : Int) < (len0 : Int) := by omega
      have i2 : (k : Int) < 6 := by omega
      obtain ⟨hr, hw⟩ := hrow.row
      have hz := take_rng (u8_rng hw) (20 : Int).toNat
      have hzl : ((((Z0 k).take (L0 k))).take (20 : Int).toNat).length ≤ 20 := by rw [List.length_take]; exact Nat.min_le_left _ _
      have HR := Lib.hid (rowB hr HP.out.below)
      have hwk : IntKind.i64.wrap ((k : Int) + 1) = (k : Int) + 1 := IntWalk.i64_in _ (by omega)
      clear hcc c0' hrow hr hw
      generalize A0 k = ak at *
      generalize L0 k = lk at *
      generalize C0 k = ck at *
      obtain ⟨few, hfew⟩ : ∃ few, few = ((Z0 k).take lk).take (20 : Int).toNat := ⟨_, rfl⟩
      rw [← hfew] at hz hzl
      obtain ⟨Lf, hLf⟩ : ∃ L, few.length = L := ⟨_, rfl⟩
      obtain ⟨AL2, hAL2⟩ : ∃ l, ALL ++ few = l := ⟨_, rfl⟩
      obtain ⟨N2, hN2⟩ : ∃ n, AL2.length = n := ⟨_, rfl⟩
      have hNN : N2 = N + Lf := by rw [← hN2, ← hAL2, List.length_append, HN.out, hLf]
      have hLf20 : Lf ≤ 20 := by omega
      have HFW := Lib.hid hfew
      have HLF := Lib.hid hLf
      have HAL := Lib.hid hAL2
      have HN2 := Lib.hid hN2
      have HZ := Lib.hid hz
      have HNN := Lib.hid hNN
      clear hz hzl hfew hLf hAL2 hN2 hNN
      go_wp2_with fail
      refine (few_int _ _ 20 _ HR.out (by decide) (by decide)).mono ?_
      rintro e q4 ⟨ao, co, rfl, ho4, -, b4⟩
      rw [← HFW.out, HLF.out] at ho4
      rw [← HFW.out, HLF.out]
      dsimp only
      have hq4 : ∀ k, DkB p w.heap.size v k → k < wr.heap.size := fun k hk => (HP.out.dk.blk hk).2
      have hap := pfxApp (HP.out.step b4) ao Lf co few HLF.out.symm wr.heap.size ho4 hq4 (mem_rngP HZ.out) (by rw [HN.out, HLF.out]; omega)
      have HAP := Lib.hid hap
      clear hap hq4 ho4 b4
      go_wp2_with fail
      refine HAP.out.mono ?_
      rintro e q5 ⟨rfl, ho5, v5, hP5⟩
      dsimp only
      have hrN := hP5.row
      rw [HN.out] at hrN
      have HRN := Lib.hid hrN
      have HF5 := Lib.hid (row_of_owns ho5).1
      have HP5 := Lib.hid hP5
      have H63 : Hid (N + few.length ≤ maxLen) := Lib.hid (by rw [HLF.out]; unfold maxLen; omega)
      have HBY : Hid ((N + few.length) * 1 ≤ 140737488355328) := Lib.hid (by rw [HLF.out]; omega)
      have HBS : Hid (w.heap.size ≤ q5.heap.size) := Lib.hid hP5.below.size
      clear hrN ho5 hP5 HAP
      go_upto_region 13 with (at_builtin; refine wpList_append_rowAt rfl _ _ 33 rfl w.heap.size 5 i0 .u8 (.int .u8 0) 1 Try.underlying33 hi hz0 hz1 hz2 rfl (.slice av N cv) N ALL rfl HRN.out _ few (fun x => x < _) rfl HF5.out H63.out HBY.out HBS.out ?_; intro v6 Y g1 g2 g3; have hP6 := HP5.out.grown g1 g2 g3 (mem_rngP HZ.out); rw [HAL.out, HN2.out] at g1; obtain ⟨a6, c6, rfl⟩ := owns_formP g1; rw [HAL.out] at hP6; replace hP6 := Lib.hid hP6; clear g1 g2 g3)
      by_cases hkM : (k : Int) = M
      · subst hkM
        go_wp2_with fail
        refine (pfxSync hP6.out).mono ?_
        rintro e q7 ⟨rfl, v7, hP7⟩
        rw [HN2.out] at hP7
        have HP7 := Lib.hid hP7
        clear hP7
        dsimp only
        go_wp2_with fail
        go_roundw
        case rel =>
          have := HNN.out
          exact ⟨k + 1, N2, c6, N2, a6, AL2, v7, rfl, rfl, by go_num, by omega, by omega, by omega, HN2, HP7⟩
        case measure => simp [intOf]; omega
      · have hkb : ((k : Int) == M) = false := by simpa using hkM
        go_wp2_with fail
        go_roundw
        case rel =>
          have := HNN.out
          exact ⟨k + 1, N2, c6, F, a6, AL2, v5, rfl, rfl, by go_num, by omega, by omega, by omega, HN2, hP6⟩
        case measure => simp [intOf]; omega
    · have b3 := laidB (Below.refl wr.heap.size wr) (.cells #[.int .i64 a2] 3)
      have HP3 := Lib.hid (HP.out.step b3)
      have hr3 := Lib.hid (litI wr [a2] (show 1 ≤ 1000 from by decide) 1 rfl #[.int .i64 a2] rfl)
      obtain ⟨K, hK⟩ : ∃ K, K = surv [a2] N F := ⟨_, rfl⟩
      have hKF : F + K ≤ N := by have := surv_le [a2] N F hF; omega
      have hKI : (K : Int) = min (max a2 0) ((N : Int) - (F : Int)) := by
        rw [hK]
        unfold surv
        have e : ([a2] : List Int)[0]?.getD 0 = a2 := rfl
        rw [if_pos (show 0 < [a2].length from Nat.zero_lt_one), e]
        omega
      obtain ⟨X, hX⟩ : ∃ X, X = crashB ALL F [a2] a3 := ⟨_, rfl⟩
      obtain ⟨LX, hLX⟩ : ∃ L, L = F + K := ⟨_, rfl⟩
      have hF' : F ≤ ALL.length := by rw [HN.out]; exact hF
      have hcb := crash_bytes ALL F hF' [a2] a3
      rw [← hX, HN.out, ← hK, ← hLX] at hcb
      have hcs := fun i hi => crash_step ALL F hF' [a2] a3 HP.out.bytes K (by rw [HN.out]; exact hK) i hi
      have hfm := crash_firm ALL F hF' [a2] a3
      rw [← hX] at hfm
      rw [← hX] at hcs
      have HCB := Lib.hid hcb
      have HCS := Lib.hid hcs
      have HFM := Lib.hid hfm
      have HKI := Lib.hid hKI
      have HLX := Lib.hid hLX
      have HKF := Lib.hid hKF
      have hLX120 : LX ≤ 120 := by omega
      clear b3 hcb hcs hfm hK hX hF' hKI hLX hKF
      obtain ⟨h8, h9⟩ | ⟨h8, h9⟩ : ((k : Int) < (len0 : Int) ∧ decide ((k : Int) < 6) = false) ∨ (¬ (k : Int) < (len0 : Int) ∧ True) := by
        by_cases h7 : k < len0
        · exact .inl ⟨by omega, decide_eq_false (by omega)⟩
        · exact .inr ⟨by omega, trivial⟩
      all_goals
        clear hlt
        go_wp2_with fail
        refine (crash_is (s' := ⟨1000, -1, false, crashF (stF ALL F) [a2] a3⟩) _ HP3.out.dk (stF_key ALL F) _ 1 1 [a2] rfl hr3.out a3 rfl).mono ?_
        rintro e q4 ⟨rfl, v4, hD4, o4, -⟩
        dsimp only
        have hro := owns_same HP3.out.row (fun b hb => o4.block b (owns_lt' HP3.out.row hb) (HP3.out.apart b hb))
        rw [HN.out] at hro
        have HRO := Lib.hid hro
        have HB4 := Lib.hid (HP3.out.below.trans (HP3.out.dk.below o4 (Nat.le_refl _)))
        have HD4 := Lib.hid hD4
        clear hro hD4 o4 HP3 hr3 HP
        go_wp2_with fail
        refine (readD_own _ HD4.out 9 (by decide) (by decide) rfl X HCB.out.1 LX HCB.out.2.2 (by rw [HCB.out.2.2]; omega)).mono ?_
        rintro e q5 ⟨a5, c5, rfl, hx5, b5⟩
        dsimp only
        have HX5 := Lib.hid (row_of_owns hx5).1
        have HA5 := Lib.hid (row_of_owns (owns_kept_below HRO.out b5)).1
        have HB5 := Lib.hid (HB4.out.trans (b5.mono HB4.out.size))
        clear hx5 b5 HRO HD4 HB4
        go_upto_region 18 with (fail)
        go_cut [18] (fun sv wx => sv = .int .i64 (LX : Int) ∧ wx = q5)
        case first =>
          have hw1 : IntKind.i64.wrap ((N : Int) - (F : Int)) = (N : Int) - (F : Int) := IntWalk.i64_in _ (by omega)
          go_wp2_with fail
          all_goals
            go_meet
            have h1 := HKI.out
            have h2 := HLX.out
            have h3 := HKF.out
            first
              | exact ⟨by congr 1; omega, rfl⟩
              | exact ⟨by congr 1; rw [IntWalk.i64_in _ (by omega)]; omega, rfl⟩
        case rest =>
          obtain ⟨rfl, rfl⟩ := hcut
          have hA0 : (0 : Nat) ≤ LX := Nat.zero_le _
          obtain ⟨wq, ewq⟩ : ∃ X, X = wc := ⟨_, rfl⟩
          subst ewq
          go_wp2_with fail
          go_loopw [19, 20] (fun tv iv wr => ∃ i : Nat, tv = .int .i64 (turnsTo F K a3 i) ∧ iv = .int .i64 (i : Int) ∧ i ≤ LX ∧ Hid (Below wq.heap.size wq wr)) (fun _ iv _ => 130 - (intOf iv).toNat)
          case atStart => exact ⟨0, by rw [turns_zero], rfl, hA0, Lib.hid (Below.refl _ _)⟩
          case round =>
            obtain ⟨i, rfl, rfl, hi, HBW⟩ := hrel
            by_cases hlt : i < LX
            · have i0' : (0 : Int) ≤ (i : Int) := by omega
              have i1 : (i : Int) < (LX : Int) := by omega
              have i2 : (i : Int) < (N : Int) := by have := HLX.out; have := HKF.out; omega
              have hx := (rowB HX5.out HBW.out)
              have ha := (rowB HA5.out HBW.out)
              obtain ⟨bx, ox, hax, _, hcx⟩ := hx.at (by rw [HCB.out.2.2]; omega)
              obtain ⟨ba, oa, haa, _, hca⟩ := ha.at (by rw [HN.out]; omega)
              have cx := hcx i (by rw [HCB.out.2.2]; omega)
              have ca := hca i (by rw [HN.out]; omega)
              obtain ⟨y, hy, hcase⟩ := HCS.out i (by rw [← HLX.out]; omega)
              have HAX := Lib.hid hax
              have HAA := Lib.hid haa
              subst hax haa
              generalize X[i]?.getD 0 = xi at *
              generalize ALL[i]?.getD 0 = yi at *
              have hyr : 0 ≤ y ∧ y < 256 := by rw [← hy]; exact xor8_rng' _ _
              have htr := turns_rng F K a3 (i + 1)
              obtain ⟨T', hT'⟩ : ∃ T, T = turnsTo F K a3 (i + 1) := ⟨_, rfl⟩
              obtain ⟨T, hT⟩ : ∃ T, T = turnsTo F K a3 i := ⟨_, rfl⟩
              rw [← hT'] at hcase htr
              rw [← hT] at hcase ⊢
              have hcase' : (Pow8 y ∧ T = T' - 1) ∨ (y = 0 ∧ T = T') := hcase
              have HC := Lib.hid hcase'
              have HT := Lib.hid hT'
              have hwk : IntKind.i64.wrap ((i : Int) + 1) = (i : Int) + 1 := IntWalk.i64_in _ (by omega)
              obtain ⟨wo, ewo⟩ : ∃ X, X = wr := ⟨_, rfl⟩
              subst ewo
              clear hcx hca hcase hcase' hT hT' hx ha
              go_upto_region 25 with (fail)
              go_quiet (fail)
              clear cx ca
              go_wp2_with fail
              go_loopw [19, 21] (fun tv kv wr => ∃ (t z : Int), tv = .int .i64 t ∧ kv = .int .u8 z ∧ ((Pow8 z ∧ t = T' - 1) ∨ (z = 0 ∧ t = T')) ∧ Hid (Below wq.heap.size wq wr)) (fun _ kv _ => (intOf kv).toNat)
              case atStart =>
                first
                  | exact ⟨T, y, rfl, by rw [hy], HC.out, HBW⟩
                  | exact ⟨T, y, rfl, rfl, HC.out, HBW⟩
                  | exact ⟨T, y, rfl, by rw [hy], HC.out, Lib.hid (below_drewP HBW.out _)⟩
                  | exact ⟨T, y, rfl, rfl, HC.out, Lib.hid (below_drewP HBW.out _)⟩
              case round =>
                obtain ⟨t, z, rfl, rfl, hz, HBI⟩ := hrel
                rcases hz with ⟨hz, ht⟩ | ⟨rfl, rfl⟩
                · have hw3 : IntKind.i64.wrap (t + 1) = t + 1 := IntWalk.i64_in _ (by omega)
                  have hw4 : IntKind.i64.wrap t = t := IntWalk.i64_in _ (by omega)
                  have HTT := Lib.hid ht
                  clear ht
                  unfold Pow8 at hz
                  rcases hz with rfl | rfl | rfl | rfl | rfl | rfl | rfl | rfl
                  all_goals
                    go_wp2_with fail
                    go_roundw
                    case rel =>
                      have h5 := HTT.out
                      first
                        | exact ⟨_, _, rfl, rfl, .inr ⟨by omega, by omega⟩, HBI⟩
                        | exact ⟨_, _, rfl, rfl, .inl ⟨by unfold Pow8; omega, by omega⟩, HBI⟩
                    case measure => simp [intOf]
                · go_wp2_with fail
                  go_roundw
                  case rel => exact ⟨i + 1, by rw [HT.out], by go_num, by omega, HBI⟩
                  case measure => simp [intOf]; omega
            · obtain rfl : i = LX := by omega
              have hta : turnsTo F K a3 i = if 0 ≤ a3 ∧ 0 < K then 1 else 0 := by rw [HLX.out]; exact turns_all F K a3
              rw [hta]
              clear hta
              obtain ⟨wo, ewo⟩ : ∃ X, X = wr := ⟨_, rfl⟩
              subst ewo
              have HBO := Lib.hid (HB5.out.trans (HBW.out.mono HB5.out.size))
              by_cases hT : 0 ≤ a3 ∧ 0 < K
              · rw [if_pos hT]
                obtain ⟨hT0, hT1⟩ := hT
                have hFL : (F : Int) < (i : Int) := by have := HLX.out; omega
                have hxo := rowB HX5.out HBW.out
                have hao := rowB HA5.out HBW.out
                obtain ⟨bx, ox, hax, _, _⟩ := hxo.at (by rw [HCB.out.2.2]; omega)
                obtain ⟨ba, oa, haa, _, _⟩ := hao.at (by rw [HN.out]; have := HLX.out; have := HKF.out; omega)
                have HAX := Lib.hid hax
                have HAA := Lib.hid haa
                subst hax haa
                have hFx : F ≤ X.length := by rw [HCB.out.2.2]; omega
                have hFa : F ≤ ALL.length := by rw [HN.out]; exact hF
                have g1 := hxo.lencap
                have g2 := hao.lencap
                have hs0 : (0 : Int) ≤ (F : Int) := by omega
                have hs1 : (F : Int) ≤ (c5 : Int) := by omega
                have hs2 : (F : Int) ≤ (cv : Int) := by omega
                have hsm : ∀ W, Below wo.heap.size wo W → Calls Try.prog 25 #[.slice (some ⟨bx, ox, none⟩) F c5, .slice (some ⟨ba, oa, none⟩) F cv] W fun e w' => e = .returned (.bool true) ∧ Below wo.heap.size wo w' := fun W hW => by
                  refine (sameBytes_any _ F c5 (X.take F) _ F cv (ALL.take F) W (rowB (row_takeP hxo F hFx) hW) (rowB (row_takeP hao F hFa) hW)).mono ?_
                  rintro e w' ⟨rfl, hb⟩
                  rw [HFM.out, beq_self_eq_true]
                  exact ⟨rfl, stepB hW hb⟩
                have HSM := Lib.hid hsm
                have hlv : ∀ W, Below wo.heap.size wo W → Calls Try.prog 19 #[] W fun e w' => e = .returned (.bool true) ∧ Below w.heap.size w w' := fun W hW => by
                  refine (HLV.out W).mono ?_
                  rintro e w' ⟨rfl, hb⟩
                  exact ⟨rfl, stepB (stepB HBO.out hW) hb⟩
                have HLV2 := Lib.hid hlv
                clear hsm hlv hxo hao g1 g2 hFx hFa
                go_upto_region 30 with (fail)
                have k0 : Below wo.heap.size wo wo.drew := (Below.refl _ _).drew
                have HK0 := Lib.hid k0
                clear k0
                clear hlen hm0 hm1 h8 h9
                go_region_held3 (fun w' => True) (exact trivial) (first
                  | (go_at_call 25; refine (HSM.out _ HK0.out).mono ?_; rintro e w8 ⟨rfl, b8⟩; dsimp only)
                  | (go_at_call 19; refine (HLV2.out _ b8).mono ?_; rintro e w9 ⟨rfl, b9⟩; dsimp only))
                go_wp2_with fail
                go_ret
                exact ⟨rfl, b9⟩
              · rw [if_neg hT]
                obtain ⟨h6, h7, h8⟩ | ⟨h6, h7, h8⟩ : (0 ≤ a3 ∧ ¬ (F : Int) < (i : Int) ∧ ¬ F < i) ∨ (¬ 0 ≤ a3 ∧ True ∧ True) := by
                  by_cases h5 : 0 ≤ a3
                  · exact .inl ⟨h5, by have := HLX.out; omega, by have := HLX.out; omega⟩
                  · exact .inr ⟨h5, trivial, trivial⟩
                all_goals
                  clear hT
                  go_wp2_with fail
                  refine (HLV.out _).mono ?_
                  rintro e q8 ⟨rfl, b8⟩
                  dsimp only
                  go_wp2_with fail
                  go_ret
                  exact ⟨rfl, stepB HBO.out b8⟩
end Go.Proofs.Ytafmapcblcnccaa
