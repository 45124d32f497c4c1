/- HashPairs: for all hashes a, b, c: Pair is injective in each argument, and is Sum over both. No conditions. -/
import Derived.Test.YtjgeefnackhnpaaHashLives
import Derived.ProofKit
import Derived.OpenShut
import Derived.ShutString
import Derived.ChangeOld
import Derived.Below
namespace Go.Proofs.Ytjgeefnackhnpaa.hashPairs
open Go.ChangeShapes Go.WideShapes Go.ChangeAt Go.RowKit
open Go.ChangeMaps (open_string shut_string)
set_option linter.unusedVariables false

theorem own : ownKnob Try.prog.godebug = none := by kernel_rfl

theorem u64_wf {a : Int} (h : (Lit.int .u64 a).wf = true) : 0 ≤ a ∧ a < 18446744073709551616 := by
  simp [Lit.wf, IntKind.min, IntKind.max, IntKind.signed, IntKind.bits] at h
  omega
theorem wrap_wrap64 (a : Int) (h : 0 ≤ a ∧ a < 18446744073709551616) : IntKind.u64.wrap (wrap64 a) = a := by
  rw [IntKind.wrap_u64]; unfold wrap64; omega
theorem pairI_eq (a b : Int) (ha : 0 ≤ a ∧ a < 18446744073709551616) (hb : 0 ≤ b ∧ b < 18446744073709551616) :
    pairI a b = mixI (mixI (mixI (mixI (mixI ((wordsOf [112, 97, 105, 114]).foldl mixI 0) 4) 2) a) b) 0 := by
  unfold pairI sumI sumTail
  simp only [List.foldl_cons, List.foldl_nil, wrap_wrap64 a ha, wrap_wrap64 b hb]
  rfl
theorem left_eq (a b c : Int) (ha : 0 ≤ a ∧ a < 18446744073709551616) (hb : 0 ≤ b ∧ b < 18446744073709551616) (hc : 0 ≤ c ∧ c < 18446744073709551616) : (pairI a c == pairI b c) = (a == b) := by
  rw [pairI_eq a c ha hc, pairI_eq b c hb hc, Bool.eq_iff_iff, beq_iff_eq, beq_iff_eq]
  constructor
  · intro h
    have h1 := mixI_left _ _ _ (mixI_lo _ _) (mixI_hi _ _) (mixI_lo _ _) (mixI_hi _ _) h
    have h2 := mixI_left _ _ _ (mixI_lo _ _) (mixI_hi _ _) (mixI_lo _ _) (mixI_hi _ _) h1
    exact mixI_right _ _ _ ha.1 ha.2 hb.1 hb.2 h2
  · rintro rfl; rfl
theorem right_eq (a b c : Int) (ha : 0 ≤ a ∧ a < 18446744073709551616) (hb : 0 ≤ b ∧ b < 18446744073709551616) (hc : 0 ≤ c ∧ c < 18446744073709551616) : (pairI c a == pairI c b) = (a == b) := by
  rw [pairI_eq c a hc ha, pairI_eq c b hc hb, Bool.eq_iff_iff, beq_iff_eq, beq_iff_eq]
  constructor
  · intro h
    have h1 := mixI_left _ _ _ (mixI_lo _ _) (mixI_hi _ _) (mixI_lo _ _) (mixI_hi _ _) h
    exact mixI_right _ _ _ ha.1 ha.2 hb.1 hb.2 h1
  · rintro rfl; rfl

set_option maxHeartbeats 1000000 in
theorem walk (a0 : Int) (a1 : Int) (a2 : Int) (w0 : (Lit.int .u64 a0).wf = true) (w1 : (Lit.int .u64 a1).wf = true) (w2 : (Lit.int .u64 a2).wf = true) (w : World) :
    Calls Try.prog 9 #[.int .u64 a0, .int .u64 a1, .int .u64 a2] w fun e w' => e = .returned (.bool true) ∧ Below w.heap.size w w' := by
  have L := left_eq a0 a1 a2 (u64_wf w0) (u64_wf w1) (u64_wf w2)
  have R := right_eq a0 a1 a2 (u64_wf w0) (u64_wf w1) (u64_wf w2)
  go_enter Try.func9, Try.ntmps9
  go_wp2_with fail
  refine (pair_any _ _ _).mono ?_
  rintro e W1 ⟨rfl, b0⟩
  dsimp only
  go_wp2_with fail
  refine (pair_any _ _ _).mono ?_
  rintro e W2 ⟨rfl, hb1⟩
  replace b0 := stepB b0 hb1; clear hb1
  generalize pairI a0 a2 = A at L ⊢
  generalize pairI a1 a2 = B at L ⊢
  dsimp only
  go_wp2_with fail
  refine (pair_any _ _ _).mono ?_
  rintro e W3 ⟨rfl, hb1⟩
  replace b0 := stepB b0 hb1; clear hb1
  dsimp only
  go_wp2_with fail
  refine (pair_any _ _ _).mono ?_
  rintro e W4 ⟨rfl, hb1⟩
  replace b0 := stepB b0 hb1; clear hb1
  generalize pairI a2 a0 = C at R ⊢
  generalize pairI a2 a1 = D at R ⊢
  dsimp only
  go_wp2_with fail
  refine (pair_any _ _ _).mono ?_
  rintro e W5 ⟨rfl, hb1⟩
  replace b0 := stepB b0 hb1; clear hb1
  dsimp only
  go_wp2_with fail
  replace b0 := laidB b0 (.cells #[.int .i64 (wrap64 a0), .int .i64 (wrap64 a1)] 3)
  refine (sum_any _ _ _ _ [wrap64 a0, wrap64 a1] (by decide) _ (two_ints W5 _ _) rfl (by simp [maxLen])).mono ?_
  rintro e W6 ⟨rfl, hb1⟩
  replace b0 := stepB b0 hb1; clear hb1
  have hP : sumI (bytesI ⟨#[112, 97, 105, 114]⟩) [wrap64 a0, wrap64 a1] = pairI a0 a1 := rfl
  rw [hP]
  generalize pairI a0 a1 = G
  clear hP
  dsimp only
  go_wp2_with fail
  refine (lives_any _).mono ?_
  rintro e W7 ⟨rfl, hb1⟩
  replace b0 := stepB b0 hb1; clear hb1
  dsimp only
  go_wp2_with fail
  go_ret
  exact ⟨rfl, b0⟩

set_option maxRecDepth 100000 in
theorem lifted (os : Os) (started : os.Started) (H : Type) (enc : TypeId × Value → H) :
    ReturnsInHanded {} Try.checked os 9 .any (Rows.hashPairsSpec.pre6 enc Try.prog Try.f9 Rows.hashPairsRow.domain false) (Rows.hashPairsSpec.post enc Try.prog Try.f9 false true false false) := by
  refine returnsInHanded_of_change (C := Try.checked) own started (by kernel_rfl) Try.func9
    (ChangeSpec.witness6 (enc := enc) (C := Try.checked) false ⟨#[], #[.int .u64 0, .int .u64 0, .int .u64 0], []⟩ 8 (by kernel_rfl) (by kernel_rfl) (by kernel_rfl) (by kernel_rfl)) ?_
  intro W base args ds gs before hval0 hW hcnd _
  have hval : ∀ (j : Nat) t v, Try.f9.params[j]? = some t → args[j]? = some v → Value.okWide Try.prog W .any base t v := hval0
  have hW' := hW
  obtain ⟨p, q, hA0, hV, rfl, hfz, hnd⟩ := hW
  have hA : DataW.TrodAll enc Try.prog W 0 (fun _ => true) true Try.f9.params.toList args.toList ds p := hA0
  rw [Try.params9] at hA hval
  obtain ⟨v0, vs0, d0, ds0, p0, q0, hargs, rfl, rfl, h0, r0⟩ := trodAll_cons hA
  obtain ⟨v1, vs1, d1, ds1, p1, q1, rfl, rfl, rfl, h1, r1⟩ := trodAll_cons r0
  obtain ⟨v2, vs2, d2, ds2, p2, q2, rfl, rfl, rfl, h2, r2⟩ := trodAll_cons r1
  obtain ⟨rfl, rfl, rfl⟩ := trodAll_nil r2
  obtain rfl : args = #[v0, v1, v2] := by cases args; simp_all
  obtain ⟨rfl, rfl⟩ := trodVars_none hV
  obtain ⟨a0, rfl, rfl, rfl, w0⟩ := open_int Try.underlying25 (hval 0 25 v0 rfl rfl) h0
  obtain ⟨a1, rfl, rfl, rfl, w1⟩ := open_int Try.underlying25 (hval 1 25 v1 rfl rfl) h1
  obtain ⟨a2, rfl, rfl, rfl, w2⟩ := open_int Try.underlying25 (hval 2 25 v2 rfl rfl) h2
  clear hA0 hval0
  refine (walk a0 a1 a2 w0 w1 w2 W).mono fun e W' ⟨he, bel⟩ => ?_
  subst he
  exact ⟨_, rfl, _, _, _, [], _, [], hW', trodAll_mk1 (shut_bool Try.underlying4 _), (trodAll_cons_mk (shut_int Try.underlying25 w0) (trodAll_cons_mk (shut_int Try.underlying25 w1) (trodAll_cons_mk (shut_int Try.underlying25 w2) trodAll_mk0))), rfl, bel.frame _, fun h => by cases h⟩

theorem over : Rows.hashPairsRow.holds Try.pinned (OpenSpec.ofChange Rows.hashPairsSpec) :=
  OpenClaim.holds_of_wide 9 Try.f9 rfl rfl rfl rfl rfl rfl rfl ⟨rfl, rfl, rfl, rfl, rfl⟩ rfl rfl rfl rfl rfl (by kernel_rfl) Try.func9 (by kernel_rfl)
    (of_decide_eq_true (by kernel_rfl)) (by unfold Func.isWrapper; first | (rw [if_pos (by decide +kernel)]; kernel_rfl) | (rw [if_neg (by decide +kernel)]; exact ⟨rfl, rfl⟩))
    (fun os started H enc _ => lifted os started H enc)

/-- THE STATEMENT. -/
theorem proved : Rows.HashPairsSaid := over
end Go.Proofs.Ytjgeefnackhnpaa.hashPairs
