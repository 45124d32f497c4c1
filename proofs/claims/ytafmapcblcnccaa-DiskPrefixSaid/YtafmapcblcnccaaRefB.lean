/- Contracts of SameInts, SameBytes (package rexmillref01). -/
import Derived.Test.YtafmapcblcnccaaRefA
import Derived.WalkSmall
import Derived.BigQuiet
import Derived.Deep.QuietTactic
namespace Go.Proofs.Ytafmapcblcnccaa
open Go.RowKit Go.Shelf
set_option linter.unusedVariables false

theorem take_eq_of (za zb : List Int) (k : Nat) (ha : k < za.length) (hb : k < zb.length) (h : za.take k = zb.take k) (he : za[k]?.getD 0 = zb[k]?.getD 0) : za.take (k + 1) = zb.take (k + 1) := by
  rw [List.take_succ_eq_append_getElem ha, List.take_succ_eq_append_getElem hb, h]
  simp [ha, hb] at he
  rw [he]
theorem ne_of_at (za zb : List Int) (k : Nat) (he : ¬ za[k]?.getD 0 = zb[k]?.getD 0) : (za == zb) = false := by
  apply beq_eq_false_iff_ne.2
  rintro rfl
  exact he rfl
set_option maxHeartbeats 2000000 in
theorem sameInts_any (a : Option Addr) (la ca : Nat) (za : List Int) (b : Option Addr) (lb cb : Nat) (zb : List Int) (w : World) (hra : Row .i64 w.heap.size w (.slice a la ca) za) (hrb : Row .i64 w.heap.size w (.slice b lb cb) zb) :
    Calls Try.prog 40 #[.slice a la ca, .slice b lb cb] w fun e w' => e = .returned (.bool (za == zb)) ∧ Below w.heap.size w w' := by
  have hla := hra.len
  have hlb := hrb.len
  have h1 := hra.lencap
  have h2 := hrb.lencap
  subst hla hlb
  unfold maxLen at h1 h2
  by_cases hl : za.length = zb.length
  · have hne : ((za.length : Int) != zb.length) = false := by simp [hl]
    have Hl := Lib.hid hl; clear hl
    go_enter Try.func40, Try.ntmps40
    go_wp2
    go_loopw [5] (fun i wr => ∃ k : Nat, k ≤ za.length ∧ i = .int .i64 (k : Int) ∧ za.take k = zb.take k ∧ Below w.heap.size w wr) (fun i _ => za.length - (intOf i).toNat)
    case atStart => exact ⟨0, Nat.zero_le _, rfl, rfl, Below.refl _ _⟩
    case round =>
      obtain ⟨k, hk, rfl, ht, hB⟩ := hrel
      have Ht := Lib.hid ht; clear ht
      by_cases hlt : k < za.length
      · have hlt2 : k < zb.length := by have := Hl.out; omega
        obtain ⟨ba, oa, rfl, hpa, hca⟩ := hra.at (by omega)
        obtain ⟨bb, ob, rfl, hpb, hcb⟩ := hrb.at (by omega)
        have c1 : wr.cell? ⟨ba, oa + k, none⟩ = some (.int .i64 (za[k]?.getD 0)) := (hB.cell (p := ⟨ba, oa + k, none⟩) hpa).trans (hca k hlt)
        have c2 : wr.cell? ⟨bb, ob + k, none⟩ = some (.int .i64 (zb[k]?.getD 0)) := (hB.cell (p := ⟨bb, ob + k, none⟩) hpb).trans (hcb k hlt2)
        have hi1 : (k : Int) < za.length := by omega
        have hi2 : (k : Int) < zb.length := by omega
        clear hca hcb hra hrb
        have T := take_eq_of za zb k hlt hlt2 Ht.out
        have N := ne_of_at za zb k
        generalize za[k]?.getD 0 = x at c1 T N
        generalize zb[k]?.getD 0 = y at c2 T N
        by_cases hxy : x = y
        · have hb1 : (x != y) = false := by simp [hxy]
          have HT := Lib.hid (T hxy)
          clear T N hxy
          go_wp2
          go_quiet (fail)
          go_wp2
          go_roundw
          case rel => exact ⟨k + 1, by omega, by go_num, HT.out, by first | exact hB | exact below_drewN hB _⟩
          case measure => simp [intOf]; omega
        · have hb1 : (x != y) = true := by simp [hxy]
          have HN := Lib.hid (N hxy)
          clear T N hxy
          go_wp2
          go_quiet (fail)
          go_wp2
          go_ret
          exact ⟨by rw [HN.out]; rfl, by first | exact hB | exact below_drewN hB _⟩
      · have HN : Hid ((za == zb) = true) := Lib.hid (by
          have h3 := Ht.out
          have h4 := Hl.out
          rw [List.take_of_length_le (by omega), List.take_of_length_le (by omega)] at h3
          rw [h3]; simp)
        go_wp2
        go_ret
        exact ⟨by rw [HN.out]; rfl, hB⟩
  · have hne : ((za.length : Int) != zb.length) = true := by rw [bne_iff_ne]; omega
    have HN : Hid ((za == zb) = false) := Lib.hid (by apply beq_eq_false_iff_ne.2; rintro rfl; exact hl rfl)
    clear hl
    go_enter Try.func40, Try.ntmps40
    go_wp2
    go_ret
    exact ⟨by rw [HN.out]; rfl, Below.refl _ _⟩
set_option maxHeartbeats 2000000 in
theorem sameBytes_any (a : Option Addr) (la ca : Nat) (za : List Int) (b : Option Addr) (lb cb : Nat) (zb : List Int) (w : World) (hra : Row .u8 w.heap.size w (.slice a la ca) za) (hrb : Row .u8 w.heap.size w (.slice b lb cb) zb) :
    Calls Try.prog 25 #[.slice a la ca, .slice b lb cb] w fun e w' => e = .returned (.bool (za == zb)) ∧ Below w.heap.size w w' := by
  have hla := hra.len
  have hlb := hrb.len
  have h1 := hra.lencap
  have h2 := hrb.lencap
  subst hla hlb
  unfold maxLen at h1 h2
  by_cases hl : za.length = zb.length
  · have hne : ((za.length : Int) != zb.length) = false := by simp [hl]
    have Hl := Lib.hid hl; clear hl
    go_enter Try.func25, Try.ntmps25
    go_wp2
    go_loopw [5] (fun i wr => ∃ k : Nat, k ≤ za.length ∧ i = .int .i64 (k : Int) ∧ za.take k = zb.take k ∧ Below w.heap.size w wr) (fun i _ => za.length - (intOf i).toNat)
    case atStart => exact ⟨0, Nat.zero_le _, rfl, rfl, Below.refl _ _⟩
    case round =>
      obtain ⟨k, hk, rfl, ht, hB⟩ := hrel
      have Ht := Lib.hid ht; clear ht
      by_cases hlt : k < za.length
      · have hlt2 : k < zb.length := by have := Hl.out; omega
        obtain ⟨ba, oa, rfl, hpa, hca⟩ := hra.at (by omega)
        obtain ⟨bb, ob, rfl, hpb, hcb⟩ := hrb.at (by omega)
        have c1 : wr.cell? ⟨ba, oa + k, none⟩ = some (.int .u8 (za[k]?.getD 0)) := (hB.cell (p := ⟨ba, oa + k, none⟩) hpa).trans (hca k hlt)
        have c2 : wr.cell? ⟨bb, ob + k, none⟩ = some (.int .u8 (zb[k]?.getD 0)) := (hB.cell (p := ⟨bb, ob + k, none⟩) hpb).trans (hcb k hlt2)
        have hi1 : (k : Int) < za.length := by omega
        have hi2 : (k : Int) < zb.length := by omega
        clear hca hcb hra hrb
        have T := take_eq_of za zb k hlt hlt2 Ht.out
        have N := ne_of_at za zb k
        generalize za[k]?.getD 0 = x at c1 T N
        generalize zb[k]?.getD 0 = y at c2 T N
        by_cases hxy : x = y
        · have hb1 : (x != y) = false := by simp [hxy]
          have HT := Lib.hid (T hxy)
          clear T N hxy
          go_wp2
          go_quiet (fail)
          go_wp2
          go_roundw
          case rel => exact ⟨k + 1, by omega, by go_num, HT.out, by first | exact hB | exact below_drewN hB _⟩
          case measure => simp [intOf]; omega
        · have hb1 : (x != y) = true := by simp [hxy]
          have HN := Lib.hid (N hxy)
          clear T N hxy
          go_wp2
          go_quiet (fail)
          go_wp2
          go_ret
          exact ⟨by rw [HN.out]; rfl, by first | exact hB | exact below_drewN hB _⟩
      · have HN : Hid ((za == zb) = true) := Lib.hid (by
          have h3 := Ht.out
          have h4 := Hl.out
          rw [List.take_of_length_le (by omega), List.take_of_length_le (by omega)] at h3
          rw [h3]; simp)
        go_wp2
        go_ret
        exact ⟨by rw [HN.out]; rfl, hB⟩
  · have hne : ((za.length : Int) != zb.length) = true := by rw [bne_iff_ne]; omega
    have HN : Hid ((za == zb) = false) := Lib.hid (by apply beq_eq_false_iff_ne.2; rintro rfl; exact hl rfl)
    clear hl
    go_enter Try.func25, Try.ntmps25
    go_wp2
    go_ret
    exact ⟨by rw [HN.out]; rfl, Below.refl _ _⟩
end Go.Proofs.Ytafmapcblcnccaa
