/- Package disk: Crash, plainly; Crash of an empty disk. -/
import Derived.Test.YtafmapcblcnccaaDkO
namespace Go.Proofs.Ytafmapcblcnccaa
open Go.RowKit Go.Shelf
set_option linter.unusedVariables false

/-- How many loose bytes survive. -/
def surv (keep : List Int) (L d : Nat) : Nat := if 0 < keep.length then (min (max (keep[0]?.getD 0) 0) ((L : Int) - (d : Int))).toNat else 0
/-- Bytes with a bit inverted. -/
def turnB (bs : List Int) (b : Nat) : List Int := bs.set (b / 8) (bits .xor .u8 (bs[b / 8]?.getD 0) (128 / 2 ^ min (b % 8) 8))
/-- The bit that is inverted. -/
def bitAt (flip : Int) (k d : Nat) : Nat := 8 * d + (flip % (8 * (k : Int))).toNat
/-- The bytes behind a crash. -/
def crashB (bs : List Int) (d : Nat) (keep : List Int) (flip : Int) : List Int :=
  if 0 ≤ flip ∧ 0 < surv keep bs.length d then turnB (bs.take (d + surv keep bs.length d)) (bitAt flip (surv keep bs.length d) d) else bs.take (d + surv keep bs.length d)
def crashF (f : Option (Int × List Int × Nat)) (keep : List Int) (flip : Int) : Option (Int × List Int × Nat) :=
  match f with
  | none => none
  | some (n, bs, d) => if d + surv keep bs.length d = 0 then none else some (n, crashB bs d keep flip, (crashB bs d keep flip).length)
def DS.crash (s : DS) (keep : List Int) (flip : Int) : DS := { s with f := crashF s.f keep flip, off := false, plan := -1 }
theorem surv_le (keep : List Int) (L d : Nat) (h : d ≤ L) : surv keep L d ≤ L - d := by
  unfold surv
  split
  · omega
  · omega
theorem turn_len (bs : List Int) (b : Nat) : (turnB bs b).length = bs.length := by unfold turnB; simp
theorem xor8_rng' (a b : Int) : 0 ≤ bits .xor .u8 a b ∧ bits .xor .u8 a b < 256 := by
  unfold bits
  simp only [IntKind.wrap, IntKind.bits, IntKind.signed]
  constructor <;> simp <;> omega
/-- What stands behind the loops: settle is left, and the power goes on. -/
theorem crash_fin {n0 p m : Nat} {s : DS} {v : Value} {w W1 W2 : World} (C : DS) (h : Dk W1 n0 p m C v) (hC : C.room = s.room) (h2 : Dk W2 n0 p m { C with f := settleF C.f } v) (F : Option (Int × List Int × Nat)) (hF : settleF C.f = F) :
    Dk ((W2.setCell ⟨p, 2, none⟩ (.bool false)).setCell ⟨p, 3, none⟩ (.int .i64 (-1))) n0 p m { s with f := F, off := false, plan := -1 } v ∧ OnlyP (fun k => k = p) W2 ((W2.setCell ⟨p, 2, none⟩ (.bool false)).setCell ⟨p, 3, none⟩ (.int .i64 (-1))) := by
  have ho : OnlyP (fun k => k = p) W2 ((W2.setCell ⟨p, 2, none⟩ (.bool false)).setCell ⟨p, 3, none⟩ (.int .i64 (-1))) := (OnlyP.set (fun k => k = p) _ _ _ rfl).trans (OnlyP.set (fun k => k = p) _ _ _ rfl)
  refine ⟨h2.setBox (s' := { s with f := F, off := false, plan := -1 }) ?_ ho hF.symm (by rw [← hC]; exact h.room0) (by rw [← hC]; exact h.room1) (by show (-1 : Int) ≤ -1; omega) (by show (-1 : Int) ≤ _; omega), ho⟩
  have := (h2.box.set 2 (.bool false)).set 3 (.int .i64 (-1))
  rw [show ({ C with f := settleF C.f } : DS).room = s.room from hC] at this
  exact this
set_option maxRecDepth 100000 in
set_option maxHeartbeats 4000000 in
theorem crash_none {n0 p m : Nat} {s : DS} {v : Value} (w : World) (h : Dk w n0 p m s v) (hf : s.f = none) (ak : Option Addr) (ck : Nat) (keep : List Int) (flip : Int) :
    Calls Try.prog 32 #[.pointer (some ⟨p, 0, none⟩), .slice ak keep.length ck, .int .i64 flip] w fun e w' => e = .returned (.tuple #[]) ∧ DkAfter w w' n0 p m (s.crash keep flip) v := by
  have HF := Lib.hid (filesD_any w h (by rw [hf]; trivial))
  have HN := Lib.hid (show numsD s.f = [] by rw [hf]; rfl)
  have HH := Lib.hid h
  have hk : keyD s.f := by rw [hf]; trivial
  have HK := Lib.hid hk
  have hE : settleF s.f = crashF s.f keep flip := by rw [hf]; rfl
  have HE := Lib.hid hE
  clear h hf hk hE
  go_enter Try.func32, Try.ntmps32
  go_wp2_with fail
  refine HF.out.mono ?_
  rintro e w1 ⟨a, c, rfl, -, b1⟩
  rw [HN.out]
  dsimp only [List.length_nil]
  go_wp2_with fail
  go_loopw [7, 18] (fun al i wr => al = .int .i64 0 ∧ i = .int .i64 0 ∧ wr = w1) (fun _ _ _ => 0)
  case atStart => exact ⟨rfl, rfl, rfl⟩
  case round =>
    obtain ⟨rfl, rfl, rfl⟩ := hrel
    rcases Decidable.em (0 ≤ flip) with h9 | h9
    all_goals
      go_wp2_with fail
      have h1 := HH.out.step b1
      refine (settle_any wr h1 HK.out).mono ?_
      rintro e w2 ⟨rfl, h2, o2⟩
      dsimp only
      have FIN := Lib.hid (crash_fin (w := w) (s := s) s h1 rfl h2 _ HE.out)
      have c2 := h2.box.cell 2
      have c3 := h2.box.cell 3
      have f2 := h2.box.free 2
      have f3 := h2.box.free 3
      have O2 := Lib.hid ((OnlyP.of_below (q := DkB p m v) b1).trans (o2.mono (fun i e => .inr (.inl e))))
      clear h1 h2 o2
      go_wp2_with fail
      go_end0
      exact ⟨rfl, v, FIN.out.1, O2.out.trans (FIN.out.2.mono (fun i e => .inl e)), .inl rfl⟩
end Go.Proofs.Ytafmapcblcnccaa
