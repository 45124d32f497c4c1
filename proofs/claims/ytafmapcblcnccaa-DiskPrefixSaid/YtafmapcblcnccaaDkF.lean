/- Package disk: Read, New. -/
import Derived.Test.YtafmapcblcnccaaDkE
import Derived.Test.YtafmapcblcnccaaClone
import Derived.Carry
namespace Go.Proofs.Ytafmapcblcnccaa
open Go.RowKit Go.Shelf
set_option linter.unusedVariables false

def bytesAt (f : Option (Int × List Int × Nat)) (n : Int) : List Int :=
  match f with
  | none => []
  | some (n', bs, _) => if n = n' then bs else []
def DS.rd (s : DS) (n : Int) : List Int × Int := if ¬ (0 ≤ n ∧ n < 64) then ([], 1) else if s.off = true then ([], 19) else (bytesAt s.f n, 0)
theorem look_at {W : World} {n0 p m : Nat} {s : DS} {v : Value} (h : Dk W n0 p m s v) (n : Int) : ∃ a c d, (lkL (entD v s.f) n).getD (.agg #[.slice none 0 0, .int .i64 0]) = .agg #[.slice a (bytesAt s.f n).length c, .int .i64 (d : Int)] ∧ Row .u8 W.heap.size W (.slice a (bytesAt s.f n).length c) (bytesAt s.f n) := by
  have hrow := h.row
  cases hf : s.f with
  | none => exact ⟨none, 0, (0 : Nat), rfl, nil_row _ _ _⟩
  | some x =>
    obtain ⟨n', bs, d⟩ := x
    rw [hf] at hrow
    obtain ⟨a, c, rfl⟩ := hrow.slice
    by_cases hn : n = n'
    · subst hn
      have e : bytesAt (some (n, bs, d)) n = bs := by simp [bytesAt]
      rw [e]
      exact ⟨a, c, (d : Nat), by simp [entD, lkL], (row_of_owns hrow.1).1⟩
    · have e : bytesAt (some (n', bs, d)) n = [] := by simp [bytesAt, hn]
      rw [e]
      exact ⟨none, 0, (0 : Nat), by simp [entD, lkL, hn], nil_row _ _ _⟩
/-- What Read leaves. -/
def RdPost (w : World) (zs : List Int) (err : Int) (e : Ending) (w' : World) : Prop := ∃ a c, e = .returned (.tuple #[.slice a zs.length c, .int .i64 err]) ∧ Row .u8 w'.heap.size w' (.slice a zs.length c) zs ∧ Below w.heap.size w w'
set_option maxRecDepth 100000 in
set_option maxHeartbeats 4000000 in
theorem readD_any {n0 p m : Nat} {s : DS} {v : Value} (w : World) (h : Dk w n0 p m s v) (n : Int) (hlen : lenD s.f ≤ 10000000) :
    Calls Try.prog 22 #[.pointer (some ⟨p, 0, none⟩), .int .i64 n] w fun e w' => RdPost w (s.rd n).1 (s.rd n).2 e w' := by
  have HIS := isFile_any n w
  by_cases hn : 0 ≤ n ∧ n < 64
  · rw [decide_eq_true hn.1, decide_eq_true hn.2] at HIS
    have c2 := h.box.cell 2
    by_cases hoff : s.off = true
    · have e1 : s.rd n = ([], 19) := by unfold DS.rd; rw [if_neg (fun h => h hn), if_pos hoff]
      rw [e1]
      rw [hoff] at c2
      have HI := Lib.hid HIS
      clear HIS e1 hoff h hn
      go_enter Try.func22, Try.ntmps22
      go_wp2_with fail
      refine HI.out.mono ?_
      rintro e w1 ⟨rfl, hw1'⟩
      subst hw1'
      dsimp only [Bool.and_self]
      go_wp2_with fail
      go_ret2
      exact ⟨none, 0, rfl, nil_row _ _ _, Below.refl _ _⟩
    · have hoff' : s.off = false := by simpa using hoff
      have e1 : s.rd n = (bytesAt s.f n, 0) := by unfold DS.rd; rw [if_neg (fun h => h hn), if_neg hoff]
      rw [e1]
      rw [hoff'] at c2
      have c1 := h.box.cell 1
      obtain ⟨a, c, d, hl, hr⟩ := look_at h n
      have hlk := h.map.look (P := Try.prog) (t := 72) (k := 3) Try.underlying72 Try.underlying3 _ (zeroF w) n false
      simp only [Bool.false_eq_true, if_false] at hlk
      rw [hl] at hlk
      have hbl : (bytesAt s.f n).length ≤ 10000000 := by
        cases hf : s.f with
        | none => simp [bytesAt]
        | some x =>
          obtain ⟨n', bs, d'⟩ := x
          rw [hf] at hlen
          have : lenD (some (n', bs, d')) = bs.length := rfl
          by_cases hn' : n = n'
          · simp [bytesAt, hn']; omega
          · simp [bytesAt, hn']
      have hfd : (Instr.field 79 (.agg #[.slice a (bytesAt s.f n).length c, .int .i64 d]) 0).run Try.prog w = .ok (.slice a (bytesAt s.f n).length c) w := by kernel_rfl
      have HCL := Lib.hid (cloneBytes_any _ _ _ w hr hbl)
      have HI := Lib.hid HIS
      clear hl hr hbl HIS e1 hoff hoff' h hn hlen
      generalize bytesAt s.f n = zs at *
      go_enter Try.func22, Try.ntmps22
      go_wp2_with fail
      refine HI.out.mono ?_
      rintro e w1 ⟨rfl, hw1'⟩
      subst hw1'
      dsimp only [Bool.and_self]
      go_wp2_with fail
      refine HCL.out.mono ?_
      rintro e w2 ⟨a2, c2', rfl, -, hr2, b2⟩
      dsimp only
      go_wp2_with fail
      go_ret2
      exact ⟨a2, c2', rfl, hr2, b2⟩
  · have e1 : s.rd n = ([], 1) := by unfold DS.rd; rw [if_pos hn]
    rw [e1]
    have e2 : (decide (0 ≤ n) && decide (n < 64)) = false := by
      rw [Bool.and_eq_false_iff]
      by_cases h0 : 0 ≤ n
      · right; simp; omega
      · left; simp; omega
    rw [e2] at HIS
    have HI := Lib.hid HIS
    clear HIS e1 e2 h hn
    go_enter Try.func22, Try.ntmps22
    go_wp2_with fail
    refine HI.out.mono ?_
    rintro e w1 ⟨rfl, hw1'⟩
    subst hw1'
    dsimp only
    go_wp2_with fail
    go_ret2
    exact ⟨none, 0, rfl, nil_row _ _ _, Below.refl _ _⟩
def newDS (room : Int) : DS := ⟨room, -1, false, none⟩
set_option maxHeartbeats 4000000 in
theorem newD_ok (room : Int) (h0 : 0 ≤ room) (h1 : room ≤ 16777216) (w : World) :
    Calls Try.prog 13 #[.int .i64 room] w fun e w' => e = .returned (.tuple #[.pointer (some ⟨w.heap.size + 1, 0, none⟩), .int .i64 0]) ∧ Dk w' w.heap.size (w.heap.size + 1) w.heap.size (newDS room) (.slice none 0 0) ∧ Below w.heap.size w w' := by
  have hM := MapL.new w
  have hb := laidB (Below.refl w.heap.size w) (.map #[] 0)
  have n0 : ¬ room < 0 := by omega
  have n1 : ¬ 16777216 < room := by omega
  obtain ⟨X, hX⟩ : ∃ X, X = w.alloc (.map #[] 0) := ⟨_, rfl⟩
  have sX : X.heap.size = w.heap.size + 1 := by rw [hX]; simp
  rw [← hX] at hM hb
  have fin : ∀ Y, Y = X.alloc (.cells #[.int .i64 room, .map (some w.heap.size), .bool false, .int .i64 (-1)] 74) → Dk Y w.heap.size (w.heap.size + 1) w.heap.size (newDS room) (.slice none 0 0) ∧ Below w.heap.size w Y := by
    rintro Y rfl
    have hC := Cel.new X 74 #[.int .i64 room, .map (some w.heap.size), .bool false, .int .i64 (-1)]
    rw [sX] at hC
    exact ⟨⟨hC, hM.step (laidB (Below.refl _ _) _), rfl, h0, h1, by show (-1 : Int) ≤ -1; omega, by show (-1 : Int) ≤ _; omega, by omega, Nat.le_refl _⟩, laidB hb _⟩
  have FIN := Lib.hid fin
  have hmk : (Instr.makeMap 72 none).run Try.prog w = .ok (.map (some w.heap.size)) X := by rw [hX]; exact run_makeMap _ _
  clear fin hM hb hX
  go_enter Try.func13, Try.ntmps13
  go_wp2_with fail
  go_ret2
  exact ⟨rfl, FIN.out _ rfl⟩
end Go.Proofs.Ytafmapcblcnccaa
