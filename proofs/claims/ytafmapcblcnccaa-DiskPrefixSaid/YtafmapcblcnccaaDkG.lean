/- Package disk: cut. -/
import Derived.Test.YtafmapcblcnccaaDkF
namespace Go.Proofs.Ytafmapcblcnccaa
open Go.RowKit Go.Shelf
set_option linter.unusedVariables false

def cutF (f : Option (Int × List Int × Nat)) (n : Int) (k : Nat) : Option (Int × List Int × Nat) :=
  match f with
  | none => none
  | some (n', bs, d) => if n = n' then (if k = 0 then none else some (n', bs.take k, min d k)) else some (n', bs, d)
def DS.cut (s : DS) (n : Int) (k : Nat) : DS := { s with f := cutF s.f n k }
theorem owns_take {W : World} {base : Nat} {e : TypeId} {a : Option Addr} {L c k : Nat} {bs : List Int} (h : W.ownsRow base e 1 (.slice a L c) L (bs.map (Value.int .u8))) (hL : L = bs.length) (hk : k ≤ L) (hk0 : 0 < k) : W.ownsRow base e 1 (.slice a k c) (bs.take k).length ((bs.take k).map (Value.int .u8)) := by
  have hl : (bs.take k).length = k := by rw [List.length_take]; omega
  refine ⟨by simp, ?_⟩
  rcases h.2 with ⟨h2, h3⟩ | ⟨g, cap, cur, h2, hg, hh, h3, h4, h5, h6⟩
  · omega
  · injection h2 with e1 _ e2
    subst e1 e2
    refine .inr ⟨g, c, cur, by rw [hl], hg, hh, by omega, h4, h5, ?_⟩
    rw [hl, Nat.mul_one, List.map_take, ← h6, Nat.mul_one, List.take_take]
    congr 1
    omega
/-- What cut leaves, before the file is looked at. -/
def CutPost (w : World) (p m : Nat) (s : DS) (v : Value) (n : Int) (k : Nat) (x y : Value) (w' : World) : Prop :=
  MapL w' m (if k = 0 then delL (entD v s.f) n else putL (entD v s.f) n (.agg #[x, y])) ∧ Cel w' p 74 #[.int .i64 s.room, .map (some m), .bool s.off, .int .i64 s.plan] ∧ OnlyP (fun i => i = m) w w'
set_option maxRecDepth 100000 in
set_option maxHeartbeats 4000000 in
theorem cutD_core {n0 p m : Nat} {s : DS} {v : Value} (w : World) (h : Dk w n0 p m s v) (n : Int) (a : Option Addr) (L c k : Nat) (d : Int) (hl : (lkL (entD v s.f) n).getD (.agg #[.slice none 0 0, .int .i64 0]) = .agg #[.slice a L c, .int .i64 d]) (hL : L ≤ c) (hc : c ≤ maxLen) (hk : k ≤ L) :
    Calls Try.prog 53 #[.pointer (some ⟨p, 0, none⟩), .int .i64 n, .int .i64 (k : Int)] w fun e w' => e = .returned (.tuple #[]) ∧ CutPost w p m s v n k (.slice a k c) (.int .i64 (min d (k : Int))) w' := by
  have c1 := h.box.cell 1
  have hlk := h.map.look (P := Try.prog) (t := 72) (k := 3) Try.underlying72 Try.underlying3 _ (zeroF w) n false
  simp only [Bool.false_eq_true, if_false] at hlk
  rw [hl] at hlk
  have hpm := h.pm
  have hpw := h.box.lt
  have hmw := h.map.lt
  obtain ⟨X, hX⟩ : ∃ X, X = w.alloc (.cells #[.slice a L c, .int .i64 d] 79) := ⟨_, rfl⟩
  have bX : Below w.heap.size w X := by rw [hX]; exact laidB (Below.refl _ _) _
  have CX : Cel X w.heap.size 79 #[.slice a L c, .int .i64 d] := by rw [hX]; exact Cel.new _ _ _
  have x0 := CX.cell 0
  have x1 := CX.cell 1
  have xf0 := CX.free 0
  have xf1 := CX.free 1
  have HC := Lib.hid (h.box.step bX)
  have HM := Lib.hid (h.map.step bX)
  have hk0 : (0 : Int) ≤ (k : Int) := by omega
  have hkc : k ≤ c := by omega
  have hkL : (k : Int) ≤ (c : Int) := by omega
  have key : ∀ y : Int, y = min d (k : Int) → ∀ Z, Z = (X.setCell ⟨w.heap.size, 0, none⟩ (.slice a k c)).setCell ⟨w.heap.size, 1, none⟩ (.int .i64 y) → Calls Try.prog 51 #[.pointer (some ⟨p, 0, none⟩), .int .i64 n, .agg #[.slice a k c, .int .i64 y]] Z fun e w' => e = .returned (.tuple #[]) ∧ CutPost w p m s v n k (.slice a k c) (.int .i64 (min d (k : Int))) w' := by
    rintro y hy Z hZ
    rw [← hy]
    have hcZ : Cel Z p 74 #[.int .i64 s.room, .map (some m), .bool s.off, .int .i64 s.plan] := by rw [hZ]; exact (HC.out.far (by dsimp only; omega) _).far (by dsimp only; omega) _
    have oZ : OnlyP (fun i => i = w.heap.size) X Z := by rw [hZ]; exact (OnlyP.set (fun i => i = w.heap.size) _ _ _ rfl).trans (OnlyP.set (fun i => i = w.heap.size) _ _ _ rfl)
    have hmZ := HM.out.only oZ (by omega)
    refine (put_any s.room s.off s.plan n a k c y Z hcZ hmZ).mono ?_
    rintro e W4 ⟨rfl, hm4, o4⟩
    refine ⟨rfl, hm4, hcZ.only o4 hpm, ((OnlyP.of_below bX).trans' oZ (fun i e => .inr (by omega))).trans o4⟩
  have KEY := Lib.hid key
  clear hl h key
  go_enter Try.func53, Try.ntmps53
  go_upto_region 1 with (fail)
  rw [← hX]
  clear hX hlk c1
  go_wp2_with fail
  all_goals
    refine (KEY.out _ (by omega) _ rfl).mono ?_
    rintro e W4 ⟨rfl, hP⟩
    dsimp only
    go_wp2_with fail
    go_end0
    exact ⟨rfl, hP⟩
set_option maxHeartbeats 4000000 in
theorem cutD_any {n0 p m : Nat} {s : DS} {v : Value} (w : World) (h : Dk w n0 p m s v) (n : Int) (k : Nat) (hk : k ≤ (bytesAt s.f n).length) :
    Calls Try.prog 53 #[.pointer (some ⟨p, 0, none⟩), .int .i64 n, .int .i64 (k : Int)] w fun e w' => e = .returned (.tuple #[]) ∧ DkAfter w w' n0 p m (s.cut n k) v := by
  have hrow := h.row
  unfold DS.cut
  cases hf : s.f with
  | none =>
    have hl : (lkL (entD v s.f) n).getD (.agg #[.slice none 0 0, .int .i64 0]) = .agg #[.slice none 0 0, .int .i64 0] := by rw [hf]; rfl
    rw [hf] at hk
    have hk' : k = 0 := by simpa [bytesAt] using hk
    subst hk'
    refine (cutD_core w h n none 0 0 0 0 hl (Nat.le_refl _) (Nat.zero_le _) (Nat.le_refl _)).mono ?_
    rintro e w' ⟨rfl, g1, g2, g3⟩
    rw [if_pos rfl, hf] at g1
    rw [hf] at hrow
    exact ⟨rfl, v, ⟨g2, g1, hrow, h.room0, h.room1, h.plan0, h.plan1, h.basep, h.basem⟩, g3.mono (fun i e => .inr (.inl e)), .inl rfl⟩
  | some x =>
    obtain ⟨n', bs, d⟩ := x
    rw [hf] at hrow hk
    obtain ⟨a0, c0, rfl⟩ := hrow.slice
    have hq : ∀ w', OnlyP (fun i => i = m) w w' → ∀ b, (Value.slice a0 bs.length c0).ownBlock = some b → w'.heap[b]? = w.heap[b]? := fun w' g b e => g.block b (owns_lt' hrow.1 e) (fun h1 => h.vm (by rw [e, h1]))
    by_cases hn : n = n'
    · subst hn
      have eb : bytesAt (some (n, bs, d)) n = bs := by simp [bytesAt]
      rw [eb] at hk
      have hl : (lkL (entD (.slice a0 bs.length c0) s.f) n).getD (.agg #[.slice none 0 0, .int .i64 0]) = .agg #[.slice a0 bs.length c0, .int .i64 (d : Int)] := by rw [hf]; simp [entD, lkL]
      have hlc := (row_of_owns hrow.1).1.lencap
      refine (cutD_core w h n a0 bs.length c0 k (d : Int) hl hlc.1 hlc.2 hk).mono ?_
      rintro e w' ⟨rfl, g1, g2, g3⟩
      refine ⟨rfl, ?_⟩
      by_cases hk0 : k = 0
      · subst hk0
        rw [if_pos rfl, hf] at g1
        have g1' : MapL w' m [] := by simpa [entD, delL] using g1
        have e1 : cutF (some (n, bs, d)) n 0 = none := by simp [cutF]
        rw [e1]
        exact ⟨.slice none 0 0, ⟨g2, g1', rfl, h.room0, h.room1, h.plan0, h.plan1, h.basep, h.basem⟩, g3.mono (fun i e => .inr (.inl e)), .inr (.inl rfl)⟩
      · rw [if_neg hk0, hf] at g1
        have e1 : cutF (some (n, bs, d)) n k = some (n, bs.take k, min d k) := by simp [cutF, hk0]
        rw [e1]
        have hmin : min (d : Int) (k : Int) = ((min d k : Nat) : Int) := by omega
        have g1' : MapL w' m (entD (.slice a0 k c0) (some (n, bs.take k, min d k))) := by
          rw [hmin] at g1
          simpa [entD, putL] using g1
        have hln : (bs.take k).length = k := by rw [List.length_take]; omega
        have hd := hrow.2.2.1
        refine ⟨.slice a0 k c0, ⟨g2, g1', ⟨owns_take (owns_same hrow.1 (hq w' g3)) rfl hk (by omega), by omega, by rw [hln]; omega, by rw [hln]; have := hrow.2.2.2.1; omega, fun x hx => hrow.2.2.2.2 x (List.mem_of_mem_take hx)⟩, h.room0, h.room1, h.plan0, h.plan1, h.basep, h.basem⟩, g3.mono (fun i e => .inr (.inl e)), ?_⟩
        cases a0 with
        | none => exact .inr (.inl rfl)
        | some x => exact .inl rfl
    · have eb : bytesAt (some (n', bs, d)) n = [] := by simp [bytesAt, hn]
      rw [eb] at hk
      have hk' : k = 0 := by simpa using hk
      subst hk'
      have hl : (lkL (entD (.slice a0 bs.length c0) s.f) n).getD (.agg #[.slice none 0 0, .int .i64 0]) = .agg #[.slice none 0 0, .int .i64 0] := by rw [hf]; simp [entD, lkL, hn]
      refine (cutD_core w h n none 0 0 0 0 hl (Nat.le_refl _) (Nat.zero_le _) (Nat.le_refl _)).mono ?_
      rintro e w' ⟨rfl, g1, g2, g3⟩
      rw [if_pos rfl, hf] at g1
      have e1 : cutF (some (n', bs, d)) n 0 = some (n', bs, d) := by simp [cutF, hn]
      rw [e1]
      have g1' : MapL w' m (entD (.slice a0 bs.length c0) (some (n', bs, d))) := by simpa [entD, delL, hn] using g1
      exact ⟨rfl, _, ⟨g2, g1', ⟨owns_same hrow.1 (hq w' g3), hrow.2⟩, h.room0, h.room1, h.plan0, h.plan1, h.basep, h.basem⟩, g3.mono (fun i e => .inr (.inl e)), .inl rfl⟩
end Go.Proofs.Ytafmapcblcnccaa
