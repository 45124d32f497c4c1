/- Contracts: Decode, and the documented examples of package text. -/
import Derived.Test.YtnfelphemdchpaaTxtT
import Derived.Test.YtnfelphemdchpaaTxtG
namespace Go.Proofs.Ytnfelphemdchpaa
open Go.RowKit Go.Shelf
set_option linter.unusedVariables false

theorem decode_any (a : Option Addr) (cap : Nat) (l : List Int) (runes : Bool) (w : World) (hr : Row .u8 w.heap.size w (.slice a l.length cap) l) (hl : l.length ≤ 100000) (hz : ∀ i : Nat, 0 ≤ l[i]?.getD 0 ∧ l[i]?.getD 0 < 256) :
    Calls Try.prog 20 #[.slice a l.length cap, .bool runes] w fun e w' => ∃ a2 c2, e = .returned (.tuple #[.slice a2 (decodeM runes l).1.length c2, .int .i64 (decodeM runes l).2]) ∧ w'.ownsRow w.heap.size 3 1 (.slice a2 (decodeM runes l).1.length c2) (decodeM runes l).1.length ((decodeM runes l).1.map (Value.int .i64)) ∧ Row .i64 w'.heap.size w' (.slice a2 (decodeM runes l).1.length c2) (decodeM runes l).1 ∧ Below w.heap.size w w' := by
  refine (callsIn_wide.1 (decode_in a cap l runes w hr hl hz)).mono ?_
  rintro e w' ⟨v, rfl, hown, hb⟩
  have hrow := (row_of_owns hown).1
  obtain ⟨a2, c2, rfl⟩ := row_slice hrow
  exact ⟨a2, c2, rfl, owns_base' hown (by omega), hrow, hb⟩
/-- A literal slice. -/
theorem litRow {k : IntKind} (w : World) (e : TypeId) (zs : List Int) (hm : zs.length ≤ 1000) (n : Nat) (hn : n = zs.length) (c : Array Value) (hc : c = (zs.map (Value.int k)).toArray) : Row k (w.alloc (.cells c e)).heap.size (w.alloc (.cells c e)) (.slice (some ⟨w.heap.size, 0, none⟩) n n) zs := by
  rw [World.size_alloc]
  exact row_new w e zs (by unfold maxLen; omega) n hn c hc
theorem dec1 : decodeM true [195, 164, 97] = ([228, 97], 0) := by decide +kernel
theorem dec2 : decodeM true [192, 128] = ([], 9) := by decide +kernel
theorem dec3 : decodeM true [237, 160, 128] = ([], 9) := by decide +kernel
theorem byRng (l : List Int) (h : l.all (fun x => decide (0 ≤ x ∧ x < 256)) = true) : ∀ i : Nat, 0 ≤ l[i]?.getD 0 ∧ l[i]?.getD 0 < 256 := by
  intro i
  cases e : l[i]? with
  | none => simp
  | some x =>
    have := (List.all_eq_true.1 h) x (List.mem_of_getElem? e)
    simpa using this
theorem spl1 : spliceL [1, 2, 3] 1 1 [7, 8] = [1, 7, 8, 3] := by decide +kernel
theorem spl2 : checkI [1, 2, 3] 1 1 [7, 8] = 0 := by decide +kernel
theorem und1 : undoM [1, 2, 3] 1 1 [7, 8] = (1, 2, [2]) := by decide +kernel
/-- Two literal slices, one after the other. -/
theorem litRow2 (w : World) (e : TypeId) (zs ys : List Int) (hm : zs.length ≤ 1000) (hm2 : ys.length ≤ 1000) (n m : Nat) (hn : n = zs.length) (hn2 : m = ys.length) (c d : Array Value) (hc : c = (zs.map (Value.int .i64)).toArray) (hd : d = (ys.map (Value.int .i64)).toArray) :
    Row .i64 ((w.alloc (.cells c e)).alloc (.cells d e)).heap.size ((w.alloc (.cells c e)).alloc (.cells d e)) (.slice (some ⟨w.heap.size, 0, none⟩) n n) zs ∧ Row .i64 ((w.alloc (.cells c e)).alloc (.cells d e)).heap.size ((w.alloc (.cells c e)).alloc (.cells d e)) (.slice (some ⟨w.heap.size + 1, 0, none⟩) m m) ys := by
  have h1 := litRow (k := .i64) w e zs hm n hn c hc
  have h2 := litRow (k := .i64) (w.alloc (.cells c e)) e ys hm2 m hn2 d hd
  have e1 : (w.alloc (.cells c e)).heap.size = w.heap.size + 1 := by simp
  rw [e1] at h2
  exact ⟨rowB h1 (laidB (Below.refl _ _) _), h2⟩
theorem ass4 (k : Nat) (h : k < 4) : assertB 4 [97, 32, 98] (k : Int) = true := by
  match k, h with
  | 0, _ => decide +kernel
  | 1, _ => decide +kernel
  | 2, _ => decide +kernel
  | 3, _ => decide +kernel
set_option maxRecDepth 100000 in
set_option maxHeartbeats 4000000 in
theorem lives4_any (w : World) : Calls Try.prog 17 #[] w fun e W' => e = .returned (.bool true) ∧ Below w.heap.size w W' := by
  go_enter Try.func17, Try.ntmps17
  go_wp2_with fail
  have hr := litRow (k := .u8) w 5 [195, 164, 97] (by decide) 3 rfl #[.int .u8 195, .int .u8 164, .int .u8 97] rfl
  refine (decode_any _ _ [195, 164, 97] true _ hr (by decide) (byRng _ (by decide))).mono ?_
  rw [dec1]
  rintro e w1 ⟨a1, c1, rfl, _, hA, hb⟩
  have b1 := stepB (laidB (Below.refl w.heap.size w) (.cells #[.int .u8 195, .int .u8 164, .int .u8 97] 5)) hb
  clear hb hr
  dsimp only
  go_wp2_with fail
  have hr := litRow (k := .u8) w1 5 [192, 128] (by decide) 2 rfl #[.int .u8 192, .int .u8 128] rfl
  refine (decode_any _ _ [192, 128] true _ hr (by decide) (byRng _ (by decide))).mono ?_
  rw [dec2]
  rintro e w2 ⟨a2, c2, rfl, _, _, hb⟩
  have b2 := stepB (laidB (Below.refl w1.heap.size w1) (.cells #[.int .u8 192, .int .u8 128] 5)) hb
  have hA2 := rowB hA b2
  replace b1 := stepB b1 b2
  clear hb hr b2 hA
  dsimp only
  go_wp2_with fail
  have hr := litRow (k := .u8) w2 5 [237, 160, 128] (by decide) 3 rfl #[.int .u8 237, .int .u8 160, .int .u8 128] rfl
  refine (decode_any _ _ [237, 160, 128] true _ hr (by decide) (byRng _ (by decide))).mono ?_
  rw [dec3]
  rintro e w3 ⟨a3, c3, rfl, _, _, hb⟩
  have b2 := stepB (laidB (Below.refl w2.heap.size w2) (.cells #[.int .u8 237, .int .u8 160, .int .u8 128] 5)) hb
  have hA3 := rowB hA2 b2
  replace b1 := stepB b1 b2
  clear hb hr b2 hA2
  dsimp only
  go_wp2_with fail
  obtain ⟨hx, hy⟩ := litRow2 w3 3 [1, 2, 3] [7, 8] (by decide) (by decide) 3 2 rfl rfl #[.int .i64 1, .int .i64 2, .int .i64 3] #[.int .i64 7, .int .i64 8] rfl rfl
  refine (splice_any _ _ [1, 2, 3] 1 1 _ _ [7, 8] _ hx hy (by decide) (by decide) (by decide) (by decide)).mono ?_
  rintro e w4 ⟨v4, rfl, hown, hb⟩
  rw [spl1] at hown
  rw [spl2]
  have hB4 := (row_of_owns hown).1
  obtain ⟨a4, c4, rfl⟩ := row_slice hB4
  have b2 := stepB (laidB (laidB (Below.refl w3.heap.size w3) (.cells #[.int .i64 1, .int .i64 2, .int .i64 3] 3)) (.cells #[.int .i64 7, .int .i64 8] 3)) hb
  have hA4 := rowB hA3 b2
  replace b1 := stepB b1 b2
  clear hb hx hy b2 hA3 hown
  dsimp only
  go_wp2_with fail
  obtain ⟨hx, hy⟩ := litRow2 w4 3 [1, 2, 3] [7, 8] (by decide) (by decide) 3 2 rfl rfl #[.int .i64 1, .int .i64 2, .int .i64 3] #[.int .i64 7, .int .i64 8] rfl rfl
  refine (undo_any _ _ [1, 2, 3] 1 1 _ _ [7, 8] _ hx hy (by decide) (by decide) (by decide) (by decide)).mono ?_
  rw [und1, spl2]
  rintro e w5 ⟨a5, c5, rfl, hU5, hb⟩
  have b2 := stepB (laidB (laidB (Below.refl w4.heap.size w4) (.cells #[.int .i64 1, .int .i64 2, .int .i64 3] 3)) (.cells #[.int .i64 7, .int .i64 8] 3)) hb
  have hA5 := rowB hA4 b2
  have hB5 := rowB hB4 b2
  replace b1 := stepB b1 b2
  clear hb hx hy b2 hA4 hB4
  dsimp only at hU5 ⊢
  go_wp2_with fail
  have C5 := Cel.new w5 43 #[.int .i64 1, .int .i64 2, .slice a5 1 c5]
  go_loopw [11] (fun i wr => ∃ k : Nat, k ≤ 4 ∧ i = .int .i64 (k : Int) ∧ Below (w5.alloc (.cells #[.int .i64 1, .int .i64 2, .slice a5 1 c5] 43)).heap.size (w5.alloc (.cells #[.int .i64 1, .int .i64 2, .slice a5 1 c5] 43)) wr) (fun i _ => 4 - (intOf i).toNat)
  case atStart => exact ⟨0, by omega, rfl, Below.refl _ _⟩
  case round =>
    obtain ⟨k, hk, rfl, hB⟩ := hrel
    by_cases hlt : k < 4
    · have hr := litRow (k := .i64) wr 3 [97, 32, 98] (by decide) 3 rfl #[.int .i64 97, .int .i64 32, .int .i64 98] rfl
      have HA := Lib.hid (ass4 k hlt)
      go_wp2_with fail
      refine (assert_any 4 _ _ [97, 32, 98] (k : Int) _ hr).mono ?_
      rintro e W ⟨rfl, rfl⟩
      rw [HA.out]
      dsimp only
      go_wp2_with fail
      go_roundw
      case rel => exact ⟨k + 1, by omega, by go_num, stepB hB (laidB (Below.refl _ _) _)⟩
      case measure => simp [intOf]; omega
    · have hlaid := laidB (Below.refl w5.heap.size w5) (.cells #[.int .i64 1, .int .i64 2, .slice a5 1 c5] 43)
      have b2 := stepB hlaid hB
      have hA6 := rowB hA5 b2
      have hB6 := rowB hB5 b2
      have hU6 := rowB hU5 b2
      have C6 := C5.step hB
      replace b1 := stepB b1 b2
      clear b2 hlaid hA5 hB5 hU5 C5 hB
      go_wp2_with fail
      have hr := litRow (k := .i64) wr 3 [228, 97] (by decide) 2 rfl #[.int .i64 228, .int .i64 97] rfl
      have hl := laidB (Below.refl wr.heap.size wr) (.cells #[.int .i64 228, .int .i64 97] 3)
      refine (sameInts_any _ _ _ [228, 97] _ _ _ [228, 97] _ (rowB hA6 hl) hr).mono ?_
      rintro e w7 ⟨rfl, hb⟩
      have b2 := stepB hl hb
      have hB7 := rowB hB6 b2
      have hU7 := rowB hU6 b2
      have C7 := C6.step b2
      replace b1 := stepB b1 b2
      clear b2 hl hr hb hA6 hB6 hU6 C6
      rw [show (([228, 97] : List Int) == [228, 97]) = true from by decide]
      dsimp only
      go_wp2_with fail
      have hr := litRow (k := .i64) w7 3 [1, 7, 8, 3] (by decide) 4 rfl #[.int .i64 1, .int .i64 7, .int .i64 8, .int .i64 3] rfl
      have hl := laidB (Below.refl w7.heap.size w7) (.cells #[.int .i64 1, .int .i64 7, .int .i64 8, .int .i64 3] 3)
      refine (sameInts_any _ _ _ [1, 7, 8, 3] _ _ _ [1, 7, 8, 3] _ (rowB hB7 hl) hr).mono ?_
      rintro e w8 ⟨rfl, hb⟩
      have b2 := stepB hl hb
      have hU8 := rowB hU7 b2
      have C8 := C7.step b2
      replace b1 := stepB b1 b2
      clear b2 hl hr hb hB7 hU7 C7
      rw [show (([1, 7, 8, 3] : List Int) == [1, 7, 8, 3]) = true from by decide]
      dsimp only
      have x0 : w8.cell? ⟨w5.heap.size, 0, none⟩ = some (.int .i64 1) := C8.cell 0
      have x1 : w8.cell? ⟨w5.heap.size, 1, none⟩ = some (.int .i64 2) := C8.cell 1
      have x2 : w8.cell? ⟨w5.heap.size, 2, none⟩ = some (.slice a5 1 c5) := C8.cell 2
      go_wp2_with fail
      have hr := litRow (k := .i64) w8 3 [2] (by decide) 1 rfl #[.int .i64 2] rfl
      have hl := laidB (Below.refl w8.heap.size w8) (.cells #[.int .i64 2] 3)
      refine (sameEdit_self 1 2 _ _ _ _ [2] _ (rowB hU8 hl) hr).mono ?_
      rintro e w9 ⟨rfl, hb⟩
      have b2 := stepB hl hb
      replace b1 := stepB b1 b2
      dsimp only
      go_wp2_with fail
      go_ret
      exact ⟨rfl, b1⟩
end Go.Proofs.Ytnfelphemdchpaa
