/- The documented example of package wire. -/
import Derived.Test.YtpoldhblddlcpaaWire2
import Derived.Test.YtpoldhblddlcpaaWireR2
namespace Go.Proofs.Ytpoldhblddlcpaa
open Go.RowKit Go.Shelf
set_option linter.unusedVariables false

theorem two_bytes (w : World) (x y : Int) : Row .u8 (w.alloc (.cells #[.int .u8 x, .int .u8 y] 5)).heap.size (w.alloc (.cells #[.int .u8 x, .int .u8 y] 5)) (.slice (some ⟨w.heap.size, 0, none⟩) 2 2) [x, y] := by
  simpa using row_new (k := .u8) w 5 [x, y] (by simp [maxLen]) 2 rfl _ rfl
def exB : List Int := [172, 2, 1, 2, 97, 98]
theorem exB_rng : ∀ x ∈ exB, 0 ≤ x ∧ x < 256 := by decide
theorem exB_eq : ([] ++ vint (300 : Int).toNat ++ sint (-1)) ++ (vint (ByteArray.mk #[97, 98]).size ++ bytesI (ByteArray.mk #[97, 98])) = exB := by decide +kernel
theorem exB_row (w : World) : Row .u8 (w.alloc (.cells #[.int .u8 172, .int .u8 2, .int .u8 1, .int .u8 2, .int .u8 97, .int .u8 98] 5)).heap.size (w.alloc (.cells #[.int .u8 172, .int .u8 2, .int .u8 1, .int .u8 2, .int .u8 97, .int .u8 98] 5)) (.slice (some ⟨w.heap.size, 0, none⟩) 6 6) exB := by
  have h := row_new (k := .u8) w 5 exB (by simp [maxLen, exB]) 6 rfl #[.int .u8 172, .int .u8 2, .int .u8 1, .int .u8 2, .int .u8 97, .int .u8 98] rfl
  have e : (w.alloc (.cells #[.int .u8 172, .int .u8 2, .int .u8 1, .int .u8 2, .int .u8 97, .int .u8 98] 5)).heap.size = w.heap.size + 1 := by simp
  rw [e]
  exact h
theorem ex1 : rUint exB 0 = (300, [1, 2, 97, 98], 0) := by decide +kernel
theorem ex2 : rInt [1, 2, 97, 98] 0 = (-1, [2, 97, 98], 0) := by decide +kernel
theorem ex3 : rRaw [2, 97, 98] 0 = ([97, 98], [], 0) := by decide +kernel
theorem ex4 : rInt [128, 0] 0 = (0, [], 2) := by decide +kernel

set_option maxHeartbeats 4000000 in
theorem lives2_any (w : World) : Calls Try.prog 18 #[] w fun e W' => e = .returned (.bool true) ∧ Below w.heap.size w W' := by
  go_enter Try.func18, Try.ntmps18
  go_wp2_with fail
  have b0 := laidB (Below.refl w.heap.size w) (.cells #[.slice none 0 0] 32)
  have hw := Wr.new w
  refine (wuint_int w.heap.size w.heap.size [] 300 _ hw (Nat.le_refl _) (by simp) (by decide) (by decide)).mono ?_
  rintro e w1 ⟨rfl, hw1, hb⟩
  replace b0 := b0.trans hb; clear hb hw
  dsimp only
  go_wp2_with fail
  refine (wint_any w.heap.size w.heap.size _ (-1) _ hw1 (Nat.le_refl _) (by decide +kernel) (by decide)).mono ?_
  rintro e w2 ⟨rfl, hw2, hb⟩
  replace b0 := b0.trans hb; clear hb hw1
  dsimp only
  go_wp2_with fail
  refine (wtext_any w.heap.size w.heap.size _ ⟨#[97, 98]⟩ _ hw2 (Nat.le_refl _) (by decide +kernel) (by decide)).mono ?_
  rintro e w3 ⟨rfl, hw3, hb⟩
  replace b0 := b0.trans hb; clear hb hw2
  rw [exB_eq] at hw3
  dsimp only
  go_wp2_with fail
  have hl : exB.length ≤ 10000000 := by decide
  have HL := Lib.hid hl; clear hl
  refine (done_any w.heap.size w.heap.size exB _ hw3 HL.out).mono ?_
  rintro e w4 ⟨a, cap, rfl, _, hrow, hb⟩
  replace b0 := b0.trans (hb.mono b0.size); clear hb hw3
  dsimp only
  go_wp2_with fail
  refine (read_any _ exB _ hrow HL.out).mono ?_
  rintro e w5 ⟨r, dr, rfl, hr1, hr2, hR, hb⟩
  have b4 := hb; clear hb
  have hdr := (hR.dlt).resolve_left (by decide)
  have hrl := hR.lt
  dsimp only
  go_wp2_with fail
  have bA := laidB (Below.refl w5.heap.size w5) (.cells #[.int .u8 128, .int .u8 0] 5)
  refine (read_any _ [128, 0] _ (two_bytes w5 128 0) (by decide)).mono ?_
  rintro e w6 ⟨s, ds, rfl, hs1, hs2, hS, hb⟩
  have hs3 : w5.heap.size ≤ s := Nat.le_trans bA.size hs1
  have hs4 : w5.heap.size ≤ ds := Nat.le_trans bA.size hs2
  have hsl := hS.lt
  replace bA := stepB bA hb; clear hb hs1 hs2
  have hR6 := hR.below hrl (.inr hdr) bA
  have b6 := stepB b4 bA
  dsimp only
  go_wp2_with fail
  refine (uint_any r dr exB 0 _ hR6 exB_rng).mono ?_
  rw [ex1]
  rintro e w7 ⟨rfl, hR7, ho⟩
  have hS7 := hS.keep ho (by omega) (by omega)
  have b7 := b6.trans (only_below ho hr1 hR6.lt)
  have hl7 := Nat.le_trans (Nat.le_trans (Nat.le_of_lt hrl) bA.size) ho.size
  have hs7 := hS7.lt
  dsimp only at hR7 ⊢
  clear hR6 b6 ho hR
  go_wp2_with fail
  refine (int_any r dr [1, 2, 97, 98] 0 _ hR7 (by decide)).mono ?_
  rw [ex2]
  rintro e w8 ⟨rfl, hR8, ho⟩
  have hS8 := hS7.keep ho (by omega) (by omega)
  have b8 := b7.trans (only_below ho hr1 hR7.lt)
  dsimp only at hR8 ⊢
  clear hR7 b7 ho
  go_wp2_with fail
  refine (text_any r dr [2, 97, 98] 0 _ hR8 (by decide) (by decide)).mono ?_
  rw [ex3]
  rintro e w9 ⟨rfl, hR9, ho⟩
  have hS9 := hS8.keep ho (by omega) (by omega)
  have b9 := b8.trans (only_below ho hr1 hR8.lt)
  rw [show strOfNums [97, 98] = ByteArray.mk #[97, 98] from rfl]
  dsimp only at hR9 ⊢
  clear hR8 b8 ho
  go_wp2_with fail
  refine (int_any s ds [128, 0] 0 _ hS9 (by decide)).mono ?_
  rw [ex4]
  rintro e w10 ⟨rfl, hS10, ho⟩
  have hR10 := hR9.keep ho (by omega) (by omega)
  have b10 := b9.trans (only_below ho (by omega) hS9.lt)
  dsimp only at hS10 ⊢
  clear hS9 hR9 b9 ho
  go_wp2_with fail
  have bB := laidB (Below.refl w10.heap.size w10) (.cells #[.int .u8 172, .int .u8 2, .int .u8 1, .int .u8 2, .int .u8 97, .int .u8 98] 5)
  have hrow10 : Row .u8 (w10.alloc (.cells #[.int .u8 172, .int .u8 2, .int .u8 1, .int .u8 2, .int .u8 97, .int .u8 98] 5)).heap.size _ _ _ := rowB (rowB hrow b10) bB
  refine (sameBytes_any a _ _ exB _ _ _ exB _ hrow10 (exB_row w10)).mono ?_
  rintro e w11 ⟨rfl, hb⟩
  rw [show (exB == exB) = true from by decide]
  replace bB := stepB bB hb; clear hb
  have hR11 := hR10.below hR10.lt hR10.dlt bB
  have hS11 := hS10.below hS10.lt hS10.dlt bB
  have b11 := stepB b10 bB
  dsimp only
  go_wp2_with fail
  refine (end_any r dr [] 0 _ hR11).mono ?_
  rintro e w12 ⟨rfl, rfl⟩
  rw [show rEnd [] 0 = 0 from by decide]
  dsimp only
  go_wp2_with fail
  refine (end_any s ds [] 2 _ hS11).mono ?_
  rintro e w12 ⟨rfl, rfl⟩
  rw [show rEnd [] 2 = 2 from by decide]
  dsimp only
  go_wp2_with fail
  go_ret
  exact ⟨rfl, stepB b0 b11⟩
end Go.Proofs.Ytpoldhblddlcpaa
