/- Contracts of the reference: One, Encode. -/
import Derived.Test.YtnfelphemdchpaaTxtRt
import Derived.Test.YtnfelphemdchpaaTxtV
import Derived.Test.YtnfelphemdchpaaTxtM
namespace Go.Proofs.Ytnfelphemdchpaa
open Go.RowKit Go.Shelf
set_option linter.unusedVariables false

theorem runeL_0 (s : Int) (h0 : 0 ≤ s) (h : s < 128) : runeL s = [s] := by
  have : kindA s = 0 := by unfold kindA; rw [if_pos h]
  unfold runeL
  rw [this]
  simp [leadA, tailL]
theorem runeL_1 (s : Int) (h0 : 128 ≤ s) (h : s < 2048) : runeL s = [192 + s / 64, 128 + s % 64] := by
  have : kindA s = 1 := by unfold kindA; rw [if_neg (by omega), if_pos h]
  unfold runeL
  rw [this]
  simp [leadA, tailL]
theorem runeL_2 (s : Int) (h0 : 2048 ≤ s) (h : s < 65536) : runeL s = [224 + s / 4096, 128 + s / 64 % 64, 128 + s % 64] := by
  have : kindA s = 2 := by unfold kindA; rw [if_neg (by omega), if_neg (by omega), if_pos h]
  unfold runeL
  rw [this]
  simp [leadA, tailL]
theorem runeL_3 (s : Int) (h0 : 65536 ≤ s) : runeL s = [240 + s / 262144, 128 + s / 4096 % 64, 128 + s / 64 % 64, 128 + s % 64] := by
  have : kindA s = 3 := by unfold kindA; rw [if_neg (by omega), if_neg (by omega), if_neg (by omega)]
  unfold runeL
  rw [this]
  simp [leadA, tailL]
theorem u8_in (x : Int) (h0 : 0 ≤ x) (h1 : x < 256) : IntKind.u8.wrap x = x := by rw [IntKind.wrap_u8]; omega
def OnePost (w : World) (l : List Int) (e : Ending) (w' : World) : Prop := e = .returned (.slice (some ⟨w.heap.size, 0, none⟩) l.length l.length) ∧ w' = w.alloc (.cells (l.map (Value.int .u8)).toArray 5)
set_option maxHeartbeats 2000000 in
theorem refOne_any (s : Int) (runes : Bool) (w : World) (hs : isSymB s runes = true) : Calls Try.prog 46 #[.int .i64 s, .bool runes] w (OnePost w (oneL runes s)) := by
  cases runes
  · have hx : 0 ≤ s ∧ s ≤ 255 := by unfold isSymB at hs; simpa using hs
    obtain ⟨h0, h1⟩ := hx
    clear hs
    go_enter Try.func46, Try.ntmps46
    go_wp2_with fail
    go_ret
    exact ⟨rfl, rfl⟩
  · obtain ⟨h0, h1⟩ := sym_rng s hs
    clear hs
    have ho : oneL true s = runeL s := rfl
    rw [ho]
    clear ho
    by_cases c0 : s < 128
    · rw [runeL_0 s h0 c0]
      go_enter Try.func46, Try.ntmps46
      go_wp2_with fail
      go_ret
      exact ⟨rfl, rfl⟩
    · by_cases c1 : s < 2048
      · rw [runeL_1 s (by omega) c1]
        have a1 : 0 ≤ s / 64 := by omega
        have a2 : s / 64 ≤ 31 := by omega
        go_enter Try.func46, Try.ntmps46
        go_wp2_with fail
        go_ret
        exact ⟨rfl, rfl⟩
      · by_cases c2 : s < 65536
        · rw [runeL_2 s (by omega) c2]
          have a1 : 0 ≤ s / 64 := by omega
          have a2 : s / 64 ≤ 1023 := by omega
          have a3 : 0 ≤ s / 4096 := by omega
          have a4 : s / 4096 ≤ 15 := by omega
          go_enter Try.func46, Try.ntmps46
          go_wp2_with fail
          go_ret
          exact ⟨rfl, rfl⟩
        · rw [runeL_3 s (by omega)]
          have a1 : 0 ≤ s / 64 := by omega
          have a2 : s / 64 ≤ 17408 := by omega
          have a3 : 0 ≤ s / 4096 := by omega
          have a4 : s / 4096 ≤ 272 := by omega
          have a5 : 0 ≤ s / 262144 := by omega
          have a6 : s / 262144 ≤ 4 := by omega
          go_enter Try.func46, Try.ntmps46
          go_wp2_with fail
          go_ret
          exact ⟨rfl, rfl⟩
theorem onePost_row {w : World} {l : List Int} {e : Ending} {w' : World} (h : OnePost w l e w') (hl : l.length ≤ 1000) : Row .u8 w'.heap.size w' (.slice (some ⟨w.heap.size, 0, none⟩) l.length l.length) l ∧ Below w.heap.size w w' := by
  obtain ⟨_, rfl⟩ := h
  exact ⟨litRow w 5 l hl _ rfl _ rfl, laidB (Below.refl _ _) _⟩
set_option maxRecDepth 100000 in
set_option maxHeartbeats 2000000 in
theorem refEncode_any (a : Option Addr) (cap : Nat) (l : List Int) (runes : Bool) (w : World) (hr : Row .i64 w.heap.size w (.slice a l.length cap) l) (hl : l.length ≤ 100000) :
    Calls Try.prog 14 #[.slice a l.length cap, .bool runes] w (EncPost w (encM runes l) (validI l runes)) := by
  obtain ⟨i0, hi, hz0, hz1, hz2⟩ := info_parts info_cb
  have hlc := hr.lencap
  unfold maxLen at hlc
  have hM : encM runes l = if validI l runes = 0 then encL runes l else [] := rfl
  by_cases hv : validI l runes = 0
  · obtain ⟨hlm, hsy⟩ := validI_0 hv
    rw [if_pos hv] at hM
    have HM := Lib.hid hM
    have HSY := Lib.hid hsy
    have hlen : encL runes l = encL runes (l.take l.length) := by rw [List.take_of_length_le (Nat.le_refl _)]
    have HLEN := Lib.hid hlen
    have hrv := refValid_any a cap l runes w hr
    rw [hv] at hrv ⊢
    have HRV := Lib.hid hrv
    clear hlen hM hsy hv hrv
    go_enter Try.func14, Try.ntmps14
    go_wp2_with fail
    refine HRV.out.mono ?_
    rintro e w1 ⟨rfl, hw1⟩
    subst hw1
    dsimp only
    go_wp2_with fail
    go_loopw [7, 8] (fun v i wr => ∃ k : Nat, k ≤ l.length ∧ i = .int .i64 (k : Int) ∧ wr.ownsRow w1.heap.size 5 1 v (encL runes (l.take k)).length ((encL runes (l.take k)).map (Value.int .u8)) ∧ Below w1.heap.size w1 wr) (fun _ i _ => l.length - (intOf i).toNat)
    case atStart => exact ⟨0, by omega, rfl, World.ownsRow_nil _ _ _ _, Below.refl _ _⟩
    case round =>
      obtain ⟨k, hk, rfl, hown, hB⟩ := hrel
      have hbs := hB.size
      by_cases hlt : k < l.length
      · obtain ⟨b, off, rfl, c0⟩ := row_cell (rowB hr hB) k hlt
        have hi1 : (k : Int) < l.length := by omega
        have hi0 : (0 : Int) ≤ (k : Int) := by omega
        have hsy := HSY.out k hlt
        have htk := encL_take runes l k hlt
        have hel := encL_len runes (l.take k)
        rw [List.length_take] at hel
        have HTK := Lib.hid htk
        have hE : (encL runes (l.take k)).length ≤ 262144 := by omega
        clear htk hel
        generalize hx : l[k]?.getD 0 = x at *
        have HX := Lib.hid hx
        clear hx
        generalize encL runes (l.take k) = E at *
        have hone := refOne_any x runes wr hsy
        have hol := (oneL_len runes x).2
        have HONE := Lib.hid hone
        clear hone hsy
        generalize oneL runes x = O at *
        go_wp2_with fail
        refine HONE.out.mono ?_
        rintro e w2 hp
        have hrow := onePost_row hp (by omega)
        obtain ⟨he, hw2⟩ := hp
        subst he
        obtain ⟨hrow, hb2⟩ := hrow
        have hown2 := owns_kept_below hown hb2
        have hb3 := stepB hB hb2
        clear hw2
        dsimp only
        go_wp2_with (at_builtin; refine wpList_append_row rfl _ _ 26 rfl w1.heap.size 5 i0 .u8 _ 1 Try.underlying26 hi hz0 hz1 hz2 rfl _ _ E rfl hown2 _ O _ rfl hrow (by unfold maxLen; omega) (by omega) (by have := hb3.size; omega) ?_; intro v6 w6 hown6 hgrow6 hb6)
        have hb7 := hb3.trans hb6
        clear hgrow6
        go_roundw
        case rel => exact ⟨k + 1, by omega, by go_num, by rw [HTK.out]; exact hown6, hb7⟩
        case measure => simp [intOf]; omega
      · have hkl : k = l.length := by omega
        have HOW : Hid (wr.ownsRow w1.heap.size 5 1 u7 (encM runes l).length ((encM runes l).map (Value.int .u8))) := Lib.hid (by rw [HM.out, HLEN.out, ← hkl]; exact hown)
        clear hkl hown
        go_wp2_with fail
        go_ret2
        exact ⟨_, rfl, HOW.out, hB⟩
  · rw [if_neg hv] at hM
    have hne : (validI l runes != 0) = true := by simpa using hv
    have HM := Lib.hid hM
    have hrv := refValid_any a cap l runes w hr
    clear hM hv
    generalize validI l runes = C at *
    have HRV := Lib.hid hrv
    clear hrv
    go_enter Try.func14, Try.ntmps14
    go_wp2_with fail
    refine HRV.out.mono ?_
    rintro e w1 ⟨rfl, hw1⟩
    subst hw1
    dsimp only
    go_wp2_with fail
    go_ret2
    exact ⟨.slice none 0 0, rfl, by rw [HM.out]; exact World.ownsRow_nil _ _ _ _, Below.refl _ _⟩
end Go.Proofs.Ytnfelphemdchpaa
