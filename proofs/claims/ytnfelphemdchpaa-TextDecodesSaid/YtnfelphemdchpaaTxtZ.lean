/- Contracts of package text: Encode. -/
import Derived.Test.YtnfelphemdchpaaTxtY
import Derived.Test.YtnfelphemdchpaaTxtN
namespace Go.Proofs.Ytnfelphemdchpaa
open Go.RowKit Go.Shelf
set_option linter.unusedVariables false

/-- The bytes of a symbol, of a text, and what Encode answers. -/
def oneL (runes : Bool) (s : Int) : List Int := if runes then runeL s else [s]
def encL (runes : Bool) (l : List Int) : List Int := (l.map (oneL runes)).flatten
def encM (runes : Bool) (l : List Int) : List Int := if validI l runes = 0 then encL runes l else []
theorem tailL_len (s : Int) (j : Nat) : (tailL s j).length = j := by
  induction j with
  | zero => rfl
  | succ j ih => simp [tailL, ih]
theorem kindA_lt (s : Int) : kindA s < 4 := by unfold kindA; split <;> (try split) <;> (try split) <;> decide
theorem oneL_len (runes : Bool) (s : Int) : 1 ≤ (oneL runes s).length ∧ (oneL runes s).length ≤ 4 := by
  have := kindA_lt s
  cases runes
  · show 1 ≤ 1 ∧ 1 ≤ 4
    omega
  · show 1 ≤ (runeL s).length ∧ (runeL s).length ≤ 4
    unfold runeL
    rw [List.length_cons, tailL_len]
    omega
theorem encL_take (runes : Bool) (l : List Int) (k : Nat) (h : k < l.length) : encL runes (l.take (k + 1)) = encL runes (l.take k) ++ oneL runes (l[k]?.getD 0) := by
  unfold encL
  rw [List.take_succ_eq_append_getElem h, List.map_append, List.flatten_append]
  simp [h]
theorem encL_len (runes : Bool) (l : List Int) : (encL runes l).length ≤ 4 * l.length := by
  unfold encL
  induction l with
  | nil => simp
  | cons x l ih =>
    have := (oneL_len runes x).2
    rw [List.map_cons, List.flatten_cons, List.length_append, List.length_cons]
    omega
theorem encL_app (runes : Bool) (a b : List Int) : encL runes (a ++ b) = encL runes a ++ encL runes b := by
  unfold encL
  rw [List.map_append, List.flatten_append]
theorem validI_0 {l : List Int} {runes : Bool} (h : validI l runes = 0) : l.length ≤ 65536 ∧ ∀ k, k < l.length → isSymB (l[k]?.getD 0) runes = true := by
  unfold validI at h
  split at h
  · cases h
  · split at h
    · cases h
    · rename_i h1 h2
      refine ⟨by omega, fun k hk => ?_⟩
      have h3 : l.any (fun x => !isSymB x runes) = false := by simpa using h2
      have h4 := (List.any_eq_false.1 h3) l[k] (List.getElem_mem hk)
      rw [List.getElem?_eq_getElem hk, Option.getD_some]
      simpa using h4
def EncPost (w : World) (M : List Int) (C : Int) (e : Ending) (w' : World) : Prop := ∃ v, e = .returned (.tuple #[v, .int .i64 C]) ∧ w'.ownsRow w.heap.size 5 1 v M.length (M.map (Value.int .u8)) ∧ Below w.heap.size w w'
set_option maxRecDepth 100000 in
set_option maxHeartbeats 2000000 in
theorem encode_any (a : Option Addr) (cap : Nat) (l : List Int) (runes : Bool) (w : World) (hr : Row .i64 w.heap.size w (.slice a l.length cap) l) (hl : l.length ≤ 100000) :
    Calls Try.prog 13 #[.slice a l.length cap, .bool runes] w (EncPost w (encM runes l) (validI l runes)) := by
  obtain ⟨i0, hi, hz0, hz1, hz2⟩ := info_parts info_cb
  have hlc := hr.lencap
  unfold maxLen at hlc
  go_enter Try.func13, Try.ntmps13
  go_wp2_with fail
  refine (valid_any a cap l runes w hr).mono ?_
  rintro e w1 ⟨rfl, b1⟩
  have hr1 := rowB hr b1
  have hM : encM runes l = if validI l runes = 0 then encL runes l else [] := rfl
  by_cases hv : validI l runes = 0
  · obtain ⟨hlm, hsy⟩ := validI_0 hv
    rw [if_pos hv] at hM
    have HM := Lib.hid hM
    have HV := Lib.hid hv
    have HSY := Lib.hid hsy
    generalize validI l runes = C at *
    subst hv
    clear hM hsy
    have hlen : encL runes l = encL runes (l.take l.length) := by rw [List.take_of_length_le (Nat.le_refl _)]
    have HLEN := Lib.hid hlen
    clear hlen
    dsimp only
    go_wp2_with (at_make; refine wpList_make_own _ rfl _ _ 26 rfl w.heap.size 5 i0 (.int .u8 0) 1 Try.underlying26 hi hz0 hz1 .i64 .i64 (l.length : Int) l.length rfl rfl rfl (by rw [hz2]; omega) (by unfold maxLen; omega) (by have := b1.size; omega) ?_; intro w2 hown2 hgrow2)
    have b2 : Below w.heap.size w w2 := b1.grown hgrow2 b1.size (fun k e => by cases e)
    clear hgrow2
    go_loopw [7, 21] (fun v i wr => ∃ k : Nat, k ≤ l.length ∧ i = .int .i64 (k : Int) ∧ wr.ownsRow w.heap.size 5 1 v (encL runes (l.take k)).length ((encL runes (l.take k)).map (Value.int .u8)) ∧ Below w.heap.size w wr) (fun _ i _ => l.length - (intOf i).toNat)
    case atStart => exact ⟨0, by omega, rfl, by simpa [encL] using hown2, b2⟩
    case round =>
      obtain ⟨k, hk, rfl, hown, hB⟩ := hrel
      clear hown2 b2
      have hbs := hB.size
      by_cases hlt : k < l.length
      · obtain ⟨b, off, rfl, c0⟩ := row_cell (rowB hr hB) k hlt
        have hi1 : (k : Int) < l.length := by omega
        have hi0 : (0 : Int) ≤ (k : Int) := by omega
        have hsy := HSY.out k hlt
        have htk := encL_take runes l k hlt
        have hel := encL_len runes (l.take k)
        rw [List.length_take] at hel
        have HTK := Lib.hid htk
        have hE : (encL runes (l.take k)).length ≤ 262144 := by omega
        clear htk hel
        generalize hx : l[k]?.getD 0 = x at *
        have HX := Lib.hid hx
        clear hx
        generalize encL runes (l.take k) = E at *
        cases runes
        · have hx0 : 0 ≤ x ∧ x ≤ 255 := by unfold isSymB at hsy; simpa using hsy
          obtain ⟨hx0, hx1⟩ := hx0
          clear hsy
          go_wp2_with (at_builtin; refine wpList_append_own _ rfl _ _ 26 rfl w.heap.size 5 i0 (.int .u8 0) 1 1 Try.underlying26 hi hz0 hz1 hz2 rfl (by decide) _ _ _ rfl (hown.alloc _) ⟨wr.heap.size, 0, none⟩ 1 1 [.int .u8 x] rfl rfl (cell_one_at _ _ _ _ (by simp)) (by simp [Value.oneCell']) (by unfold maxLen; omega) (by omega) (by simp; omega) ?_; intro v6 w6 hown6 hgrow6 _)
          have hb6 : Below w.heap.size w w6 := (hB.alloc hbs _).grown hgrow6 (by simp; omega) (fun g e => own_base hown e)
          clear hgrow6
          go_roundw
          case rel => exact ⟨k + 1, by omega, by go_num, by rw [HTK.out, List.length_append, List.map_append]; exact hown6, hb6⟩
          case measure => simp [intOf]; omega
        · have hx0 : 0 ≤ x ∧ x ≤ 1114111 := by unfold isSymB at hsy; simp at hsy; omega
          obtain ⟨hx0, hx1⟩ := hx0
          have hap := appendRune_any u7 E w.heap.size x hx0 hx1 wr hown hbs (by omega)
          have HAP := Lib.hid hap
          clear hap hsy
          go_wp2_with fail
          refine HAP.out.mono ?_
          rintro e w6 ⟨v6, rfl, hown6, hb6⟩
          dsimp only
          go_wp2_with fail
          go_roundw
          case rel => exact ⟨k + 1, by omega, by go_num, by rw [HTK.out]; exact hown6, hB.trans hb6⟩
          case measure => simp [intOf]; omega
      · have hkl : k = l.length := by omega
        have HOW : Hid (wr.ownsRow w.heap.size 5 1 u7 (encM runes l).length ((encM runes l).map (Value.int .u8))) := Lib.hid (by rw [HM.out, HLEN.out, ← hkl]; exact hown)
        clear hkl hown
        go_wp2_with fail
        go_ret2
        exact ⟨_, rfl, HOW.out, hB⟩
  · rw [if_neg hv] at hM
    have hne : (validI l runes != 0) = true := by simpa using hv
    have HM := Lib.hid hM
    clear hM hv
    generalize validI l runes = C at *
    dsimp only
    go_wp2_with fail
    go_ret2
    exact ⟨.slice none 0 0, rfl, by rw [HM.out]; exact World.ownsRow_nil _ _ _ _, b1⟩
end Go.Proofs.Ytnfelphemdchpaa
