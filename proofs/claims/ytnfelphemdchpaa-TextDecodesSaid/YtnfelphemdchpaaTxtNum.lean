/- Contracts of the reference: number, begins; plain facts on both. -/
import Derived.Test.YtnfelphemdchpaaTxtRm
import Derived.Test.YtnfelphemdchpaaTxtOne
namespace Go.Proofs.Ytnfelphemdchpaa
open Go.RowKit Go.Shelf
set_option linter.unusedVariables false

def numF (s : Int) (cs : List Int) : Int := cs.foldl (fun s c => 64 * s + c - 128) s
/-- What n bytes spell as one number. -/
def numM (b : List Int) (n : Nat) : Int := numF (b[0]?.getD 0 - leadA (n - 1)) ((b.drop 1).take (n - 1))
theorem numF_tail (s : Int) (j : Nat) : numF (s / 64 ^ j) (tailL s j) = s := by
  induction j with
  | zero => simp [tailL, numF]
  | succ j ih =>
    have h1 := div64 s j
    show numF (64 * (s / 64 ^ (j + 1)) + (128 + s / 64 ^ j % 64) - 128) (tailL s j) = s
    rw [h1, show 64 * (s / 64 ^ j / 64) + (128 + s / 64 ^ j % 64) - 128 = s / 64 ^ j from by omega]
    exact ih
theorem numM_rune (b : List Int) (s : Int) (h : b.take (runeL s).length = runeL s) : numM b (runeL s).length = s := by
  have hl := runeL_length s
  rw [hl] at h ⊢
  unfold numM
  have hb : b ≠ [] := by rintro rfl; have := congrArg List.length h; rw [hl] at this; simp at this; omega
  obtain ⟨x, t, rfl⟩ := List.exists_cons_of_ne_nil hb
  rw [show 1 + kindA s = kindA s + 1 from by omega, List.take_succ_cons] at h
  unfold runeL at h
  have h1 := List.cons.inj h
  rw [show 1 + kindA s - 1 = kindA s from by omega]
  show numF (x - leadA (kindA s)) (t.take (kindA s)) = s
  rw [h1.2, h1.1, show leadA (kindA s) + s / 64 ^ kindA s - leadA (kindA s) = s / 64 ^ kindA s from by omega]
  exact numF_tail s _
theorem numM_one (r : Bool) (b : List Int) (s : Int) (h : b.take (oneL r s).length = oneL r s) : numM b (oneL r s).length = s := by
  cases r
  · have h' : b.take 1 = [s] := h
    cases b with
    | nil => simp at h'
    | cons x t =>
      have : x = s := by simpa using h'
      subst this
      show numF (x - 0) (t.take 0) = x
      simp [numF]
  · exact numM_rune b s h
/-- Is the number that n bytes spell a symbol, and do they spell it as it is encoded? -/
def condB (r : Bool) (b : List Int) (n : Nat) : Bool := isSymB (numM b n) r && (decide (b.take (oneL r (numM b n)).length = oneL r (numM b n)) && decide ((oneL r (numM b n)).length = n))
theorem cond_of (r : Bool) (b : List Int) (n : Nat) (h : condB r b n = true) : oneI r b = (numM b n, (n : Int)) := by
  unfold condB at h
  simp only [Bool.and_eq_true, decide_eq_true_eq] at h
  obtain ⟨h1, h2, h3⟩ := h
  have e := oneI_enc r (numM b n) (b.drop (oneL r (numM b n)).length) h1
  have hb : oneL r (numM b n) ++ b.drop (oneL r (numM b n)).length = b := by
    conv => lhs; lhs; rw [← h2]
    rw [List.take_append_drop]
  rw [hb, h3] at e
  exact e
theorem cond_at (r : Bool) (b : List Int) (hl : 0 < b.length) (hz : ∀ i : Nat, 0 ≤ b[i]?.getD 0 ∧ b[i]?.getD 0 < 256) (h0 : (oneI r b).2 ≠ 0) : ∃ m : Nat, (oneI r b).2 = (m : Int) ∧ 1 ≤ m ∧ m ≤ 4 ∧ m ≤ b.length ∧ condB r b m = true := by
  obtain ⟨h1, h2⟩ := oneI_back r b hl hz h0
  have h3 := (oneI_len r b hl).resolve_left h0
  obtain ⟨m, hm⟩ := Int.eq_ofNat_of_zero_le (show 0 ≤ (oneI r b).2 from by omega)
  rw [hm] at h2 h3 h0
  rw [Int.toNat_natCast] at h2
  have hlen : (oneL r (oneI r b).1).length = m := by rw [← h2, List.length_take]; omega
  have h4 := oneL_len r (oneI r b).1
  have hn := numM_one r b (oneI r b).1 (by rw [hlen]; exact h2)
  rw [hlen] at hn
  refine ⟨m, hm, by omega, by omega, by omega, ?_⟩
  unfold condB
  rw [hn, h1, hlen, h2]
  simp
theorem numF_snoc (s x : Int) (l : List Int) : numF s (l ++ [x]) = 64 * numF s l + x - 128 := by unfold numF; rw [List.foldl_append]; rfl
theorem numF_rng (s : Int) (l : List Int) (h : ∀ i : Nat, 0 ≤ l[i]?.getD 0 ∧ l[i]?.getD 0 < 256) (hl : l.length ≤ 3) (hs : -256 ≤ s ∧ s ≤ 256) : -1000000000 ≤ numF s l ∧ numF s l ≤ 1000000000 := by
  have h0 := h 0
  have h1 := h 1
  have h2 := h 2
  match l, hl with
  | [], _ => simp [numF]; omega
  | [a], _ => simp [numF] at h0 ⊢; omega
  | [a, b], _ => simp [numF] at h0 h1 ⊢; omega
  | [a, b, c], _ => simp [numF] at h0 h1 h2 ⊢; omega
  | _ :: _ :: _ :: _ :: _, hl => simp at hl
theorem step_take (b : List Int) (j : Nat) (h1 : 1 ≤ j) (h2 : j < b.length) : (b.drop 1).take j = (b.drop 1).take (j - 1) ++ [b[j]?.getD 0] := by
  conv => lhs; rw [show j = (j - 1) + 1 from by omega]
  rw [List.take_succ_eq_append_getElem (by simp; omega)]
  congr 2
  rw [List.getElem_drop, List.getElem?_eq_getElem (by omega), Option.getD_some]
  congr 1
  omega
set_option maxHeartbeats 2000000 in
theorem refNumber_1 (a : Option Addr) (cap : Nat) (b : List Int) (w : World) (hr : Row .u8 w.heap.size w (.slice a b.length cap) b) (hl : b.length ≤ 100000) (hz : ∀ i : Nat, 0 ≤ b[i]?.getD 0 ∧ b[i]?.getD 0 < 256) (hk : 1 ≤ b.length) :
    Calls Try.prog 51 #[.slice a b.length cap, .int .i64 1] w fun e w' => e = .returned (.int .i64 (numM b 1)) ∧ w' = w := by
  obtain ⟨bk, off, rfl, hp, hc⟩ := hr.at (by omega)
  have c0 := hc 0 (by omega)
  rw [Nat.add_zero] at c0
  have hz0 := hz 0
  have HZ := Lib.hid hz
  have HC := Lib.hid hc
  generalize hs0 : b[0]?.getD 0 - 0 = s0
  have HNM : Hid (numM b 1 = numF s0 ((b.drop 1).take 0)) := Lib.hid (by rw [← hs0]; rfl)
  clear hz hc hr
  have hb0 : (0 : Int) < (b.length : Int) := by omega
  have hst : ∀ j : Nat, 1 ≤ j → j < 1 → (b.drop 1).take j = (b.drop 1).take (j - 1) ++ [b[j]?.getD 0] := fun j h1 h2 => step_take b j h1 (by omega)
  have HST := Lib.hid hst
  clear hst
  generalize b[0]?.getD 0 = x0 at *
  generalize numM b 1 = R at *
  have hsr : -256 ≤ s0 ∧ s0 ≤ 256 := by omega
  have HS0 := Lib.hid hs0
  clear hs0
  go_enter Try.func51, Try.ntmps51
  go_wp2_with fail
  go_loop [5, 6] (fun v i => ∃ j : Nat, 1 ≤ j ∧ j ≤ 1 ∧ i = .int .i64 (j : Int) ∧ v = .int .i64 (numF s0 ((b.drop 1).take (j - 1)))) (fun _ i => 1 - (intOf i).toNat)
  case atStart => exact ⟨1, by omega, by omega, rfl, by rw [← HS0.out]; simp [numF]⟩
  case round =>
    obtain ⟨j, hj1, hj, rfl, rfl⟩ := hrel
    have hN := numF_rng s0 ((b.drop 1).take (j - 1)) (fun i => take_rng (fun i => drop_rng HZ.out 1 i) (j - 1) i) (by simp; omega) hsr
    by_cases hlt : j < 1
    · have c1 := HC.out j (by omega)
      have hx := HZ.out j
      have hst := HST.out j hj1 hlt
      have HT := Lib.hid hst
      clear hst
      generalize b[j]?.getD 0 = x at *
      generalize hNN : numF s0 ((b.drop 1).take (j - 1)) = N at *
      have HN := Lib.hid hNN
      clear hNN
      have hi1 : (j : Int) < b.length := by omega
      have hi0 : (0 : Int) ≤ (j : Int) := by omega
      have hi2 : (j : Int) < 1 := by omega
      go_wp2_with fail
      go_round
      case rel => exact ⟨j + 1, by omega, by omega, by go_num, by rw [show j + 1 - 1 = j from by omega, HT.out, numF_snoc, HN.out]⟩
      case measure => simp [intOf]; omega
    · obtain rfl : j = 1 := by omega
      have HR : Hid (numF s0 ((b.drop 1).take (1 - 1)) = R) := Lib.hid HNM.out.symm
      generalize numF s0 ((b.drop 1).take (1 - 1)) = N at *
      have hi2 : ¬ ((1 : Nat) : Int) < 1 := by omega
      go_wp2_with fail
      go_ret
      exact ⟨by rw [HR.out]; rfl, rfl⟩
set_option maxHeartbeats 2000000 in
theorem refNumber_2 (a : Option Addr) (cap : Nat) (b : List Int) (w : World) (hr : Row .u8 w.heap.size w (.slice a b.length cap) b) (hl : b.length ≤ 100000) (hz : ∀ i : Nat, 0 ≤ b[i]?.getD 0 ∧ b[i]?.getD 0 < 256) (hk : 2 ≤ b.length) :
    Calls Try.prog 51 #[.slice a b.length cap, .int .i64 2] w fun e w' => e = .returned (.int .i64 (numM b 2)) ∧ w' = w := by
  obtain ⟨bk, off, rfl, hp, hc⟩ := hr.at (by omega)
  have c0 := hc 0 (by omega)
  rw [Nat.add_zero] at c0
  have hz0 := hz 0
  have HZ := Lib.hid hz
  have HC := Lib.hid hc
  generalize hs0 : b[0]?.getD 0 - 192 = s0
  have HNM : Hid (numM b 2 = numF s0 ((b.drop 1).take 1)) := Lib.hid (by rw [← hs0]; rfl)
  clear hz hc hr
  have hb0 : (0 : Int) < (b.length : Int) := by omega
  have hst : ∀ j : Nat, 1 ≤ j → j < 2 → (b.drop 1).take j = (b.drop 1).take (j - 1) ++ [b[j]?.getD 0] := fun j h1 h2 => step_take b j h1 (by omega)
  have HST := Lib.hid hst
  clear hst
  generalize b[0]?.getD 0 = x0 at *
  generalize numM b 2 = R at *
  have hsr : -256 ≤ s0 ∧ s0 ≤ 256 := by omega
  have HS0 := Lib.hid hs0
  clear hs0
  go_enter Try.func51, Try.ntmps51
  go_wp2_with fail
  go_loop [5, 6] (fun v i => ∃ j : Nat, 1 ≤ j ∧ j ≤ 2 ∧ i = .int .i64 (j : Int) ∧ v = .int .i64 (numF s0 ((b.drop 1).take (j - 1)))) (fun _ i => 2 - (intOf i).toNat)
  case atStart => exact ⟨1, by omega, by omega, rfl, by rw [← HS0.out]; simp [numF]⟩
  case round =>
    obtain ⟨j, hj1, hj, rfl, rfl⟩ := hrel
    have hN := numF_rng s0 ((b.drop 1).take (j - 1)) (fun i => take_rng (fun i => drop_rng HZ.out 1 i) (j - 1) i) (by simp; omega) hsr
    by_cases hlt : j < 2
    · have c1 := HC.out j (by omega)
      have hx := HZ.out j
      have hst := HST.out j hj1 hlt
      have HT := Lib.hid hst
      clear hst
      generalize b[j]?.getD 0 = x at *
      generalize hNN : numF s0 ((b.drop 1).take (j - 1)) = N at *
      have HN := Lib.hid hNN
      clear hNN
      have hi1 : (j : Int) < b.length := by omega
      have hi0 : (0 : Int) ≤ (j : Int) := by omega
      have hi2 : (j : Int) < 2 := by omega
      go_wp2_with fail
      go_round
      case rel => exact ⟨j + 1, by omega, by omega, by go_num, by rw [show j + 1 - 1 = j from by omega, HT.out, numF_snoc, HN.out]⟩
      case measure => simp [intOf]; omega
    · obtain rfl : j = 2 := by omega
      have HR : Hid (numF s0 ((b.drop 1).take (2 - 1)) = R) := Lib.hid HNM.out.symm
      generalize numF s0 ((b.drop 1).take (2 - 1)) = N at *
      have hi2 : ¬ ((2 : Nat) : Int) < 2 := by omega
      go_wp2_with fail
      go_ret
      exact ⟨by rw [HR.out]; rfl, rfl⟩
set_option maxHeartbeats 2000000 in
theorem refNumber_3 (a : Option Addr) (cap : Nat) (b : List Int) (w : World) (hr : Row .u8 w.heap.size w (.slice a b.length cap) b) (hl : b.length ≤ 100000) (hz : ∀ i : Nat, 0 ≤ b[i]?.getD 0 ∧ b[i]?.getD 0 < 256) (hk : 3 ≤ b.length) :
    Calls Try.prog 51 #[.slice a b.length cap, .int .i64 3] w fun e w' => e = .returned (.int .i64 (numM b 3)) ∧ w' = w := by
  obtain ⟨bk, off, rfl, hp, hc⟩ := hr.at (by omega)
  have c0 := hc 0 (by omega)
  rw [Nat.add_zero] at c0
  have hz0 := hz 0
  have HZ := Lib.hid hz
  have HC := Lib.hid hc
  generalize hs0 : b[0]?.getD 0 - 224 = s0
  have HNM : Hid (numM b 3 = numF s0 ((b.drop 1).take 2)) := Lib.hid (by rw [← hs0]; rfl)
  clear hz hc hr
  have hb0 : (0 : Int) < (b.length : Int) := by omega
  have hst : ∀ j : Nat, 1 ≤ j → j < 3 → (b.drop 1).take j = (b.drop 1).take (j - 1) ++ [b[j]?.getD 0] := fun j h1 h2 => step_take b j h1 (by omega)
  have HST := Lib.hid hst
  clear hst
  generalize b[0]?.getD 0 = x0 at *
  generalize numM b 3 = R at *
  have hsr : -256 ≤ s0 ∧ s0 ≤ 256 := by omega
  have HS0 := Lib.hid hs0
  clear hs0
  go_enter Try.func51, Try.ntmps51
  go_wp2_with fail
  go_loop [5, 6] (fun v i => ∃ j : Nat, 1 ≤ j ∧ j ≤ 3 ∧ i = .int .i64 (j : Int) ∧ v = .int .i64 (numF s0 ((b.drop 1).take (j - 1)))) (fun _ i => 3 - (intOf i).toNat)
  case atStart => exact ⟨1, by omega, by omega, rfl, by rw [← HS0.out]; simp [numF]⟩
  case round =>
    obtain ⟨j, hj1, hj, rfl, rfl⟩ := hrel
    have hN := numF_rng s0 ((b.drop 1).take (j - 1)) (fun i => take_rng (fun i => drop_rng HZ.out 1 i) (j - 1) i) (by simp; omega) hsr
    by_cases hlt : j < 3
    · have c1 := HC.out j (by omega)
      have hx := HZ.out j
      have hst := HST.out j hj1 hlt
      have HT := Lib.hid hst
      clear hst
      generalize b[j]?.getD 0 = x at *
      generalize hNN : numF s0 ((b.drop 1).take (j - 1)) = N at *
      have HN := Lib.hid hNN
      clear hNN
      have hi1 : (j : Int) < b.length := by omega
      have hi0 : (0 : Int) ≤ (j : Int) := by omega
      have hi2 : (j : Int) < 3 := by omega
      go_wp2_with fail
      go_round
      case rel => exact ⟨j + 1, by omega, by omega, by go_num, by rw [show j + 1 - 1 = j from by omega, HT.out, numF_snoc, HN.out]⟩
      case measure => simp [intOf]; omega
    · obtain rfl : j = 3 := by omega
      have HR : Hid (numF s0 ((b.drop 1).take (3 - 1)) = R) := Lib.hid HNM.out.symm
      generalize numF s0 ((b.drop 1).take (3 - 1)) = N at *
      have hi2 : ¬ ((3 : Nat) : Int) < 3 := by omega
      go_wp2_with fail
      go_ret
      exact ⟨by rw [HR.out]; rfl, rfl⟩
set_option maxHeartbeats 2000000 in
theorem refNumber_4 (a : Option Addr) (cap : Nat) (b : List Int) (w : World) (hr : Row .u8 w.heap.size w (.slice a b.length cap) b) (hl : b.length ≤ 100000) (hz : ∀ i : Nat, 0 ≤ b[i]?.getD 0 ∧ b[i]?.getD 0 < 256) (hk : 4 ≤ b.length) :
    Calls Try.prog 51 #[.slice a b.length cap, .int .i64 4] w fun e w' => e = .returned (.int .i64 (numM b 4)) ∧ w' = w := by
  obtain ⟨bk, off, rfl, hp, hc⟩ := hr.at (by omega)
  have c0 := hc 0 (by omega)
  rw [Nat.add_zero] at c0
  have hz0 := hz 0
  have HZ := Lib.hid hz
  have HC := Lib.hid hc
  generalize hs0 : b[0]?.getD 0 - 240 = s0
  have HNM : Hid (numM b 4 = numF s0 ((b.drop 1).take 3)) := Lib.hid (by rw [← hs0]; rfl)
  clear hz hc hr
  have hb0 : (0 : Int) < (b.length : Int) := by omega
  have hst : ∀ j : Nat, 1 ≤ j → j < 4 → (b.drop 1).take j = (b.drop 1).take (j - 1) ++ [b[j]?.getD 0] := fun j h1 h2 => step_take b j h1 (by omega)
  have HST := Lib.hid hst
  clear hst
  generalize b[0]?.getD 0 = x0 at *
  generalize numM b 4 = R at *
  have hsr : -256 ≤ s0 ∧ s0 ≤ 256 := by omega
  have HS0 := Lib.hid hs0
  clear hs0
  go_enter Try.func51, Try.ntmps51
  go_wp2_with fail
  go_loop [5, 6] (fun v i => ∃ j : Nat, 1 ≤ j ∧ j ≤ 4 ∧ i = .int .i64 (j : Int) ∧ v = .int .i64 (numF s0 ((b.drop 1).take (j - 1)))) (fun _ i => 4 - (intOf i).toNat)
  case atStart => exact ⟨1, by omega, by omega, rfl, by rw [← HS0.out]; simp [numF]⟩
  case round =>
    obtain ⟨j, hj1, hj, rfl, rfl⟩ := hrel
    have hN := numF_rng s0 ((b.drop 1).take (j - 1)) (fun i => take_rng (fun i => drop_rng HZ.out 1 i) (j - 1) i) (by simp; omega) hsr
    by_cases hlt : j < 4
    · have c1 := HC.out j (by omega)
      have hx := HZ.out j
      have hst := HST.out j hj1 hlt
      have HT := Lib.hid hst
      clear hst
      generalize b[j]?.getD 0 = x at *
      generalize hNN : numF s0 ((b.drop 1).take (j - 1)) = N at *
      have HN := Lib.hid hNN
      clear hNN
      have hi1 : (j : Int) < b.length := by omega
      have hi0 : (0 : Int) ≤ (j : Int) := by omega
      have hi2 : (j : Int) < 4 := by omega
      go_wp2_with fail
      go_round
      case rel => exact ⟨j + 1, by omega, by omega, by go_num, by rw [show j + 1 - 1 = j from by omega, HT.out, numF_snoc, HN.out]⟩
      case measure => simp [intOf]; omega
    · obtain rfl : j = 4 := by omega
      have HR : Hid (numF s0 ((b.drop 1).take (4 - 1)) = R) := Lib.hid HNM.out.symm
      generalize numF s0 ((b.drop 1).take (4 - 1)) = N at *
      have hi2 : ¬ ((4 : Nat) : Int) < 4 := by omega
      go_wp2_with fail
      go_ret
      exact ⟨by rw [HR.out]; rfl, rfl⟩
theorem refNumber_any (a : Option Addr) (cap : Nat) (b : List Int) (k : Nat) (w : World) (hr : Row .u8 w.heap.size w (.slice a b.length cap) b) (hl : b.length ≤ 100000) (hz : ∀ i : Nat, 0 ≤ b[i]?.getD 0 ∧ b[i]?.getD 0 < 256) (h1 : 1 ≤ k) (h4 : k ≤ 4) (hk : k ≤ b.length) :
    Calls Try.prog 51 #[.slice a b.length cap, .int .i64 (k : Int)] w fun e w' => e = .returned (.int .i64 (numM b k)) ∧ w' = w := by
  rcases (show k = 1 ∨ k = 2 ∨ k = 3 ∨ k = 4 by omega) with rfl | rfl | rfl | rfl
  · exact refNumber_1 a cap b w hr hl hz hk
  · exact refNumber_2 a cap b w hr hl hz hk
  · exact refNumber_3 a cap b w hr hl hz hk
  · exact refNumber_4 a cap b w hr hl hz hk
set_option maxHeartbeats 2000000 in
theorem refBegins_any (a : Option Addr) (cap : Nat) (z : List Int) (b : Option Addr) (cb : Nat) (y : List Int) (w : World) (hra : Row .u8 w.heap.size w (.slice a z.length cap) z) (hrb : Row .u8 w.heap.size w (.slice b y.length cb) y) :
    Calls Try.prog 53 #[.slice a z.length cap, .slice b y.length cb] w fun e w' => e = .returned (.bool (decide (z.take y.length = y))) ∧ Below w.heap.size w w' := by
  have h1 := hra.lencap
  have h2 := hrb.lencap
  unfold maxLen at h1 h2
  generalize hR : decide (z.take y.length = y) = R
  by_cases hl : z.length < y.length
  · have : R = false := by
      rw [← hR]
      exact decide_eq_false (fun h => by have := congrArg List.length h; simp at this; omega)
    subst this
    clear hR
    go_enter Try.func53, Try.ntmps53
    go_wp2_with fail
    go_ret
    exact ⟨rfl, Below.refl _ _⟩
  · have HR := Lib.hid hR
    clear hR
    go_enter Try.func53, Try.ntmps53
    go_wp2_with fail
    go_loopw [5] (fun i wr => ∃ k : Nat, k ≤ y.length ∧ i = .int .i64 (k : Int) ∧ Hid (z.take k = y.take k) ∧ Below w.heap.size w wr) (fun i _ => y.length - (intOf i).toNat)
    case atStart => exact ⟨0, Nat.zero_le _, rfl, Lib.hid rfl, Below.refl _ _⟩
    case round =>
      obtain ⟨k, hk, rfl, Ht, hB⟩ := hrel
      by_cases hlt : k < y.length
      · have hlt2 : k < z.length := by omega
        obtain ⟨ba, oa, rfl, hpa, hca⟩ := hra.at (by omega)
        obtain ⟨bb, ob, rfl, hpb, hcb⟩ := hrb.at (by omega)
        have c1 : wr.cell? ⟨ba, oa + k, none⟩ = some (.int .u8 (z[k]?.getD 0)) := (hB.cell (p := ⟨ba, oa + k, none⟩) hpa).trans (hca k hlt2)
        have c2 : wr.cell? ⟨bb, ob + k, none⟩ = some (.int .u8 (y[k]?.getD 0)) := (hB.cell (p := ⟨bb, ob + k, none⟩) hpb).trans (hcb k hlt)
        have hi1 : (k : Int) < z.length := by omega
        have hi2 : (k : Int) < y.length := by omega
        clear hca hcb hra hrb
        have T := take_eq_of z y k hlt2 hlt Ht.out
        have N : z[k]?.getD 0 ≠ y[k]?.getD 0 → R = false := by
          intro hne
          rw [← HR.out]
          refine decide_eq_false (fun h => hne ?_)
          rw [← h, List.getElem?_take_of_lt hlt]
        generalize z[k]?.getD 0 = x at c1 T N
        generalize y[k]?.getD 0 = v at c2 T N
        by_cases hxy : x = v
        · have hb1 : (x != v) = false := by simp [hxy]
          have HT := Lib.hid (T hxy)
          clear T N hxy
          go_wp2_with fail
          go_quiet (fail)
          go_wp2_with fail
          go_roundw
          case rel => exact ⟨k + 1, by omega, by go_num, HT, by first | exact hB | exact below_drewN hB _⟩
          case measure => simp [intOf]; omega
        · have hb1 : (x != v) = true := by simp [hxy]
          have HN := Lib.hid (N hxy)
          clear T N hxy
          go_wp2_with fail
          go_quiet (fail)
          go_wp2_with fail
          go_ret
          exact ⟨by rw [HN.out]; rfl, by first | exact hB | exact below_drewN hB _⟩
      · have HN : Hid (R = true) := Lib.hid (by
          have h3 := Ht.out
          rw [show k = y.length from by omega, List.take_length] at h3
          rw [← HR.out, h3]
          exact decide_eq_true rfl)
        go_wp2_with fail
        go_ret
        exact ⟨by rw [HN.out]; rfl, hB⟩
end Go.Proofs.Ytnfelphemdchpaa
