/- TextSent: the walk. -/
import Derived.Test.YtnfelphemdchpaaWTextRound
import Derived.Test.YtnfelphemdchpaaWireR3
import Derived.Test.YtnfelphemdchpaaWireMath4
import Derived.Test.YtnfelphemdchpaaWireMath3
import Derived.Test.YtnfelphemdchpaaHashBytes
import Derived.Test.YtnfelphemdchpaaWire2
namespace Go.Proofs.Ytnfelphemdchpaa
open Go.RowKit Go.Shelf
set_option linter.unusedVariables false

theorem sent_wf (A : List Int) (h : ∀ x ∈ A, isSymB x true = true) : ∀ n ∈ A, (Lit.int .i64 n).wf = true := by
  intro n hn
  have := sym_rng n (h n hn)
  simp [Lit.wf, IntKind.min, IntKind.max, IntKind.signed, IntKind.bits]
  omega
theorem sent_sym (n : Int) (h0 : 128 ≤ n) (h1 : n < 2048) : ∀ x ∈ [n], isSymB x true = true := by
  intro x hx
  obtain rfl : x = n := by simpa using hx
  unfold isSymB
  simp
  omega
theorem sent_enc (n : Int) (h0 : 128 ≤ n) (h1 : n < 2048) : encL true [n] = [192 + n / 64, 128 + n % 64] := by
  unfold encL oneL
  simp [runeL_1 n h0 h1]
theorem sent_hash (l : List Int) (m n : Int) (h0 : 128 ≤ m) (h1 : m < 2048) (h2 : 128 ≤ n) (h3 : n < 2048) :
    ((sumI l ((wordsOf [192 + m / 64, 128 + m % 64]).map wrap64 ++ [((2 : Nat) : Int)]) == sumI l ((wordsOf [192 + n / 64, 128 + n % 64]).map wrap64 ++ [((2 : Nat) : Int)])) == (m == n)) = true := by
  have hb : ∀ k : Int, 128 ≤ k → k < 2048 → AreBytes [192 + k / 64, 128 + k % 64] := by
    intro k a b
    refine bytes_of_mem ?_
    intro x hx
    simp at hx
    rcases hx with rfl | rfl <;> omega
  have hd : ∀ i, i / 8 ≠ 0 → ([192 + m / 64, 128 + m % 64] : List Int)[i]?.getD 0 = ([192 + n / 64, 128 + n % 64] : List Int)[i]?.getD 0 := by
    intro i hi
    rw [List.getElem?_eq_none (by simp; omega), List.getElem?_eq_none (by simp; omega)]
  have h := oneGroup l [192 + m / 64, 128 + m % 64] [192 + n / 64, 128 + n % 64] 0 rfl hd (hb m h0 h1) (hb n h2 h3)
  have e : (([192 + m / 64, 128 + m % 64] : List Int) == [192 + n / 64, 128 + n % 64]) = (m == n) := by
    rw [Bool.eq_iff_iff, beq_iff_eq, beq_iff_eq]
    constructor
    · intro hx
      simp at hx
      omega
    · rintro rfl
      rfl
  have h2 : ((([192 + m / 64, 128 + m % 64] : List Int).length : Nat) : Int) = ((2 : Nat) : Int) := rfl
  rw [e] at h
  simp only [List.length_cons, List.length_nil, Nat.zero_add, Nat.reduceAdd] at h
  rw [h]
  simp
theorem vint_rng (n : Nat) : ∀ x ∈ vint n, 0 ≤ x ∧ x < 256 := vintF_rng 10 n
theorem sints_rng (l : List Int) : ∀ x ∈ sints l, 0 ≤ x ∧ x < 256 := by
  intro x hx
  unfold sints at hx
  rcases List.mem_append.1 hx with h | h
  · exact vint_rng _ x h
  · rw [List.mem_flatten] at h
    obtain ⟨o, ho, hxo⟩ := h
    obtain ⟨y, _, rfl⟩ := List.mem_map.1 ho
    exact vint_rng _ x hxo
theorem sints_len (l : List Int) : (sints l).length ≤ 11 + 11 * l.length := by
  unfold sints
  rw [List.length_append]
  have h1 := (vint_length l.length).2
  have h2 := sints_le l
  omega
set_option maxRecDepth 100000 in
set_option maxHeartbeats 8000000 in
theorem textSent_walk (a0 : Option Addr) (len0 cap0 : Nat) (z0 : List Int) (a1 : Int) (a2 : Int) (w : World) (w0 : IsRow .i64 w a0 len0 cap0 z0) (w1 : (Lit.int .i64 a1).wf = true) (w2 : (Lit.int .i64 a2).wf = true) :
    Calls Try.prog 10 #[.slice a0 len0 cap0, .int .i64 a1, .int .i64 a2] w fun e w' => e = .returned (.bool true) ∧ Below w.heap.size w w' := by
  obtain ⟨hr0, hw0⟩ := w0.row
  have hl0 := hr0.len
  clear w0
  generalize z0.take len0 = l0 at *
  subst hl0
  go_enter Try.func10, Try.ntmps10
  go_wp2_with fail
  refine (text_row a0 cap0 l0 25 true w hr0 (by decide) hw0).mono ?_
  rintro e v1 ⟨d1, c1, rfl, -, hA, b1⟩
  have hAl := textT_len l0 25 true
  have HAO := Lib.hid (textT_ok l0 25 true)
  generalize textT l0 25 true = A at *
  clear hr0 hw0
  dsimp only
  go_wp2_with fail
  refine (encode_ok d1 c1 A true v1 hA (by omega) HAO.out).mono ?_
  rintro e v2 ⟨d2, c2, rfl, hX, bb⟩
  have hXl := encL_len true A
  have HXR := Lib.hid (byte_rng true A HAO.out)
  have hA := rowB hA bb
  replace b1 := stepB b1 bb
  have hdm := decodeM_enc true A HAO.out (by omega)
  have HDM := Lib.hid hdm
  clear bb hdm
  generalize encL true A = X at *
  dsimp only
  go_wp2_with fail
  have hWr := Wr.new v2
  have bW := laidB (Below.refl v2.heap.size v2) (.cells #[.slice none 0 0] 61)
  refine (wints_any v2.heap.size v2.heap.size [] d1 c1 A _ hWr (Nat.le_refl _) (by simp) (RowP.below bW hA) (by omega) (sent_wf A HAO.out)).mono ?_
  rintro e v3 ⟨rfl, hWr3, bb⟩
  rw [List.nil_append] at hWr3
  replace bW := bW.trans bb
  clear bb hWr
  dsimp only
  go_wp2_with fail
  have hSl := sints_len A
  have hSR := sints_rng A
  have hRI := rInts_sints A (vint X.length ++ X) (by omega) (fun n hn => by have := sym_rng n (HAO.out n hn); omega)
  have hRR := rRaw_raw X [] (by omega)
  rw [List.append_nil] at hRR
  have hVl := (vint_length X.length).2
  have hVR := vint_rng X.length
  have hwr : ∀ x ∈ sints A ++ (vint X.length ++ X), 0 ≤ x ∧ x < 256 := by
    intro x hx
    rcases List.mem_append.1 hx with h | h
    · exact hSR x h
    · rcases List.mem_append.1 h with h | h
      · exact hVR x h
      · exact HXR.out x h
  have hwr2 : ∀ x ∈ vint X.length ++ X, 0 ≤ x ∧ x < 256 := fun x hx => hwr x (List.mem_append.2 (.inr hx))
  have hl1 : (sints A ++ (vint X.length ++ X)).length ≤ 10000 := by rw [List.length_append, List.length_append]; omega
  have hl2 : (vint X.length ++ X).length ≤ 10000 := by rw [List.length_append]; omega
  have hb2 := b1.size
  refine (wraw_any v2.heap.size v2.heap.size (sints A) d2 c2 X v3 hWr3 (Nat.le_refl _) (by omega) (RowP.below bW hX) (by omega)).mono ?_
  rintro e v4 ⟨rfl, hWr4, bb⟩
  replace bW := bW.trans bb
  clear bb hWr3 hSl hSR hVl hVR
  generalize sints A ++ (vint X.length ++ X) = P at *
  generalize vint X.length ++ X = Q at *
  have HRI := Lib.hid hRI
  have HRR := Lib.hid hRR
  have HWR := Lib.hid hwr
  have HWR2 := Lib.hid hwr2
  clear hRI hRR hwr hwr2
  dsimp only
  go_wp2_with fail
  refine (done_any v2.heap.size v2.heap.size P v4 hWr4 (by omega)).mono ?_
  rintro e v5 ⟨d5, c5, rfl, -, hP, bb⟩
  have bW5 := stepB bW bb
  have hA5 := rowB hA bW5
  replace b1 := stepB b1 bW5
  clear bb bW hWr4 bW5
  dsimp only
  go_wp2_with fail
  refine (read_any _ P v5 hP (by omega)).mono ?_
  rintro e v6 ⟨r, dr, rfl, hr1, hr2, hR, bb⟩
  have hdr := hR.lt
  have hA6 := RowP.below bb hA5
  have hb6 := bb.size
  have b6 := stepB b1 bb
  have hb1 := b1.size
  clear bb
  dsimp only
  go_wp2_with fail
  refine (rints_any r dr P 0 v6 hR HWR.out (by omega)).mono ?_
  rw [HRI.out]
  rintro e v7 ⟨vI, rfl, hownI, hR7, ho⟩
  dsimp only at hownI hR7
  have hA7 := RowP.below (only_below ho hr1 hR.lt) hA6
  have b7 := b6.trans (only_below ho (by omega) hR.lt)
  have hs7 := ho.size
  clear ho hR
  obtain ⟨aI, nI, cI, rfl⟩ := owns_slice hownI
  have hnI := (row_of_owns hownI).1.len
  subst hnI
  dsimp only
  go_wp2_with fail
  refine (raw_any r dr Q 0 v7 hR7 HWR2.out (by omega)).mono ?_
  rw [HRR.out]
  rintro e v8 ⟨vR, rfl, hownR, hR8, ho⟩
  dsimp only at hownR hR8
  have hA8 := RowP.below (only_below ho hr1 hR7.lt) hA7
  have b8 := b7.trans (only_below ho (by omega) hR7.lt)
  have hownI8 := owns_other hownI ho (fun q e => by cases e; exact .inr hdr)
  have hs8 := ho.size
  have hR8l := hR8.lt
  clear ho hR7 hownI
  have hrR := (row_of_owns hownR).1
  obtain ⟨aR, cR, rfl⟩ := row_slice hrR
  dsimp only
  go_wp2_with fail
  have hdc := decode_any aR cR X true v8 hrR (by omega) (get_rng HXR.out)
  rw [HDM.out] at hdc
  refine hdc.mono ?_
  rintro e v9 ⟨d9, c9, rfl, -, hK, bb⟩
  have hA9 := RowP.below (bb.mono (by omega)) hA8
  have hI9 := rowB (row_of_owns hownI8).1 bb
  have b9 := stepB b8 bb
  have hR9 := hR8.below hR8l (.inl rfl) bb
  clear hdc bb hR8 hownI8 hownR hrR
  dsimp only at hK ⊢
  go_wp2_with fail
  refine (end_any r dr [] 0 v9 hR9).mono ?_
  rintro e W ⟨rfl, hW⟩
  subst hW
  rw [show rEnd [] 0 = 0 from by decide]
  dsimp only
  go_wp2_with fail
  refine (sameInts_any _ _ _ A _ _ _ A _ hI9 hK).mono ?_
  rintro e u1 ⟨rfl, bb⟩
  have hbW := b9.size
  have hAW := (hA9.mono (q := fun g => g < W.heap.size) (fun g hg => by have h1 := hR9.lt; omega))
  have hA10 := rowB hAW bb
  have hI10 := rowB hI9 bb
  have b10 := stepB b9 bb
  rw [show (A == A) = true from by simp]
  clear bb hI9 hK hA9 hAW
  dsimp only
  go_wp2_with fail
  refine (sameInts_any _ _ _ A _ _ _ A _ hI10 hA10).mono ?_
  rintro e u2 ⟨rfl, bb⟩
  have b11 := stepB b10 bb
  rw [show (A == A) = true from by simp]
  clear bb hI10 hA10
  dsimp only
  go_wp2_with fail
  refine (around_any a1 1920 u2 w1 (by decide) (by decide)).mono ?_
  rintro e W2 ⟨rfl, hW⟩
  subst hW
  have ha0 := aroundI_lo a1 1920 (by decide)
  have ha1 := aroundI_hi a1 1920 (by decide)
  generalize aroundI a1 1920 = M at *
  dsimp only
  go_wp2_with fail
  refine (around_any a2 1920 W2 w2 (by decide) (by decide)).mono ?_
  rintro e W3 ⟨rfl, hW⟩
  subst hW
  have hb0 := aroundI_lo a2 1920 (by decide)
  have hb1' := aroundI_hi a2 1920 (by decide)
  generalize aroundI a2 1920 = N at *
  have hso := fun l => sent_hash l (128 + M) (128 + N) (by omega) (by omega) (by omega) (by omega)
  have hm1 := sent_enc (128 + M) (by omega) (by omega)
  have hm2 := sent_enc (128 + N) (by omega) (by omega)
  have hs1 := sent_sym (128 + M) (by omega) (by omega)
  have hs2 := sent_sym (128 + N) (by omega) (by omega)
  have HSO := Lib.hid hso
  have HM1 := Lib.hid hm1
  have HM2 := Lib.hid hm2
  have HS1 := Lib.hid hs1
  have HS2 := Lib.hid hs2
  clear hso hm1 hm2 hs1 hs2
  dsimp only
  go_wp2_with fail
  have hr := litRow (k := .i64) W3 3 [128 + M] (by simp) 1 rfl #[.int .i64 (128 + M)] rfl
  have hl := laidB (Below.refl W3.heap.size W3) (.cells #[.int .i64 (128 + M)] 3)
  have hen := encode_ok _ 1 [128 + M] true _ hr (by simp) HS1.out
  rw [HM1.out] at hen
  refine hen.mono ?_
  rintro e u3 ⟨g1, f1, rfl, hC, bb⟩
  have b12 := stepB b11 (stepB hl bb)
  clear hr hl hen bb
  dsimp only
  go_wp2_with fail
  have hr := litRow (k := .i64) u3 3 [128 + N] (by simp) 1 rfl #[.int .i64 (128 + N)] rfl
  have hl := laidB (Below.refl u3.heap.size u3) (.cells #[.int .i64 (128 + N)] 3)
  have hen := encode_ok _ 1 [128 + N] true _ hr (by simp) HS2.out
  rw [HM2.out] at hen
  refine hen.mono ?_
  rintro e u4 ⟨g2, f2, rfl, hD, bb⟩
  have hC := rowB hC (stepB hl bb)
  have b13 := stepB b12 (stepB hl bb)
  clear hr hl hen bb
  have hVM := HSO.out [116]
  dsimp only [List.length_cons, List.length_nil] at hC hD ⊢
  generalize ([192 + (128 + M) / 64, 128 + (128 + M) % 64] : List Int) = CC at *
  generalize ([192 + (128 + N) / 64, 128 + (128 + N) % 64] : List Int) = DD at *
  go_wp2_with fail
  have hlC := hC.len
  have hlD := hD.len
  have hDD := hD
  have hlt : Hid (bytesI ⟨#[116]⟩ = [116]) := Lib.hid rfl
  refine (bytes_any ⟨#[116]⟩ g1 2 f1 CC (by decide) u4 hC hlC (by omega)).mono ?_
  rintro e u5 ⟨rfl, bb⟩
  have hD5 := rowB hD bb
  have b14 := stepB b13 bb
  rw [hlt.out, ← hlC]
  generalize sumI [116] ((wordsOf CC).map wrap64 ++ [((2 : Nat) : Int)]) = H1 at *
  clear hDD hD hC bb hlC
  dsimp only
  go_wp2_with fail
  refine (bytes_any ⟨#[116]⟩ g2 2 f2 DD (by decide) u5 hD5 hlD (by omega)).mono ?_
  rintro e u6 ⟨rfl, bb⟩
  have b15 := stepB b14 bb
  rw [hlt.out, ← hlD]
  generalize sumI [116] ((wordsOf DD).map wrap64 ++ [((2 : Nat) : Int)]) = H2 at *
  clear hD5 bb hlD
  dsimp only
  go_wp2_with fail
  refine (lives4_any u6).mono ?_
  rintro e u7 ⟨rfl, bb⟩
  have b16 := stepB b15 bb
  dsimp only
  go_wp2_with fail
  go_ret
  exact ⟨rfl, b16⟩
end Go.Proofs.Ytnfelphemdchpaa
