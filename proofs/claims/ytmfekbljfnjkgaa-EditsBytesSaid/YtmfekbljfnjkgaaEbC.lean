/- The contract of edits.Decode. -/
import Derived.Test.YtmfekbljfnjkgaaEbB
import Derived.Test.YtmfekbljfnjkgaaTxtF
namespace Go.Proofs.Ytmfekbljfnjkgaa
open Go.RowKit Go.Shelf
set_option linter.unusedVariables false
set_option maxRecDepth 100000

theorem rInt_err (zs : List Int) (e : Int) (he : e ≠ 0) : rInt zs e = (0, zs, e) := by simp [rInt, rUint, he, unzig]
theorem rInts_err (zs : List Int) (e : Int) (he : e ≠ 0) : rInts zs e = ([], zs, e) := by simp [rInts, rLen, rUint, he]
structure IM where
  c : Int
  nu : Int
  ba : Int
  a : Int
  d : Int
  ins : List Int
def IM.bytes (x : IM) : List Int := itemB x.c x.nu x.ba x.a x.d x.ins
structure IM.ok (x : IM) : Prop where
  c : (Lit.int .i64 x.c).wf = true
  nu : (Lit.int .i64 x.nu).wf = true
  ba : (Lit.int .i64 x.ba).wf = true
  a : (Lit.int .i64 x.a).wf = true
  d : (Lit.int .i64 x.d).wf = true
  ins : ∀ n ∈ x.ins, (Lit.int .i64 n).wf = true
def d1 (zs : List Int) := rInt zs 0
def d2 (zs : List Int) := rInt (d1 zs).2.1 (d1 zs).2.2
def d3 (zs : List Int) := rInt (d2 zs).2.1 (d2 zs).2.2
def d4 (zs : List Int) := rInt (d3 zs).2.1 (d3 zs).2.2
def d5 (zs : List Int) := rInt (d4 zs).2.1 (d4 zs).2.2
def d6 (zs : List Int) := rInts (d5 zs).2.1 (d5 zs).2.2
def decI (zs : List Int) : IM := ⟨(d1 zs).1, (d2 zs).1, (d3 zs).1, (d4 zs).1, (d5 zs).1, (d6 zs).1⟩
def decE (zs : List Int) : Int := rEnd (d6 zs).2.1 (d6 zs).2.2
theorem decI_item (x : IM) (h : x.ok) (hl : x.ins.length ≤ 100000) : decI x.bytes = x ∧ decE x.bytes = 0 := by
  obtain ⟨c, nu, ba, a, d, ins⟩ := x
  obtain ⟨h1, h2, h3, h4, h5, h6⟩ := h
  dsimp only at *
  have e1 : d1 (IM.bytes ⟨c, nu, ba, a, d, ins⟩) = (c, sint nu ++ (sint ba ++ (sint a ++ (sint d ++ sints ins))), 0) := by
    unfold d1 IM.bytes itemB
    simp only [List.append_assoc]
    exact rInt_sint c _ (i64_rng h1)
  have e2 : d2 (IM.bytes ⟨c, nu, ba, a, d, ins⟩) = (nu, sint ba ++ (sint a ++ (sint d ++ sints ins)), 0) := by
    unfold d2; rw [e1]; exact rInt_sint nu _ (i64_rng h2)
  have e3 : d3 (IM.bytes ⟨c, nu, ba, a, d, ins⟩) = (ba, sint a ++ (sint d ++ sints ins), 0) := by
    unfold d3; rw [e2]; exact rInt_sint ba _ (i64_rng h3)
  have e4 : d4 (IM.bytes ⟨c, nu, ba, a, d, ins⟩) = (a, sint d ++ sints ins, 0) := by
    unfold d4; rw [e3]; exact rInt_sint a _ (i64_rng h4)
  have e5 : d5 (IM.bytes ⟨c, nu, ba, a, d, ins⟩) = (d, sints ins, 0) := by
    unfold d5; rw [e4]; exact rInt_sint d _ (i64_rng h5)
  have e6 : d6 (IM.bytes ⟨c, nu, ba, a, d, ins⟩) = (ins, [], 0) := by
    unfold d6; rw [e5]
    have := rInts_sints ins [] (by omega) (fun n hn => i64_rng (h6 n hn))
    rw [List.append_nil] at this
    exact this
  refine ⟨?_, ?_⟩
  · unfold decI; rw [e1, e2, e3, e4, e5, e6]
  · unfold decE; rw [e6]; rfl
theorem decI_back (zs : List Int) (hz : ∀ x ∈ zs, 0 ≤ x ∧ x < 256) (h : decE zs = 0) : (decI zs).bytes = zs ∧ (decI zs).ok ∧ (decI zs).ins.length ≤ zs.length := by
  have step (ys : List Int) (e : Int) (he : (rInt ys e).2.2 = 0) : e = 0 := by
    rcases Classical.em (e = 0) with h | h
    · exact h
    · rw [rInt_err ys e h] at he; exact absurd he h
  unfold decE rEnd at h
  split at h
  · cases h
  · rename_i hn
    have hnil : (d6 zs).2.1 = [] := by
      cases hq : (d6 zs).2.1 with
      | nil => rfl
      | cons x r => exact absurd ⟨h, by rw [hq]; simp⟩ hn
    have z5 : (d5 zs).2.2 = 0 := by
      rcases Classical.em ((d5 zs).2.2 = 0) with h' | h'
      · exact h'
      · have := rInts_err (d5 zs).2.1 _ h'
        unfold d6 at h
        rw [this] at h; exact absurd h h'
    have z4 : (d4 zs).2.2 = 0 := step _ _ z5
    have z3 : (d3 zs).2.2 = 0 := step _ _ z4
    have z2 : (d2 zs).2.2 = 0 := step _ _ z3
    have z1 : (d1 zs).2.2 = 0 := step _ _ z2
    have r1 : ∀ x ∈ (d1 zs).2.1, 0 ≤ x ∧ x < 256 := rInt_left zs 0 _ hz
    have r2 : ∀ x ∈ (d2 zs).2.1, 0 ≤ x ∧ x < 256 := rInt_left _ _ _ r1
    have r3 : ∀ x ∈ (d3 zs).2.1, 0 ≤ x ∧ x < 256 := rInt_left _ _ _ r2
    have r4 : ∀ x ∈ (d4 zs).2.1, 0 ≤ x ∧ x < 256 := rInt_left _ _ _ r3
    have r5 : ∀ x ∈ (d5 zs).2.1, 0 ≤ x ∧ x < 256 := rInt_left _ _ _ r4
    have q2 : rInt (d1 zs).2.1 0 = d2 zs := by unfold d2; rw [z1]
    have q3 : rInt (d2 zs).2.1 0 = d3 zs := by unfold d3; rw [z2]
    have q4 : rInt (d3 zs).2.1 0 = d4 zs := by unfold d4; rw [z3]
    have q5 : rInt (d4 zs).2.1 0 = d5 zs := by unfold d5; rw [z4]
    have q6 : rInts (d5 zs).2.1 0 = d6 zs := by unfold d6; rw [z5]
    have k1 := rInt_back' zs hz z1
    have k2 := rInt_back' (d1 zs).2.1 r1 (by rw [q2]; exact z2)
    have k3 := rInt_back' (d2 zs).2.1 r2 (by rw [q3]; exact z3)
    have k4 := rInt_back' (d3 zs).2.1 r3 (by rw [q4]; exact z4)
    have k5 := rInt_back' (d4 zs).2.1 r4 (by rw [q5]; exact z5)
    have k6 := rInts_back (d5 zs).2.1 r5 (by rw [q6]; exact h)
    rw [q2] at k2
    rw [q3] at k3
    rw [q4] at k4
    rw [q5] at k5
    rw [q6, hnil] at k6
    change zs = sint (d1 zs).1 ++ (d1 zs).2.1 ∧ _ at k1
    have hall : (decI zs).bytes = zs := by
      conv => rhs; rw [k1.1, k2.1, k3.1, k4.1, k5.1, k6.1]
      unfold IM.bytes itemB decI
      simp
    refine ⟨hall, ?_, ?_⟩
    · exact ⟨wf_i64 k1.2, wf_i64 k2.2, wf_i64 k3.2, wf_i64 k4.2, wf_i64 k5.2, fun n hn => wf_i64 (k6.2.2 n hn)⟩
    · have l1 : (d1 zs).2.1.length ≤ zs.length := rInt_len zs 0
      have l2 : (d2 zs).2.1.length ≤ (d1 zs).2.1.length := rInt_len _ _
      have l3 : (d3 zs).2.1.length ≤ (d2 zs).2.1.length := rInt_len _ _
      have l4 : (d4 zs).2.1.length ≤ (d3 zs).2.1.length := rInt_len _ _
      have l5 : (d5 zs).2.1.length ≤ (d4 zs).2.1.length := rInt_len _ _
      have l6 := k6.2.1
      show (d6 zs).1.length ≤ zs.length
      omega
theorem int_named (b d : Nat) (zs : List Int) (err : Int) (R : Int × List Int × Int) (hR : rInt zs err = R) (w : World) (h : Rd w b d zs err) (hz : ∀ x ∈ zs, 0 ≤ x ∧ x < 256) :
    Calls Try.prog 62 #[.pointer (some ⟨b, 0, none⟩)] w fun e w' => e = .returned (.int .i64 R.1) ∧ Rd w' b d R.2.1 R.2.2 ∧ Only b w w' := by
  subst hR
  exact int_any b d zs err w h hz
theorem Cel.onlyb {A B : World} {b k : Nat} {t : TypeId} {cs : Array Value} (h : Cel A k t cs) (ho : Only b A B) (hn : k ≠ b) : Cel B k t cs := h.grown ho (by simpa using fun e => hn e.symm)
theorem Rd.box {W W' : World} {b d b' : Nat} {zs : List Int} {err : Int} (h : Rd W b d zs err) (ho : Only b' W W') (h1 : b ≠ b') (h2 : zs = [] ∨ d ≠ b') : Rd W' b d zs err := by
  rcases h2 with rfl | h2
  · obtain ⟨hne, v, hv, hr⟩ := h
    exact ⟨hne, v, (ho.block b (Array.getElem?_eq_some_iff.1 hv).1 (by simpa using h1)).trans hv, rowP_keep0 (.inl rfl) hr⟩
  · exact h.keep ho h1 h2
/-- What Decode leaves. -/
def DecPost (zs : List Int) (w : World) (e : Ending) (w' : World) : Prop :=
  Below w.heap.size w w' ∧ ((decE zs = 0 ∧ ∃ a cap, e = .returned (.tuple #[.agg #[.int .i64 (decI zs).c, .int .i64 (decI zs).nu, .int .i64 (decI zs).ba, .int .i64 (decI zs).a, .int .i64 (decI zs).d, .slice a (decI zs).ins.length cap], .int .i64 0]) ∧ Row .i64 w'.heap.size w' (.slice a (decI zs).ins.length cap) (decI zs).ins) ∨
    (decE zs ≠ 0 ∧ e = .returned (.tuple #[.agg #[.int .i64 0, .int .i64 0, .int .i64 0, .int .i64 0, .int .i64 0, .slice none 0 0], .int .i64 2])))
set_option maxHeartbeats 4000000 in
theorem decode27_any (v : Value) (zs : List Int) (w : World) (hr : Row .u8 w.heap.size w v zs) (hz : ∀ x ∈ zs, 0 ≤ x ∧ x < 256) (hm : zs.length ≤ 10000000) :
    Calls Try.prog 40 #[v] w (DecPost zs w) := by
  have r1 : ∀ x ∈ (d1 zs).2.1, 0 ≤ x ∧ x < 256 := rInt_left zs 0 _ hz
  have r2 : ∀ x ∈ (d2 zs).2.1, 0 ≤ x ∧ x < 256 := rInt_left _ _ _ r1
  have r3 : ∀ x ∈ (d3 zs).2.1, 0 ≤ x ∧ x < 256 := rInt_left _ _ _ r2
  have r4 : ∀ x ∈ (d4 zs).2.1, 0 ≤ x ∧ x < 256 := rInt_left _ _ _ r3
  have r5 : ∀ x ∈ (d5 zs).2.1, 0 ≤ x ∧ x < 256 := rInt_left _ _ _ r4
  have hm5 : (d5 zs).2.1.length ≤ 10000000 := by
    have l1 : (d1 zs).2.1.length ≤ zs.length := rInt_len zs 0
    have l2 : (d2 zs).2.1.length ≤ (d1 zs).2.1.length := rInt_len _ _
    have l3 : (d3 zs).2.1.length ≤ (d2 zs).2.1.length := rInt_len _ _
    have l4 : (d4 zs).2.1.length ≤ (d3 zs).2.1.length := rInt_len _ _
    have l5 : (d5 zs).2.1.length ≤ (d4 zs).2.1.length := rInt_len _ _
    omega
  have HZ := Lib.hid hz; have H1 := Lib.hid r1; have H2 := Lib.hid r2; have H3 := Lib.hid r3; have H4 := Lib.hid r4; have H5 := Lib.hid r5; have HM5 := Lib.hid hm5
  clear hz r1 r2 r3 r4 r5 hm5
  obtain ⟨W1, hW1⟩ : ∃ X, X = w.alloc (.cells #[.int .i64 0, .int .i64 0, .int .i64 0, .int .i64 0, .int .i64 0, .slice none 0 0] 51) := ⟨_, rfl⟩
  have s1 : W1.heap.size = w.heap.size + 1 := by rw [hW1]; simp
  have C1 : Cel W1 w.heap.size 51 #[.int .i64 0, .int .i64 0, .int .i64 0, .int .i64 0, .int .i64 0, .slice none 0 0] := by rw [hW1]; exact Cel.new _ _ _
  have b1 : Below w.heap.size w W1 := by rw [hW1]; exact laidB (Below.refl _ _) _
  go_enter Try.func40, Try.ntmps40
  go_wp2_with fail
  rw [← hW1]
  refine (read_any v zs W1 (rowB hr b1) hm).mono ?_
  rintro e w1 ⟨b, d, rfl, hb, hd, R1, B1⟩
  have HD0 : Hid ((d6 zs).2.1 = [] ∨ d < w1.heap.size) := Lib.hid (by
    rcases R1.dlt with h | h
    · left
      have l1 : (d1 zs).2.1.length ≤ zs.length := rInt_len zs 0
      have l2 : (d2 zs).2.1.length ≤ (d1 zs).2.1.length := rInt_len _ _
      have l3 : (d3 zs).2.1.length ≤ (d2 zs).2.1.length := rInt_len _ _
      have l4 : (d4 zs).2.1.length ≤ (d3 zs).2.1.length := rInt_len _ _
      have l5 : (d5 zs).2.1.length ≤ (d4 zs).2.1.length := rInt_len _ _
      have l6 : (d6 zs).2.1.length ≤ (d5 zs).2.1.length := rInts_len _ _
      have l0 : zs.length = 0 := by rw [h]; rfl
      exact List.eq_nil_of_length_eq_zero (by omega)
    · exact .inr h)
  have q1 : w1.heap.size ≤ w1.heap.size := Nat.le_refl _
  have C2 := C1.step B1
  have b2 := stepB b1 B1
  clear hr C1 b1 B1 hW1
  dsimp only
  go_wp2_with fail
  refine (int_named b d zs 0 (d1 zs) rfl w1 R1 HZ.out).mono ?_
  rintro e w2 ⟨rfl, R2, o2⟩
  replace q1 := Nat.le_trans q1 o2.size
  have C3 := C2.onlyb o2 (by omega)
  have b3 := b2.trans (only_below o2 (show w.heap.size ≤ b by omega) R1.lt)
  clear R1 C2 b2 o2
  dsimp only
  go_wp2_with fail
  refine (int_named b d _ _ (d2 zs) rfl w2 R2 H1.out).mono ?_
  rintro e w3 ⟨rfl, R3, o3⟩
  replace q1 := Nat.le_trans q1 o3.size
  have C4 := C3.onlyb o3 (by omega)
  have b4 := b3.trans (only_below o3 (show w.heap.size ≤ b by omega) R2.lt)
  clear R2 C3 b3 o3
  dsimp only
  go_wp2_with fail
  refine (int_named b d _ _ (d3 zs) rfl w3 R3 H2.out).mono ?_
  rintro e w4 ⟨rfl, R4, o4⟩
  replace q1 := Nat.le_trans q1 o4.size
  have C5 := C4.onlyb o4 (by omega)
  have b5 := b4.trans (only_below o4 (show w.heap.size ≤ b by omega) R3.lt)
  clear R3 C4 b4 o4
  dsimp only
  obtain ⟨X, hX⟩ : ∃ X, X = w4.alloc (.cells #[.int .i64 (d1 zs).1, .int .i64 (d2 zs).1, .int .i64 (d3 zs).1, .int .i64 0, .int .i64 0, .slice none 0 0] 51) := ⟨_, rfl⟩
  have sX : X.heap.size = w4.heap.size + 1 := by rw [hX]; simp
  have hlt4 := R4.lt
  have hd4 : (d6 zs).2.1 = [] ∨ d ≠ w4.heap.size := by
    rcases HD0.out with h | h
    · exact .inl h
    · right; omega
  have hs5 := b5.size
  have hlc := C5.lt
  have X6 : Cel X w4.heap.size 51 #[.int .i64 (d1 zs).1, .int .i64 (d2 zs).1, .int .i64 (d3 zs).1, .int .i64 0, .int .i64 0, .slice none 0 0] := by rw [hX]; exact Cel.new _ _ _
  have C6 : Cel X w.heap.size 51 #[.int .i64 0, .int .i64 0, .int .i64 0, .int .i64 0, .int .i64 0, .slice none 0 0] := by rw [hX]; exact C5.alloc _
  have bX : Below w4.heap.size w4 X := by rw [hX]; exact laidB (Below.refl _ _) _
  have R5 := R4.below R4.lt R4.dlt bX
  have b6 := b5.trans (bX.mono hs5)
  clear R4 C5 b5 bX
  go_wp2_with fail
  rw [← hX]
  clear hX
  generalize hB : w4.heap.size = B at *
  refine (int_named b d _ _ (d4 zs) rfl X R5 H3.out).mono ?_
  rintro e w5 ⟨rfl, R6, o6⟩
  have C7 := C6.onlyb o6 (by omega)
  have X7 := X6.onlyb o6 (by omega)
  have b7 := b6.trans (only_below o6 (show w.heap.size ≤ b by omega) R5.lt)
  clear R5 C6 X6 b6 o6
  dsimp only
  go_wp2_with fail
  refine (int_named b d _ _ (d5 zs) rfl w5 R6 H4.out).mono ?_
  rintro e w6 ⟨rfl, R7, o7⟩
  have C8 := C7.onlyb o7 (by omega)
  have X8 := X7.onlyb o7 (by omega)
  have b8 := b7.trans (only_below o7 (show w.heap.size ≤ b by omega) R6.lt)
  clear R6 C7 X7 b7 o7
  dsimp only
  go_wp2_with fail
  refine (rints_any b d _ _ w6 R7 H5.out HM5.out).mono ?_
  rintro e w7 ⟨v7, rfl, O7, R8, o8⟩
  rw [show rInts (d5 zs).2.1 (d5 zs).2.2 = d6 zs from rfl] at O7 R8
  have C9 := C8.onlyb o8 (by omega)
  have X9 := X8.onlyb o8 (by omega)
  have b9 := b8.trans (only_below o8 (show w.heap.size ≤ b by omega) R7.lt)
  have hx6 := X8.lt
  have hc6 := C8.lt
  have hr9 := row_own2 O7
  obtain ⟨a7, c7, rfl⟩ := row_slice (row_of_owns O7).1
  clear R7 C8 X8 b8 o8
  have x3 : w7.cell? ⟨B, 3, none⟩ = some (.int .i64 0) := X9.cell 3
  have x4 : w7.cell? ⟨B, 4, none⟩ = some (.int .i64 0) := X9.cell 4
  have x5 : w7.cell? ⟨B, 5, none⟩ = some (.slice none 0 0) := X9.cell 5
  have f3 := X9.free 3
  have f4 := X9.free 4
  have f5 := X9.free 5
  obtain ⟨Y, hY⟩ : ∃ Y, Y = ((w7.setCell ⟨B, 3, none⟩ (.int .i64 (d4 zs).1)).setCell ⟨B, 4, none⟩ (.int .i64 (d5 zs).1)).setCell ⟨B, 5, none⟩ (.slice a7 (d6 zs).1.length c7) := ⟨_, rfl⟩
  have oY : Only B w7 Y := by
    rw [hY]
    exact only_trans (only_trans (only_set _ _ _ _) (only_set _ _ _ _)) (only_set _ _ _ _)
  have R9 : Rd Y b d (d6 zs).2.1 (d6 zs).2.2 := R8.box oY (by omega) hd4
  have XA : Cel Y B 51 #[.int .i64 (d1 zs).1, .int .i64 (d2 zs).1, .int .i64 (d3 zs).1, .int .i64 (d4 zs).1, .int .i64 (d5 zs).1, .slice a7 (d6 zs).1.length c7] := by
    rw [hY]
    exact ((X9.set 3 _).set 4 _).set 5 _
  have CA := C9.onlyb oY (by omega)
  have bA : Below w.heap.size w Y := b9.trans (only_below oY (show w.heap.size ≤ B by omega) X9.lt)
  have rA : RowP .i64 (fun g => w.heap.size < g ∧ g < Y.heap.size) Y (.slice a7 (d6 zs).1.length c7) (d6 zs).1 := (hr9.keep ⟨fun k hk => oY.block k hk.2 (by simp; omega)⟩).mono (fun k hk => ⟨Nat.lt_of_lt_of_le hc6 hk.1, Nat.lt_of_lt_of_le hk.2 oY.size⟩)
  clear R8 X9 C9 b9 O7 hr9 oY
  dsimp only
  go_wp2_with fail
  rw [← hY]
  clear hY x3 x4 x5 f3 f4 f5
  refine (end_any b d _ _ Y R9).mono ?_
  rintro e wz ⟨rfl, hwz⟩
  subst hwz
  clear R9
  rw [show rEnd (d6 zs).2.1 (d6 zs).2.2 = decE zs from rfl]
  have hI : decI zs = ⟨(d1 zs).1, (d2 zs).1, (d3 zs).1, (d4 zs).1, (d5 zs).1, (d6 zs).1⟩ := rfl
  have HI := Lib.hid hI
  clear hI
  generalize hE : decE zs = E at *
  have HE := Lib.hid hE
  clear hE
  generalize (d1 zs).1 = D1 at *
  generalize (d2 zs).1 = D2 at *
  generalize (d3 zs).1 = D3 at *
  generalize (d4 zs).1 = D4 at *
  generalize (d5 zs).1 = D5 at *
  generalize (d6 zs).1 = D6 at *
  have g0 := CA.free 0
  have g1 := CA.free 1
  have g2 := CA.free 2
  have g3 := CA.free 3
  have g4 := CA.free 4
  have g5 := CA.free 5
  have y0 : wz.cell? ⟨w.heap.size, 0, none⟩ = some (.int .i64 0) := CA.cell 0
  have y1 : wz.cell? ⟨w.heap.size, 1, none⟩ = some (.int .i64 0) := CA.cell 1
  have y2 : wz.cell? ⟨w.heap.size, 2, none⟩ = some (.int .i64 0) := CA.cell 2
  have y3 : wz.cell? ⟨w.heap.size, 3, none⟩ = some (.int .i64 0) := CA.cell 3
  have y4 : wz.cell? ⟨w.heap.size, 4, none⟩ = some (.int .i64 0) := CA.cell 4
  have y5 : wz.cell? ⟨w.heap.size, 5, none⟩ = some (.slice none 0 0) := CA.cell 5
  have z0 : wz.cell? ⟨B, 0, none⟩ = some (.int .i64 D1) := XA.cell 0
  have z1 : wz.cell? ⟨B, 1, none⟩ = some (.int .i64 D2) := XA.cell 1
  have z2 : wz.cell? ⟨B, 2, none⟩ = some (.int .i64 D3) := XA.cell 2
  have z3 : wz.cell? ⟨B, 3, none⟩ = some (.int .i64 D4) := XA.cell 3
  have z4 : wz.cell? ⟨B, 4, none⟩ = some (.int .i64 D5) := XA.cell 4
  have z5 : wz.cell? ⟨B, 5, none⟩ = some (.slice a7 D6.length c7) := XA.cell 5
  dsimp only
  by_cases h0 : E = 0
  · have HE0 : Hid (decE zs = 0) := Lib.hid (by rw [HE.out]; exact h0)
    subst h0
    have oZ : Only w.heap.size wz ((((((wz.setCell ⟨w.heap.size, 0, none⟩ (.int .i64 D1)).setCell ⟨w.heap.size, 1, none⟩ (.int .i64 D2)).setCell ⟨w.heap.size, 2, none⟩ (.int .i64 D3)).setCell ⟨w.heap.size, 3, none⟩ (.int .i64 D4)).setCell ⟨w.heap.size, 4, none⟩ (.int .i64 D5)).setCell ⟨w.heap.size, 5, none⟩ (.slice a7 D6.length c7)) := only_trans (only_trans (only_trans (only_trans (only_trans (only_set _ _ _ _) (only_set _ _ _ _)) (only_set _ _ _ _)) (only_set _ _ _ _)) (only_set _ _ _ _)) (only_set _ _ _ _)
    go_wp2_with fail
    refine bodyPost_ret (v := .tuple #[.agg #[.int .i64 D1, .int .i64 D2, .int .i64 D3, .int .i64 D4, .int .i64 D5, .slice a7 D6.length c7], .int .i64 0]) (results_row_tmp rfl _ _ w.heap.size _ _ rfl rfl (run_loadVar_row _ _ 51 _ _ (0, 0) _ ((((((CA.set 0 (.int .i64 D1)).set 1 (.int .i64 D2)).set 2 (.int .i64 D3)).set 3 (.int .i64 D4)).set 4 (.int .i64 D5)).set 5 (.slice a7 D6.length c7)) Try.underlying51 rfl rfl)) rfl ?_
    refine ⟨bA.trans (only_below oZ (Nat.le_refl _) CA.lt), .inl ⟨HE0.out, a7, c7, by rw [HI.out], ?_⟩⟩
    rw [HI.out]
    exact (rA.keep ⟨fun k hk => oZ.block k hk.2 (by simp; omega)⟩).mono (fun k hk => Nat.lt_of_lt_of_le hk.2 oZ.size)
  · have HE0 : Hid (decE zs ≠ 0) := Lib.hid (by rw [HE.out]; exact h0)
    have hne : (E != 0) = true := by simpa using h0
    have oZ : Only w.heap.size wz ((((((wz.setCell ⟨w.heap.size, 0, none⟩ (.int .i64 0)).setCell ⟨w.heap.size, 1, none⟩ (.int .i64 0)).setCell ⟨w.heap.size, 2, none⟩ (.int .i64 0)).setCell ⟨w.heap.size, 3, none⟩ (.int .i64 0)).setCell ⟨w.heap.size, 4, none⟩ (.int .i64 0)).setCell ⟨w.heap.size, 5, none⟩ (.slice none 0 0)) := only_trans (only_trans (only_trans (only_trans (only_trans (only_set _ _ _ _) (only_set _ _ _ _)) (only_set _ _ _ _)) (only_set _ _ _ _)) (only_set _ _ _ _)) (only_set _ _ _ _)
    go_wp2_with fail
    refine bodyPost_ret (v := .tuple #[.agg #[.int .i64 0, .int .i64 0, .int .i64 0, .int .i64 0, .int .i64 0, .slice none 0 0], .int .i64 2]) (results_row_tmp rfl _ _ w.heap.size _ _ rfl rfl (run_loadVar_row _ _ 51 _ _ (0, 0) _ ((((((CA.set 0 (.int .i64 0)).set 1 (.int .i64 0)).set 2 (.int .i64 0)).set 3 (.int .i64 0)).set 4 (.int .i64 0)).set 5 (.slice none 0 0)) Try.underlying51 rfl rfl)) rfl ?_
    exact ⟨bA.trans (only_below oZ (Nat.le_refl _) CA.lt), .inr ⟨HE0.out, rfl⟩⟩
end Go.Proofs.Ytmfekbljfnjkgaa
