/- DiskHash: the walk. -/
import Derived.Test.YtafmapcblcnccaaDkS
import Derived.Test.YtafmapcblcnccaaRefA
import Derived.Test.YtafmapcblcnccaaHashBytes
import Derived.Test.YtafmapcblcnccaaHashMath3
import Derived.Laws.BitsAllLaws
namespace Go.Proofs.Ytafmapcblcnccaa
open Go.RowKit Go.Shelf
set_option linter.unusedVariables false

theorem mem_rngH {zs : List Int} (h : ∀ i : Nat, 0 ≤ zs[i]?.getD 0 ∧ zs[i]?.getD 0 < 256) : ∀ x ∈ zs, 0 ≤ x ∧ x < 256 := by
  intro x hx
  obtain ⟨i, hi⟩ := List.getElem?_of_mem hx
  have := h i
  rw [hi] at this
  exact this
theorem areB {zs : List Int} (h : ∀ x ∈ zs, 0 ≤ x ∧ x < 256) : AreBytes zs := by
  intro i
  cases e : zs[i]? with
  | none => simp
  | some x => simpa using h x (List.mem_of_getElem? e)
theorem xor8_eqH (x a : Int) (h1 : 0 ≤ x) (h2 : x < 256) (h3 : 0 ≤ a) (h4 : a ≤ 255) (h : bits .xor .u8 x a = x) : a = 0 := by
  rw [u8_xor x a h1 h2 h3 (by omega)] at h
  obtain ⟨n, rfl⟩ := Int.eq_ofNat_of_zero_le h1
  obtain ⟨m, rfl⟩ := Int.eq_ofNat_of_zero_le h3
  simp only [Int.toNat_natCast] at h
  have e : n ^^^ m = n := by omega
  have e2 : n ^^^ (n ^^^ m) = n ^^^ n := by rw [e]
  rw [← Nat.xor_assoc, Nat.xor_self, Nat.zero_xor] at e2
  omega
theorem mask_rng (b : Nat) : (1 : Int) ≤ 128 / 2 ^ min (b % 8) 8 ∧ (128 : Int) / 2 ^ min (b % 8) 8 ≤ 255 := by
  have h : b % 8 < 8 := Nat.mod_lt _ (by decide)
  generalize b % 8 = r at h
  rcases r with _ | _ | _ | _ | _ | _ | _ | _ | r
  all_goals first | omega | decide
theorem turn_ne (bs : List Int) (b : Nat) (hb : b / 8 < bs.length) (hz : AreBytes bs) : turnB bs b ≠ bs := by
  intro h
  have e : (turnB bs b)[b / 8]?.getD 0 = bs[b / 8]?.getD 0 := by rw [h]
  unfold turnB at e
  rw [List.getElem?_set_self hb] at e
  have hr := mask_rng b
  have := xor8_eqH _ _ (hz (b / 8)).1 (hz (b / 8)).2 (by omega) hr.2 e
  omega
theorem surv8 (L D : Nat) (hD : D ≤ L) (hL : L ≤ 8) : surv [8] L D = L - D := by
  unfold surv
  have e : ([8] : List Int)[0]?.getD 0 = 8 := rfl
  rw [if_pos (by decide), e]
  omega
theorem crash_same (own : List Int) (D : Nat) (hD : D ≤ own.length) (hL : own.length ≤ 8) (flip : Int) (h : D = own.length ∨ flip < 0) : crashB own D [8] flip = own := by
  unfold crashB
  rw [surv8 _ _ hD hL, if_neg (by omega), List.take_of_length_le (by omega)]
theorem crash_turn (own : List Int) (h0 : 0 < own.length) (hL : own.length ≤ 8) (flip : Int) (hf : 0 ≤ flip) : crashB own 0 [8] flip = turnB own (bitAt flip own.length 0) := by
  unfold crashB
  rw [surv8 _ _ (Nat.zero_le _) hL, if_pos ⟨hf, by omega⟩, List.take_of_length_le (by omega)]
  rfl
theorem bit_lt (flip : Int) (L : Nat) (h0 : 0 < L) : bitAt flip L 0 / 8 < L := by
  unfold bitAt
  have h1 : 0 ≤ flip % (8 * (L : Int)) := Int.emod_nonneg _ (by omega)
  have h2 : flip % (8 * (L : Int)) < 8 * (L : Int) := Int.emod_lt_of_pos _ (by omega)
  omega
theorem hash_one (l xs ys : List Int) (hl : xs.length = ys.length) (h8 : xs.length ≤ 8) (hx : AreBytes xs) (hy : AreBytes ys) :
    (sumI l ((wordsOf xs).map wrap64 ++ [(xs.length : Int)]) == sumI l ((wordsOf ys).map wrap64 ++ [(ys.length : Int)])) = (xs == ys) := by
  refine oneGroup l xs ys 0 hl (fun i hi => ?_) hx hy
  have h : 8 ≤ i := by omega
  rw [List.getElem?_eq_none (by omega), List.getElem?_eq_none (by omega)]
/-- The bytes behind the crash, and their hash. -/
theorem crash_hash (l own : List Int) (h0 : 0 < own.length) (hL : own.length ≤ 8) (hz : AreBytes own) (flip : Int) (syn : Bool) (x : List Int) (hx : x = crashB own (if syn = true then own.length else 0) [8] flip) :
    x.length = own.length ∧ (sumI l ((wordsOf x).map wrap64 ++ [(x.length : Int)]) == sumI l ((wordsOf own).map wrap64 ++ [(own.length : Int)])) = (syn || decide (flip < 0)) := by
  by_cases h : syn = true ∨ flip < 0
  · have e : x = own := by
      rw [hx]
      refine crash_same own _ ?_ hL flip ?_
      · split <;> omega
      · rcases h with h | h
        · rw [if_pos h]; exact .inl rfl
        · exact .inr h
    subst e
    refine ⟨rfl, ?_⟩
    rw [beq_self_eq_true]
    rcases h with h | h
    · rw [h]; rfl
    · rw [decide_eq_true h, Bool.or_true]
  · have hs : syn = false := by cases syn with | false => rfl | true => exact absurd (.inl rfl) h
    have hf : 0 ≤ flip := by
      by_cases h5 : flip < 0
      · exact absurd (.inr h5) h
      · omega
    have e : x = turnB own (bitAt flip own.length 0) := by
      rw [hx, hs]
      exact crash_turn own h0 hL flip hf
    have hl : x.length = own.length := by rw [e, turn_len]
    have hxb : AreBytes x := by
      rw [e]
      refine areB (fun y hy => ?_)
      unfold turnB at hy
      rcases List.mem_or_eq_of_mem_set hy with hy | rfl
      · obtain ⟨i, hi⟩ := List.getElem?_of_mem hy
        have := hz i
        rw [hi] at this
        exact this
      · exact xor8_rng' _ _
    refine ⟨hl, ?_⟩
    rw [hash_one l x own hl (by omega) hxb hz, hs, decide_eq_false (by omega)]
    have := turn_ne own _ (bit_lt flip _ h0) hz
    rw [← e] at this
    simpa using this
theorem owns_formH {w : World} {base : Nat} {e : TypeId} {size : Nat} {v : Value} {n : Nat} {xs : List Value} (h : w.ownsRow base e size v n xs) : ∃ a cap, v = .slice a n cap := by
  rcases h.2 with ⟨rfl, rfl⟩ | ⟨g, cp, cur, rfl, _⟩
  · exact ⟨_, _, rfl⟩
  · exact ⟨_, _, rfl⟩
set_option maxRecDepth 100000 in
set_option maxHeartbeats 8000000 in
theorem diskHash_walk (a0 : Option Addr) (len0 cap0 : Nat) (z0 : List Int) (a1 : Int) (a2 : Bool) (w : World) (w0 : IsRow .u8 w a0 len0 cap0 z0) (w1 : (Lit.int .i64 a1).wf = true) :
    Calls Try.prog 9 #[.slice a0 len0 cap0, .int .i64 a1, .bool a2] w fun e w' => e = .returned (.bool true) ∧ Below w.heap.size w w' := by
  have HLV := Lib.hid lives30_any
  obtain ⟨i0, hi, hz0, hz1, hz2⟩ := info_parts3 info_u8
  obtain ⟨hr, hw⟩ := w0.row
  have hz := take_rng (u8_rng hw) (7 : Int).toNat
  have hzl : ((z0.take len0).take (7 : Int).toNat).length ≤ 7 := by rw [List.length_take]; exact Nat.min_le_left _ _
  have HN := Lib.hid (newD_ok 100 (by decide) (by decide) w)
  have HR := Lib.hid hr
  obtain ⟨few, hfew⟩ : ∃ few, few = (z0.take len0).take (7 : Int).toNat := ⟨_, rfl⟩
  rw [← hfew] at hz hzl
  obtain ⟨own, hown⟩ : ∃ own, few ++ [1] = own := ⟨_, rfl⟩
  have hL1 : own.length = few.length + 1 := by rw [← hown, List.length_append]; rfl
  have hzo : ∀ x ∈ own, 0 ≤ x ∧ x < 256 := by
    rw [← hown]
    intro x hx
    rcases List.mem_append.1 hx with hx | hx
    · exact mem_rngH hz x hx
    · simp at hx; subst hx; exact ⟨by decide, by decide⟩
  obtain ⟨x, hx⟩ : ∃ x, x = crashB own (if a2 = true then own.length else 0) [8] a1 := ⟨_, rfl⟩
  have hch := crash_hash (bytesI ⟨#[102]⟩) own (by omega) (by omega) (areB hzo) a1 a2 x hx
  obtain ⟨L, hL⟩ : ∃ L, own.length = L := ⟨_, rfl⟩
  obtain ⟨Lf, hLf⟩ : ∃ L, few.length = L := ⟨_, rfl⟩
  have hL8 : L ≤ 8 := by omega
  have hL0 : 1 ≤ L := by omega
  have hLf7 : Lf ≤ 7 := by omega
  have HFW := Lib.hid hfew
  have HOWN := Lib.hid hown
  have HL := Lib.hid hL
  have HLF := Lib.hid hLf
  have HZO := Lib.hid hzo
  have HX := Lib.hid hx
  have HXL := Lib.hid (show x.length = L from hch.1.trans hL)
  have HCH := Lib.hid hch.2
  clear hr hw hz hzl w0 w1 hfew hown hzo hx hch hL hLf hL1
  go_enter Try.func9, Try.ntmps9
  go_wp2_with fail
  refine HN.out.mono ?_
  rintro e q1 ⟨rfl, hD1, b1⟩
  dsimp only
  have HD1 := Lib.hid hD1
  have HB1 := Lib.hid b1
  have HR1 := Lib.hid (rowB HR.out b1)
  clear hD1 b1 HN HR
  generalize w.heap.size + 1 = p at *
  go_wp2_with fail
  refine (few_int _ _ 7 _ HR1.out (by decide) (by decide)).mono ?_
  rintro e q2 ⟨ao, co, rfl, ho2, -, b2⟩
  rw [← HFW.out, HLF.out] at ho2
  rw [← HFW.out, HLF.out]
  dsimp only
  have b2' := laidB b2 (.cells #[.int .u8 1] 5)
  have r2 := litB q2 [1] (by decide) 1 rfl #[.int .u8 1] rfl
  have HD2 := Lib.hid (HD1.out.step b2')
  have HB2 := Lib.hid (stepB HB1.out b2')
  have hs2 := HD1.out.box.lt
  have hlm := HD1.out.map.lt
  have hsX := b2.size
  have HO2 := Lib.hid (ho2.alloc (.cells #[.int .u8 1] 5))
  have HR2 := Lib.hid r2
  have hlt := Lib.hid (fun k (hk : DkB p w.heap.size (.slice none 0 0) k) => (HD1.out.blk hk).2)
  clear b2 ho2 HR1 HD1 HB1 b2' r2
  have hnb : ∀ k, (Value.slice ao Lf co).ownBlock = some k → q1.heap.size ≤ k := fun k hk => own_base HO2.out hk
  have HNB := Lib.hid hnb
  have H63 : Hid (Lf + ([1] : List Int).length ≤ maxLen) := Lib.hid (by show Lf + 1 ≤ _; unfold maxLen; omega)
  have HBY : Hid ((Lf + ([1] : List Int).length) * 1 ≤ 140737488355328) := Lib.hid (by show (Lf + 1) * 1 ≤ _; omega)
  have HBS : Hid (q1.heap.size ≤ (q2.alloc (.cells #[.int .u8 1] 5)).heap.size) := Lib.hid (by rw [World.size_alloc]; omega)
  clear hnb
  go_upto_region 5 with (at_builtin; refine wpList_append_rowAt rfl _ _ 33 rfl q1.heap.size 5 i0 .u8 (.int .u8 0) 1 Try.underlying33 hi hz0 hz1 hz2 rfl (.slice ao Lf co) _ few rfl HO2.out _ [1] (fun x => x < _) rfl HR2.out H63.out HBY.out HBS.out ?_; intro v3 Y g1 g2 g3; rw [HOWN.out, HL.out] at g1; obtain ⟨a3, c3, rfl⟩ := owns_formH g1; replace g1 := Lib.hid g1; replace g2 := Lib.hid g2; clear g3)
  have oY : OnlyP (fun k => q1.heap.size ≤ k) (q2.alloc (.cells #[.int .u8 1] 5)) Y := OnlyP.of_grown g2.out (fun k e => HNB.out k e)
  have HB3 := Lib.hid (HB2.out.trans (oY.below (n := w.heap.size) HB2.out.size (fun k hk => by omega)))
  have HD3 := Lib.hid (HD2.out.only oY (fun k hk hq => by have := hlt.out k hk; omega))
  clear oY g2 HNB HB2 HD2 HO2 HR2
  have hap : (newDS 100).app 0 own = (0, ⟨100, -1, false, some (0, own, 0)⟩) := by
    unfold DS.app
    have e1 : (lenD (newDS 100).f : Int) + own.length = own.length := by
      show ((0 : Nat) : Int) + _ = _
      omega
    have e2 : (newDS 100).room = 100 := rfl
    have e4 : newF (newDS 100).f 0 own = some (0, own, 0) := by
      show (if own.length = 0 then none else some (0, own, 0)) = _
      rw [if_neg (by rw [HL.out]; omega)]
    rw [e1, e2, e4, if_neg (by decide), if_neg (by unfold newDS; simp), HL.out, if_neg (by omega)]
    rfl
  have HAP := Lib.hid hap
  clear hap
  go_wp2_with fail
  refine (append_is (s' := ⟨100, -1, false, some (0, own, 0)⟩) _ HD3.out 0 a3 L c3 own HL.out.symm (row_of_owns g1.out).1 (by rw [HL.out]; omega) HZO.out (fun _ _ _ h => by cases h) 0 HAP.out).mono ?_
  rintro e q3 ⟨rfl, v3, hD4, o4, hv⟩
  dsimp only
  have hob := Lib.hid (fun b (hb : (Value.slice a3 L c3).ownBlock = some b) => (⟨own_base g1.out hb, owns_lt' g1.out hb⟩ : q1.heap.size ≤ b ∧ b < Y.heap.size))
  have hvb : Hid (∀ b, v3.ownBlock = some b → Y.heap.size ≤ b) := Lib.hid (fun b hb => by
    rcases hv with q | q | ⟨k, q, q'⟩
    · rw [q] at hb; cases hb
    · rw [q] at hb; cases hb
    · rw [q] at hb; injection hb with hb; omega)
  have HO4 := Lib.hid (owns_only g1.out o4 (fun k h1 _ h3 => by have := hlt.out k h3; omega))
  have HB4 := Lib.hid (HB3.out.trans (HD3.out.below o4 (Nat.le_refl _)))
  have HD4 := Lib.hid hD4
  have hYq := o4.size
  clear hD4 o4 HB3 HD3 g1 hlt hv HAP
  go_upto_if 29 with (fail)
  go_cut [] (fun wx => ∃ v4, Hid (Dk wx w.heap.size p w.heap.size ⟨100, -1, false, some (0, own, if a2 = true then own.length else 0)⟩ v4) ∧ Hid (∀ b, v4.ownBlock = some b → Y.heap.size ≤ b) ∧ Hid (wx.ownsRow q1.heap.size 5 1 (.slice a3 L c3) L (own.map (Value.int .u8))) ∧ Hid (Below w.heap.size w wx))
  case first =>
    cases a2
    · go_wp2_with fail
      go_meet
      exact ⟨v3, HD4, hvb, HO4, HB4⟩
    · go_wp2_with fail
      refine (sync_is (s' := ⟨100, -1, false, some (0, own, own.length)⟩) _ HD4.out (key_of (by decide) (by decide)) 0 rfl).mono ?_
      rintro e q4 ⟨rfl, v4, hD5, o5, hv⟩
      dsimp only
      have hvb4 : Hid (∀ b, v4.ownBlock = some b → Y.heap.size ≤ b) := Lib.hid (fun b hb => by
        rcases hv with q | q | ⟨k, q, q'⟩
        · exact hvb.out b (by rw [← q]; exact hb)
        · rw [q] at hb; cases hb
        · rw [q] at hb; injection hb with hb; omega)
      have HO5 := Lib.hid (owns_same HO4.out (fun b hb => o5.block b (owns_lt' HO4.out hb) (fun h3 => by
        have g1 := hob.out b hb
        rcases h3 with h3 | h3 | h3
        · omega
        · omega
        · have := hvb.out b h3; omega)))
      have HB5 := Lib.hid (HB4.out.trans (HD4.out.below o5 (Nat.le_refl _)))
      have HD5 : Hid (Dk q4 w.heap.size p w.heap.size ⟨100, -1, false, some (0, own, if true = true then own.length else 0)⟩ v4) := Lib.hid (by rw [if_pos rfl]; exact hD5)
      clear hD5 o5 hv HD4 HO4 HB4
      go_wp2_with fail
      go_meet
      exact ⟨v4, HD5, hvb4, HO5, HB5⟩
  case rest =>
    obtain ⟨v4, HD5, hvb4, HO5, HB5⟩ := hcut
    clear HD4 HO4 HB4 hvb
    have hr5 := Lib.hid (litI wc [8] (by decide) 1 rfl #[.int .i64 8] rfl)
    have bb := laidB (Below.refl wc.heap.size wc) (.cells #[.int .i64 8] 3)
    have HD6 := Lib.hid (HD5.out.step bb)
    have HO6 := Lib.hid (owns_kept_below HO5.out bb)
    have HB6 := Lib.hid (stepB HB5.out bb)
    clear bb HD5 HO5 HB5
    have hcr : DS.crash ⟨100, -1, false, some (0, own, if a2 = true then own.length else 0)⟩ [8] a1 = ⟨100, -1, false, some (0, x, L)⟩ := by
      have hxl := HXL.out
      unfold DS.crash
      show (⟨100, -1, false, if (if a2 = true then own.length else 0) + surv [8] own.length (if a2 = true then own.length else 0) = 0 then none else some (0, crashB own (if a2 = true then own.length else 0) [8] a1, (crashB own (if a2 = true then own.length else 0) [8] a1).length)⟩ : DS) = _
      rw [← HX.out, hxl, if_neg]
      rw [surv8 _ _ (by split <;> omega) (by rw [HL.out]; exact hL8), HL.out]
      split <;> omega
    have HCR := Lib.hid hcr
    clear hcr
    go_wp2_with fail
    refine (crash_is (s' := ⟨100, -1, false, some (0, x, L)⟩) _ HD6.out (key_of (by decide) (by decide)) _ 1 1 [8] rfl hr5.out a1 HCR.out).mono ?_
    rintro e q5 ⟨rfl, v5, hD7, o7, -⟩
    dsimp only
    have HO7 := Lib.hid (owns_same HO6.out (fun b hb => o7.block b (owns_lt' HO6.out hb) (fun h3 => by
        have g1 := hob.out b hb
        rcases h3 with h3 | h3 | h3
        · omega
        · omega
        · have := hvb4.out b h3; omega)))
    have HB7 := Lib.hid (HB6.out.trans (HD6.out.below o7 (Nat.le_refl _)))
    have HD7 := Lib.hid hD7
    clear hD7 o7 HD6 HO6 HB6 hr5 HCR hvb4 hob
    go_wp2_with fail
    refine (readD_own _ HD7.out 0 (by decide) (by decide) rfl x (by simp [bytesAt]) L HXL.out (by rw [HXL.out]; omega)).mono ?_
    rintro e q6 ⟨a6, c6, rfl, hx6, b6⟩
    dsimp only
    have HX6 := Lib.hid (row_of_owns hx6).1
    have HO7' := Lib.hid (row_of_owns (owns_kept_below HO7.out b6)).1
    have HB8 := Lib.hid (stepB HB7.out b6)
    clear hx6 b6 HD7 HO7 HB7
    go_wp2_with fail
    have hch := HCH.out
    have hbx := bytes_any ⟨#[102]⟩ a6 L c6 x (by decide) q6 HX6.out HXL.out.symm (by rw [HXL.out]; omega)
    have hbo := fun W h => bytes_any ⟨#[102]⟩ a3 L c3 own (by decide) W h HL.out.symm (by rw [HL.out]; omega)
    generalize sumI (bytesI ⟨#[102]⟩) ((wordsOf x).map wrap64 ++ [(x.length : Int)]) = A at *
    generalize sumI (bytesI ⟨#[102]⟩) ((wordsOf own).map wrap64 ++ [(own.length : Int)]) = B at *
    have HBX := Lib.hid hbx
    have HBO := Lib.hid hbo
    have HCH' := Lib.hid hch
    clear hbx hbo hch
    refine HBX.out.mono ?_
    rintro e q7 ⟨rfl, b7⟩
    dsimp only
    have HO8 := Lib.hid (rowB HO7'.out b7)
    have HB9 := Lib.hid (stepB HB8.out b7)
    clear b7 HBX HB8 HO7' HX6
    go_wp2_with fail
    refine (HBO.out _ HO8.out).mono ?_
    rintro e q8 ⟨rfl, b8⟩
    dsimp only
    have HB10 := Lib.hid (stepB HB9.out b8)
    clear b8 HBO HB9 HO8
    have hch := HCH'.out
    cases a2
    · by_cases hf : a1 < 0
      · rw [decide_eq_true hf, Bool.or_true, beq_iff_eq] at hch
        subst hch
        go_wp2_with fail
        refine (HLV.out _).mono ?_
        rintro e q9 ⟨rfl, b9⟩
        dsimp only
        go_wp2_with fail
        go_ret
        exact ⟨rfl, stepB HB10.out b9⟩
      · rw [decide_eq_false hf, Bool.or_false] at hch
        have hne : ¬ A = B := by simpa using hch
        go_wp2_with fail
        refine (HLV.out _).mono ?_
        rintro e q9 ⟨rfl, b9⟩
        dsimp only
        go_wp2_with fail
        go_ret
        exact ⟨rfl, stepB HB10.out b9⟩
    · rw [Bool.true_or, beq_iff_eq] at hch
      subst hch
      go_wp2_with fail
      refine (HLV.out _).mono ?_
      rintro e q9 ⟨rfl, b9⟩
      dsimp only
      go_wp2_with fail
      go_ret
      exact ⟨rfl, stepB HB10.out b9⟩
end Go.Proofs.Ytafmapcblcnccaa
