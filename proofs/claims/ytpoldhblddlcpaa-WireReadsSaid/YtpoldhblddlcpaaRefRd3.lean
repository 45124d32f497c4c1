/- Contracts of the reference model's reader: truth values, lists, values. -/
import Derived.Test.YtpoldhblddlcpaaRefRd2
namespace Go.Proofs.Ytpoldhblddlcpaa
open Go.RowKit Go.Shelf
set_option linter.unusedVariables false

set_option maxHeartbeats 1000000 in
theorem rbool_any' (n₀ b : Nat) (zs : List Int) (err : Int) (w : World) (h : RR w n₀ b zs err) (hz : ∀ x ∈ zs, 0 ≤ x ∧ x < 256) :
    Calls Try.prog 51 #[.pointer (some ⟨b, 0, none⟩)] w fun e w' => e = .returned (.bool (rBool zs err).1) ∧ RPost n₀ b w zs (rBool zs err).2.1 (rBool zs err).2.2 w' := by
  have hc1 := h.err
  have hf0 := h.free 0
  have hf1 := h.free 1
  obtain ⟨hnb, v, hv, hr⟩ := id h
  have hc0 := rd_cell0 hv
  obtain ⟨a, cap, rfl⟩ := row_slice hr
  have hlc := hr.lencap
  unfold maxLen at hlc
  by_cases he : err = 0
  · subst he
    cases zs with
    | nil =>
      have e1 : rBool [] 0 = (false, [], 3) := rfl
      rw [e1]
      clear e1
      simp only [List.length_nil] at hc0
      go_enter Try.func51, Try.ntmps51
      go_wp2_with fail
      go_ret
      exact ⟨rfl, [], h.set1 3, (fun e => by cases e), Nat.le_refl _, fun _ hx => hx, only_set _ _ _ _⟩
    | cons c r =>
      have hx := hz c (List.mem_cons_self ..)
      obtain ⟨hx0, hx1⟩ := hx
      obtain ⟨d, off, rfl, hd, hcs⟩ := hr.at (by simp)
      have c0 : w.cell? ⟨d, off, none⟩ = some (.int .u8 c) := by simpa using hcs 0 (by simp)
      have hdr := row_drop hr 1 (by simp)
      have HDR := Lib.hid hdr
      have hl0 : ¬ ((c :: r).length : Int) = 0 := by simp only [List.length_cons]; omega
      have hlb : (((c :: r).length : Int) == 0) = false := by simpa using hl0
      have hlp : (0 : Int) < ((c :: r).length : Int) := by simp only [List.length_cons]; omega
      clear hcs hdr hl0 hz
      generalize hL : (c :: r).length = L at *
      have HL := Lib.hid hL
      clear hL
      by_cases h1 : 1 < c
      · have hc1' : (c == 1) = false := by simp; omega
        have e1 : rBool (c :: r) 0 = (false, r, 2) := by
          show ((c == 1), r, if 1 < c then failI 0 2 else 0) = _
          rw [hc1', if_pos h1]
          rfl
        rw [e1]
        clear e1
        go_enter Try.func51, Try.ntmps51
        go_wp2_with fail
        go_ret
        exact ⟨rfl, c :: r, h.set1 2, (fun e => by cases e), Nat.le_refl _, fun _ hx => hx, only_set _ _ _ _⟩
      · have e1 : rBool (c :: r) 0 = ((c == 1), r, 0) := by
          show ((c == 1), r, if 1 < c then failI 0 2 else 0) = _
          rw [if_neg h1]
        rw [e1]
        clear e1
        have fin : ∀ v' : Value, Row .u8 n₀ w v' r → RPost n₀ b w (c :: r) r 0 (w.setCell ⟨b, 0, none⟩ v') := fun v' h' => ⟨r, h.set0 h', fun _ => rfl, by simp, fun x hx => List.mem_cons_of_mem _ hx, only_set _ _ _ _⟩
        have F := Lib.hid fin
        clear fin
        by_cases hcp : cap = 1
        · subst hcp
          go_enter Try.func51, Try.ntmps51
          go_wp2_with fail
          go_ret
          refine ⟨rfl, F.out _ ?_⟩
          have hL1 : L = 1 := by omega
          have := HDR.out.2 (by omega)
          rw [hL1] at this
          simpa [hL1] using this
        · go_enter Try.func51, Try.ntmps51
          go_wp2_with fail
          go_ret
          exact ⟨rfl, F.out _ (by have := HDR.out.1; simpa using this)⟩
  · have hb : (err == 0) = false := by simpa using he
    have hb2 : (err != 0) = true := by simpa using he
    have hO : rOct zs err = (0, zs, err) := by unfold rOct; split; exact absurd rfl he; rfl
    have e1 : rBool zs err = (false, zs, err) := by unfold rBool; rw [hO]; rfl
    rw [e1]
    have HE := Lib.hid he
    clear he e1 hO
    go_enter Try.func51, Try.ntmps51
    go_wp2_with fail
    go_ret
    exact ⟨rfl, zs, h, fun _ => rfl, Nat.le_refl _, fun _ hx => hx, only_refl _ _⟩

set_option maxHeartbeats 2000000 in
theorem rints_any' (n₀ b : Nat) (zs : List Int) (err : Int) (w : World) (h : RR w n₀ b zs err) (hz : ∀ x ∈ zs, 0 ≤ x ∧ x < 256) (hm : zs.length ≤ 10000000) :
    Calls Try.prog 53 #[.pointer (some ⟨b, 0, none⟩)] w fun e w' => ∃ v, e = .returned v ∧ w'.ownsRow w.heap.size 3 1 v (rInts zs err).1.length ((rInts zs err).1.map (Value.int .i64)) ∧ RPost n₀ b w zs (rInts zs err).2.1 (rInts zs err).2.2 w' := by
  obtain ⟨i0, hi, hz0, hz1, hz2⟩ := info_parts info_i64
  have hbl := h.lt
  have hlok := lenI_ok zs err
  have hfit := rLen_fit zs err
  have hll := rLen_len zs err
  have HZ := Lib.hid hz; clear hz
  have hR0 : rInts zs err = if (rLen zs err).2.2 = 0 then rMany (rLen zs err).1 [] (rLen zs err).2.1 0 else ([], (rLen zs err).2) := rfl
  have hlen0 : lenI zs err = if (rLen zs err).2.2 = 0 then ((rLen zs err).1 : Int) else 0 := rfl
  generalize rInts zs err = T at *
  have HR0 := Lib.hid hR0
  have HL0 := Lib.hid hlen0
  clear hR0 hlen0
  have HLOK := Lib.hid hlok
  have HFIT := Lib.hid hfit
  clear hlok hfit
  go_enter Try.func53, Try.ntmps53
  go_wp2_with fail
  refine (rlength_any n₀ b zs err w h HZ.out hm).mono ?_
  generalize lenI zs err = V at *
  generalize rLen zs err = U at *
  obtain ⟨N, left, er⟩ := U
  dsimp only at *
  rintro e w1 ⟨rfl, zs', hR, hleft, hl', hmem, ho⟩
  by_cases he : er = 0
  · subst he
    obtain rfl := hleft rfl
    have hV := HLOK.out rfl
    have hN := HFIT.out rfl
    subst hV
    have HT : Hid (rMany (N - 0) [] zs' 0 = T) := Lib.hid (by rw [HR0.out, if_pos rfl]; rfl)
    have hos := ho.size
    clear hleft
    go_wp2_with fail
    go_loopw [4, 5] (fun v i wr => ∃ (k : Nat) (acc ys : List Int) (e : Int), k ≤ N ∧ i = .int .i64 (k : Int) ∧ acc.length = k ∧ wr.ownsRow w.heap.size 3 1 v acc.length (acc.map (Value.int .i64)) ∧ RR wr n₀ b ys e ∧ Hid ((e = 0 ∧ rMany (N - k) acc ys 0 = T) ∨ (e ≠ 0 ∧ T.1 = [] ∧ T.2.2 = e)) ∧ ys.length ≤ zs.length ∧ (∀ x ∈ ys, x ∈ zs) ∧ Only b w wr) (fun _ i _ => N - (intOf i).toNat)
    case atStart => exact ⟨0, [], zs', 0, Nat.zero_le _, rfl, rfl, World.ownsRow_nil _ _ _ _, hR, Lib.hid (.inl ⟨rfl, HT.out⟩), hl', hmem, ho⟩
    case round =>
      obtain ⟨k, acc, ys, er, hk, rfl, hacc, hown, hRy, hH, hyl, hym, hoy⟩ := hrel
      have hc1 := hRy.err
      have hsy := hoy.size
      have hHacc := Lib.hid hacc
      have hacl : acc.length ≤ 10000000 := by omega
      clear hacc
      by_cases hlt : k < N
      · have hi1 : (k : Int) < N := by omega
        by_cases he : er = 0
        · subst he
          have hT : rMany (N - k) acc ys 0 = T := by
            rcases hH.out with ⟨_, h1⟩ | ⟨h1, _⟩
            · exact h1
            · exact absurd rfl h1
          have hyz : ∀ x ∈ ys, 0 ≤ x ∧ x < 256 := fun x hx => HZ.out x (hym x hx)
          have HT2 := Lib.hid hT
          have HYZ := Lib.hid hyz
          have HYM := Lib.hid hym
          clear hT hyz hym hH
          go_wp2_with fail
          refine (rint_any' n₀ b ys 0 _ hRy HYZ.out).mono ?_
          generalize hq : rInt ys 0 = q
          have HQ := Lib.hid hq
          clear hq
          obtain ⟨x, left2, er2⟩ := q
          rintro e w2 ⟨rfl, ys2, hR2, hleft2, hl2, hmem2, ho2⟩
          have hown2 := hown.kept ho2 (.inr fun e => by have := (hown.lt _ e).1; omega)
          have ho12 := only_trans hoy ho2
          have hs2 := ho2.size
          clear hown hRy hc1
          dsimp only
          go_wp2_with (at_builtin; refine wpList_append_own _ rfl _ _ 22 rfl w.heap.size 3 i0 (.int .i64 0) 1 8 Try.underlying22 hi hz0 hz1 hz2 rfl (by decide) _ _ _ rfl (hown2.alloc _) ⟨w2.heap.size, 0, none⟩ 1 1 [.int .i64 x] rfl rfl (cell_one_new _ _ _) (by simp [Value.oneCell']) (by unfold maxLen; omega) (by omega) (by simp; omega) ?_; intro v3 w3 hown3 hgrow3 _)
          have hb3 : Below w.heap.size w2 w3 := ((Below.refl w.heap.size w2).alloc (by omega) _).grown hgrow3 (by simp; omega) (fun g e => (hown2.lt g e).1)
          have hR3 := hR2.below hbl hb3
          have hst : Hid ((er2 = 0 ∧ rMany (N - (k + 1)) (acc ++ [x]) ys2 0 = T) ∨ (er2 ≠ 0 ∧ T.1 = [] ∧ T.2.2 = er2)) := Lib.hid (by
            have e1 := HT2.out
            rw [show N - k = (N - (k + 1)) + 1 from by omega] at e1
            by_cases h0 : er2 = 0
            · subst h0
              rw [rMany_next _ _ _ (by rw [HQ.out]), HQ.out] at e1
              rw [hleft2 rfl]
              exact .inl ⟨rfl, e1⟩
            · rw [rMany_stop _ _ _ (by rw [HQ.out]; exact h0), HQ.out] at e1
              exact .inr ⟨h0, by rw [← e1], by rw [← e1]⟩)
          clear hleft2
          go_roundw
          case rel => exact ⟨k + 1, acc ++ [x], ys2, er2, by omega, by go_num, by rw [List.length_append, hHacc.out]; rfl, by rw [List.map_append, List.length_append]; exact hown3, hR3, hst, by omega, fun y hy => HYM.out y (hmem2 y hy), only_belowN ho12 hb3⟩
          case measure => simp [intOf]; omega
        · have hbf : (er == 0) = false := by simpa using he
          have hbt : (er != 0) = true := by simpa using he
          have hT : T.1 = [] ∧ T.2.2 = er := by
            rcases hH.out with ⟨h1, _⟩ | ⟨_, h1⟩
            · exact absurd h1 he
            · exact h1
          have HT2 := Lib.hid hT
          have HE := Lib.hid he
          have HYM := Lib.hid hym
          clear hT hH he hym
          go_wp2_with fail
          go_ret
          refine ⟨_, rfl, by rw [HT2.out.1]; exact World.ownsRow_nil _ _ _ _, ys, by rw [HT2.out.2]; exact hRy, fun e => absurd (HT2.out.2.symm.trans e) HE.out, hyl, HYM.out, hoy⟩
      · have hkN : k = N := by omega
        by_cases he : er = 0
        · subst he
          have hT : T = (acc, ys, 0) := by
            rcases hH.out with ⟨_, h1⟩ | ⟨h1, _⟩
            · rw [← h1, hkN, Nat.sub_self]; rfl
            · exact absurd rfl h1
          have HT2 := Lib.hid hT
          have HYM := Lib.hid hym
          have HKN := Lib.hid hkN
          clear hT hH hym hkN
          go_wp2_with fail
          go_ret
          rw [HT2.out]
          exact ⟨u4, rfl, hown, ys, hRy, fun _ => rfl, hyl, HYM.out, hoy⟩
        · have hbt : (er != 0) = true := by simpa using he
          have hT : T.1 = [] ∧ T.2.2 = er := by
            rcases hH.out with ⟨h1, _⟩ | ⟨_, h1⟩
            · exact absurd h1 he
            · exact h1
          have HT2 := Lib.hid hT
          have HE := Lib.hid he
          have HYM := Lib.hid hym
          have HKN := Lib.hid hkN
          clear hT hH he hym hkN
          go_wp2_with fail
          go_ret
          refine ⟨_, rfl, by rw [HT2.out.1]; exact World.ownsRow_nil _ _ _ _, ys, by rw [HT2.out.2]; exact hRy, fun e => absurd (HT2.out.2.symm.trans e) HE.out, hyl, HYM.out, hoy⟩
  · have hbf : (er == 0) = false := by simpa using he
    have hbt : (er != 0) = true := by simpa using he
    have hc1 := hR.err
    have e1 : T = ([], left, er) := by rw [HR0.out, if_neg he]
    have e2 : V = 0 := by rw [HL0.out, if_neg he]
    subst e2
    have E1 := Lib.hid e1
    have HE := Lib.hid he
    have HM := Lib.hid hmem
    clear he hleft e1 hmem
    go_wp2_with fail
    go_loopw [4, 5] (fun v i wr => v = .slice none 0 0 ∧ i = .int .i64 0 ∧ wr = w1) (fun _ i _ => 10 - (intOf i).toNat)
    case atStart => exact ⟨rfl, rfl, rfl⟩
    case round =>
      obtain ⟨rfl, rfl, rfl⟩ := hrel
      go_wp2_with fail
      go_ret
      rw [E1.out]
      exact ⟨_, rfl, World.ownsRow_nil _ _ _ _, zs', hR, fun e => absurd e HE.out, hl', HM.out, ho⟩

/-- What Read leaves. -/
def RRead (n₀ b : Nat) (w : World) (zs : List Int) (R : VM × List Int × Int) (e : Ending) (w' : World) : Prop :=
  ∃ sb sl, e = .returned (.agg #[.int .i64 R.1.kind, .int .u64 R.1.u, .int .i64 R.1.n, sb, sl]) ∧ Row .u8 w'.heap.size w' sb R.1.B ∧ Row .i64 w'.heap.size w' sl R.1.L ∧ RPost n₀ b w zs R.2.1 R.2.2 w'
theorem rread_fin {n₀ b : Nat} {zs : List Int} {err : Int} {w w1 X : World} {o o' : Obj} {R : VM × List Int × Int} (sb sl : Value) (h : RR w n₀ b zs err)
    (hrb : Row .u8 w1.heap.size w1 sb R.1.B ∧ (Row .u8 n₀ w1 sb R.1.B ∨ RowP .u8 (fun g => w.heap.size + 2 ≤ g ∧ g < w1.heap.size) w1 sb R.1.B)) (hrl : RowP .i64 (fun g => w.heap.size + 2 ≤ g ∧ g < w1.heap.size) w1 sl R.1.L)
    (hp : RPost n₀ b ((w.alloc o).alloc o') zs R.2.1 R.2.2 w1) (hX : Below w.heap.size w1 X) (hk : KeepP (fun g => w.heap.size + 2 ≤ g ∧ g < w1.heap.size) w1 X) :
    RRead n₀ b w zs R (.returned (.agg #[.int .i64 R.1.kind, .int .u64 R.1.u, .int .i64 R.1.n, sb, sl])) X := by
  have hs := hX.size
  have hbl := h.lt
  have hnb := h.1
  obtain ⟨zs', hR, hleft, hl, hmem, ho⟩ := hp
  have ho1 := only_of b w o o' ho
  have hs1 := ho1.size
  refine ⟨sb, sl, rfl, ?_, (hrl.keep hk).mono (fun g hg => by omega), zs', hR.below hbl hX, hleft, hl, hmem, only_belowN ho1 hX⟩
  rcases hrb.2 with h1 | h1
  · exact RowP.mono (fun g hg => by omega) (RowP.below (hX.mono (by omega)) h1)
  · exact (h1.keep hk).mono (fun g hg => by omega)

set_option maxHeartbeats 4000000 in
theorem rread_k0 (n₀ b : Nat) (zs : List Int) (err : Int) (w : World) (h : RR w n₀ b zs err) (hz : ∀ x ∈ zs, 0 ≤ x ∧ x < 256) (hm : zs.length ≤ 10000000) :
    Calls Try.prog 23 #[.pointer (some ⟨b, 0, none⟩), .int .i64 0] w (RRead n₀ b w zs (readM 0 zs err)) := by
  have HZ := Lib.hid hz; clear hz
  have hlt := h.lt
  have h' := h.below hlt (laidB (laidB (Below.refl w.heap.size w) (.cells #[.int .i64 0, .int .u64 0, .int .i64 0, .slice none 0 0, .slice none 0 0] 28)) (.cells #[.int .i64 0, .int .u64 0, .int .i64 0, .slice none 0 0, .slice none 0 0] 28))
  go_enter Try.func23, Try.ntmps23
  go_wp2_with fail
  refine (ruint_any n₀ b zs err _ h' HZ.out).mono ?_
  rintro e w1 ⟨rfl, hp⟩
  have ho1 : Only b _ w1 := hp.choose_spec.2.2.2.2
  have C0 := ((Cel.new w 28 #[.int .i64 0, .int .u64 0, .int .i64 0, .slice none 0 0, .slice none 0 0]).alloc (.cells #[.int .i64 0, .int .u64 0, .int .i64 0, .slice none 0 0, .slice none 0 0] 28)).grown ho1 (by simp; omega)
  have C1 := (Cel.new (w.alloc (.cells #[.int .i64 0, .int .u64 0, .int .i64 0, .slice none 0 0, .slice none 0 0] 28)) 28 #[.int .i64 0, .int .u64 0, .int .i64 0, .slice none 0 0, .slice none 0 0]).grown ho1 (by simp; omega)
  rw [show (w.alloc (.cells #[.int .i64 0, .int .u64 0, .int .i64 0, .slice none 0 0, .slice none 0 0] 28)).heap.size = w.heap.size + 1 from by simp] at C1
  have hs1 : w.heap.size + 2 ≤ w1.heap.size := by have := ho1.size; simp at this; omega
  have HP := Lib.hid hp
  clear ho1 h' hp
  have f1 := C1.free
  have f0 := C0.free
  have x0 : w1.cell? ⟨w.heap.size + 1, 0, none⟩ = some (.int .i64 0) := C1.cell 0
  have x1 : w1.cell? ⟨w.heap.size + 1, 1, none⟩ = some (.int .u64 0) := C1.cell 1
  have x2 : w1.cell? ⟨w.heap.size + 1, 2, none⟩ = some (.int .i64 0) := C1.cell 2
  have x3 : w1.cell? ⟨w.heap.size + 1, 3, none⟩ = some (.slice none 0 0) := C1.cell 3
  have x4 : w1.cell? ⟨w.heap.size + 1, 4, none⟩ = some (.slice none 0 0) := C1.cell 4
  have y0 : w1.cell? ⟨w.heap.size, 0, none⟩ = some (.int .i64 0) := C0.cell 0
  have y1 : w1.cell? ⟨w.heap.size, 1, none⟩ = some (.int .u64 0) := C0.cell 1
  have y2 : w1.cell? ⟨w.heap.size, 2, none⟩ = some (.int .i64 0) := C0.cell 2
  have y3 : w1.cell? ⟨w.heap.size, 3, none⟩ = some (.slice none 0 0) := C0.cell 3
  have y4 : w1.cell? ⟨w.heap.size, 4, none⟩ = some (.slice none 0 0) := C0.cell 4
  dsimp only
  go_wp2_with fail
  refine bodyPost_ret (v := .agg #[.int .i64 0, .int .u64 (rUint zs err).1, .int .i64 0, .slice none 0 0, .slice none 0 0]) (results_cell_row rfl _ _ w.heap.size 28 _ (0, 0) _ rfl ((((((C0.far (p := ⟨w.heap.size + 1, 1, none⟩) (by simp) _).set 0 _).set 1 _).set 2 _).set 3 _).set 4 _) Try.underlying28 rfl rfl) rfl ?_
  refine rread_fin (R := readM 0 zs err) (.slice none 0 0) (.slice none 0 0) h ⟨nil_row _ _ _, .inl (nil_row _ _ _)⟩ (nil_row _ _ _) HP.out ?_ ?_
  · repeat (refine Below.setCell ?_ (by simp) _)
    exact Below.refl _ _
  · repeat (refine keepP_set ?_ _ _ _ (by omega))
    exact KeepP.refl _ _

set_option maxHeartbeats 4000000 in
theorem rread_k1 (n₀ b : Nat) (zs : List Int) (err : Int) (w : World) (h : RR w n₀ b zs err) (hz : ∀ x ∈ zs, 0 ≤ x ∧ x < 256) (hm : zs.length ≤ 10000000) :
    Calls Try.prog 23 #[.pointer (some ⟨b, 0, none⟩), .int .i64 1] w (RRead n₀ b w zs (readM 1 zs err)) := by
  have HZ := Lib.hid hz; clear hz
  have hlt := h.lt
  have h' := h.below hlt (laidB (laidB (Below.refl w.heap.size w) (.cells #[.int .i64 0, .int .u64 0, .int .i64 0, .slice none 0 0, .slice none 0 0] 28)) (.cells #[.int .i64 1, .int .u64 0, .int .i64 0, .slice none 0 0, .slice none 0 0] 28))
  go_enter Try.func23, Try.ntmps23
  go_wp2_with fail
  refine (rint_any' n₀ b zs err _ h' HZ.out).mono ?_
  rintro e w1 ⟨rfl, hp⟩
  have ho1 : Only b _ w1 := hp.choose_spec.2.2.2.2
  have C0 := ((Cel.new w 28 #[.int .i64 0, .int .u64 0, .int .i64 0, .slice none 0 0, .slice none 0 0]).alloc (.cells #[.int .i64 1, .int .u64 0, .int .i64 0, .slice none 0 0, .slice none 0 0] 28)).grown ho1 (by simp; omega)
  have C1 := (Cel.new (w.alloc (.cells #[.int .i64 0, .int .u64 0, .int .i64 0, .slice none 0 0, .slice none 0 0] 28)) 28 #[.int .i64 1, .int .u64 0, .int .i64 0, .slice none 0 0, .slice none 0 0]).grown ho1 (by simp; omega)
  rw [show (w.alloc (.cells #[.int .i64 0, .int .u64 0, .int .i64 0, .slice none 0 0, .slice none 0 0] 28)).heap.size = w.heap.size + 1 from by simp] at C1
  have hs1 : w.heap.size + 2 ≤ w1.heap.size := by have := ho1.size; simp at this; omega
  have HP := Lib.hid hp
  clear ho1 h' hp
  have f1 := C1.free
  have f0 := C0.free
  have x0 : w1.cell? ⟨w.heap.size + 1, 0, none⟩ = some (.int .i64 1) := C1.cell 0
  have x1 : w1.cell? ⟨w.heap.size + 1, 1, none⟩ = some (.int .u64 0) := C1.cell 1
  have x2 : w1.cell? ⟨w.heap.size + 1, 2, none⟩ = some (.int .i64 0) := C1.cell 2
  have x3 : w1.cell? ⟨w.heap.size + 1, 3, none⟩ = some (.slice none 0 0) := C1.cell 3
  have x4 : w1.cell? ⟨w.heap.size + 1, 4, none⟩ = some (.slice none 0 0) := C1.cell 4
  have y0 : w1.cell? ⟨w.heap.size, 0, none⟩ = some (.int .i64 0) := C0.cell 0
  have y1 : w1.cell? ⟨w.heap.size, 1, none⟩ = some (.int .u64 0) := C0.cell 1
  have y2 : w1.cell? ⟨w.heap.size, 2, none⟩ = some (.int .i64 0) := C0.cell 2
  have y3 : w1.cell? ⟨w.heap.size, 3, none⟩ = some (.slice none 0 0) := C0.cell 3
  have y4 : w1.cell? ⟨w.heap.size, 4, none⟩ = some (.slice none 0 0) := C0.cell 4
  dsimp only
  go_wp2_with fail
  refine bodyPost_ret (v := .agg #[.int .i64 1, .int .u64 0, .int .i64 (rInt zs err).1, .slice none 0 0, .slice none 0 0]) (results_cell_row rfl _ _ w.heap.size 28 _ (0, 0) _ rfl ((((((C0.far (p := ⟨w.heap.size + 1, 2, none⟩) (by simp) _).set 0 _).set 1 _).set 2 _).set 3 _).set 4 _) Try.underlying28 rfl rfl) rfl ?_
  refine rread_fin (R := readM 1 zs err) (.slice none 0 0) (.slice none 0 0) h ⟨nil_row _ _ _, .inl (nil_row _ _ _)⟩ (nil_row _ _ _) HP.out ?_ ?_
  · repeat (refine Below.setCell ?_ (by simp) _)
    exact Below.refl _ _
  · repeat (refine keepP_set ?_ _ _ _ (by omega))
    exact KeepP.refl _ _

set_option maxHeartbeats 4000000 in
theorem rread_k2t (n₀ b : Nat) (zs : List Int) (err : Int) (w : World) (h : RR w n₀ b zs err) (hz : ∀ x ∈ zs, 0 ≤ x ∧ x < 256) (hm : zs.length ≤ 10000000) (hq : (rBool zs err).1 = true) :
    Calls Try.prog 23 #[.pointer (some ⟨b, 0, none⟩), .int .i64 2] w (RRead n₀ b w zs (readM 2 zs err)) := by
  have HZ := Lib.hid hz; clear hz
  have hlt := h.lt
  have h' := h.below hlt (laidB (laidB (Below.refl w.heap.size w) (.cells #[.int .i64 0, .int .u64 0, .int .i64 0, .slice none 0 0, .slice none 0 0] 28)) (.cells #[.int .i64 2, .int .u64 0, .int .i64 0, .slice none 0 0, .slice none 0 0] 28))
  have HQ := Lib.hid hq; clear hq
  go_enter Try.func23, Try.ntmps23
  go_wp2_with fail
  refine (rbool_any' n₀ b zs err _ h' HZ.out).mono ?_
  rintro e w1 ⟨rfl, hp⟩
  rw [HQ.out]
  have ho1 : Only b _ w1 := hp.choose_spec.2.2.2.2
  have C0 := ((Cel.new w 28 #[.int .i64 0, .int .u64 0, .int .i64 0, .slice none 0 0, .slice none 0 0]).alloc (.cells #[.int .i64 2, .int .u64 0, .int .i64 0, .slice none 0 0, .slice none 0 0] 28)).grown ho1 (by simp; omega)
  have C1 := (Cel.new (w.alloc (.cells #[.int .i64 0, .int .u64 0, .int .i64 0, .slice none 0 0, .slice none 0 0] 28)) 28 #[.int .i64 2, .int .u64 0, .int .i64 0, .slice none 0 0, .slice none 0 0]).grown ho1 (by simp; omega)
  rw [show (w.alloc (.cells #[.int .i64 0, .int .u64 0, .int .i64 0, .slice none 0 0, .slice none 0 0] 28)).heap.size = w.heap.size + 1 from by simp] at C1
  have hs1 : w.heap.size + 2 ≤ w1.heap.size := by have := ho1.size; simp at this; omega
  have HP := Lib.hid hp
  clear ho1 h' hp
  have f1 := C1.free
  have f0 := C0.free
  have x0 : w1.cell? ⟨w.heap.size + 1, 0, none⟩ = some (.int .i64 2) := C1.cell 0
  have x1 : w1.cell? ⟨w.heap.size + 1, 1, none⟩ = some (.int .u64 0) := C1.cell 1
  have x2 : w1.cell? ⟨w.heap.size + 1, 2, none⟩ = some (.int .i64 0) := C1.cell 2
  have x3 : w1.cell? ⟨w.heap.size + 1, 3, none⟩ = some (.slice none 0 0) := C1.cell 3
  have x4 : w1.cell? ⟨w.heap.size + 1, 4, none⟩ = some (.slice none 0 0) := C1.cell 4
  have y0 : w1.cell? ⟨w.heap.size, 0, none⟩ = some (.int .i64 0) := C0.cell 0
  have y1 : w1.cell? ⟨w.heap.size, 1, none⟩ = some (.int .u64 0) := C0.cell 1
  have y2 : w1.cell? ⟨w.heap.size, 2, none⟩ = some (.int .i64 0) := C0.cell 2
  have y3 : w1.cell? ⟨w.heap.size, 3, none⟩ = some (.slice none 0 0) := C0.cell 3
  have y4 : w1.cell? ⟨w.heap.size, 4, none⟩ = some (.slice none 0 0) := C0.cell 4
  dsimp only
  go_wp2_with fail
  refine bodyPost_ret (v := .agg #[.int .i64 2, .int .u64 0, .int .i64 1, .slice none 0 0, .slice none 0 0]) (results_cell_row rfl _ _ w.heap.size 28 _ (0, 0) _ rfl ((((((C0.far (p := ⟨w.heap.size + 1, 2, none⟩) (by simp) _).set 0 _).set 1 _).set 2 _).set 3 _).set 4 _) Try.underlying28 rfl rfl) rfl ?_
  have hR : readM 2 zs err = (⟨2, 0, 1, [], []⟩, (rBool zs err).2) := by show (VM.mk 2 0 (if (rBool zs err).1 = true then 1 else 0) [] [], (rBool zs err).2) = _; rw [HQ.out]; rfl
  rw [hR]
  refine rread_fin (R := (⟨2, 0, 1, [], []⟩, (rBool zs err).2)) (.slice none 0 0) (.slice none 0 0) h ⟨nil_row _ _ _, .inl (nil_row _ _ _)⟩ (nil_row _ _ _) HP.out ?_ ?_
  · repeat (refine Below.setCell ?_ (by simp) _)
    exact Below.refl _ _
  · repeat (refine keepP_set ?_ _ _ _ (by omega))
    exact KeepP.refl _ _

set_option maxHeartbeats 4000000 in
theorem rread_k2f (n₀ b : Nat) (zs : List Int) (err : Int) (w : World) (h : RR w n₀ b zs err) (hz : ∀ x ∈ zs, 0 ≤ x ∧ x < 256) (hm : zs.length ≤ 10000000) (hq : (rBool zs err).1 = false) :
    Calls Try.prog 23 #[.pointer (some ⟨b, 0, none⟩), .int .i64 2] w (RRead n₀ b w zs (readM 2 zs err)) := by
  have HZ := Lib.hid hz; clear hz
  have hlt := h.lt
  have h' := h.below hlt (laidB (laidB (Below.refl w.heap.size w) (.cells #[.int .i64 0, .int .u64 0, .int .i64 0, .slice none 0 0, .slice none 0 0] 28)) (.cells #[.int .i64 2, .int .u64 0, .int .i64 0, .slice none 0 0, .slice none 0 0] 28))
  have HQ := Lib.hid hq; clear hq
  go_enter Try.func23, Try.ntmps23
  go_wp2_with fail
  refine (rbool_any' n₀ b zs err _ h' HZ.out).mono ?_
  rintro e w1 ⟨rfl, hp⟩
  rw [HQ.out]
  have ho1 : Only b _ w1 := hp.choose_spec.2.2.2.2
  have C0 := ((Cel.new w 28 #[.int .i64 0, .int .u64 0, .int .i64 0, .slice none 0 0, .slice none 0 0]).alloc (.cells #[.int .i64 2, .int .u64 0, .int .i64 0, .slice none 0 0, .slice none 0 0] 28)).grown ho1 (by simp; omega)
  have C1 := (Cel.new (w.alloc (.cells #[.int .i64 0, .int .u64 0, .int .i64 0, .slice none 0 0, .slice none 0 0] 28)) 28 #[.int .i64 2, .int .u64 0, .int .i64 0, .slice none 0 0, .slice none 0 0]).grown ho1 (by simp; omega)
  rw [show (w.alloc (.cells #[.int .i64 0, .int .u64 0, .int .i64 0, .slice none 0 0, .slice none 0 0] 28)).heap.size = w.heap.size + 1 from by simp] at C1
  have hs1 : w.heap.size + 2 ≤ w1.heap.size := by have := ho1.size; simp at this; omega
  have HP := Lib.hid hp
  clear ho1 h' hp
  have f1 := C1.free
  have f0 := C0.free
  have x0 : w1.cell? ⟨w.heap.size + 1, 0, none⟩ = some (.int .i64 2) := C1.cell 0
  have x1 : w1.cell? ⟨w.heap.size + 1, 1, none⟩ = some (.int .u64 0) := C1.cell 1
  have x2 : w1.cell? ⟨w.heap.size + 1, 2, none⟩ = some (.int .i64 0) := C1.cell 2
  have x3 : w1.cell? ⟨w.heap.size + 1, 3, none⟩ = some (.slice none 0 0) := C1.cell 3
  have x4 : w1.cell? ⟨w.heap.size + 1, 4, none⟩ = some (.slice none 0 0) := C1.cell 4
  have y0 : w1.cell? ⟨w.heap.size, 0, none⟩ = some (.int .i64 0) := C0.cell 0
  have y1 : w1.cell? ⟨w.heap.size, 1, none⟩ = some (.int .u64 0) := C0.cell 1
  have y2 : w1.cell? ⟨w.heap.size, 2, none⟩ = some (.int .i64 0) := C0.cell 2
  have y3 : w1.cell? ⟨w.heap.size, 3, none⟩ = some (.slice none 0 0) := C0.cell 3
  have y4 : w1.cell? ⟨w.heap.size, 4, none⟩ = some (.slice none 0 0) := C0.cell 4
  dsimp only
  go_wp2_with fail
  refine bodyPost_ret (v := .agg #[.int .i64 2, .int .u64 0, .int .i64 0, .slice none 0 0, .slice none 0 0]) (results_cell_row rfl _ _ w.heap.size 28 _ (0, 0) _ rfl ((((((C0).set 0 _).set 1 _).set 2 _).set 3 _).set 4 _) Try.underlying28 rfl rfl) rfl ?_
  have hR : readM 2 zs err = (⟨2, 0, 0, [], []⟩, (rBool zs err).2) := by show (VM.mk 2 0 (if (rBool zs err).1 = true then 1 else 0) [] [], (rBool zs err).2) = _; rw [HQ.out]; rfl
  rw [hR]
  refine rread_fin (R := (⟨2, 0, 0, [], []⟩, (rBool zs err).2)) (.slice none 0 0) (.slice none 0 0) h ⟨nil_row _ _ _, .inl (nil_row _ _ _)⟩ (nil_row _ _ _) HP.out ?_ ?_
  · repeat (refine Below.setCell ?_ (by simp) _)
    exact Below.refl _ _
  · repeat (refine keepP_set ?_ _ _ _ (by omega))
    exact KeepP.refl _ _

set_option maxHeartbeats 4000000 in
theorem rread_k3 (n₀ b : Nat) (zs : List Int) (err : Int) (w : World) (h : RR w n₀ b zs err) (hz : ∀ x ∈ zs, 0 ≤ x ∧ x < 256) (hm : zs.length ≤ 10000000) :
    Calls Try.prog 23 #[.pointer (some ⟨b, 0, none⟩), .int .i64 3] w (RRead n₀ b w zs (readM 3 zs err)) := by
  have HZ := Lib.hid hz; clear hz
  have hlt := h.lt
  have h' := h.below hlt (laidB (laidB (Below.refl w.heap.size w) (.cells #[.int .i64 0, .int .u64 0, .int .i64 0, .slice none 0 0, .slice none 0 0] 28)) (.cells #[.int .i64 3, .int .u64 0, .int .i64 0, .slice none 0 0, .slice none 0 0] 28))
  go_enter Try.func23, Try.ntmps23
  go_wp2_with fail
  refine (rraw_any' n₀ b zs err _ h' HZ.out hm).mono ?_
  rintro e w1 ⟨sv, rfl, hrow, hp⟩
  obtain ⟨sa, sc, rfl⟩ := row_slice hrow
  have HROW := Lib.hid hrow
  clear hrow
  have ho1 : Only b _ w1 := hp.choose_spec.2.2.2.2
  have C0 := ((Cel.new w 28 #[.int .i64 0, .int .u64 0, .int .i64 0, .slice none 0 0, .slice none 0 0]).alloc (.cells #[.int .i64 3, .int .u64 0, .int .i64 0, .slice none 0 0, .slice none 0 0] 28)).grown ho1 (by simp; omega)
  have C1 := (Cel.new (w.alloc (.cells #[.int .i64 0, .int .u64 0, .int .i64 0, .slice none 0 0, .slice none 0 0] 28)) 28 #[.int .i64 3, .int .u64 0, .int .i64 0, .slice none 0 0, .slice none 0 0]).grown ho1 (by simp; omega)
  rw [show (w.alloc (.cells #[.int .i64 0, .int .u64 0, .int .i64 0, .slice none 0 0, .slice none 0 0] 28)).heap.size = w.heap.size + 1 from by simp] at C1
  have hs1 : w.heap.size + 2 ≤ w1.heap.size := by have := ho1.size; simp at this; omega
  have HP := Lib.hid hp
  clear ho1 h' hp
  have f1 := C1.free
  have f0 := C0.free
  have x0 : w1.cell? ⟨w.heap.size + 1, 0, none⟩ = some (.int .i64 3) := C1.cell 0
  have x1 : w1.cell? ⟨w.heap.size + 1, 1, none⟩ = some (.int .u64 0) := C1.cell 1
  have x2 : w1.cell? ⟨w.heap.size + 1, 2, none⟩ = some (.int .i64 0) := C1.cell 2
  have x3 : w1.cell? ⟨w.heap.size + 1, 3, none⟩ = some (.slice none 0 0) := C1.cell 3
  have x4 : w1.cell? ⟨w.heap.size + 1, 4, none⟩ = some (.slice none 0 0) := C1.cell 4
  have y0 : w1.cell? ⟨w.heap.size, 0, none⟩ = some (.int .i64 0) := C0.cell 0
  have y1 : w1.cell? ⟨w.heap.size, 1, none⟩ = some (.int .u64 0) := C0.cell 1
  have y2 : w1.cell? ⟨w.heap.size, 2, none⟩ = some (.int .i64 0) := C0.cell 2
  have y3 : w1.cell? ⟨w.heap.size, 3, none⟩ = some (.slice none 0 0) := C0.cell 3
  have y4 : w1.cell? ⟨w.heap.size, 4, none⟩ = some (.slice none 0 0) := C0.cell 4
  dsimp only
  go_wp2_with fail
  refine bodyPost_ret (v := .agg #[.int .i64 3, .int .u64 0, .int .i64 0, .slice sa (rRaw zs err).1.length sc, .slice none 0 0]) (results_cell_row rfl _ _ w.heap.size 28 _ (0, 0) _ rfl ((((((C0.far (p := ⟨w.heap.size + 1, 3, none⟩) (by simp) _).set 0 _).set 1 _).set 2 _).set 3 _).set 4 _) Try.underlying28 rfl rfl) rfl ?_
  refine rread_fin (R := readM 3 zs err) (.slice sa (rRaw zs err).1.length sc) (.slice none 0 0) h ⟨RowP.mono (fun g hg => by have := h.1; omega) HROW.out, .inl HROW.out⟩ (nil_row _ _ _) HP.out ?_ ?_
  · repeat (refine Below.setCell ?_ (by simp) _)
    exact Below.refl _ _
  · repeat (refine keepP_set ?_ _ _ _ (by omega))
    exact KeepP.refl _ _

set_option maxHeartbeats 4000000 in
theorem rread_k4 (n₀ b : Nat) (zs : List Int) (err : Int) (w : World) (h : RR w n₀ b zs err) (hz : ∀ x ∈ zs, 0 ≤ x ∧ x < 256) (hm : zs.length ≤ 10000000) :
    Calls Try.prog 23 #[.pointer (some ⟨b, 0, none⟩), .int .i64 4] w (RRead n₀ b w zs (readM 4 zs err)) := by
  have HZ := Lib.hid hz; clear hz
  have hlt := h.lt
  have h' := h.below hlt (laidB (laidB (Below.refl w.heap.size w) (.cells #[.int .i64 0, .int .u64 0, .int .i64 0, .slice none 0 0, .slice none 0 0] 28)) (.cells #[.int .i64 4, .int .u64 0, .int .i64 0, .slice none 0 0, .slice none 0 0] 28))
  go_enter Try.func23, Try.ntmps23
  go_wp2_with fail
  refine (rraw_any' n₀ b zs err _ h' HZ.out hm).mono ?_
  rintro e w1 ⟨sv, rfl, hrow, hp⟩
  obtain ⟨sa, sc, rfl⟩ := row_slice hrow
  have HROW := Lib.hid hrow
  clear hrow
  have ho1 : Only b _ w1 := hp.choose_spec.2.2.2.2
  have C0 := ((Cel.new w 28 #[.int .i64 0, .int .u64 0, .int .i64 0, .slice none 0 0, .slice none 0 0]).alloc (.cells #[.int .i64 4, .int .u64 0, .int .i64 0, .slice none 0 0, .slice none 0 0] 28)).grown ho1 (by simp; omega)
  have C1 := (Cel.new (w.alloc (.cells #[.int .i64 0, .int .u64 0, .int .i64 0, .slice none 0 0, .slice none 0 0] 28)) 28 #[.int .i64 4, .int .u64 0, .int .i64 0, .slice none 0 0, .slice none 0 0]).grown ho1 (by simp; omega)
  rw [show (w.alloc (.cells #[.int .i64 0, .int .u64 0, .int .i64 0, .slice none 0 0, .slice none 0 0] 28)).heap.size = w.heap.size + 1 from by simp] at C1
  have hs1 : w.heap.size + 2 ≤ w1.heap.size := by have := ho1.size; simp at this; omega
  have HP := Lib.hid hp
  clear ho1 h' hp
  have f1 := C1.free
  have f0 := C0.free
  have x0 : w1.cell? ⟨w.heap.size + 1, 0, none⟩ = some (.int .i64 4) := C1.cell 0
  have x1 : w1.cell? ⟨w.heap.size + 1, 1, none⟩ = some (.int .u64 0) := C1.cell 1
  have x2 : w1.cell? ⟨w.heap.size + 1, 2, none⟩ = some (.int .i64 0) := C1.cell 2
  have x3 : w1.cell? ⟨w.heap.size + 1, 3, none⟩ = some (.slice none 0 0) := C1.cell 3
  have x4 : w1.cell? ⟨w.heap.size + 1, 4, none⟩ = some (.slice none 0 0) := C1.cell 4
  have y0 : w1.cell? ⟨w.heap.size, 0, none⟩ = some (.int .i64 0) := C0.cell 0
  have y1 : w1.cell? ⟨w.heap.size, 1, none⟩ = some (.int .u64 0) := C0.cell 1
  have y2 : w1.cell? ⟨w.heap.size, 2, none⟩ = some (.int .i64 0) := C0.cell 2
  have y3 : w1.cell? ⟨w.heap.size, 3, none⟩ = some (.slice none 0 0) := C0.cell 3
  have y4 : w1.cell? ⟨w.heap.size, 4, none⟩ = some (.slice none 0 0) := C0.cell 4
  dsimp only
  go_wp2_with fail
  refine bodyPost_ret (v := .agg #[.int .i64 4, .int .u64 0, .int .i64 0, .slice sa (rRaw zs err).1.length sc, .slice none 0 0]) (results_cell_row rfl _ _ w.heap.size 28 _ (0, 0) _ rfl ((((((C0.far (p := ⟨w.heap.size + 1, 3, none⟩) (by simp) _).set 0 _).set 1 _).set 2 _).set 3 _).set 4 _) Try.underlying28 rfl rfl) rfl ?_
  refine rread_fin (R := readM 4 zs err) (.slice sa (rRaw zs err).1.length sc) (.slice none 0 0) h ⟨RowP.mono (fun g hg => by have := h.1; omega) HROW.out, .inl HROW.out⟩ (nil_row _ _ _) HP.out ?_ ?_
  · repeat (refine Below.setCell ?_ (by simp) _)
    exact Below.refl _ _
  · repeat (refine keepP_set ?_ _ _ _ (by omega))
    exact KeepP.refl _ _

set_option maxHeartbeats 4000000 in
theorem rread_k5 (n₀ b : Nat) (zs : List Int) (err : Int) (w : World) (h : RR w n₀ b zs err) (hz : ∀ x ∈ zs, 0 ≤ x ∧ x < 256) (hm : zs.length ≤ 10000000) :
    Calls Try.prog 23 #[.pointer (some ⟨b, 0, none⟩), .int .i64 5] w (RRead n₀ b w zs (readM 5 zs err)) := by
  have HZ := Lib.hid hz; clear hz
  have hlt := h.lt
  have h' := h.below hlt (laidB (laidB (Below.refl w.heap.size w) (.cells #[.int .i64 0, .int .u64 0, .int .i64 0, .slice none 0 0, .slice none 0 0] 28)) (.cells #[.int .i64 5, .int .u64 0, .int .i64 0, .slice none 0 0, .slice none 0 0] 28))
  go_enter Try.func23, Try.ntmps23
  go_wp2_with fail
  refine (rints_any' n₀ b zs err _ h' HZ.out hm).mono ?_
  rintro e w1 ⟨sv, rfl, hoR, hp⟩
  have hrow := (row_own2 hoR).mono (q := fun g => w.heap.size + 2 ≤ g ∧ g < w1.heap.size) (fun g hg => by have := hg.1; simp at this; omega)
  obtain ⟨sa, sn, sc, rfl⟩ := owns_slice hoR
  have HROW := Lib.hid hrow
  clear hoR hrow
  have ho1 : Only b _ w1 := hp.choose_spec.2.2.2.2
  have C0 := ((Cel.new w 28 #[.int .i64 0, .int .u64 0, .int .i64 0, .slice none 0 0, .slice none 0 0]).alloc (.cells #[.int .i64 5, .int .u64 0, .int .i64 0, .slice none 0 0, .slice none 0 0] 28)).grown ho1 (by simp; omega)
  have C1 := (Cel.new (w.alloc (.cells #[.int .i64 0, .int .u64 0, .int .i64 0, .slice none 0 0, .slice none 0 0] 28)) 28 #[.int .i64 5, .int .u64 0, .int .i64 0, .slice none 0 0, .slice none 0 0]).grown ho1 (by simp; omega)
  rw [show (w.alloc (.cells #[.int .i64 0, .int .u64 0, .int .i64 0, .slice none 0 0, .slice none 0 0] 28)).heap.size = w.heap.size + 1 from by simp] at C1
  have hs1 : w.heap.size + 2 ≤ w1.heap.size := by have := ho1.size; simp at this; omega
  have HP := Lib.hid hp
  clear ho1 h' hp
  have f1 := C1.free
  have f0 := C0.free
  have x0 : w1.cell? ⟨w.heap.size + 1, 0, none⟩ = some (.int .i64 5) := C1.cell 0
  have x1 : w1.cell? ⟨w.heap.size + 1, 1, none⟩ = some (.int .u64 0) := C1.cell 1
  have x2 : w1.cell? ⟨w.heap.size + 1, 2, none⟩ = some (.int .i64 0) := C1.cell 2
  have x3 : w1.cell? ⟨w.heap.size + 1, 3, none⟩ = some (.slice none 0 0) := C1.cell 3
  have x4 : w1.cell? ⟨w.heap.size + 1, 4, none⟩ = some (.slice none 0 0) := C1.cell 4
  have y0 : w1.cell? ⟨w.heap.size, 0, none⟩ = some (.int .i64 0) := C0.cell 0
  have y1 : w1.cell? ⟨w.heap.size, 1, none⟩ = some (.int .u64 0) := C0.cell 1
  have y2 : w1.cell? ⟨w.heap.size, 2, none⟩ = some (.int .i64 0) := C0.cell 2
  have y3 : w1.cell? ⟨w.heap.size, 3, none⟩ = some (.slice none 0 0) := C0.cell 3
  have y4 : w1.cell? ⟨w.heap.size, 4, none⟩ = some (.slice none 0 0) := C0.cell 4
  dsimp only
  go_wp2_with fail
  refine bodyPost_ret (v := .agg #[.int .i64 5, .int .u64 0, .int .i64 0, .slice none 0 0, .slice sa sn sc]) (results_cell_row rfl _ _ w.heap.size 28 _ (0, 0) _ rfl ((((((C0.far (p := ⟨w.heap.size + 1, 4, none⟩) (by simp) _).set 0 _).set 1 _).set 2 _).set 3 _).set 4 _) Try.underlying28 rfl rfl) rfl ?_
  refine rread_fin (R := readM 5 zs err) (.slice none 0 0) (.slice sa sn sc) h ⟨nil_row _ _ _, .inl (nil_row _ _ _)⟩ HROW.out HP.out ?_ ?_
  · repeat (refine Below.setCell ?_ (by simp) _)
    exact Below.refl _ _
  · repeat (refine keepP_set ?_ _ _ _ (by omega))
    exact KeepP.refl _ _

theorem rread_any (n₀ b : Nat) (k : Int) (zs : List Int) (err : Int) (w : World) (h : RR w n₀ b zs err) (hz : ∀ x ∈ zs, 0 ≤ x ∧ x < 256) (hm : zs.length ≤ 10000000) (hk : 0 ≤ k ∧ k < 6) :
    Calls Try.prog 23 #[.pointer (some ⟨b, 0, none⟩), .int .i64 k] w (RRead n₀ b w zs (readM k zs err)) := by
  have hk' : k = 0 ∨ k = 1 ∨ k = 2 ∨ k = 3 ∨ k = 4 ∨ k = 5 := by omega
  rcases hk' with rfl | rfl | rfl | rfl | rfl | rfl
  · exact rread_k0 n₀ b zs err w h hz hm
  · exact rread_k1 n₀ b zs err w h hz hm
  · cases hq : (rBool zs err).1
    · exact rread_k2f n₀ b zs err w h hz hm hq
    · exact rread_k2t n₀ b zs err w h hz hm hq
  · exact rread_k3 n₀ b zs err w h hz hm
  · exact rread_k4 n₀ b zs err w h hz hm
  · exact rread_k5 n₀ b zs err w h hz hm
end Go.Proofs.Ytpoldhblddlcpaa
