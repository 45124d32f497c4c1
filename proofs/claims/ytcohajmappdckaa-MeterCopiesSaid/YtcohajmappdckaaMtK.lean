/- The reference model's Script: operations made from numbers. -/
import Derived.Test.YtcohajmappdckaaMtL
import Derived.Test.YtcohajmappdckaaAppRow
import Derived.Deep.DeepCutAuto
namespace Go.Proofs.Ytcohajmappdckaa
open Go.RowKit Go.Shelf
set_option linter.unusedVariables false

/-- An operation. -/
structure OpM where
  kind : Int
  rule : Int
  n : Int
  wait : Int
structure OpM.Ok (o : OpM) : Prop where
  k0 : 0 ≤ o.kind
  k1 : o.kind ≤ 2
  r0 : -1 ≤ o.rule
  r1 : o.rule ≤ 5
  n0 : -1 ≤ o.n
  n1 : o.n ≤ 1099511627777
  w0 : -1 ≤ o.wait
  w1 : o.wait ≤ 4
def OpM.cells (o : OpM) : List Value := [.int .i64 o.kind, .int .i64 o.rule, .int .i64 o.n, .int .i64 o.wait]
def opsCells (l : List OpM) : List Value := (l.map OpM.cells).flatten
theorem opsCells_snoc (l : List OpM) (o : OpM) : opsCells (l ++ [o]) = opsCells l ++ o.cells := by unfold opsCells; simp
theorem opsCells_len (l : List OpM) : (opsCells l).length = l.length * 4 := by
  unfold opsCells
  induction l with
  | nil => rfl
  | cons o l ih => simp [OpM.cells, ih]; omega
theorem opsCells_at : ∀ (l : List OpM) (i : Nat) (o : OpM), l[i]? = some o → (opsCells l)[i * 4]? = some (.int .i64 o.kind) ∧ (opsCells l)[i * 4 + 1]? = some (.int .i64 o.rule) ∧ (opsCells l)[i * 4 + 2]? = some (.int .i64 o.n) ∧ (opsCells l)[i * 4 + 3]? = some (.int .i64 o.wait)
  | [], i, o, h => by simp at h
  | a :: l, 0, o, h => by simp at h; subst h; simp [opsCells, OpM.cells]
  | a :: l, i + 1, o, h => by
    have := opsCells_at l i o (by simpa using h)
    have e : ∀ m, (opsCells (a :: l))[(i + 1) * 4 + m]? = (opsCells l)[i * 4 + m]? := by
      intro m
      rw [show (i + 1) * 4 + m = i * 4 + m + 4 from by omega]
      show (OpM.cells a ++ opsCells l)[_]? = _
      rw [List.getElem?_append_right (by simp [OpM.cells])]
      simp [OpM.cells]
    have e0 := e 0
    simp only [Nat.add_zero] at e0
    rw [e0, e 1, e 2, e 3]
    exact this
/-- A slice of operations, in a block of which q speaks. -/
def OpsRow (q : Nat → Prop) (W : World) (x : Value) (l : List OpM) : Prop :=
  ∃ a cap, x = .slice a l.length cap ∧ (l = [] ∨ ∃ b, a = some ⟨b, 0, none⟩ ∧ q b ∧ ∀ (i : Nat) (o : OpM), l[i]? = some o →
    W.cell? ⟨b, i * 4, none⟩ = some (.int .i64 o.kind) ∧ W.cell? ⟨b, i * 4 + 1, none⟩ = some (.int .i64 o.rule) ∧ W.cell? ⟨b, i * 4 + 2, none⟩ = some (.int .i64 o.n) ∧ W.cell? ⟨b, i * 4 + 3, none⟩ = some (.int .i64 o.wait))
theorem OpsRow.only {q r : Nat → Prop} {W W' : World} {x : Value} {l : List OpM} (h : OpsRow q W x l) (ho : OnlyP r W W') (hq : ∀ b, q b → ¬ r b) : OpsRow q W' x l := by
  obtain ⟨a, cap, rfl, h1⟩ := h
  refine ⟨a, cap, rfl, h1.imp id ?_⟩
  rintro ⟨b, rfl, hbn, hc⟩
  refine ⟨b, rfl, hbn, fun i o hv => ?_⟩
  obtain ⟨c0, c1, c2, c3⟩ := hc i o hv
  have hlt := World.block_lt_of_cell? W _ c0
  have e : ∀ k, W'.cell? ⟨b, k, none⟩ = W.cell? ⟨b, k, none⟩ := fun k => by simp only [World.cell?, ho.block b hlt (hq b hbn)]
  exact ⟨(e _).trans c0, (e _).trans c1, (e _).trans c2, (e _).trans c3⟩
theorem OpsRow.step {q : Nat → Prop} {W W' : World} {x : Value} {l : List OpM} (h : OpsRow q W x l) (hb : Below W.heap.size W W') : OpsRow q W' x l :=
  h.only (OnlyP.of_below (q := fun _ => False) hb) (fun _ _ h => h)
theorem ops_of_owns {W : World} {base : Nat} {t : TypeId} {x : Value} {l : List OpM} (h : W.ownsRow base t 4 x l.length (opsCells l)) : OpsRow (fun b => base ≤ b ∧ b < W.heap.size) W x l := by
  rcases h.2 with ⟨rfl, h0⟩ | ⟨g, cap, cur, rfl, hb, hg, hcap, hm, hs, ht⟩
  · have := List.eq_nil_of_length_eq_zero h0
    subst this
    exact ⟨none, 0, rfl, .inl rfl⟩
  · refine ⟨_, cap, rfl, .inr ⟨g, rfl, ⟨hb, (Array.getElem?_eq_some_iff.1 hg).1⟩, fun i o hv => ?_⟩⟩
    obtain ⟨c0, c1, c2, c3⟩ := opsCells_at l i o hv
    have hcell : ∀ q u, (opsCells l)[q]? = some u → W.cell? ⟨g, q, none⟩ = some u := by
      intro q u hu
      have e : W.cell? ⟨g, q, none⟩ = cur[q]? := by unfold World.cell?; rw [hg]; rfl
      rw [e]
      rw [← ht, List.getElem?_take] at hu
      split at hu
      · simpa using hu
      · simp at hu
    exact ⟨hcell _ _ c0, hcell _ _ c1, hcell _ _ c2, hcell _ _ c3⟩
theorem info_op : (Try.prog.info? 34).map (fun i => (i.zero, i.size, i.bytes)) = some (some (.agg #[.int .i64 0, .int .i64 0, .int .i64 0, .int .i64 0]), 4, 32) := by kernel_rfl
theorem news4 (w : World) (cs : Array Value) : ∀ j u, cs.toList[j]? = some u → (w.alloc (.cells cs 34)).cell? (Addr.add ⟨w.heap.size, 0, none⟩ j) = some u := by
  intro j u hu
  rw [addr_add, Nat.zero_add, World.cell?_alloc_new]
  simpa using hu
/-- What Script returns. -/
def ScriptPost (w : World) (most : Nat) (e : Ending) (w' : World) : Prop := ∃ v, ∃ ops : List OpM, e = .returned v ∧ ops.length ≤ most ∧ (∀ o ∈ ops, o.Ok) ∧ OpsRow (fun b => w.heap.size ≤ b ∧ b < w'.heap.size) w' v ops ∧ Below w.heap.size w w'
theorem owns_form {w : World} {base : Nat} {e : TypeId} {size : Nat} {v : Value} {n : Nat} {xs : List Value} (h : w.ownsRow base e size v n xs) : ∃ a cap, v = .slice a n cap := by
  rcases h.2 with ⟨rfl, rfl⟩ | ⟨g, cp, cur, rfl, _⟩
  · exact ⟨_, _, rfl⟩
  · exact ⟨_, _, rfl⟩
set_option maxRecDepth 100000 in
set_option maxHeartbeats 8000000 in
theorem script_any (a : Option Addr) (cap : Nat) (l : List Int) (most : Nat) (jm : Int) (hjm : (most : Int) = jm) (w : World) (hr : Row .i64 w.heap.size w (.slice a l.length cap) l) (hw : ∀ x ∈ l, (Lit.int .i64 x).wf = true) (hm : most ≤ 1000) :
    Calls Try.prog 13 #[.slice a l.length cap, .int .i64 jm] w (ScriptPost w most) := by
  subst hjm
  obtain ⟨i0, hi, hz0, hz1, hz2⟩ := info_parts info_op
  have hlc := hr.lencap
  unfold maxLen at hlc
  have HR := Lib.hid hr
  have HW := Lib.hid hw
  clear hr hw
  go_enter Try.func13, Try.ntmps13
  go_wp2_with fail
  go_loopw [5, 6] (fun v i wr => ∃ (k c : Nat) (ops : List OpM) (av : Option Addr) (cv : Nat), k ≤ 2 * c ∧ i = .int .i64 (k : Int) ∧ c ≤ most ∧ ops.length = c ∧ v = .slice av c cv ∧ Hid (wr.ownsRow w.heap.size 34 4 (.slice av c cv) c (opsCells ops)) ∧ Hid (∀ o ∈ ops, o.Ok) ∧ Hid (Below w.heap.size w wr)) (fun _ i _ => l.length + 1 - (intOf i).toNat)
  case atStart => exact ⟨0, 0, [], none, 0, Nat.zero_le _, rfl, Nat.zero_le _, rfl, rfl, Lib.hid (World.ownsRow_nil _ _ _ _), Lib.hid (by simp), Lib.hid (Below.refl _ _)⟩
  case round =>
    obtain ⟨k, c, ops, av, cv, hk, rfl, hc, hoc, rfl, HO, HK, HB⟩ := hrel
    have HOC := Lib.hid hoc
    clear hoc
    by_cases hlt : k + 1 < l.length ∧ c < most
    · obtain ⟨hlt, hcm⟩ := hlt
      obtain ⟨b, off, ha, _, hcc⟩ := (rowB HR.out HB.out).at (by omega)
      have c0 := hcc k (by omega)
      have c1 := hcc (k + 1) (by omega)
      have HA := Lib.hid ha
      clear hcc
      subst ha
      have hi0 : (0 : Int) ≤ (k : Int) := by omega
      have hi1 : (k : Int) + 1 < l.length := by omega
      have hi2 : (k : Int) < l.length := by omega
      have hc1 : (c : Int) < (most : Int) := by omega
      have hx0 : (Lit.int .i64 (l[k]?.getD 0)).wf = true := by
        rw [List.getElem?_eq_getElem (by omega)]
        exact HW.out _ (List.getElem_mem _)
      have hx1 : (Lit.int .i64 (l[k + 1]?.getD 0)).wf = true := by
        rw [List.getElem?_eq_getElem hlt]
        exact HW.out _ (List.getElem_mem _)
      generalize l[k]?.getD 0 = X at *
      generalize l[k + 1]?.getD 0 = Y at *
      have g0 := aroundI_lo X 1048576 (by decide)
      have g1 := aroundI_hi X 1048576 (by decide)
      have g2 := aroundI_lo Y 1048576 (by decide)
      have g3 := aroundI_hi Y 1048576 (by decide)
      have har := around_any X 1048576 wr hx0 (by decide) (by decide)
      have har2 := around_any Y 1048576 wr hx1 (by decide) (by decide)
      generalize aroundI X 1048576 = n at *
      generalize aroundI Y 1048576 = m at *
      have HAR := Lib.hid har
      have HAR2 := Lib.hid har2
      have c1' : wr.cell? ⟨b, off + k + 1, none⟩ = some (.int .i64 Y) := c1
      clear har har2 hx0 hx1
      go_wp2_with fail
      refine HAR.out.mono ?_
      rintro e q2 ⟨rfl, hq2⟩
      subst hq2
      dsimp only
      go_wp2_with fail
      refine HAR2.out.mono ?_
      rintro e q3 ⟨rfl, hq3⟩
      subst hq3
      dsimp only
      go_upto_if 47 with (fail)
      clear HAR HAR2 c0 c1 c1'
      go_cut [] (fun wx => ∃ q : Int, -1 ≤ q ∧ q ≤ 5 ∧ Cel wx q3.heap.size 34 #[.int .i64 (n % 3), .int .i64 q, .int .i64 (m % 9), .int .i64 (m / 9 % 5)] ∧ Below q3.heap.size q3 wx)
      case first =>
        by_cases h31 : n % 31 = 0
        all_goals
          go_wp2_with fail
          go_meet
          exact ⟨_, by omega, by omega, Cel.new _ _ _, laidB (Below.refl _ _) _⟩
      case rest =>
        obtain ⟨q, q0, q1, C1, B1⟩ := hcut
        obtain ⟨wa, hwa⟩ : ∃ X, X = wc := ⟨_, rfl⟩
        subst hwa
        have k3 := C1.cell 3
        have f3 := C1.free 3
        go_upto_if 55 with (fail)
        go_cut [] (fun wx => ∃ s : Int, -1 ≤ s ∧ s ≤ 4 ∧ Cel wx q3.heap.size 34 #[.int .i64 (n % 3), .int .i64 q, .int .i64 (m % 9), .int .i64 s] ∧ Below q3.heap.size q3 wx)
        case first =>
          by_cases h37 : m % 37 = 0
          all_goals
            go_wp2_with fail
            go_meet
            first
              | exact ⟨_, by omega, by omega, C1, B1⟩
              | exact ⟨-1, by omega, by omega, C1.set 3 _, B1.setCell (Nat.le_refl _) _⟩
        case rest =>
          obtain ⟨ss, s0, s1, C2, B2⟩ := hcut
          obtain ⟨wb, hwb⟩ : ∃ X, X = wc := ⟨_, rfl⟩
          subst hwb
          clear C1 B1 k3 f3
          have hk2 : wb.heap.size ≤ wb.heap.size := Nat.le_refl _
          obtain ⟨NV, hNV, hnv0, hnv1⟩ : ∃ NV : Int, (wb.alloc (.cells #[.int .i64 (-1), .int .i64 1099511627776, .int .i64 1099511627777] 3)).cell? ⟨wb.heap.size, (m / 41 % 3).toNat, none⟩ = some (.int .i64 NV) ∧ -1 ≤ NV ∧ NV ≤ 1099511627777 := by
            have h3 : (m / 41 % 3).toNat = 0 ∨ (m / 41 % 3).toNat = 1 ∨ (m / 41 % 3).toNat = 2 := by omega
            rcases h3 with h | h | h
            · exact ⟨-1, by rw [h, World.cell?_alloc_new]; rfl, by omega, by omega⟩
            · exact ⟨1099511627776, by rw [h, World.cell?_alloc_new]; rfl, by omega, by omega⟩
            · exact ⟨1099511627777, by rw [h, World.cell?_alloc_new]; rfl, by omega, by omega⟩
          have C3 := C2.alloc (.cells #[.int .i64 (-1), .int .i64 1099511627776, .int .i64 1099511627777] 3)
          have B3 := B2.alloc B2.size (.cells #[.int .i64 (-1), .int .i64 1099511627776, .int .i64 1099511627777] 3)
          have k2 := C3.cell 2
          have f2 := C3.free 2
          have m0 : (0 : Int) ≤ m / 41 % 3 := by omega
          have m1 : m / 41 % 3 < 3 := by omega
          go_upto_if 59 with (fail)
          go_cut [] (fun wx => ∃ r : Int, -1 ≤ r ∧ r ≤ 1099511627777 ∧ Cel wx q3.heap.size 34 #[.int .i64 (n % 3), .int .i64 q, .int .i64 r, .int .i64 ss] ∧ Below q3.heap.size q3 wx)
          case first =>
            by_cases h41 : m % 41 = 0
            all_goals
              go_wp2_with fail
              go_meet
              first
                | exact ⟨_, by omega, by omega, C2, B2⟩
                | exact ⟨NV, by omega, by omega, C3.set 2 _, B3.setCell (Nat.le_refl _) _⟩
          case rest =>
            obtain ⟨r, r0, r1, C4, B4⟩ := hcut
            have k0 := C4.cell 0
            have k1 := C4.cell 1
            have k22 := C4.cell 2
            have k3 := C4.cell 3
            have HB4 := Lib.hid (HB.out.trans (B4.mono HB.out.size))
            have HO4 := Lib.hid (owns_kept_below HO.out B4)
            have hok : (OpM.mk (n % 3) q r ss).Ok := ⟨by show 0 ≤ n % 3; omega, by show n % 3 ≤ 2; omega, q0, q1, r0, r1, s0, s1⟩
            have HOK := Lib.hid hok
            clear hNV C2 B2 C3 B3 k2 f2 m0 m1 hok C4 B4 HB
            go_wp2_with (at_builtin; refine wpList_append_own _ rfl _ _ 30 rfl w.heap.size 34 i0 (.agg #[.int .i64 0, .int .i64 0, .int .i64 0, .int .i64 0]) 4 32 Try.underlying30 hi hz0 hz1 hz2 rfl (by decide) _ _ _ rfl (HO4.out.alloc _) ⟨wc.heap.size, 0, none⟩ 1 1 _ rfl rfl (news4 wc _) (by intro u hu; simp at hu; rcases hu with rfl | rfl | rfl | rfl <;> rfl) (by unfold maxLen; omega) (by omega) (by have := HB4.out.size; simp; omega) ?_; intro v' w2 hown' hgrow' _; obtain ⟨a', c', hv'⟩ := owns_form hown'; subst hv')
            have hbel' : Below w.heap.size (wc.alloc (.cells #[.int .i64 (n % 3), .int .i64 q, .int .i64 r, .int .i64 ss] 34)) w2 := (Below.refl _ _).grown hgrow' (by have := HB4.out.size; simp; omega) (fun k e => own_base HO4.out e)
            have hb5 := (HB4.out.alloc HB4.out.size (.cells #[.int .i64 (n % 3), .int .i64 q, .int .i64 r, .int .i64 ss] 34)).trans hbel'
            have HO5 : Hid (w2.ownsRow w.heap.size 34 4 (.slice a' (c + 1) c') (c + 1) (opsCells (ops ++ [OpM.mk (n % 3) q r ss]))) := Lib.hid (by rw [opsCells_snoc]; exact hown')
            have HB5 := Lib.hid hb5
            clear hown' hgrow' hbel' hb5
            go_roundw
            case rel => exact ⟨k + 2, c + 1, ops ++ [OpM.mk (n % 3) q r ss], a', c', by omega, by go_num, by omega, by simp [HOC.out], rfl, HO5, Lib.hid (fun o ho => by rcases List.mem_append.1 ho with h | h; exact HK.out o h; simp at h; subst h; exact HOK.out), HB5⟩
            case measure => simp [intOf]; omega
    · have hops : OpsRow (fun b => w.heap.size ≤ b ∧ b < wr.heap.size) wr (.slice av c cv) ops := ops_of_owns (by rw [HOC.out]; exact HO.out)
      have HOP := Lib.hid hops
      clear hops
      obtain h9 | h9 : ((k : Int) + 1 < l.length ∧ decide ((c : Int) < (most : Int)) = false) ∨ (¬ (k : Int) + 1 < l.length ∧ True) := by
        by_cases hl0 : k + 1 < l.length
        · exact .inl ⟨by omega, decide_eq_false (by omega)⟩
        · exact .inr ⟨by omega, trivial⟩
      all_goals
        obtain ⟨hl0, h9⟩ := h9
        go_wp2_with fail
        go_ret
        unfold ScriptPost
        exact ⟨_, ops, rfl, by rw [HOC.out]; exact hc, HK.out, HOP.out, HB.out⟩
end Go.Proofs.Ytcohajmappdckaa
