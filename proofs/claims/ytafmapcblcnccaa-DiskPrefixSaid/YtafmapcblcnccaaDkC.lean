/- Package disk: Append. -/
import Derived.Test.YtafmapcblcnccaaDkB
import Derived.Test.YtafmapcblcnccaaStepApp
namespace Go.Proofs.Ytafmapcblcnccaa
open Go.RowKit Go.Shelf
set_option linter.unusedVariables false

theorem zeroF (W : World) : (zeroValue 79).run Try.prog W = .ok (.agg #[.slice none 0 0, .int .i64 0]) W := by kernel_rfl
theorem info_u8 : (Try.prog.info? 5).map (fun i => (i.zero, i.size, i.bytes)) = some (some (.int .u8 0), 1, 1) := by kernel_rfl
theorem info_parts3 {t : TypeId} {z : Option Value} {s b : Nat} (h : (Try.prog.info? t).map (fun i => (i.zero, i.size, i.bytes)) = some (z, s, b)) : ∃ i, Try.prog.info? t = some i ∧ i.zero = z ∧ i.size = s ∧ i.bytes = b := by
  cases e : Try.prog.info? t with
  | none => rw [e] at h; simp at h
  | some i => rw [e] at h; simp at h; exact ⟨i, rfl, h.1, h.2.1, h.2.2⟩
theorem Dk.lenf {W : World} {n0 p m : Nat} {s : DS} {v : Value} (h : Dk W n0 p m s v) : lenD s.f ≤ 16777216 := by
  have := h.row
  cases hf : s.f with
  | none => simp [lenD]
  | some x =>
    obtain ⟨n, bs, d⟩ := x
    rw [hf] at this
    exact this.2.2.2.1
theorem wpList_append_rowAt {P : Program} {w : World} {ops : Array Oper} {rest : List Oper} {o : Oper} {a : Act} {Q : Exit → Act → World → Prop} (hgd : o.guard = none) (s x : Operand) (t : TypeId)
    (ho : o.op = .call { callee := .builtin .append, args := #[s, x], argTypes := #[t, t] })
    (base : Nat) (e : TypeId) (i : TypeInfo) (k : IntKind) (z : Value) (bytes : Nat) (ht : P.underlying t = some (.slice e)) (hi : P.info? e = some i) (hz : i.zero = some z)
    (hsize : i.size = 1) (hby : i.bytes = bytes) (hzs : z.cells.size = 1)
    (v : Value) (n : Nat) (zs : List Int) (hs : a.eval s = v) (hown : w.ownsRow base e 1 v n (zs.map (Value.int k)))
    (sv : Value) (ys : List Int) (p : Nat → Prop) (hx : a.eval x = sv) (hr : RowP k p w sv ys)
    (h63 : n + ys.length ≤ maxLen) (hbytes : (n + ys.length) * bytes ≤ 140737488355328) (hbase : base ≤ w.heap.size)
    (h : ∀ v' w', w'.ownsRow base e 1 v' (zs ++ ys).length ((zs ++ ys).map (Value.int k)) → w.grownBy w' v.ownBlock → (v'.ownBlock = v.ownBlock ∨ v'.ownBlock = some w.heap.size) → wpList P ops Q rest (a.put o.dst v') w') : wpList P ops Q (o :: rest) a w := by
  refine wpList_plain hgd fun K' hK' => ?_
  have := step_append_row (ops := ops) (K := K') (Q := Q) (E := True) hgd s x t ho base e i k z bytes ht hi hz hsize hby hzs v n zs hs hown sv ys p hx hr h63 hbytes hbase (fun v' w' g1 g2 g3 => hK' _ _ (h v' w' g1 g2 g3))
  rwa [if_pos (by simp [Region.wanted, hgd])] at this
theorem owns_lt' {W : World} {base : Nat} {e : TypeId} {size : Nat} {v : Value} {n : Nat} {xs : List Value} (h : W.ownsRow base e size v n xs) {b : Nat} (hk : v.ownBlock = some b) : b < W.heap.size := by
  rcases h.2 with ⟨rfl, _⟩ | ⟨g, cp, cur, rfl, hb, hg, _⟩
  · simp [Value.ownBlock] at hk
  · obtain rfl : g = b := by simpa [Value.ownBlock] using hk
    exact (Array.getElem?_eq_some_iff.1 hg).1
theorem MapL.only {A B : World} {q : Nat → Prop} {m : Nat} {l : List (Int × Value)} (h : MapL A m l) (ho : OnlyP q A B) (hn : ¬ q m) : MapL B m l := by
  have hl := h.lt
  obtain ⟨es, clock, h1, h2⟩ := h
  exact ⟨es, clock, (ho.block m hl hn).trans h1, h2⟩
theorem owns_same {W W' : World} {base : Nat} {e : TypeId} {size : Nat} {v : Value} {n : Nat} {xs : List Value} (h : W.ownsRow base e size v n xs) (hb : ∀ b, v.ownBlock = some b → W'.heap[b]? = W.heap[b]?) : W'.ownsRow base e size v n xs := by
  refine ⟨h.1, ?_⟩
  rcases h.2 with h2 | ⟨g, cap, cur, rfl, hg, hh, h3⟩
  · exact .inl h2
  · exact .inr ⟨g, cap, cur, rfl, hg, by rw [hb g rfl]; exact hh, h3⟩
theorem owns_obj {W : World} {base : Nat} {e : TypeId} {size : Nat} {v : Value} {n : Nat} {xs : List Value} (h : W.ownsRow base e size v n xs) {b : Nat} (hb : v.ownBlock = some b) : ∃ cur, W.heap[b]? = some (.cells cur e (0, 0)) := by
  rcases h.2 with ⟨rfl, _⟩ | ⟨g, cap, cur, rfl, hg, hh, _⟩
  · cases hb
  · obtain rfl : g = b := by simpa [Value.ownBlock] using hb
    exact ⟨cur, hh⟩
theorem owns_nbox {W : World} {base : Nat} {size p : Nat} {v : Value} {n : Nat} {xs : List Value} {cs : Array Value} (h : W.ownsRow base 5 size v n xs) (hc : Cel W p 74 cs) : v.ownBlock ≠ some p := by
  intro e
  obtain ⟨cur, hh⟩ := owns_obj h e
  exact cel_ne (b := p) (b' := p) hh hc (by decide) rfl
theorem owns_nmap {W : World} {base : Nat} {e : TypeId} {size m : Nat} {v : Value} {n : Nat} {xs : List Value} {l : List (Int × Value)} (h : W.ownsRow base e size v n xs) (hm : MapL W m l) : v.ownBlock ≠ some m := by
  intro e
  obtain ⟨cur, hh⟩ := owns_obj h e
  obtain ⟨es, clock, hb, _⟩ := hm
  rw [hh] at hb
  cases hb
/-- A row of bytes lies in no disk's box. -/
theorem rowBox {W W' : World} {q : Nat → Prop} {p m : Nat} {r pl : Int} {o : Bool} {v : Value} {b : List Int} (hr : RowP .u8 q W v b) (hc : Cel W p 74 #[.int .i64 r, .map (some m), .bool o, .int .i64 pl]) (ho : OnlyP (fun k => k = p) W W') : RowP .u8 q W' v b := by
  rcases hr with hr | ⟨g, off, cap, rfl, h1, h2, hp, hcs⟩
  · exact .inl hr
  · refine .inr ⟨g, off, cap, rfl, h1, h2, hp, fun j hj => ?_⟩
    have hj' := hcs j hj
    have hgp : g ≠ p := by
      rintro rfl
      rw [hc.cell] at hj'
      rcases hq : off + j with _ | _ | _ | _ | k
      all_goals (rw [hq] at hj'; simp at hj')
    have hg : g < W.heap.size := World.block_lt_of_cell? W ⟨g, off + j, none⟩ hj'
    rw [← hj']
    unfold World.cell?
    rw [ho.block g hg hgp]
theorem step_f (s : DS) : s.step.f = s.f := by
  unfold DS.step
  split
  · rfl
  · split <;> rfl
theorem step_room (s : DS) : s.step.room = s.room := by
  unfold DS.step
  split
  · rfl
  · split <;> rfl
def errA (b : Bool) : Int := if b then 0 else 19
/-- What Append leaves: v0 was the file's row. -/
def AppPost (w : World) (n0 p m : Nat) (s : DS) (v v0 : Value) (n : Int) (d0 : Nat) (BB : List Int) (w' : World) : Prop := ∃ v1 : Value, w'.ownsRow n0 5 1 v1 BB.length (BB.map (Value.int .u8)) ∧
  MapL w' m (if BB.length = 0 then delL (entD v s.f) n else putL (entD v s.f) n (.agg #[v1, .int .i64 (d0 : Int)])) ∧
  Cel w' p 74 #[.int .i64 s.step.room, .map (some m), .bool s.step.off, .int .i64 s.step.plan] ∧ OnlyP (DkB p m v0) w w' ∧ (v1.ownBlock = v0.ownBlock ∨ ∃ k, v1.ownBlock = some k ∧ w.heap.size ≤ k)
set_option maxRecDepth 100000 in
set_option maxHeartbeats 4000000 in
theorem appendD_core {n0 p m : Nat} {s : DS} {v : Value} (w : World) (h : Dk w n0 p m s v) (n : Int) (h0 : 0 ≤ n) (h1 : n < 64) (hoff : s.off = false) (ab : Option Addr) (cb : Nat) (b : List Int) (hr : Row .u8 w.heap.size w (.slice ab b.length cb) b)
    (hroom : (lenD s.f : Int) + b.length ≤ s.room) (a0 : Option Addr) (c0 : Nat) (B0 : List Int) (d0 : Nat) (hl : (lkL (entD v s.f) n).getD (.agg #[.slice none 0 0, .int .i64 0]) = .agg #[.slice a0 B0.length c0, .int .i64 (d0 : Int)])
    (hown : w.ownsRow n0 5 1 (.slice a0 B0.length c0) B0.length (B0.map (Value.int .u8))) (hB : B0.length ≤ lenD s.f) :
    Calls Try.prog 21 #[.pointer (some ⟨p, 0, none⟩), .int .i64 n, .slice ab b.length cb] w fun e w' => e = .returned (.int .i64 (errA s.stepOk)) ∧ AppPost w n0 p m s v (.slice a0 B0.length c0) n d0 (B0 ++ b) w' := by
  obtain ⟨i0, hi, hz0, hz1, hz2⟩ := info_parts3 info_u8
  have hbase : n0 ≤ w.heap.size := by have := h.basep; have := h.box.lt; omega
  have hbl : b.length ≤ 16777216 := by have := h.room1; omega
  have hBl : B0.length ≤ 16777216 := by have := h.lenf; omega
  have c0' := h.box.cell 0
  have c2 := h.box.cell 2
  rw [hoff] at c2
  have hf2 : decide (n < 64) = true := decide_eq_true h1
  have hf1 : decide (0 ≤ n) = true := decide_eq_true h0
  have HIS := isFile_any n w
  rw [hf1, hf2] at HIS
  have hdr : Dk w.drew n0 p m s v := h.step (Below.refl _ _).drew
  have hw1 : IntKind.i64.wrap ((lenD s.f : Int) + b.length) = (lenD s.f : Int) + b.length := IntWalk.i64_in _ (by have := h.lenf; omega)
  have hgt : ¬ s.room < (lenD s.f : Int) + b.length := by omega
  have d0' : w.drew.cell? ⟨p, 0, none⟩ = some (.int .i64 s.room) := c0'
  have HD := Lib.hid hdr
  have HI := Lib.hid HIS
  clear HIS hf1 hf2 hoff hB
  have hpm := h.pm
  obtain ⟨BB, hBB⟩ : ∃ BB, BB = B0 ++ b := ⟨_, rfl⟩
  rw [← hBB]
  have HBB := Lib.hid hBB
  clear hBB
  go_enter Try.func21, Try.ntmps21
  go_wp2_with fail
  refine HI.out.mono ?_
  rintro e w1 ⟨rfl, hw1'⟩
  subst hw1'
  dsimp only [Bool.and_self]
  go_upto_region 5 with (fail)
  clear c0' c2 HI
  go_region_law ((go_simp; go_at_call 24; refine (used_any _ HD.out).mono ?_; rintro e w2 ⟨rfl, b2⟩; dsimp only; have y0 := cellB d0' b2))
  all_goals
    have h2 := HD.out.step b2
    have b2' : Below w1.heap.size w1 w2 := (Below.refl _ _).drew.trans b2
    have hr2 := rowB hr b2'
    have hown2 := owns_kept_below hown b2'
    have sz2 := b2'.size
    clear y0 d0' hdr HD b2 h hr hown hgt hw1
    go_wp2_with fail
    refine (stepD_any w2 h2).mono ?_
    rintro e w3 ⟨rfl, h3, o3⟩
    have hr3 := rowBox hr2 h2.box o3
    have hown3 := owns_same hown2 (fun b e => o3.block b (owns_lt' hown2 e) (fun h => owns_nbox hown2 h2.box (by rw [e, h])))
    have hlk := h3.map.look (P := Try.prog) (t := 72) (k := 3) Try.underlying72 Try.underlying3 _ (zeroF w3) n false
    rw [step_f] at hlk
    simp only [Bool.false_eq_true, if_false] at hlk
    rw [hl] at hlk
    have hm3 := h3.map
    rw [step_f] at hm3
    have hc3 := h3.box
    have sz3 := o3.size
    have hr3' : Row .u8 w3.heap.size w3 (.slice ab b.length cb) b := RowP.mono (fun _ h => Nat.lt_of_lt_of_le h o3.size) hr3
    clear hl h2 h3 hr2 hown2 hr3
    obtain ⟨X, hX⟩ : ∃ X, X = w3.alloc (.cells #[.slice a0 B0.length c0, .int .i64 (d0 : Int)] 79) := ⟨_, rfl⟩
    have bX : Below w3.heap.size w3 X := by rw [hX]; exact laidB (Below.refl _ _) _
    have sX : X.heap.size = w3.heap.size + 1 := by rw [hX]; simp
    have CX : Cel X w3.heap.size 79 #[.slice a0 B0.length c0, .int .i64 (d0 : Int)] := by rw [hX]; exact Cel.new _ _ _
    have hne : (Value.slice a0 B0.length c0).ownBlock ≠ some w3.heap.size := fun e => by have := owns_lt' hown3 e; omega
    have x0 := CX.cell 0
    have x1 := CX.cell 1
    have hrX := rowB hr3' bX
    have hownX := owns_kept_below hown3 bX
    have hcX := hc3.step bX
    have hmX := hm3.step bX
    have hpw3 := hc3.lt
    have hmw3 := hm3.lt
    have HO := Lib.hid hown3
    have y1 := hc3.cell 1
    have HC := Lib.hid hcX
    have HM := Lib.hid hmX
    clear hc3 hm3 hcX hmX hr3' hown3
    dsimp only
    go_upto_region 9 with (fail)
    rw [← hX]
    clear hX
    clear hlk y1
    have hXn : n0 ≤ X.heap.size := by omega
    go_wp2_with (at_builtin; refine wpList_append_rowAt rfl _ _ 33 rfl n0 5 i0 .u8 (.int .u8 0) 1 Try.underlying33 hi hz0 hz1 hz2 rfl (.slice a0 B0.length c0) _ B0 rfl hownX _ b (fun x => x < _) rfl hrX (by unfold maxLen; omega) (by omega) hXn ?_; intro v1 Y g1 g2 g3; rw [← HBB.out] at g1; obtain ⟨a1, c1, rfl⟩ := row_slice (row_of_owns g1).1; have CY := CX.grown g2 hne; have z0 := CY.cell 0; have z1 := CY.cell 1; have zf := CY.free 0; replace g1 := Lib.hid g1; replace g2 := Lib.hid g2; replace g3 := Lib.hid g3; clear CY x0 x1)
    obtain ⟨Z, hZ⟩ : ∃ Z, Z = Y.setCell ⟨w3.heap.size, 0, none⟩ (.slice a1 BB.length c1) := ⟨_, rfl⟩
    rw [← hZ]
    have hcY := HC.out.grown g2.out (owns_nbox hownX HC.out)
    have hcZ : Cel Z p 74 #[.int .i64 s.step.room, .map (some m), .bool s.step.off, .int .i64 s.step.plan] := by rw [hZ]; exact hcY.far (by dsimp only; omega) _
    have hmY := HM.out.grown g2.out (owns_nmap hownX HM.out)
    have oZ : OnlyP (fun k => k = w3.heap.size) Y Z := by rw [hZ]; exact OnlyP.set (fun k => k = w3.heap.size) _ _ _ rfl
    have hmZ := hmY.only oZ (by omega)
    have hvq : (Value.slice a1 BB.length c1).ownBlock ≠ some w3.heap.size := by
      intro e
      rcases g3.out with h | h
      · rw [h] at e; exact hne e
      · rw [h] at e; injection e with e; omega
    have howZ := owns_same (W' := Z) g1.out (fun b e => oZ.block b (owns_lt' g1.out e) (fun h => hvq (by rw [e, h])))
    refine (put_any s.step.room s.step.off s.step.plan n a1 BB.length c1 (d0 : Int) Z hcZ hmZ).mono ?_
    rintro e W4 ⟨rfl, hm4, o4⟩
    have hc4 := hcZ.only o4 hpm
    have how4 := owns_same (W' := W4) howZ (fun b e => o4.block b (owns_lt' howZ e) (fun h => owns_nmap howZ hmZ (by rw [e, h])))
    have hbk : (Value.slice a1 BB.length c1).ownBlock = (Value.slice a0 B0.length c0).ownBlock ∨ ∃ k, (Value.slice a1 BB.length c1).ownBlock = some k ∧ w1.heap.size ≤ k := by
      rcases g3.out with h | h
      · exact .inl h
      · exact .inr ⟨_, h, by omega⟩
    have f1 : OnlyP (DkB p m (.slice a0 B0.length c0)) w1 w2 := OnlyP.of_below b2'
    have f2 := f1.trans (o3.mono (fun k e => .inl e))
    have f3 := f2.trans (OnlyP.of_below bX)
    have f4 := f3.trans (OnlyP.of_grown g2.out (fun k e => .inr (.inr e)))
    have f5 := f4.trans' oZ (fun i e => .inr (by rw [e]; omega))
    have f6 := f5.trans (o4.mono (fun k e => .inr (.inl e)))
    have FIN : Hid (AppPost w1 n0 p m s v (.slice a0 B0.length c0) n d0 BB W4) := Lib.hid ⟨_, how4, hm4, hc4, f6, hbk⟩
    clear how4 hm4 hc4 f6 hbk f5 f4 f3 f2 f1 howZ hmZ oZ hmY hcZ hcY hZ hownX hrX CX hvq
    dsimp only
    cases hG : s.stepOk
    · go_wp2_with fail
      go_ret
      exact ⟨by first | rfl | (rw [hG]; rfl), FIN.out⟩
    · go_wp2_with fail
      go_ret
      exact ⟨by first | rfl | (rw [hG]; rfl), FIN.out⟩
end Go.Proofs.Ytafmapcblcnccaa
