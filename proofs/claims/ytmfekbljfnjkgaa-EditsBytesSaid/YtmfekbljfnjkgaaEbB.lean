/- The contract of edits.Encode. -/
import Derived.Test.YtmfekbljfnjkgaaEbA
import Derived.Test.YtmfekbljfnjkgaaEbR
namespace Go.Proofs.Ytmfekbljfnjkgaa
open Go.RowKit Go.Shelf
set_option linter.unusedVariables false

/-- An Item's bytes. -/
def itemB (c nu ba at' de : Int) (ins : List Int) : List Int := sint c ++ sint nu ++ sint ba ++ sint at' ++ sint de ++ sints ins
def fiveB (l : List Int) : List Int := (l.map sint).flatten
theorem owns_up {w : World} {base : Nat} {e : TypeId} {size : Nat} {v : Value} {n : Nat} {xs : List Value} (h : w.ownsRow 0 e size v n xs) (hb : ∀ k, v.ownBlock = some k → base ≤ k) : w.ownsRow base e size v n xs := by
  refine ⟨h.1, ?_⟩
  rcases h.2 with e | ⟨g, cap, cur, rfl, _, r⟩
  · exact .inl e
  · exact .inr ⟨g, cap, cur, rfl, hb g rfl, r⟩
theorem Ww.wr {W : World} {base b : Nat} {v : Value} {zs : List Int} (h : Ww W b v zs) (hb : ∀ k, v.ownBlock = some k → base ≤ k) : Wr W base b zs := ⟨v, h.1, owns_up h.2.1 hb⟩
theorem Ww.new (w : World) (b : Nat) (hb : b = w.heap.size) : Ww (w.alloc (.cells #[.slice none 0 0] 68)) b (.slice none 0 0) [] := by
  subst hb
  exact ⟨Cel.new _ _ _, World.ownsRow_nil _ _ _ _, by simp [Value.ownBlock]⟩
theorem sint_le (n : Int) : (sint n).length ≤ 11 := (vint_length (zig n)).2
set_option maxRecDepth 100000 in
set_option maxHeartbeats 4000000 in
theorem encode27_any (c nu ba at' de : Int) (a : Option Addr) (cap : Nat) (ins : List Int) (w : World) (hr : Row .i64 w.heap.size w (.slice a ins.length cap) ins) (hl : ins.length ≤ 100000)
    (h1 : (Lit.int .i64 c).wf = true) (h2 : (Lit.int .i64 nu).wf = true) (h3 : (Lit.int .i64 ba).wf = true) (h4 : (Lit.int .i64 at').wf = true) (h5 : (Lit.int .i64 de).wf = true) (hwf : ∀ n ∈ ins, (Lit.int .i64 n).wf = true) :
    Calls Try.prog 34 #[.agg #[.int .i64 c, .int .i64 nu, .int .i64 ba, .int .i64 at', .int .i64 de, .slice a ins.length cap]] w fun e w' => ∃ a2 c2, e = .returned (.slice a2 (itemB c nu ba at' de ins).length c2) ∧ w'.ownsRow w.heap.size 5 1 (.slice a2 (itemB c nu ba at' de ins).length c2) (itemB c nu ba at' de ins).length ((itemB c nu ba at' de ins).map (Value.int .u8)) ∧ Row .u8 w'.heap.size w' (.slice a2 (itemB c nu ba at' de ins).length c2) (itemB c nu ba at' de ins) ∧ Below w.heap.size w w' := by
  obtain ⟨W1, hW1⟩ : ∃ X, X = w.alloc (.cells #[.int .i64 c, .int .i64 nu, .int .i64 ba, .int .i64 at', .int .i64 de, .slice a ins.length cap] 51) := ⟨_, rfl⟩
  have s1 : W1.heap.size = w.heap.size + 1 := by rw [hW1]; simp
  have C1 : Cel W1 w.heap.size 51 #[.int .i64 c, .int .i64 nu, .int .i64 ba, .int .i64 at', .int .i64 de, .slice a ins.length cap] := by rw [hW1]; exact Cel.new _ _ _
  have b1 : Below w.heap.size w W1 := by rw [hW1]; exact laidB (Below.refl _ _) _
  obtain ⟨W2, hW2⟩ : ∃ X, X = W1.alloc (.cells #[.slice none 0 0] 68) := ⟨_, rfl⟩
  have s2 : W2.heap.size = w.heap.size + 2 := by rw [hW2]; simp [s1]
  have C2 : Cel W2 w.heap.size 51 #[.int .i64 c, .int .i64 nu, .int .i64 ba, .int .i64 at', .int .i64 de, .slice a ins.length cap] := by rw [hW2]; exact C1.alloc _
  have V2 : Ww W2 (w.heap.size + 1) (.slice none 0 0) [] := by rw [hW2]; exact Ww.new W1 _ s1.symm
  have b2 : Below w.heap.size w W2 := by rw [hW2]; exact laidB b1 _
  obtain ⟨W3, hW3⟩ : ∃ X, X = W2.alloc (.cells #[.int .i64 c, .int .i64 nu, .int .i64 ba, .int .i64 at', .int .i64 de] 3) := ⟨_, rfl⟩
  have s3 : W3.heap.size = w.heap.size + 3 := by rw [hW3]; simp [s2]
  have C3 : Cel W3 w.heap.size 51 #[.int .i64 c, .int .i64 nu, .int .i64 ba, .int .i64 at', .int .i64 de, .slice a ins.length cap] := by rw [hW3]; exact C2.alloc _
  have L3 : Cel W3 (w.heap.size + 2) 3 #[.int .i64 c, .int .i64 nu, .int .i64 ba, .int .i64 at', .int .i64 de] := by rw [hW3, ← s2]; exact Cel.new _ _ _
  have V3 : Ww W3 (w.heap.size + 1) (.slice none 0 0) [] := by
    rw [hW3]
    exact ⟨V2.1.alloc _, World.ownsRow_nil _ _ _ _, by simp [Value.ownBlock]⟩
  have b3 : Below w.heap.size w W3 := by rw [hW3]; exact laidB b2 _
  have x0 := C2.cell 0
  have x1 := C2.cell 1
  have x2 := C2.cell 2
  have x3 := C2.cell 3
  have x4 := C2.cell 4
  simp only [List.getElem?_toArray, List.getElem?_cons_zero, List.getElem?_cons_succ] at x0 x1 x2 x3 x4
  rw [hW2, hW1] at x0 x1 x2 x3 x4
  go_enter Try.func34, Try.ntmps34
  go_wp2_with fail
  rw [← hW1, ← hW2, ← hW3]
  rw [show w.heap.size + 1 + 1 = w.heap.size + 2 from rfl]
  clear x0 x1 x2 x3 x4 hW1 hW2 hW3 V2 b1 b2 C1 C2
  have HF : Hid ([c, nu, ba, at', de].length = 5) := Lib.hid rfl
  have HM : Hid (∀ k, k < 5 → (Lit.int .i64 ([c, nu, ba, at', de][k]?.getD 0)).wf = true) := Lib.hid (by
    intro k hk
    match k, hk with
    | 0, _ => exact h1
    | 1, _ => exact h2
    | 2, _ => exact h3
    | 3, _ => exact h4
    | 4, _ => exact h5)
  have HC : Hid (∀ k, k < 5 → (#[Value.int .i64 c, .int .i64 nu, .int .i64 ba, .int .i64 at', .int .i64 de] : Array Value)[k]? = some (.int .i64 ([c, nu, ba, at', de][k]?.getD 0))) := Lib.hid (by
    intro k hk
    match k, hk with
    | 0, _ => rfl
    | 1, _ => rfl
    | 2, _ => rfl
    | 3, _ => rfl
    | 4, _ => rfl)
  have HB : Hid (fiveB [c, nu, ba, at', de] ++ sints ins = itemB c nu ba at' de ins) := Lib.hid (by simp [fiveB, itemB])
  clear h1 h2 h3 h4 h5
  generalize hcs : (#[Value.int .i64 c, .int .i64 nu, .int .i64 ba, .int .i64 at', .int .i64 de] : Array Value) = cs at *
  generalize hfv : [c, nu, ba, at', de] = fv at *
  go_loopw [22] (fun i wr => ∃ k : Nat, k ≤ 5 ∧ i = .int .i64 (k : Int) ∧ Hid (WAfter W3 wr (w.heap.size + 1) (.slice none 0 0) (fiveB (fv.take k)))) (fun i _ => 5 - (intOf i).toNat)
  case atStart => exact ⟨0, by decide, rfl, Lib.hid (WAfter.refl V3)⟩
  case round =>
    obtain ⟨k, hk, rfl, HA⟩ := hrel
    obtain ⟨v, k1, k2, k3⟩ := HA.out
    have hnb : ∀ j, WB (w.heap.size + 1) (.slice none 0 0) j → j = w.heap.size + 1 := by
      rintro j (e | e)
      · exact e
      · simp [Value.ownBlock] at e
    by_cases hlt : k < 5
    · have c1 : wr.cell? ⟨w.heap.size + 2, k, none⟩ = some (.int .i64 (fv[k]?.getD 0)) := ((L3.only k2 (fun e => by have := hnb _ e; omega)).cell k).trans (HC.out k hlt)
      have hwx := HM.out k hlt
      have HT : Hid (fiveB (fv.take (k + 1)) = fiveB (fv.take k) ++ sint (fv[k]?.getD 0)) := Lib.hid (sints_take fv k (by rw [HF.out]; exact hlt))
      have hle : (fiveB (fv.take k)).length ≤ 10000000 := by
        have h1 := sints_le (fv.take k)
        have h2 : (fv.take k).length ≤ k := List.length_take_le _ _
        unfold fiveB
        omega
      have hki : (k : Int) < 5 := by omega
      generalize fv[k]?.getD 0 = x at c1 hwx HT
      have K1 := Lib.hid k1
      have K2 := Lib.hid k2
      have K3 := Lib.hid k3
      have HL := Lib.hid hle
      have HX := Lib.hid hwx
      clear k1 k2 k3 hle hwx
      go_wp2_with fail
      refine (wint2_any (w.heap.size + 1) v (fiveB (fv.take k)) x wr K1.out HL.out HX.out).mono ?_
      rintro e w' ⟨rfl, h2⟩
      have H2 := Lib.hid h2
      clear h2
      dsimp only
      go_wp2_with fail
      go_roundw
      case rel => exact ⟨k + 1, by omega, by go_num, Lib.hid (by rw [HT.out]; exact WAfter.trans K1.out K2.out K3.out H2.out)⟩
      case measure => simp [intOf]; omega
    · have hki : ¬ (k : Int) < 5 := by omega
      have hfk : fv.take k = fv := List.take_of_length_le (by rw [HF.out]; omega)
      rw [hfk] at k1
      have C4 := C3.only k2 (fun e => by have := hnb _ e; omega)
      have b4 : Below w.heap.size w wr := b3.trans (k2.below (by omega) (fun j hj => by have := hnb _ hj; omega))
      have x5 : wr.cell? ⟨w.heap.size, 5, none⟩ = some (.slice a ins.length cap) := C4.cell 5
      have hvb : ∀ j, v.ownBlock = some j → w.heap.size ≤ j := by
        intro j e
        rcases k3 with e2 | ⟨j2, e2, h⟩
        · rw [e2] at e; simp [Value.ownBlock] at e
        · rw [e2] at e; injection e with e; omega
      have hw0 := k1.wr hvb
      have hle : (fiveB fv).length ≤ 1000000 := by
        have h1 := sints_le fv
        have h2 := HF.out
        unfold fiveB
        omega
      have hr4 : Row .i64 w.heap.size wr (.slice a ins.length cap) ins := RowP.below b4 hr
      have hbs : w.heap.size ≤ wr.heap.size := b4.size
      clear k1 k2 k3 hfk hvb C4 hr
      go_wp2_with fail
      refine (wints_any w.heap.size (w.heap.size + 1) (fiveB fv) a cap ins wr hw0 (by omega) hle hr4 hl hwf).mono ?_
      rintro e w1 ⟨rfl, hw1, bb1⟩
      rw [HB.out] at hw1
      have hzl : (itemB c nu ba at' de ins).length ≤ 10000000 := by
        have h1 := sints_le ins
        have h3 := (vint_length ins.length).2
        rw [← HB.out, List.length_append, sints, List.length_append]
        omega
      dsimp only
      go_wp2_with fail
      refine (done_any w.heap.size (w.heap.size + 1) _ w1 hw1 hzl).mono ?_
      rintro e w2 ⟨ar, cr, rfl, hoR, hrR, bb2⟩
      have b5 := b4.trans bb1
      dsimp only
      go_wp2_with fail
      go_ret
      exact ⟨ar, cr, rfl, owns_base hoR b5.size, hrR, b5.trans (bb2.mono b5.size)⟩
end Go.Proofs.Ytmfekbljfnjkgaa
