/- Contracts of package text: symbols. -/
import Derived.Test.YtnfelphemdchpaaTxtQ
import Derived.Test.YtnfelphemdchpaaTxtR
import Derived.Test.YtnfelphemdchpaaTxtE
import Derived.Test.YtnfelphemdchpaaTxtF
import Derived.Test.YtnfelphemdchpaaSeqBox
namespace Go.Proofs.Ytnfelphemdchpaa
open Go.RowKit Go.Shelf
attribute [local go_sem] Oper.semAt_some
set_option linter.unusedVariables false

def lenAt (W : World) (b : Nat) : Nat := match W.cell? ⟨b, 0, none⟩ with | some (.slice _ n _) => n | _ => 0
theorem rowP_drop {k : IntKind} {p : Nat → Prop} {W : World} {ad : Addr} {n cap : Nat} {zs : List Int} (h : RowP k p W (.slice (some ad) n cap) zs) (j : Nat) (hj : j ≤ zs.length) :
    RowP k p W (.slice (some (ad.add j)) (n - j) (cap - j)) (zs.drop j) ∧ (j = n → RowP k p W (.slice (some ad) (n - j) (cap - j)) (zs.drop j)) := by
  have hn := h.len
  have hlc := h.lencap
  subst hn
  have emp : j = zs.length → ∀ a : Addr, RowP k p W (.slice (some a) (zs.length - j) (cap - j)) (zs.drop j) := by
    intro e a
    rw [List.drop_eq_nil_of_le (by omega), show zs.length - j = 0 from by omega]
    exact .inl ⟨_, _, rfl, by omega, (fun h => by cases h), rfl⟩
  refine ⟨?_, fun e => emp e _⟩
  rcases Nat.lt_or_ge j zs.length with h1 | h1
  · obtain ⟨b, off, e, hb, hc⟩ := h.at (by omega)
    cases e
    rw [addr_add]
    refine .inr ⟨b, off + j, cap - j, by rw [List.length_drop], by rw [List.length_drop]; omega, by omega, hb, fun i hi => ?_⟩
    rw [List.length_drop] at hi
    rw [show off + j + i = off + (j + i) from by omega, hc (j + i) (by omega), List.getElem?_drop]
  · exact emp (by omega) _
theorem keepP_lt {p : Nat → Prop} {A B : World} (h : KeepP p A B) (hp : ∀ k, p k → k < A.heap.size) : ∀ k, p k → k < B.heap.size := by
  intro k hk
  have h1 := h.same k hk
  rw [Array.getElem?_eq_getElem (hp k hk)] at h1
  exact (Array.getElem?_eq_some_iff.1 h1).1
theorem celP {p : Nat → Prop} {A B : World} (h : KeepP p A B) {b : Nat} {t : TypeId} {cs : Array Value} (hb : p b) (hc : Cel A b t cs) : Cel B b t cs := (h.same b hb).trans hc
/-- What holds between two rounds of symbols. -/
def SymsAt (p : Nat → Prop) (l : List Int) (runes : Bool) (Bs Br : Nat) (J : List Int → World → Prop) (m : Nat) (pre : List Int) (a : Option Addr) (cap : Nat) (wr : World) : Prop :=
  m ≤ l.length ∧ Cel wr Bs 26 #[.slice a (l.length - m) cap] ∧ RowP .u8 (fun k => p k ∧ k ≠ Bs) wr (.slice a (l.length - m) cap) (l.drop m) ∧ Cel wr Br 4 #[.bool runes] ∧ Hid (pre ++ symsL runes (l.drop m) = symsL runes l) ∧ pre.length ≤ m ∧ J pre wr ∧ (∀ k, p k → k < wr.heap.size)
theorem SymsAt.keep {p : Nat → Prop} {l : List Int} {runes : Bool} {Bs Br : Nat} {J : List Int → World → Prop} {m : Nat} {pre : List Int} {a : Option Addr} {cap : Nat} {A B : World} (h : SymsAt p l runes Bs Br J m pre a cap A) (hBs : p Bs) (hBr : p Br) (hk : KeepP p A B) (hJ : J pre B) : SymsAt p l runes Bs Br J m pre a cap B :=
  ⟨h.1, celP hk hBs h.2.1, h.2.2.1.keep ⟨fun k hp => hk.same k hp.1⟩, celP hk hBr h.2.2.2.1, h.2.2.2.2.1, h.2.2.2.2.2.1, hJ, keepP_lt hk h.2.2.2.2.2.2.2⟩
/-- A round is over: the next one's state, the rest of the bytes stored. -/
theorem SymsAt.next {p : Nat → Prop} {l : List Int} {runes : Bool} {Bs Br : Nat} {J : List Int → World → Prop} {m : Nat} {pre : List Int} {ad : Addr} {cap : Nat} {A B : World} (h : SymsAt p l runes Bs Br J m pre (some ad) cap A) (hBs : p Bs) (hBr : p Br) (hne : Br ≠ Bs) (hAb : AbidesBox Bs J) (hk : KeepP p A B) (c : Nat)
    (hm : m < l.length) (hc : (oneI runes (l.drop m)).2 = (c : Int)) (hc0 : 0 < c) (hJ : J (pre ++ [(oneI runes (l.drop m)).1]) B) :
    (SymsAt p l runes Bs Br J (m + c) (pre ++ [(oneI runes (l.drop m)).1]) (some (ad.add c)) (cap - c) (B.setCell ⟨Bs, 0, none⟩ (.slice (some (ad.add c)) (l.length - m - c) (cap - c)))) ∧
    (cap = c → SymsAt p l runes Bs Br J (m + c) (pre ++ [(oneI runes (l.drop m)).1]) (some ad) (cap - c) (B.setCell ⟨Bs, 0, none⟩ (.slice (some ad) (l.length - m - c) (cap - c)))) := by
  obtain ⟨h1, h2, h3, h4, h5, h6, h7, h8⟩ := h
  obtain ⟨s1, s2, s3⟩ := symsL_step runes l pre m hm h5.out (by rw [hc]; omega)
  rw [hc, Int.toNat_natCast] at s1 s3
  have hlc := h3.lencap
  have hd := rowP_drop h3 c (by rw [List.length_drop]; omega)
  rw [List.drop_drop] at hd
  have kq : ∀ v, KeepP (fun k => p k ∧ k ≠ Bs) A (B.setCell ⟨Bs, 0, none⟩ v) := fun v => (KeepP.trans ⟨fun k hp => hk.same k hp.1⟩ (KeepP.setCell (fun k => p k ∧ k ≠ Bs) B ⟨Bs, 0, none⟩ v (fun e => e.2 rfl)))
  have e1 : l.length - m - c = l.length - (m + c) := by omega
  rw [e1] at hd ⊢
  have fin : ∀ a' : Option Addr, RowP .u8 (fun k => p k ∧ k ≠ Bs) A (.slice a' (l.length - (m + c)) (cap - c)) (l.drop (m + c)) → SymsAt p l runes Bs Br J (m + c) (pre ++ [(oneI runes (l.drop m)).1]) a' (cap - c) (B.setCell ⟨Bs, 0, none⟩ (.slice a' (l.length - (m + c)) (cap - c))) := fun a' hr =>
    ⟨s3, (celP hk hBs h2).set 0 _, hr.keep (kq _), (celP hk hBr h4).far (fun e => hne e) _, Lib.hid s1, by rw [List.length_append]; simp; omega, hAb _ _ _ hJ (ButBox.setCell _ _ _ _), fun k hp => by simp; exact keepP_lt hk h8 k hp⟩
  exact ⟨fin _ hd.1, fun e => fin _ (hd.2 (by omega))⟩
theorem SymsAt.lenAt {p : Nat → Prop} {l : List Int} {runes : Bool} {Bs Br : Nat} {J : List Int → World → Prop} {m : Nat} {pre : List Int} {a : Option Addr} {cap : Nat} {wr : World} (h : SymsAt p l runes Bs Br J m pre a cap wr) : lenAt wr Bs = l.length - m := by
  unfold Go.Proofs.Ytnfelphemdchpaa.lenAt
  rw [h.2.1.cell 0]
  rfl
theorem next_len (a : Option Addr) (n cap : Nat) (l : List Int) (w : World) (hr : Row .u8 w.heap.size w (.slice a n cap) l) (hn : n = l.length) (hl : 0 < l.length) (hz : ∀ i : Nat, 0 ≤ l[i]?.getD 0 ∧ l[i]?.getD 0 < 256) :
    Calls Try.prog 71 #[.slice a n cap] w fun e w' => e = .returned (.tuple #[.int .i64 (nextI l).1, .int .i64 (nextI l).2]) ∧ Below w.heap.size w w' := by
  subst hn
  exact next_any a cap l w hr hl hz
theorem symbols_in (n : Nat) (v : Value) (runes : Bool) (w : World) (hv : ∃ a len cap, v = .slice a len cap) :
    CallsIn Fence.wide n Try.prog 50 #[v, .bool runes] w fun e w' => e = .returned (.func (.func 70) #[] #[.pointer (some ⟨w.heap.size, 0, none⟩), .pointer (some ⟨w.heap.size + 1, 0, none⟩)]) ∧ w' = (w.alloc (.cells #[v] 26)).alloc (.cells #[.bool runes] 4) := by
  obtain ⟨a, len, cap, rfl⟩ := hv
  refine callsIn_of_wp Try.func50 rfl trivial ?_ rfl
  simp only [Try.ntmps50, List.size_toArray, List.length_cons, List.length_nil, Nat.reduceAdd, Nat.reduceSub, Array.replicate_succ, Array.replicate_zero, List.push_toArray, List.append_toArray, List.nil_append, List.cons_append]
  gi_wp2
  go_ret
  exact ⟨rfl, rfl⟩
set_option maxRecDepth 100000 in
set_option maxHeartbeats 2000000 in
theorem symbols1_in (n : Nat) (hn : 1 ≤ n) (lp Bs Br : Nat) (p : Nat → Prop) (l : List Int) (runes : Bool) (hz : ∀ i : Nat, 0 ≤ l[i]?.getD 0 ∧ l[i]?.getD 0 < 256) (hBs : p Bs) (hBr : p Br) (hne : Br ≠ Bs) (J Jx : List Int → World → Prop)
    (hJ : AbidesBox Bs J) (hJx : AbidesBox Bs Jx)
    (hY : ∀ pre x W, J pre W → pre.length < l.length → YieldAt Fence.wide (n - 1) Try.prog lp #[.int .i64 x] W fun e W' =>
      (e = .returned (.bool true) ∧ J (pre ++ [x]) W' ∧ KeepP p W W') ∨ (e = .returned (.bool false) ∧ Jx (pre ++ [x]) W'))
    (W : World) (hps : ∀ k, p k → k < W.heap.size) (a : Option Addr) (cap : Nat) (hB : W.heap[Bs]? = some (.cells #[.slice a l.length cap] 26 (0, 0))) (hR : Cel W Br 4 #[.bool runes]) (hr : RowP .u8 (fun k => p k ∧ k ≠ Bs) W (.slice a l.length cap) l) (h0 : J [] W) :
    CallsIn Fence.wide n Try.prog 70 #[.func (.yield lp) #[] #[], .pointer (some ⟨Bs, 0, none⟩), .pointer (some ⟨Br, 0, none⟩)] W fun e W' => (∃ v, e = .returned v) ∧
      ((∃ ys, ys = symsL runes l ∧ J ys W') ∨ (∃ pre, (∃ t, symsL runes l = pre ++ t) ∧ Jx pre W')) := by
  refine callsIn_of_wp Try.func70 rfl trivial ?_ rfl
  simp only [Try.ntmps70, List.size_toArray, List.length_cons, List.length_nil, Nat.reduceAdd, Nat.reduceSub, Array.replicate_succ, Array.replicate_zero, List.push_toArray, List.append_toArray, List.nil_append, List.cons_append]
  gi_wp2
  gi_loopw [4] (fun _ wr => ∃ (m : Nat) (pre : List Int) (a : Option Addr) (cap : Nat), SymsAt p l runes Bs Br J m pre a cap wr) (fun _ wr => lenAt wr Bs)
  case atStart => exact ⟨0, [], a, cap, Nat.zero_le _, hB, hr, hR, Lib.hid rfl, Nat.zero_le _, h0, hps⟩
  case round =>
    obtain ⟨m, pre, a', cap', hS⟩ := hrel
    have ⟨hm, hB', hr', hR', HP, hpl, hJ', hps'⟩ := hS
    have c0 : wr.cell? ⟨Bs, 0, none⟩ = some (.slice a' (l.length - m) cap') := hB'.cell 0
    have f0 := hB'.free 0
    have c1 : wr.cell? ⟨Br, 0, none⟩ = some (.bool runes) := hR'.cell 0
    have hlc := hr'.lencap
    unfold maxLen at hlc
    by_cases hlt : m < l.length
    · have hltI : (0 : Int) < ((l.length - m : Nat) : Int) := by omega
      have hd0 : 0 < (l.drop m).length := by rw [List.length_drop]; omega
      obtain ⟨b, off, rfl, hb, hcs⟩ := hr'.at hd0
      have c2 := hcs 0 hd0
      have hz0 := hz m
      rw [show (l.drop m)[0]?.getD 0 = l[m]?.getD 0 from by rw [List.getElem?_drop]; rfl] at c2
      simp only [Nat.add_zero] at c2
      clear hcs
      cases runes
      · have ho : oneI false (l.drop m) = (l[m]?.getD 0, 1) := by unfold oneI; rw [show (l.drop m)[0]?.getD 0 = l[m]?.getD 0 from by rw [List.getElem?_drop]; rfl]; rfl
        have HO := Lib.hid ho
        clear ho
        generalize l[m]?.getD 0 = y at *
        obtain ⟨fn, tmps, assign, body, hy, hRd⟩ := hY pre y wr hJ' (by omega)
        gi_wp2
        refine hRd.mono ?_
        rintro e W3 (⟨rfl, hJ3, hk3⟩ | ⟨rfl, hJx3⟩)
        · have c3 := (hk3.cell (o := 0) hBs).trans c0
          have f3 := (celP hk3 hBs hB').free 0
          have hN := hS.next hBs hBr hne hJ hk3 1 hlt (by rw [HO.out]; rfl) (by decide) (by rw [HO.out]; exact hJ3)
          rw [HO.out] at hN
          by_cases hc1 : cap' = 1
          · have hN2 := hN.2 hc1
            rw [show cap' - 1 = 0 from by omega] at hN2
            have hm1 := hS.lenAt
            have hm2 := hN2.lenAt
            clear hN
            gi_wp2
            go_roundw
            case rel => exact ⟨_, _, _, _, hN2⟩
            case measure => rw [hm1, hm2]; omega
          · have hN2 := hN.1
            rw [addr_add] at hN2
            have hm1 := hS.lenAt
            have hm2 := hN2.lenAt
            clear hN
            gi_wp2
            go_roundw
            case rel => exact ⟨_, _, _, _, hN2⟩
            case measure => rw [hm1, hm2]; omega
        · have hst := (symsL_step false l pre m hlt HP.out (by rw [HO.out]; simp)).1
          rw [HO.out] at hst
          gi_wp2
          refine bodyPost_ret (results_none rfl _ _ _) rfl ?_
          exact ⟨⟨_, rfl⟩, .inr ⟨_, ⟨_, hst.symm⟩, hJx3⟩⟩
      · have hr2 : Row .u8 wr.heap.size wr (.slice (some ⟨b, off, none⟩) (l.length - m) cap') (l.drop m) := hr'.mono (fun k hk => hps' k hk.1)
        have hz2 : ∀ i : Nat, 0 ≤ (l.drop m)[i]?.getD 0 ∧ (l.drop m)[i]?.getD 0 < 256 := fun i => by rw [List.getElem?_drop]; exact hz _
        have hnx := next_len _ _ _ _ _ hr2 (by rw [List.length_drop]) hd0 hz2
        have ho : oneI true (l.drop m) = nextI (l.drop m) := rfl
        have hlen := oneI_len true (l.drop m) hd0
        rw [ho] at hlen
        have HO := Lib.hid ho
        clear ho hr2 hz2
        generalize hnv : nextI (l.drop m) = R at *
        obtain ⟨y, c⟩ := R
        dsimp only at hlen hnx
        have HNX := Lib.hid hnx
        clear hnx hnv
        by_cases hc0 : c = 0
        · subst hc0
          have hbad := symsL_bad true (l.drop m) hd0 (by rw [HO.out])
          have HBAD : Hid (symsL true l = pre ++ [-1]) := Lib.hid (by rw [← HP.out, hbad])
          clear hbad
          gi_wp2_with fail
          refine ⟨trivial, ?_⟩
          refine (callsIn_wide.2 HNX.out).mono ?_
          rintro e w2 ⟨rfl, hb2⟩
          dsimp only
          obtain ⟨fn, tmps, assign, body, hy, hRd⟩ := hY pre (-1) w2 (hJ _ _ _ hJ' (ButBox.of_below hb2)) (by omega)
          gi_wp2
          refine hRd.mono ?_
          rintro e W3 (⟨rfl, hJ3, hk3⟩ | ⟨rfl, hJx3⟩)
          · gi_wp2
            refine bodyPost_ret (results_none rfl _ _ _) rfl ?_
            exact ⟨⟨_, rfl⟩, .inl ⟨_, HBAD.out.symm, hJ3⟩⟩
          · gi_wp2
            refine bodyPost_ret (results_none rfl _ _ _) rfl ?_
            exact ⟨⟨_, rfl⟩, .inr ⟨_, ⟨[], by rw [HBAD.out, List.append_nil]⟩, hJx3⟩⟩
        · obtain ⟨d, rfl⟩ := Int.eq_ofNat_of_zero_le (show 0 ≤ c by omega)
          have hd1 : 0 < d := by omega
          have hdl : d ≤ l.length - m := by rw [List.length_drop] at hlen; omega
          gi_wp2_with fail
          refine ⟨trivial, ?_⟩
          refine (callsIn_wide.2 HNX.out).mono ?_
          rintro e w2 ⟨rfl, hb2⟩
          dsimp only
          have k2 : KeepP p wr w2 := KeepP.of_below hb2 hps'
          have hS2 := hS.keep hBs hBr k2 (hJ _ _ _ hJ' (ButBox.of_below hb2))
          have hB2 := hS2.2.1
          have d0 : w2.cell? ⟨Bs, 0, none⟩ = some (.slice (some ⟨b, off, none⟩) (l.length - m) cap') := hB2.cell 0
          obtain ⟨fn, tmps, assign, body, hy, hRd⟩ := hY pre y w2 hS2.2.2.2.2.2.2.1 (by omega)
          have hm1 := hS.lenAt
          gi_wp2
          refine hRd.mono ?_
          rintro e W3 (⟨rfl, hJ3, hk3⟩ | ⟨rfl, hJx3⟩)
          · have c3 := (hk3.cell (o := 0) hBs).trans d0
            have f3 := (celP hk3 hBs hB2).free 0
            have hN := hS2.next hBs hBr hne hJ hk3 d hlt (by rw [HO.out]) hd1 (by rw [HO.out]; exact hJ3)
            rw [HO.out] at hN
            by_cases hc1 : cap' = d
            · have hN2 := hN.2 hc1
              rw [show cap' - d = 0 from by omega] at hN2
              have hm2 := hN2.lenAt
              clear hN
              gi_wp2
              go_roundw
              case rel => exact ⟨_, _, _, _, hN2⟩
              case measure => rw [hm1, hm2]; omega
            · have hN2 := hN.1
              rw [addr_add] at hN2
              have hm2 := hN2.lenAt
              clear hN
              gi_wp2
              go_roundw
              case rel => exact ⟨_, _, _, _, hN2⟩
              case measure => rw [hm1, hm2]; omega
          · have hst := (symsL_step true l pre m hlt HP.out (by rw [HO.out]; exact hc0)).1
            rw [HO.out] at hst
            gi_wp2
            refine bodyPost_ret (results_none rfl _ _ _) rfl ?_
            exact ⟨⟨_, rfl⟩, .inr ⟨_, ⟨_, hst.symm⟩, hJx3⟩⟩
    · have HE : Hid (symsL runes l = pre) := Lib.hid (by rw [← HP.out, List.drop_eq_nil_of_le (by omega), symsL_nil, List.append_nil])
      have hlz : l.length - m = 0 := by omega
      gi_wp2
      go_end0
      exact ⟨⟨_, rfl⟩, .inl ⟨_, HE.out.symm, hJ'⟩⟩
theorem symbols_box (n : Nat) (hn : 1 ≤ n) (Bs Br : Nat) (p : Nat → Prop) (l : List Int) (runes : Bool) (hz : ∀ i : Nat, 0 ≤ l[i]?.getD 0 ∧ l[i]?.getD 0 < 256) (hBs : p Bs) (hBr : p Br) (hne : Br ≠ Bs)
    (w : World) (hps : ∀ k, p k → k < w.heap.size) (a : Option Addr) (cap : Nat) (hB : Cel w Bs 26 #[.slice a l.length cap]) (hR : Cel w Br 4 #[.bool runes]) (hr : RowP .u8 (fun k => p k ∧ k ≠ Bs) w (.slice a l.length cap) l) :
    SeqBox Fence.wide n Try.prog 70 #[.pointer (some ⟨Bs, 0, none⟩), .pointer (some ⟨Br, 0, none⟩)] (fun x : Int => #[Value.int .i64 x]) (KeepP p) Bs (fun ys => ys = symsL runes l) (fun pre => ∃ t, symsL runes l = pre ++ t) l.length w := by
  intro lp J Jx W hW hJ hJx hY h0
  have hk : KeepP p w W := KeepP.of_below hW hps
  exact symbols1_in n hn lp Bs Br p l runes hz hBs hBr hne J Jx hJ hJx hY W (keepP_lt hk hps) a cap (celP hk hBs hB) (celP hk hBr hR) (hr.keep ⟨fun k hp => hk.same k hp.1⟩) h0
end Go.Proofs.Ytnfelphemdchpaa
