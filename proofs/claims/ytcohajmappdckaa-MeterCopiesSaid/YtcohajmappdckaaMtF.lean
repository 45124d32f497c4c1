/- Contracts for package meter: Shares of up to nineteen weights. -/
import Derived.Test.YtcohajmappdckaaMtG
import Derived.Laws.EntriesVeiled
namespace Go.Proofs.Ytcohajmappdckaa
open Go.RowKit Go.Shelf
set_option linter.unusedVariables false

set_option maxRecDepth 100000 in
set_option maxHeartbeats 4000000 in
theorem shares_none (T : Int) (a : Option Addr) (cap : Nat) (ws : List Int) (w : World) (hr : Row .i64 w.heap.size w (.slice a ws.length cap) ws) (h0 : 0 ≤ T) (h1 : T ≤ 1099511627776) (hn : ws.length ≤ 500) (hw : ∀ x ∈ ws, 0 ≤ x ∧ x ≤ 1048576) (hS : ws.sum = 0) :
    Calls Try.prog 25 #[.int .i64 T, .slice a ws.length cap] w fun e w' => e = .returned (.tuple #[.slice none 0 0, .int .i64 5]) ∧ Below w.heap.size w w' := by
  have b0 : Below w.heap.size w ((w.alloc (.cells #[.int .i64 T] 3)).alloc (.cells #[.slice a ws.length cap] 22)) := laidB (laidB (Below.refl _ _) _) _
  have hco := containsM_any a cap ws _ (rowB hr b0)
  rw [strange_no hw] at hco
  have HB := Lib.hid (shB_new w T a cap ws hr)
  have HB0 := Lib.hid b0
  have HW := Lib.hid (fun x hx => (hw x hx).1)
  have HS := Lib.hid hS
  have HCO := Lib.hid hco
  have hot := fun W => outside_no T 0 1099511627776 W h0 h1
  have HOT := Lib.hid hot
  clear hco hr hw hS b0 hot
  go_enter Try.func25, Try.ntmps25
  go_wp2_with fail
  refine (HOT.out _).mono ?_
  rintro e w1 ⟨rfl, hw1⟩
  subst hw1
  dsimp only
  go_wp2_with fail
  refine HCO.out.mono ?_
  rintro e w1 ⟨rfl, hw1⟩
  subst hw1
  dsimp only
  go_wp2_with fail
  have HBB := HB.out
  have hbel : Below w.heap.size w (((w.alloc (.cells #[.int .i64 T] 3)).alloc (.cells #[.slice a ws.length cap] 22)).alloc (.cells #[.int .i64 0] 3)) := laidB HB0.out _
  clear HB HB0 HCO
  generalize hW3 : (((w.alloc (.cells #[.int .i64 T] 3)).alloc (.cells #[.slice a ws.length cap] 22)).alloc (.cells #[.int .i64 0] 3)) = W3 at *
  clear hW3
  have HBB := Lib.hid HBB
  have hbel := Lib.hid hbel
  go_loopw [30] (fun i wr => ∃ k : Nat, k ≤ ws.length ∧ i = .int .i64 (k : Int) ∧ Hid (ShB wr w.heap.size (w.heap.size + 1) (w.heap.size + 1 + 1) T (ws.take k).sum a cap ws) ∧ Hid (Below w.heap.size w wr)) (fun i _ => ws.length - (intOf i).toNat)
  case atStart => exact ⟨0, Nat.zero_le _, rfl, HBB, hbel⟩
  case round =>
    obtain ⟨k, hk, rfl, H, hb⟩ := hrel
    have cS := H.out.cS.cell 0
    have fS := H.out.cS.free 0
    have hs := sum_take HW.out k
    have hS2 := HS.out
    by_cases hlt : k < ws.length
    · obtain ⟨b, off, rfl, _, hc⟩ := H.out.row.at (by omega)
      have ck := hc k hlt
      have hi1 : (k : Int) < ws.length := by omega
      have hi0 : (0 : Int) ≤ (k : Int) := by omega
      have hsu := sum_take_succ ws k hlt
      have hs' := sum_take HW.out (k + 1)
      have HB2 := Lib.hid (H.out.setS (by omega) (by omega) ((ws.take (k + 1)).sum))
      have hb2 := Lib.hid (hb.out.setCell (p := ⟨w.heap.size + 1 + 1, 0, none⟩) (by simp; omega) (.int .i64 ((ws.take (k + 1)).sum)))
      have HSU := Lib.hid hsu
      rw [hS2] at hs hs'
      clear hc hsu hS2
      generalize hX : (ws.take (k + 1)).sum = X at *
      generalize hY : (ws.take k).sum = Y at *
      generalize hZ : ws[k]?.getD 0 = Z at *
      have e : Y + Z = X := HSU.out.symm
      have HX := Lib.hid hX
      have HY := Lib.hid hY
      have HZ := Lib.hid hZ
      subst e
      clear HSU hX hY hZ
      have hl3 : ws.length ≤ 500 := hn
      have y1 : Y = 0 := by omega
      have y2 : 0 ≤ Y + Z := by omega
      have y3 : Y + Z ≤ 0 := by omega
      clear y1
      go_wp2_with fail
      go_roundw
      case rel => exact ⟨k + 1, by omega, by go_num, by rw [HX.out]; exact HB2, hb2⟩
      case measure => simp [intOf]; omega
    · have hs3 : (ws.take k).sum = 0 := by rw [sum_all ws k (by omega), hS2]
      rw [hs3] at cS
      clear hs hs3 hS2
      go_wp2_with fail
      go_ret2
      exact ⟨rfl, hb.out⟩
/-- What the second loop of Shares knows. -/
structure Sh2 (w wr : World) (bo bq : Nat) (T S : Int) (a : Option Addr) (cap : Nat) (ws : List Int) (k : Nat) : Prop where
  box : ShB wr w.heap.size (w.heap.size + 1) (w.heap.size + 1 + 1) T S a cap ws
  out : Cel wr bo 3 (celI (fillL (baseM T S ws) k))
  ord : Cel wr bq 3 (celI (fillL (upI ws.length) k))
  bel : Below w.heap.size w wr
  lo : w.heap.size + 1 + 1 < bo
  ne : bo < bq
theorem base_len (T S : Int) (ws : List Int) : (baseM T S ws).length = ws.length := by simp [baseM]
theorem Sh2.next {w wr : World} {bo bq : Nat} {T S : Int} {a : Option Addr} {cap : Nat} {ws : List Int} {k : Nat} (h : Sh2 w wr bo bq T S a cap ws k) (hk : k < ws.length) (x y : Int) (hx : (baseM T S ws)[k]?.getD 0 = x) (hy : (k : Int) = y) :
    Sh2 w ((wr.setCell ⟨bo, k, none⟩ (.int .i64 x)).setCell ⟨bq, k, none⟩ (.int .i64 y)) bo bq T S a cap ws (k + 1) ∧ ((wr.setCell ⟨bo, k, none⟩ (.int .i64 x)).setCell ⟨bq, k, none⟩ (.int .i64 y)).cell? ⟨bo, k, none⟩ = some (.int .i64 x) := by
  subst hx hy
  have o1 : OnlyP (fun b => bo ≤ b) wr (wr.setCell ⟨bo, k, none⟩ (.int .i64 ((baseM T S ws)[k]?.getD 0))) := OnlyP.set _ _ _ _ (Nat.le_refl _)
  have o2 : OnlyP (fun b => bo ≤ b) (wr.setCell ⟨bo, k, none⟩ (.int .i64 ((baseM T S ws)[k]?.getD 0))) ((wr.setCell ⟨bo, k, none⟩ (.int .i64 ((baseM T S ws)[k]?.getD 0))).setCell ⟨bq, k, none⟩ (.int .i64 (k : Int))) := OnlyP.set _ _ _ _ (Nat.le_of_lt h.ne)
  have o := o1.trans o2
  have hl := h.lo
  have hne := h.ne
  have c1 := (cel_put h.out k ((baseM T S ws)[k]?.getD 0)).far (p := ⟨bq, k, none⟩) (by simp; omega) (.int .i64 (k : Int))
  rw [fill_set _ _ (by rw [base_len]; exact hk)] at c1
  have c2 := cel_put (h.ord.far (p := ⟨bo, k, none⟩) (by simp; omega) (.int .i64 ((baseM T S ws)[k]?.getD 0))) k (k : Int)
  have e := fill_set (upI ws.length) k (by rw [upI_len]; exact hk)
  rw [upI_at _ _ hk] at e
  rw [e] at c2
  refine ⟨⟨h.box.only o (by omega) (by omega) (by omega) (fun b hb => by omega), c1, c2, h.bel.trans (o.below ?_ (fun b hb => by omega)), hl, hne⟩, ?_⟩
  · exact h.bel.size
  · rw [cel_at c1 k (by rw [fill_len _ _ (by rw [base_len]; omega), base_len]; exact hk), fill_at _ _ (by rw [base_len]; exact hk)]
/-- What the third loop of Shares knows. -/
structure Sh3 (w wr : World) (bo bq : Nat) (B : List Int) (is : List Nat) (k : Nat) : Prop where
  out : Cel wr bo 3 (celI (bump B (is.take k)))
  ord : ∀ j, j < is.length → wr.cell? ⟨bq, j, none⟩ = some (.int .i64 ((is[j]?.getD 0 : Nat) : Int))
  bel : Below w.heap.size w wr
  lo : w.heap.size ≤ bo
  ne : bo < bq
theorem Sh3.next {w wr : World} {bo bq : Nat} {B : List Int} {is : List Nat} {k : Nat} (h : Sh3 w wr bo bq B is k) (hk : k < is.length) (x : Int) (hx : (bump B (is.take k))[is[k]?.getD 0]?.getD 0 + 1 = x) :
    Sh3 w (wr.setCell ⟨bo, is[k]?.getD 0, none⟩ (.int .i64 x)) bo bq B is (k + 1) := by
  subst hx
  have hl := h.lo
  have hne := h.ne
  have c1 := cel_put h.out (is[k]?.getD 0) ((bump B (is.take k))[is[k]?.getD 0]?.getD 0 + 1)
  have e : bump B (is.take (k + 1)) = (bump B (is.take k)).set (is[k]?.getD 0) ((bump B (is.take k))[is[k]?.getD 0]?.getD 0 + 1) := by
    rw [List.take_succ_eq_append_getElem hk, bump_snoc]
    simp [hk]
  rw [← e] at c1
  refine ⟨c1, fun j hj => ?_, h.bel.setCell hl _, hl, hne⟩
  have o : OnlyP (fun b => b = bo) wr (wr.setCell ⟨bo, is[k]?.getD 0, none⟩ (.int .i64 ((bump B (is.take k))[is[k]?.getD 0]?.getD 0 + 1))) := OnlyP.set _ _ _ _ rfl
  have hq := World.block_lt_of_cell? wr _ (h.ord j hj)
  rw [← h.ord j hj]
  simp only [World.cell?, o.block bq hq (by omega)]
theorem fill_all' {A : List Int} {n : Nat} (h : A.length = n) : fillL A n = A := by subst h; exact fill_all A
theorem upI_get (n j : Nat) (hj : j < n) : (celI (upI n))[j]? = some (.int .i64 (j : Int)) := by
  have : j < (upI n).length := by rw [upI_len]; exact hj
  unfold celI
  have h2 := upI_at n j hj
  rw [List.getElem?_eq_getElem this] at h2
  simp at h2
  simp [this, h2]
theorem sortOrder_any (bR bT bw bS bq : Nat) (T S : Int) (a : Option Addr) (cap : Nat) (ws : List Int) (W : World) (h : ShB W bT bw bS T S a cap ws) (hf : ShF W bR bT bw bS) (ho : ShOk T S ws) (hn0 : 0 < ws.length) (hn : ws.length < 20)
    (q : Cel W bq 3 (celI (upI ws.length))) (h1 : bT < bq) (h2 : bw < bq) (h3 : bS < bq) (h4 : bR ≠ bq) :
    Calls Try.prog 39 #[.slice (some ⟨bq, 0, none⟩) ws.length ws.length, .func (.func 40) #[] #[.pointer (some ⟨bR, 0, none⟩)]] W fun e w' => e = .returned (.tuple #[]) ∧ OnlyP (fun k => k = bq) W w' ∧
      ∀ j, j < ws.length → w'.cell? ⟨bq, j, none⟩ = some (.int .i64 (((((orderM (ws.length - 1) fun i => rM T S (ws[i]?.getD 0)).toList.map Fin.val)[j]?.getD 0 : Nat)) : Int)) := by
  obtain ⟨m, hm⟩ : ∃ m, ws.length = m + 1 := ⟨ws.length - 1, by omega⟩
  rw [show ws.length - 1 = m from by omega]
  have hsz : (Array.ofFn (id : Fin (m + 1) → Fin (m + 1))).size = m + 1 := by simp
  have hget : ∀ j, (hj : j < m + 1) → (Array.ofFn (id : Fin (m + 1) → Fin (m + 1)))[j]! = ⟨j, hj⟩ := by
    intro j hj
    rw [getElem!_pos _ j (by simpa using hj)]
    simp
  have R : Row1 (fun i : Fin (m + 1) => Value.int .i64 (i.val : Int)) W bq 0 (Array.ofFn id) := by
    refine ⟨fun _ => rfl, fun j hj => ?_, q.lt⟩
    rw [Nat.zero_add, hget j (by simpa using hj)]
    refine ⟨?_, q.free j⟩
    rw [q.cell j, upI_get _ _ (by rw [hm]; simpa using hj)]
  have hcmp : CmpLays1 Try.prog 40 #[.pointer (some ⟨bR, 0, none⟩)] (fun i : Fin (m + 1) => Value.int .i64 (i.val : Int)) (fun x y : Fin (m + 1) => Lib.compareInt (rM T S (ws[y.val]?.getD 0)) (rM T S (ws[x.val]?.getD 0))) bq 0 (Array.ofFn (id : Fin (m + 1) → Fin (m + 1))).size W :=
    CmpReads.lays fun mm os dk hs x y => by
      have oo : OnlyP (fun k => k = bq) W _ := OnlyP.sorted (enc := fun i : Fin (m + 1) => Value.int .i64 (i.val : Int)) (d := dk) ⟨mm, os, rfl⟩
      exact cmpM_any bR bT bw bS T S a cap ws x.val y.val _ (h.only oo (by omega) (by omega) (by omega) (fun k e => by omega)) (Cel.only hf oo h4) ho (by have := x.isLt; omega) (by have := y.isLt; omega)
  have hs := sortStable_small (fun i : Fin (m + 1) => Value.int .i64 (i.val : Int)) (fun x y : Fin (m + 1) => Lib.compareInt (rM T S (ws[y.val]?.getD 0)) (rM T S (ws[x.val]?.getD 0))) 40 #[.pointer (some ⟨bR, 0, none⟩)] bq ws.length (Array.ofFn id) W ws.length (by rw [hsz, hm]) (enters_of Try.func40 (by kernel_rfl) rfl) hcmp R hn
  refine hs.mono ?_
  rintro e w' ⟨rfl, hS⟩
  refine ⟨rfl, OnlyP.sorted hS, fun j hj => ?_⟩
  rw [hsz] at hS
  have hos := order_size m (fun i => rM T S (ws[i]?.getD 0))
  have hh := hS.holds R.hblk R.hH (by rw [hsz]; exact hos) j (by rw [show (Sort.insertionSort _ _ 0 (m + 1)).size = m + 1 from hos]; omega)
  have h5 := hh.1
  rw [Nat.zero_add] at h5
  rw [h5]
  show some (Value.int .i64 (((orderM m fun i => rM T S (ws[i]?.getD 0))[j]!.val : Nat) : Int)) = _
  rw [getElem!_pos _ j (by rw [hos]; omega)]
  simp [hos, show j < m + 1 from by omega]
set_option maxRecDepth 100000 in
set_option maxHeartbeats 8000000 in
theorem shares_ok (T : Int) (a : Option Addr) (cap : Nat) (ws : List Int) (w : World) (hr : Row .i64 w.heap.size w (.slice a ws.length cap) ws) (ho : ShOk T ws.sum ws) (hn : ws.length < 20) :
    Calls Try.prog 25 #[.int .i64 T, .slice a ws.length cap] w fun e w' => ∃ a2, e = .returned (.tuple #[.slice a2 ws.length ws.length, .int .i64 0]) ∧ Row .i64 w'.heap.size w' (.slice a2 ws.length ws.length) (sharesM T ws) ∧ Below w.heap.size w w' := by
  obtain ⟨i0, hi, hz0, hz1, hz2⟩ := info_parts info_im
  have b0 : Below w.heap.size w ((w.alloc (.cells #[.int .i64 T] 3)).alloc (.cells #[.slice a ws.length cap] 22)) := laidB (laidB (Below.refl _ _) _) _
  have hco := containsM_any a cap ws _ (rowB hr b0)
  rw [strange_no ho.w] at hco
  have HB := Lib.hid (shB_new w T a cap ws hr)
  have HB0 := Lib.hid b0
  have HO := Lib.hid ho
  have HW := Lib.hid (fun x hx => (ho.w x hx).1)
  have HCO := Lib.hid hco
  have hot := fun W => outside_no T 0 1099511627776 W ho.T0 ho.T1
  have HOT := Lib.hid hot
  have T0 := ho.T0
  have T1 := ho.T1
  have S0 := ho.S0
  have S1 := ho.S1
  have hn0 : 0 < ws.length := by
    rcases ws with _ | ⟨x, l⟩
    · simp at S0
    · simp
  clear hco hr b0 hot ho
  obtain ⟨S, hS⟩ : ∃ S, ws.sum = S := ⟨_, rfl⟩
  have HS := Lib.hid hS
  rw [hS] at HO S0 S1
  clear hS
  go_enter Try.func25, Try.ntmps25
  go_wp2_with fail
  refine (HOT.out _).mono ?_
  rintro e w1 ⟨rfl, hw1⟩
  subst hw1
  dsimp only
  go_wp2_with fail
  refine HCO.out.mono ?_
  rintro e w1 ⟨rfl, hw1⟩
  subst hw1
  dsimp only
  go_wp2_with fail
  have HBB := HB.out
  have hbel : Below w.heap.size w (((w.alloc (.cells #[.int .i64 T] 3)).alloc (.cells #[.slice a ws.length cap] 22)).alloc (.cells #[.int .i64 0] 3)) := laidB HB0.out _
  clear HB HB0 HCO
  generalize hW3 : (((w.alloc (.cells #[.int .i64 T] 3)).alloc (.cells #[.slice a ws.length cap] 22)).alloc (.cells #[.int .i64 0] 3)) = W3 at *
  clear hW3
  have HBB := Lib.hid HBB
  have hbel := Lib.hid hbel
  go_loopw [30] (fun i wr => ∃ k : Nat, k ≤ ws.length ∧ i = .int .i64 (k : Int) ∧ Hid (ShB wr w.heap.size (w.heap.size + 1) (w.heap.size + 1 + 1) T (ws.take k).sum a cap ws) ∧ Hid (Below w.heap.size w wr)) (fun i _ => ws.length - (intOf i).toNat)
  case atStart => exact ⟨0, Nat.zero_le _, rfl, HBB, hbel⟩
  case round =>
    clear HBB hbel
    obtain ⟨k, hk, rfl, H, hb⟩ := hrel
    have cS := H.out.cS.cell 0
    have fS := H.out.cS.free 0
    have hs := sum_take HW.out k
    rw [HS.out] at hs
    by_cases hlt : k < ws.length
    · obtain ⟨b, off, rfl, _, hc⟩ := H.out.row.at (by omega)
      have ck := hc k hlt
      have hi1 : (k : Int) < ws.length := by omega
      have hi0 : (0 : Int) ≤ (k : Int) := by omega
      have hsu := sum_take_succ ws k hlt
      have hs' := sum_take HW.out (k + 1)
      rw [HS.out] at hs'
      have HB2 := Lib.hid (H.out.setS (by omega) (by omega) ((ws.take (k + 1)).sum))
      have hb2 := Lib.hid (hb.out.setCell (p := ⟨w.heap.size + 1 + 1, 0, none⟩) (by simp; omega) (.int .i64 ((ws.take (k + 1)).sum)))
      have HSU := Lib.hid hsu
      clear hc hsu
      generalize hX : (ws.take (k + 1)).sum = X at *
      generalize hY : (ws.take k).sum = Y at *
      generalize hZ : ws[k]?.getD 0 = Z at *
      have e : Y + Z = X := HSU.out.symm
      have HX := Lib.hid hX
      have HY := Lib.hid hY
      have HZ := Lib.hid hZ
      subst e
      clear HSU hX hY hZ
      go_wp2_with fail
      go_roundw
      case rel => exact ⟨k + 1, by omega, by go_num, by rw [HX.out]; exact HB2, hb2⟩
      case measure => simp [intOf]; omega
    · have HB3 := H.out
      rw [sum_all ws k (by omega), HS.out] at HB3 cS
      obtain ⟨wx, hwx⟩ : ∃ X, X = wr := ⟨_, rfl⟩
      have cw := HB3.cw.cell 0
      have cT := HB3.cT.cell 0
      have HB3h := HB3
      clear hs H
      subst hwx
      have hS0 : ((S : Int) == 0) = false := beq_eq_false_iff_ne.2 (by omega)
      have hnl : (ws.length : Int) ≤ 500 := by omega
      have HB3 := Lib.hid HB3h
      clear HB3h hk
      go_wp2_with (first
        | (at_make; refine wpList_make_full _ rfl _ _ 22 rfl wx.heap.size 3 i0 (.int .i64 0) 1 Try.underlying22 hi hz0 hz1 .i64 .i64 _ _ ws.length rfl rfl rfl rfl (by rw [hz2]; omega) (by unfold maxLen; omega) (Nat.le_refl _) ?_; intro w2 hown2 hgrow2; rw [made_zeros] at hown2; have hs2 := hgrow2.size; have B2 : Below wx.heap.size wx w2 := (Below.refl _ wx).grown hgrow2 (Nat.le_refl _) (fun k e => by cases e); have cw2 := cellB (v := .slice a ws.length cap) cw B2; have cT2 := cellB (v := .int .i64 T) cT B2)
        | (at_make; refine wpList_make_full _ rfl _ _ 22 rfl wx.heap.size 3 i0 (.int .i64 0) 1 Try.underlying22 hi hz0 hz1 .i64 .i64 _ _ ws.length rfl rfl rfl rfl (by rw [hz2]; omega) (by unfold maxLen; omega) hs2 ?_; intro w3 hown3 hgrow3; rw [made_zeros] at hown3; have B3 : Below w2.heap.size w2 w3 := (Below.refl _ w2).grown hgrow3 (Nat.le_refl _) (fun k e => by cases e); have cw3 := cellB (v := .slice a ws.length cap) cw2 B3; have cT3 := cellB (v := .int .i64 T) cT2 B3))
      have h2 : Sh2 w w3 wx.heap.size w2.heap.size T S a cap ws 0 := by
        have k1 := cel_of_owns hown2
        have k2 := cel_of_owns hown3
        refine ⟨(HB3.out.step B2).step B3, ?_, ?_, stepB (stepB hb.out B2) B3, ?_, k1.lt⟩
        · rw [fill_zero, base_len]; exact k1.step B3
        · rw [fill_zero, upI_len]; exact k2
        · have := HB3.out.cS.lt; omega
      clear HBB hbel hb cS fS cw cT HB3 hown2 hgrow2 hs2 B2 cw2 cT2 hown3 hgrow3 B3 cw3 cT3 hS0
      generalize wx.heap.size = bo at *
      generalize w2.heap.size = bq at *
      have H2 := Lib.hid h2
      clear h2
      go_loopw [12, 49] (fun lf i wr => ∃ k : Nat, k ≤ ws.length ∧ i = .int .i64 (k : Int) ∧ lf = .int .i64 (T - ((baseM T S ws).take k).sum) ∧ Hid (Sh2 w wr bo bq T S a cap ws k)) (fun _ i _ => ws.length - (intOf i).toNat)
      case atStart => exact ⟨0, Nat.zero_le _, rfl, by simp, H2⟩
      case round =>
        clear H2
        obtain ⟨k, hk, rfl, rfl, H⟩ := hrel
        have hbm := baseM_mem T S ws T0 S0 HW.out
        have hs := sum_take hbm k
        have hbl := base_le T ws (by rw [HS.out]; exact S0)
        rw [HS.out] at hbl
        by_cases hlt : k < ws.length
        · have cT := H.out.box.cT.cell 0
          have cS := H.out.box.cS.cell 0
          obtain ⟨b, off, ha, _, hc⟩ := H.out.box.row.at (by omega)
          have ck := hc k hlt
          have hx := HO.out.at k
          have hq := baseM_at T S ws k hlt
          have hs' := sum_take hbm (k + 1)
          have hsu := sum_take_succ (baseM T S ws) k (by rw [base_len]; exact hlt)
          have hlo := H.out.lo
          have hne := H.out.ne
          have hne2 : bo ≠ bq := by omega
          have co : wr.cell? ⟨bo, k, none⟩ = some _ := cel_at H.out.out k (by rw [fill_len _ _ (by rw [base_len]; omega), base_len]; exact hlt)
          have fo := H.out.out.free k
          have hz := H.out.ord.far (p := ⟨bo, k, none⟩) (by simp; omega) (.int .i64 (T * (ws[k]?.getD 0) / S))
          have cq : (wr.setCell ⟨bo, k, none⟩ (.int .i64 (T * (ws[k]?.getD 0) / S))).cell? ⟨bq, k, none⟩ = some _ := cel_at hz k (by rw [fill_len _ _ (by rw [upI_len]; omega), upI_len]; exact hlt)
          have fq := hz.free k
          obtain ⟨hnx, cz⟩ := H.out.next hlt (T * (ws[k]?.getD 0) / S) (k : Int) hq rfl
          have hi1 : (k : Int) < ws.length := by omega
          have hi0 : (0 : Int) ≤ (k : Int) := by omega
          rw [hq] at hsu
          have HNX := Lib.hid hnx
          have HSU := Lib.hid hsu
          have HA := Lib.hid ha
          clear hnx hz hc hq hbm H hne
          subst ha
          generalize (fillL (baseM T S ws) k)[k]?.getD 0 = g1 at *
          generalize (fillL (upI ws.length) k)[k]?.getD 0 = g2 at *
          generalize hY2 : ((baseM T S ws).take (k + 1)).sum = Y2 at *
          generalize ((baseM T S ws).take k).sum = Y at *
          generalize (baseM T S ws).sum = Y3 at *
          generalize ws[k]?.getD 0 = Z at *
          obtain ⟨m0, m1⟩ := mul_rng T0 T1 hx.1 hx.2
          have q0 : 0 ≤ T * Z / S := Int.ediv_nonneg m0 (by omega)
          have q1 : Y + T * Z / S ≤ T := by omega
          have y0 : 0 ≤ Y := by omega
          have y1 : Y ≤ T := by omega
          have HY2 := Lib.hid hY2
          clear hsu hs hs' hbl hY2
          go_wp2_with fail
          go_roundw
          case rel => exact ⟨k + 1, by omega, by go_num, by rw [HY2.out, HSU.out]; go_num, HNX⟩
          case measure => simp [intOf]; omega
        · obtain rfl : k = ws.length := by omega
          have hlr := left_rng T ws (by rw [HS.out]; exact S0)
          rw [HS.out] at hlr
          have hlo := H.out.lo
          have hne := H.out.ne
          have hqn := H.out.ord
          have hon := H.out.out
          rw [fill_all' (upI_len _)] at hqn
          rw [fill_all' (base_len T S ws)] at hon
          rw [sum_all _ _ (by rw [base_len]; omega)]
          have hsh : sharesM T ws = bump (baseM T S ws) (((orderM (ws.length - 1) fun i => rM T S (ws[i]?.getD 0)).toList.map Fin.val).take (T - (baseM T S ws).sum).toNat) := by
            unfold sharesM
            rw [HS.out]
          have hil : ((orderM (ws.length - 1) fun i => rM T S (ws[i]?.getD 0)).toList.map Fin.val).length = ws.length := by
            rw [List.length_map, Array.length_toList, order_size]
            omega
          have hib : ∀ j : Nat, j < ws.length → ((orderM (ws.length - 1) fun i => rM T S (ws[i]?.getD 0)).toList.map Fin.val)[j]?.getD 0 < ws.length := by
            intro j hj
            rw [List.getElem?_eq_getElem (by rw [hil]; exact hj)]
            have := (((orderM (ws.length - 1) fun i => rM T S (ws[i]?.getD 0)).toList[j]'(by rw [Array.length_toList, order_size]; omega))).isLt
            simp
            simp at this
            omega
          have hso := sortOrder_any wr.heap.size w.heap.size (w.heap.size + 1) (w.heap.size + 1 + 1) bq T S a cap ws (wr.alloc (.cells #[.func (.func 38) #[] #[.pointer (some ⟨w.heap.size, 0, none⟩), .pointer (some ⟨w.heap.size + 1, 0, none⟩), .pointer (some ⟨w.heap.size + 1 + 1, 0, none⟩)]] 64)) (H.out.box.step (laidB (Below.refl _ _) _)) (Cel.new _ _ _) HO.out hn0 hn (hqn.alloc _) (by omega) (by omega) (by omega) (by have := hqn.lt; omega)
          have hbb : ∀ i : Nat, 0 ≤ (baseM T S ws)[i]?.getD 0 ∧ (baseM T S ws)[i]?.getD 0 ≤ T := by
            intro i
            by_cases hil2 : i < (baseM T S ws).length
            · have g1 := sum_take hbm i
              have g2 := sum_take hbm (i + 1)
              have g3 := sum_take_succ (baseM T S ws) i hil2
              have g4 : 0 ≤ (baseM T S ws)[i]?.getD 0 := by
                rw [List.getElem?_eq_getElem hil2]
                exact hbm _ (List.getElem_mem _)
              omega
            · rw [List.getElem?_eq_none (by omega)]
              simp
              exact T0
          have hbn := laidB H.out.bel (.cells #[.func (.func 38) #[] #[.pointer (some ⟨w.heap.size, 0, none⟩), .pointer (some ⟨w.heap.size + 1, 0, none⟩), .pointer (some ⟨w.heap.size + 1 + 1, 0, none⟩)]] 64)
          have hon2 := hon.alloc (.cells #[.func (.func 38) #[] #[.pointer (some ⟨w.heap.size, 0, none⟩), .pointer (some ⟨w.heap.size + 1, 0, none⟩), .pointer (some ⟨w.heap.size + 1 + 1, 0, none⟩)]] 64)
          have hwr : w.heap.size ≤ (wr.alloc (.cells #[.func (.func 38) #[] #[.pointer (some ⟨w.heap.size, 0, none⟩), .pointer (some ⟨w.heap.size + 1, 0, none⟩), .pointer (some ⟨w.heap.size + 1 + 1, 0, none⟩)]] 64)).heap.size := hbn.size
          have hbs := base_len T S ws
          generalize baseM T S ws = B at *
          generalize ((orderM (ws.length - 1) fun i => rM T S (ws[i]?.getD 0)).toList.map Fin.val) = is at *
          obtain ⟨lf, hlf⟩ := Int.eq_ofNat_of_zero_le hlr.1
          rw [hlf] at hsh hlr ⊢
          rw [Int.toNat_natCast] at hsh
          have hlf2 : lf < ws.length := by omega
          have HSH := Lib.hid hsh
          have HSO := Lib.hid hso
          have HIB := Lib.hid hib
          have HIL := Lib.hid hil
          have HBB2 := Lib.hid hbb
          have HBS := Lib.hid hbs
          have HBN := Lib.hid hbn
          have HON := Lib.hid hon2
          have HWR := Lib.hid hwr
          clear hsh hso hib hil hbb hlf hlr hbl hs hbm hqn hon H hlt hk hbs hbn hon2 hwr
          have hlfz : (lf : Int) ≤ (ws.length : Int) := by omega
          have hlf0 : (0 : Int) ≤ (lf : Int) := by omega
          have hl20 : (ws.length : Int) ≤ 20 := by omega
          go_wp2_with fail
          refine HSO.out.mono ?_
          rintro e w5 ⟨rfl, hO5, hc5⟩
          have h3 : Sh3 w w5 bo bq B is 0 := ⟨by
              have := HON.out.only hO5 (by omega)
              simpa [bump] using this, fun j hj => hc5 j (by rw [← HIL.out]; exact hj), HBN.out.trans (hO5.below HWR.out (fun k e => by omega)), by omega, hne⟩
          have H3 := Lib.hid h3
          clear h3 hO5 hc5 HSO HON HBN HWR
          dsimp only
          go_wp2_with fail
          go_loopw [81] (fun i wr => ∃ k : Nat, k ≤ lf ∧ i = .int .i64 (k : Int) ∧ Hid (Sh3 w wr bo bq B is k)) (fun i _ => lf - (intOf i).toNat)
          case atStart => exact ⟨0, Nat.zero_le _, rfl, H3⟩
          case round =>
            clear H3
            obtain ⟨k, hk, rfl, H⟩ := hrel
            by_cases hlt : k < lf
            · have hkl : k < is.length := by rw [HIL.out]; omega
              have hp := HIB.out k (by omega)
              have cq := H.out.ord k hkl
              have hlen : (bump B (is.take k)).length = ws.length := by rw [bump_len, HBS.out]
              have co := cel_at H.out.out (is[k]?.getD 0) (by rw [hlen]; exact hp)
              have fo := H.out.out.free (is[k]?.getD 0)
              have hv := bump_at (is.take k) B T HBB2.out (is[k]?.getD 0)
              have hv2 : (is.take k).length ≤ k := by simp; omega
              have hnx := H.out.next hkl _ rfl
              have HNX := Lib.hid hnx
              clear hnx H hlen
              generalize (bump B (is.take k))[is[k]?.getD 0]?.getD 0 = V at *
              generalize (is.take k).length = KK at *
              generalize is[k]?.getD 0 = pp at *
              have hi1 : (k : Int) < (lf : Int) := by omega
              have hi0 : (0 : Int) ≤ (k : Int) := by omega
              have hp1 : (pp : Int) < (ws.length : Int) := by omega
              have hp0 : (0 : Int) ≤ (pp : Int) := by omega
              go_wp2_with fail
              go_roundw
              case rel => exact ⟨k + 1, by omega, by go_num, HNX⟩
              case measure => simp [intOf]; omega
            · obtain rfl : k = lf := by omega
              have hc := H.out.out
              have hb := H.out.bel
              rw [← HSH.out] at hc
              have hrow := row_of_cel hc (by rw [sharesM_len]; unfold maxLen; omega)
              rw [sharesM_len] at hrow
              have HR := Lib.hid hrow
              have HB := Lib.hid hb
              clear hc hb hrow H
              go_wp2_with fail
              go_ret2
              exact ⟨_, rfl, HR.out, HB.out⟩
end Go.Proofs.Ytcohajmappdckaa
