/- Contracts for package meter: the closures of Shares; the library's stable sort at up to nineteen numbers. -/
import Derived.Test.YtcohajmappdckaaMtD
import Derived.Test.YtcohajmappdckaaMtS
import Derived.Shelf.SlSortCmp.Insertion1
namespace Go.Proofs.Ytcohajmappdckaa
open Go.RowKit Go.Shelf
set_option linter.unusedVariables false

theorem ret_bool {a b : Bool} (h : a = b) : Ending.returned (.bool a) = .returned (.bool b) := by rw [h]
def strangeM (s : Int) : Bool := outB s 0 1048576
theorem strangeM_any (s : Int) (w : World) : Calls Try.prog 36 #[.int .i64 s] w fun e w' => e = .returned (.bool (strangeM s)) ∧ w' = w := by
  have h := outside_any s 0 1048576 w
  unfold strangeM
  generalize outB s 0 1048576 = B at *
  have H := Lib.hid h
  clear h
  go_enter Try.func36, Try.ntmps36
  go_wp2_with fail
  refine H.out.mono ?_
  rintro e w1 ⟨rfl, hw1⟩
  subst hw1
  dsimp only
  go_wp2_with fail
  go_ret
  exact ⟨rfl, rfl⟩
theorem anyM_false {l : List Int} (k : Nat) (p : Int → Bool) (h : (l.take k).any p = false) (hk : k < l.length) : (l.take (k + 1)).any p = p (l[k]?.getD 0) := by
  rw [List.take_succ_eq_append_getElem hk, List.any_append, h]
  simp [hk]
theorem rowM_cell {W : World} {a : Option Addr} {cap : Nat} {l : List Int} (hr : Row .i64 W.heap.size W (.slice a l.length cap) l) (k : Nat) (hk : k < l.length) : ∃ b off, a = some ⟨b, off, none⟩ ∧ W.cell? ⟨b, off + k, none⟩ = some (.int .i64 (l[k]?.getD 0)) := by
  obtain ⟨b, off, rfl, hp, hc⟩ := hr.at (by omega)
  exact ⟨b, off, rfl, hc k hk⟩
set_option maxHeartbeats 1000000 in
theorem indexM_any (a : Option Addr) (cap : Nat) (l : List Int) (w : World) (hr : Row .i64 w.heap.size w (.slice a l.length cap) l) :
    Calls Try.prog 42 #[.slice a l.length cap, .func (.func 36) #[] #[]] w fun e w' => ∃ r : Int, e = .returned (.int .i64 r) ∧ (decide (0 ≤ r)) = l.any strangeM ∧ w' = w := by
  have hlc := hr.lencap
  unfold maxLen at hlc
  go_enter Try.func42, Try.ntmps42
  go_wp2_with fail
  go_loopw [8] (fun i wr => ∃ k : Nat, k ≤ l.length ∧ i = .int .i64 (k : Int) ∧ Hid ((l.take k).any strangeM = false) ∧ wr = w) (fun i _ => l.length - (intOf i).toNat)
  case atStart => exact ⟨0, Nat.zero_le _, rfl, Lib.hid rfl, rfl⟩
  case round =>
    obtain ⟨k, hk, rfl, H, rfl⟩ := hrel
    by_cases hlt : k < l.length
    · obtain ⟨b, off, rfl, c0⟩ := rowM_cell hr k hlt
      have hn := anyM_false k strangeM H.out hlt
      have hi1 : (k : Int) < l.length := by omega
      have hi0 : (0 : Int) ≤ (k : Int) := by omega
      have HN := Lib.hid hn
      clear hn
      generalize l[k]?.getD 0 = x at *
      go_wp2_with fail
      refine (strangeM_any x _).mono ?_
      rintro e W ⟨rfl, rfl⟩
      dsimp only
      cases hs : strangeM x
      · have HS := Lib.hid hs
        clear hs
        go_wp2_with fail
        go_roundw
        case rel => exact ⟨k + 1, by omega, by go_num, Lib.hid (by rw [HN.out, HS.out]), by first | rfl | trivial⟩
        case measure => simp [intOf]; omega
      · have HS := Lib.hid hs
        clear hs
        go_wp2_with fail
        go_ret
        refine ⟨_, rfl, ?_, rfl⟩
        have h1 : l.any strangeM = true := by
          have h2 := HN.out
          rw [HS.out] at h2
          rw [List.any_eq_true] at h2 ⊢
          obtain ⟨y, hy, hy2⟩ := h2
          exact ⟨y, List.mem_of_mem_take hy, hy2⟩
        rw [h1]
        simp
    · have ht : l.take k = l := List.take_of_length_le (by omega)
      have HT := Lib.hid ht
      clear ht
      go_wp2_with fail
      go_ret
      refine ⟨_, rfl, ?_, rfl⟩
      have h1 := H.out
      rw [HT.out] at h1
      rw [h1]
      rfl
theorem containsM_any (a : Option Addr) (cap : Nat) (l : List Int) (w : World) (hr : Row .i64 w.heap.size w (.slice a l.length cap) l) :
    Calls Try.prog 37 #[.slice a l.length cap, .func (.func 36) #[] #[]] w fun e w' => e = .returned (.bool (l.any strangeM)) ∧ w' = w := by
  go_enter Try.func37, Try.ntmps37
  go_wp2_with fail
  refine (indexM_any a cap l w hr).mono ?_
  rintro e w1 ⟨r, rfl, hr1, rfl⟩
  have H := Lib.hid hr1
  clear hr1
  dsimp only
  go_wp2_with fail
  all_goals
    go_ret
    exact ⟨ret_bool (by rw [← H.out]; try (first | rfl | (simp; omega) | simp_all)), rfl⟩
theorem isNaN_any (x : Int) (w : World) : Calls Try.prog 44 #[.int .i64 x] w fun e w' => e = .returned (.bool false) ∧ w' = w := by
  go_enter Try.func44, Try.ntmps44
  go_wp2
  go_ret
  exact ⟨by simp, rfl⟩
theorem cmpInt_any (x y : Int) (w : World) : Calls Try.prog 41 #[.int .i64 x, .int .i64 y] w fun e w' => e = .returned (.int .i64 (Lib.compareInt x y)) ∧ w' = w := by
  go_enter Try.func41, Try.ntmps41
  go_wp2_with (go_at_call 44; refine (isNaN_any _ _).mono ?_; rintro e w' ⟨rfl, rfl⟩)
  all_goals (go_ret; refine ⟨?_, rfl⟩; unfold Lib.compareInt; (repeat' split) <;> first | rfl | (exfalso; omega))
/-- The three captured variables, and the weights. -/
structure ShB (W : World) (bT bw bS : Nat) (T S : Int) (a : Option Addr) (cap : Nat) (ws : List Int) : Prop where
  cT : Cel W bT 3 #[.int .i64 T]
  cw : Cel W bw 22 #[.slice a ws.length cap]
  cS : Cel W bS 3 #[.int .i64 S]
  row : RowP .i64 (fun b => b < bT) W (.slice a ws.length cap) ws
theorem ShB.only {q : Nat → Prop} {A B : World} {bT bw bS : Nat} {T S : Int} {a : Option Addr} {cap : Nat} {ws : List Int} (h : ShB A bT bw bS T S a cap ws) (ho : OnlyP q A B) (h1 : ¬ q bT) (h2 : ¬ q bw) (h3 : ¬ q bS) (h4 : ∀ k, q k → bT ≤ k) : ShB B bT bw bS T S a cap ws :=
  ⟨h.cT.only ho h1, h.cw.only ho h2, h.cS.only ho h3, RowP.below (ho.below (Nat.le_of_lt h.cT.lt) h4) h.row⟩
theorem ShB.step {A B : World} {bT bw bS : Nat} {T S : Int} {a : Option Addr} {cap : Nat} {ws : List Int} (h : ShB A bT bw bS T S a cap ws) (hb : Below A.heap.size A B) : ShB B bT bw bS T S a cap ws :=
  ⟨h.cT.step hb, h.cw.step hb, h.cS.step hb, RowP.below (hb.mono (Nat.le_of_lt h.cT.lt)) h.row⟩
/-- Are weights and total such as can be divided? -/
structure ShOk (T S : Int) (ws : List Int) : Prop where
  T0 : 0 ≤ T
  T1 : T ≤ 1099511627776
  S0 : 0 < S
  S1 : S ≤ 524288000
  n : ws.length ≤ 500
  w : ∀ x ∈ ws, 0 ≤ x ∧ x ≤ 1048576
theorem ShOk.at {T S : Int} {ws : List Int} (h : ShOk T S ws) (i : Nat) : 0 ≤ ws[i]?.getD 0 ∧ ws[i]?.getD 0 ≤ 1048576 := by
  cases e : ws[i]? with
  | none => simp
  | some x => exact h.w x (List.mem_of_getElem? e)
theorem mul_rng {T x : Int} (h0 : 0 ≤ T) (h1 : T ≤ 1099511627776) (h2 : 0 ≤ x) (h3 : x ≤ 1048576) : 0 ≤ T * x ∧ T * x ≤ 1152921504606846976 := by
  refine ⟨Int.mul_nonneg h0 h2, ?_⟩
  have := Int.mul_le_mul h1 h3 h2 (by decide)
  omega
set_option maxHeartbeats 1000000 in
theorem rem_any (bT bw bS : Nat) (T S : Int) (a : Option Addr) (cap : Nat) (ws : List Int) (i : Nat) (w : World) (h : ShB w bT bw bS T S a cap ws) (ho : ShOk T S ws) (hi : i < ws.length) :
    Calls Try.prog 38 #[.int .i64 (i : Int), .pointer (some ⟨bT, 0, none⟩), .pointer (some ⟨bw, 0, none⟩), .pointer (some ⟨bS, 0, none⟩)] w fun e w' => e = .returned (.int .i64 (rM T S (ws[i]?.getD 0))) ∧ ∃ k, w' = w.drewN k := by
  have cT := h.cT.cell 0
  have cw := h.cw.cell 0
  have cS := h.cS.cell 0
  obtain ⟨b, off, ha, _, hc⟩ := h.row.at (by omega)
  subst ha
  have ci := hc i hi
  have hx := ho.at i
  obtain ⟨m0, m1⟩ := mul_rng ho.T0 ho.T1 hx.1 hx.2
  have s0 := ho.S0
  have s1 := ho.S1
  have hn := ho.n
  have hii : (i : Int) < (ws.length : Int) := by omega
  have hi0 : (0 : Int) ≤ (i : Int) := by omega
  clear hc h ho
  unfold rM
  generalize ws[i]?.getD 0 = x at *
  generalize ws.length = L at *
  go_enter Try.func38, Try.ntmps38
  go_wp2
  go_quiet (fail)
  go_wp2
  go_ret
  exact ⟨by first | rfl | (simp; done), _, rfl⟩
/-- .. and the variable that holds the first closure. -/
def ShF (W : World) (bR bT bw bS : Nat) : Prop := Cel W bR 64 #[.func (.func 38) #[] #[.pointer (some ⟨bT, 0, none⟩), .pointer (some ⟨bw, 0, none⟩), .pointer (some ⟨bS, 0, none⟩)]]
set_option maxHeartbeats 1000000 in
theorem cmpM_any (bR bT bw bS : Nat) (T S : Int) (a : Option Addr) (cap : Nat) (ws : List Int) (x y : Nat) (w : World) (h : ShB w bT bw bS T S a cap ws) (hf : ShF w bR bT bw bS) (ho : ShOk T S ws) (hx : x < ws.length) (hy : y < ws.length) :
    Calls Try.prog 40 #[.int .i64 (x : Int), .int .i64 (y : Int), .pointer (some ⟨bR, 0, none⟩)] w fun e w' => e = .returned (.int .i64 (Lib.compareInt (rM T S (ws[y]?.getD 0)) (rM T S (ws[x]?.getD 0)))) ∧ ∃ k, w' = w.drewN k := by
  have cF : w.cell? ⟨bR, 0, none⟩ = some (.func (.func 38) #[] #[.pointer (some ⟨bT, 0, none⟩), .pointer (some ⟨bw, 0, none⟩), .pointer (some ⟨bS, 0, none⟩)]) := Cel.cell hf 0
  have hR : ∀ k i, i < ws.length → _ := fun k i hi => rem_any bT bw bS T S a cap ws i (w.drewN k) (h.step (below_drewN (Below.refl _ _) k)) ho hi
  clear hf h ho
  obtain ⟨f, hf⟩ : ∃ f : Nat → Int, ∀ i, rM T S (ws[i]?.getD 0) = f i := ⟨_, fun _ => rfl⟩
  simp only [hf] at hR ⊢
  clear hf
  generalize ws.length = L at *
  have HR := Lib.hid hR
  clear hR
  go_enter Try.func40, Try.ntmps40
  go_wp2
  go_quiet (first | (go_at_call 41; exact Calls.quiet_of_same (cmpInt_any _ _ _)) | (go_at_call 38; exact Calls.quiet_of (HR.out _ _ (by assumption))))
  go_wp2
  go_ret
  exact ⟨by first | rfl | (simp; done), _, rfl⟩
def ins_ren : Go.Shelf.Ren := ⟨fun | 20 => 45 | n => n, fun | 0 => 0 | 3 => 3 | 4 => 4 | 22 => 22 | 24 => 3 | 25 => 27 | n => n, fun n => n⟩
theorem ins_lays : SlLaysF.n20 Try.prog ins_ren := {
  mixed := by kernel_rfl
  f20 := ⟨Try.f45.name, by decide, Try.func45.trans (congrArg some (by kernel_rfl))⟩
  t0 := Try.underlying0
  a0 := fun _ => by kernel_rfl
  z0 := fun _ => by kernel_rfl
  v0 := fun _ => by kernel_rfl
  t3 := Try.underlying3
  a3 := fun _ => by kernel_rfl
  z3 := fun _ => by kernel_rfl
  v3 := fun _ => by kernel_rfl
  t4 := Try.underlying4
  a4 := fun _ => by kernel_rfl
  z4 := fun _ => by kernel_rfl
  v4 := fun _ => by kernel_rfl
  t22 := Try.underlying22
  a22 := fun _ => by kernel_rfl
  z22 := fun _ => by kernel_rfl
  v22 := fun _ => by kernel_rfl
  a24 := fun _ => by kernel_rfl
  z24 := fun _ => by kernel_rfl
  t25 := Try.underlying27
  a25 := fun _ => by kernel_rfl
  z25 := fun _ => by kernel_rfl
  v25 := fun _ => by kernel_rfl }
section
open Go.Sort
variable {α : Type} [Inhabited α]
theorem stable_small (enc : α → Value) (cf : α → α → Int) (g : Nat) (cb : Array Value) (blk cap : Nat) (d : Array α) (w : World) (L : Nat) (hL : d.size = L)
    (eg : ∀ args w, (callFunc g args).run Try.prog w = .ok (.enter g args) w) (hcmp : CmpLays1 Try.prog g cb enc cf blk 0 d.size w) (R : Row1 enc w blk 0 d) (hn : L < 20) :
    Calls Try.prog 43 #[.slice (some ⟨blk, 0, none⟩) L cap, .int .i64 L, .func (.func g) #[] cb] w fun e w' => e = .returned (.tuple #[]) ∧ SW enc w blk 0 (Sort.insertionSort (ltOf cf) d 0 d.size) w' := by
  have hins := Any.insertionSortCmpFunc_s ins_lays enc cf g cb blk 0 cap 0 d.size d d w w eg hcmp R rfl (SW.start R.hH) (Nat.zero_le _) (Nat.le_refl _) (by omega)
  change Calls Try.prog 45 _ _ _ at hins
  rw [hL] at hins ⊢
  generalize Sort.insertionSort (ltOf cf) d 0 L = D at *
  have HI := Lib.hid hins
  have hln : ¬ (20 : Int) ≤ (L : Int) := by omega
  have hln2 : (L : Int) ≤ 20 := by omega
  have hlt2 : ¬ (20 : Int) < (L : Int) := by omega
  clear hins hL R hcmp
  go_enter Try.func43, Try.ntmps43
  go_wp2_with fail
  go_loopw [7, 8] (fun a b wr => a = .int .i64 0 ∧ b = .int .i64 20 ∧ wr = w) (fun _ _ _ => 0)
  case atStart => exact ⟨rfl, rfl, rfl⟩
  case round =>
    obtain ⟨rfl, rfl, rfl⟩ := hrel
    go_wp2_with fail
    refine HI.out.mono ?_
    rintro e w1 ⟨rfl, hS⟩
    have HS := Lib.hid hS
    clear hS
    dsimp only
    go_wp2_with fail
    go_loopw [6] (fun b wr => b = .int .i64 20 ∧ wr = w1) (fun _ _ => 0)
    case atStart => exact ⟨rfl, rfl⟩
    case round =>
      obtain ⟨rfl, rfl⟩ := hrel
      go_wp2_with fail
      go_end0
      exact ⟨rfl, HS.out⟩
theorem sortStable_small (enc : α → Value) (cf : α → α → Int) (g : Nat) (cb : Array Value) (blk cap : Nat) (d : Array α) (w : World) (L : Nat) (hL : d.size = L)
    (eg : ∀ args w, (callFunc g args).run Try.prog w = .ok (.enter g args) w) (hcmp : CmpLays1 Try.prog g cb enc cf blk 0 d.size w) (R : Row1 enc w blk 0 d) (hn : L < 20) :
    Calls Try.prog 39 #[.slice (some ⟨blk, 0, none⟩) L cap, .func (.func g) #[] cb] w fun e w' => e = .returned (.tuple #[]) ∧ SW enc w blk 0 (Sort.insertionSort (ltOf cf) d 0 d.size) w' := by
  have h := stable_small enc cf g cb blk cap d w L hL eg hcmp R hn
  generalize Sort.insertionSort (ltOf cf) d 0 d.size = D at *
  have H := Lib.hid h
  clear h R hcmp hL
  have hl2 : (L : Int) ≤ 20 := by omega
  go_enter Try.func39, Try.ntmps39
  go_wp2_with fail
  refine H.out.mono ?_
  rintro e w1 ⟨rfl, hS⟩
  have HS := Lib.hid hS
  clear hS
  dsimp only
  go_wp2_with fail
  go_end0
  exact ⟨rfl, HS.out⟩
theorem OnlyP.sorted {enc : α → Value} {w W : World} {blk : Nat} {d : Array α} (h : SW enc w blk 0 d W) : OnlyP (fun k => k = blk) w W := by
  obtain ⟨n, os, rfl⟩ := h
  unfold sortWorld
  refine ⟨rfl, rfl, rfl, ?_, fun k hk hn => ?_⟩
  · rw [size_grow, size_putRow]; exact Nat.le_add_right _ _
  · show ((putRow enc (Sort.ahead w n) blk 0 d).heap ++ os)[k]? = _
    rw [Array.getElem?_append_left (by rw [size_putRow]; exact hk)]
    show ((Sort.ahead w n).heap.modify blk _)[k]? = _
    rw [Array.getElem?_modify, if_neg (fun e => hn e.symm)]
    rfl
end
end Go.Proofs.Ytcohajmappdckaa
