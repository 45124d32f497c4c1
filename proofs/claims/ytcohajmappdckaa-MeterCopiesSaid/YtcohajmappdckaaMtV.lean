/- Package meter and its model: copied, Used. -/
import Derived.Test.YtcohajmappdckaaMtU
import Derived.Test.YtcohajmappdckaaAppRow
import Derived.Laws.CopyOwn
namespace Go.Proofs.Ytcohajmappdckaa
open Go.RowKit Go.Shelf
set_option linter.unusedVariables false

theorem cel_over {W : World} {u : Nat} {t : TypeId} {cs : Array Value} (zs : List Int) (h : Cel W u t cs) (hn : cs.size = zs.length) : Cel (W.setCells u 0 (zs.map (Value.int .i64))) u t (celI zs) := by
  obtain ⟨ds, h1, h2, h3⟩ := cel_cells (zs.map (Value.int .i64)) W u 0 cs h
  have e : ds = celI zs := by
    unfold celI
    apply Array.ext_getElem?
    intro i
    by_cases hi : i < cs.size
    · rw [h3 i hi, if_pos (by simp; omega), Nat.sub_zero]
      simp
    · rw [Array.getElem?_eq_none (by omega), Array.getElem?_eq_none (by simp; omega)]
  rw [← e]
  exact h1
set_option maxHeartbeats 2000000 in
theorem copied_any (u : Nat) (us : List Int) (n : Nat) (hn : us.length = n) (w : World) (hu : Cel w u 3 (celI us)) (hn5 : n ≤ 500) :
    Calls Try.prog 30 #[.slice (some ⟨u, 0, none⟩) n n] w fun e w' => e = .returned (.slice (some ⟨w.heap.size, 0, none⟩) n n) ∧ Cel w' w.heap.size 3 (celI us) ∧ Below w.heap.size w w' := by
  obtain ⟨i0, hi, hz0, hz1, hz2⟩ := info_parts info_im
  have hsz : (Try.prog.info? 3).map (·.size) = some 1 := by rw [hi]; simp [hz1]
  have HSZ := Lib.hid hsz
  have hnn : (n : Int) ≤ 500 := by omega
  have HU := Lib.hid hu
  have HN := Lib.hid hn
  clear hu hn hsz
  go_enter Try.func30, Try.ntmps30
  go_wp2_with (at_make; refine wpList_make_full _ rfl _ _ 22 rfl w.heap.size 3 i0 (.int .i64 0) 1 Try.underlying22 hi hz0 hz1 .i64 .i64 _ _ n rfl rfl rfl rfl (by rw [hz2]; omega) (by unfold maxLen; omega) (Nat.le_refl _) ?_; intro w2 hown2 hgrow2; rw [made_zeros] at hown2; have hb2 : Below w.heap.size w w2 := (Below.refl _ w).grown hgrow2 (Nat.le_refl _) (fun k e => by cases e); have hc2 := cel_of_owns hown2; have hu2 := HU.out.step hb2; have hrun : ∀ ty, (Builtin.copy_ #[22, 22] ty #[.slice (some ⟨w.heap.size, 0, none⟩) n n, .slice (some ⟨u, 0, none⟩) n n]).run Try.prog w2 = .ok (goInt (us.map (Value.int .i64)).length) (w2.setCells w.heap.size 0 (us.map (Value.int .i64))) := (fun ty => run_copy_cells (P := Try.prog) w2 22 22 ty 3 w.heap.size 0 n n ⟨u, 0, none⟩ n n (us.map (Value.int .i64)) Try.underlying22 HSZ.out (by simp [HN.out]) (fun j v hj => by rw [addr_add, Nat.zero_add, hu2.cell j]; unfold celI; simpa using hj) (fun j hj => by rw [Nat.zero_add, hc2.cell j]; simp [zerosI]; simpa [HN.out] using hj) (fun j hj => hc2.free _) (ints_one _ _)); have HC2 := Lib.hid hc2; clear hc2 hu2 hown2 hgrow2)
  go_ret
  exact ⟨rfl, cel_over us HC2.out (by simp [zerosI, HN.out]), hb2.trans ((OnlyP.cells (fun k => k = w.heap.size) w2 w.heap.size 0 (us.map (Value.int .i64)) rfl).below hb2.size (fun k e => by omega))⟩
theorem used_any (p u : Nat) (s : MS) (w : World) (h : Mt w p u s) :
    Calls Try.prog 16 #[.pointer (some ⟨p, 0, none⟩)] w fun e w' => e = .returned (.slice (some ⟨w.heap.size, 0, none⟩) s.us.length s.us.length) ∧ Cel w' w.heap.size 3 (celI s.us) ∧ Below w.heap.size w w' := by
  have c3 : w.cell? ⟨p, 3, none⟩ = some (.slice (some ⟨u, 0, none⟩) s.us.length s.us.length) := h.box.cell 3
  have hc := copied_any u s.us s.us.length rfl w h.row h.ok.n1
  clear h
  generalize s.us.length = n at *
  have HC := Lib.hid hc
  clear hc
  go_enter Try.func16, Try.ntmps16
  go_wp2_with fail
  refine HC.out.mono ?_
  rintro e w1 ⟨rfl, h1, h2⟩
  have H1 := Lib.hid h1
  have H2 := Lib.hid h2
  clear h1 h2 HC
  dsimp only
  go_wp2_with fail
  go_ret
  exact ⟨rfl, H1.out, H2.out⟩
theorem MS.at_self (s : MS) (i : Nat) : s.at i s.tk = s.us[i]?.getD 0 := by
  unfold MS.at MS.fresh
  simp
set_option maxHeartbeats 4000000 in
theorem rused_any (q : Nat) (x : Value) (s : MS) (N : Nat) (w : World) (h : Mr w q x s N) (hN : N ≤ 1000) :
    Calls Try.prog 17 #[.pointer (some ⟨q, 0, none⟩)] w fun e w' => ∃ a c, e = .returned (.slice a s.us.length c) ∧ Row .i64 w'.heap.size w' (.slice a s.us.length c) s.us ∧ Below w.heap.size w w' := by
  obtain ⟨i0, hi, hz0, hz1, hz2⟩ := info_parts info_im
  have hn0 := h.ok.n0
  have hn1 := h.ok.n1
  have hkt1 := h.ok.tk1
  have HH := Lib.hid h
  have hrat := fun W (hW : Below w.heap.size w W) (i : Nat) (hi : i < s.us.length) => rat_any q x s N i i rfl s.tk W (h.step hW) hN hi (Int.le_refl _) hkt1
  have HRAT := Lib.hid hrat
  clear h hrat hkt1
  obtain ⟨n, hn⟩ : ∃ n, s.us.length = n := ⟨_, rfl⟩
  have hn1' : (n : Int) ≤ 500 := by omega
  have HN := Lib.hid hn
  rw [hn] at hn0 hn1 ⊢
  clear hn
  go_enter Try.func17, Try.ntmps17
  go_wp2_with fail
  go_loopw [3, 4] (fun v i wr => ∃ (k : Nat) (av : Option Addr) (cv : Nat), k ≤ n ∧ i = .int .i64 (k : Int) ∧ v = .slice av k cv ∧ Hid (wr.ownsRow w.heap.size 3 1 (.slice av k cv) k ((s.us.take k).map (Value.int .i64))) ∧ Hid (Below w.heap.size w wr)) (fun _ i _ => n - (intOf i).toNat)
  case atStart => exact ⟨0, none, 0, Nat.zero_le _, rfl, rfl, Lib.hid (World.ownsRow_nil _ _ _ _), Lib.hid (Below.refl _ _)⟩
  case round =>
    obtain ⟨k, av, cv, hk, rfl, rfl, HO, HB⟩ := hrel
    have hh := HH.out.step HB.out
    have c0 : wr.cell? ⟨q, 0, none⟩ = some (.int .i64 (n : Int)) := by rw [← HN.out]; exact hh.box.cell 0
    have c3 : wr.cell? ⟨q, 3, none⟩ = some (.int .i64 s.tk) := hh.box.cell 3
    clear hh
    by_cases hlt : k < n
    · have hlt2 : k < s.us.length := by rw [HN.out]; exact hlt
      have hra := HRAT.out wr HB.out k hlt2
      rw [s.at_self] at hra
      have htk : s.us.take k ++ [s.us[k]?.getD 0] = s.us.take (k + 1) := by
        rw [List.take_succ_eq_append_getElem hlt2]
        simp [hlt2]
      have HTK := Lib.hid htk
      have hlk : (s.us.take k).length = k := by rw [List.length_take]; omega
      have HLK := Lib.hid hlk
      generalize s.us[k]?.getD 0 = X at *
      generalize s.tk = tk at *
      have HRA := Lib.hid hra
      have hi1 : (k : Int) < (n : Int) := by omega
      have hi0 : (0 : Int) ≤ (k : Int) := by omega
      clear hra htk hlk
      go_wp2_with fail
      refine HRA.out.mono ?_
      rintro e w2 ⟨rfl, m, hw2⟩
      have hb2 : Below wr.heap.size wr w2 := by rw [hw2]; exact below_drewN (Below.refl _ _) m
      have HO2 := Lib.hid (owns_kept_below HO.out hb2)
      have HB2 := Lib.hid (HB.out.trans (hb2.mono HB.out.size))
      clear hw2 hb2 HRA HO HB
      dsimp only
      go_wp2_with (at_builtin; refine wpList_append_row rfl _ _ 22 rfl w.heap.size 3 i0 .i64 (.int .i64 0) 8 Try.underlying22 hi hz0 hz1 hz2 rfl _ _ (s.us.take k) rfl (HO2.out.alloc _) (.slice (some ⟨w2.heap.size, 0, none⟩) 1 1) [X] _ rfl (litM w2 [X] (by simp) 1 rfl _ rfl) (by unfold maxLen; simp; omega) (by simp; omega) (by have := HB2.out.size; simp; omega) ?_; intro v' w3 hown' hgrow' hbel'; obtain ⟨a', c', hv'⟩ := row_slice (row_of_owns hown').1; have hlen : (s.us.take k ++ [X]).length = k + 1 := (by rw [List.length_append, HLK.out]; rfl); rw [hlen] at hv' hown'; subst hv'; rw [HTK.out] at hown'; clear hlen)
      have HO3 := Lib.hid hown'
      have HB3 := Lib.hid ((HB2.out.alloc HB2.out.size _).trans hbel')
      clear hown' hgrow' hbel'
      go_roundw
      case rel => exact ⟨k + 1, a', c', by omega, by go_num, rfl, HO3, HB3⟩
      case measure => simp [intOf]; omega
    · have hrow := (row_of_owns HO.out).1
      rw [show s.us.take k = s.us from List.take_of_length_le (by rw [HN.out]; omega)] at hrow
      obtain rfl : k = n := by omega
      have HRW := Lib.hid hrow
      clear hrow
      go_wp2_with fail
      go_ret
      exact ⟨_, _, rfl, HRW.out, HB.out⟩
end Go.Proofs.Ytcohajmappdckaa
