/- Contracts of the law's write, encode. -/
import Derived.Test.YtpoldhblddlcpaaVM
import Derived.Laws.BytesArg
namespace Go.Proofs.Ytpoldhblddlcpaa
open Go.RowKit Go.Shelf
set_option linter.unusedVariables false

theorem conv_row {n₀ : Nat} {w : World} {v : Value} {zs : List Int} (h : Row .u8 n₀ w v zs) :
    (convert 24 9 v).run Try.prog w = .ok (.string (strOfNums zs)) w := by
  rcases h with ⟨a, cap, rfl, _, _, rfl⟩ | ⟨b, off, cap, rfl, _, _, _, hc⟩
  · cases a with
    | none => exact run_convert_bytes_nil w 24 5 Try.underlying24 Try.underlying5 0 cap 9 Try.underlying9
    | some x =>
      rw [run_convert_bytes_string w 24 9 5 _ 0 cap Try.underlying24 Try.underlying5 Try.underlying9]
      have hl : (loadCells x 0).run Try.prog w = .ok #[] w := run_loadCells_list w x [] (fun j v hj => by simp at hj)
      simp [Conv.bytesToString, hl]
      rfl
  · exact run_convert_bytes_arg w 24 5 Try.underlying24 Try.underlying5 b off zs.length cap zs rfl (fun i hi => by rw [hc i hi]; simp) 9 Try.underlying9

set_option maxHeartbeats 4000000 in
theorem write_any (base b : Nat) (zs : List Int) (v : VM) (x : Value) (w : World) (h : Wr w base b zs) (hbb : base ≤ b) (hm : zs.length ≤ 900000) (hv : VV base w v x) (ho : v.okL) :
    Calls Try.prog 14 #[.pointer (some ⟨b, 0, none⟩), x] w fun e w' => e = .returned (.tuple #[]) ∧ Wr w' base b (zs ++ vbytes v) ∧ Below base w w' := by
  obtain ⟨sb, sl, rfl, hB, hL⟩ := hv
  obtain ⟨kind, u, n, B, L⟩ := v
  dsimp only at *
  obtain ⟨u0, u1, hn, hBr, hBl, hLr, hLl, hcan⟩ := ho
  dsimp only [VM.canon] at *
  have hsz : base ≤ w.heap.size := by obtain ⟨_, hv, _⟩ := h; have := hv.lt; omega
  have b0 := (Below.refl base w).alloc hsz (.cells #[.int .i64 kind, .int .u64 u, .int .i64 n, sb, sl] 28)
  have h' := h.keep (laidB (Below.refl w.heap.size w) (.cells #[.int .i64 kind, .int .u64 u, .int .i64 n, sb, sl] 28)) (Nat.le_refl _)
  have hB' := RowP.below b0 hB
  have hL' := RowP.below b0 hL
  have cv := conv_row hB'
  obtain ⟨ab, cb, rfl⟩ := row_slice hB
  obtain ⟨al, cl, rfl⟩ := row_slice hL
  clear h hB hL
  have E1 : Hid (bytesI (strOfNums B) = B) := Lib.hid (bytesI_str B hBr)
  have E2 : Hid ((strOfNums B).size = B.length) := Lib.hid (by
    have := congrArg List.length (bytesI_str B hBr)
    unfold bytesI at this
    rw [List.length_map] at this
    exact this)
  have hs2 : (strOfNums B).size ≤ 1000000 := by rw [E2.out]; omega
  rcases hcan with ⟨rfl, rfl, rfl, rfl⟩ | ⟨rfl, rfl, rfl, rfl⟩ | ⟨rfl, hn1, rfl, rfl, rfl⟩ | ⟨hk, rfl, rfl, rfl⟩ | ⟨rfl, rfl, rfl, rfl⟩
  · clear cv
    go_enter Try.func14, Try.ntmps14
    go_wp2_with fail
    refine (wuint_int base b zs u _ h' hbb (by omega) u0 u1).mono ?_
    rintro e w1 ⟨rfl, hw, hb⟩
    dsimp only
    go_wp2_with fail
    go_end0
    exact ⟨rfl, hw, b0.trans hb⟩
  · clear cv
    go_enter Try.func14, Try.ntmps14
    go_wp2_with fail
    refine (wint_any base b zs n _ h' hbb (by omega) hn).mono ?_
    rintro e w1 ⟨rfl, hw, hb⟩
    dsimp only
    go_wp2_with fail
    go_end0
    exact ⟨rfl, hw, b0.trans hb⟩
  · clear cv
    rcases hn1 with rfl | rfl
    all_goals
      go_enter Try.func14, Try.ntmps14
      go_wp2_with fail
      refine (wbool_any base b zs _ _ h' hbb (by omega)).mono ?_
      rintro e w1 ⟨rfl, hw, hb⟩
      dsimp only
      go_wp2_with fail
      go_end0
      exact ⟨rfl, hw, b0.trans hb⟩
  · rcases hk with rfl | rfl
    · rw [List.length_nil] at cv
      go_enter Try.func14, Try.ntmps14
      go_wp2_with fail
      refine (wtext_any base b zs (strOfNums B) _ h' hbb (by omega) hs2).mono ?_
      rw [E1.out, E2.out]
      rintro e w1 ⟨rfl, hw, hb⟩
      dsimp only
      go_wp2_with fail
      go_end0
      exact ⟨rfl, hw, b0.trans hb⟩
    · clear cv
      go_enter Try.func14, Try.ntmps14
      go_wp2_with fail
      refine (wraw_any base b zs ab cb B _ h' hbb (by omega) hB' (by omega)).mono ?_
      rintro e w1 ⟨rfl, hw, hb⟩
      dsimp only
      go_wp2_with fail
      go_end0
      exact ⟨rfl, hw, b0.trans hb⟩
  · clear cv
    go_enter Try.func14, Try.ntmps14
    go_wp2_with fail
    refine (wints_any base b zs al cl L _ h' hbb (by omega) hL' (by omega) hLr).mono ?_
    rintro e w1 ⟨rfl, hw, hb⟩
    dsimp only
    go_wp2_with fail
    go_end0
    exact ⟨rfl, hw, b0.trans hb⟩

/-- What lies from a block on lies from an earlier one on. -/
theorem owns_base {w : World} {base base' : Nat} {e : TypeId} {size : Nat} {v : Value} {n : Nat} {xs : List Value} (h : w.ownsRow base e size v n xs) (hb : base' ≤ base) : w.ownsRow base' e size v n xs := by
  refine ⟨h.1, ?_⟩
  rcases h.2 with hn | ⟨g, cap, cur, rfl, h1, rest⟩
  · exact .inl hn
  · exact .inr ⟨g, cap, cur, rfl, Nat.le_trans hb h1, rest⟩
theorem vsbytes_take_le (l : List VM) (k : Nat) : (vsbytes (l.take k)).length ≤ (vsbytes l).length := by
  have h : vsbytes l = vsbytes (l.take k) ++ vsbytes (l.drop k) := by
    unfold vsbytes
    rw [← List.flatten_append, ← List.map_append, List.take_append_drop]
  rw [h, List.length_append]
  omega
set_option maxHeartbeats 4000000 in
theorem encodeL_any (x : Value) (l : List VM) (w : World) (h : VRow w.heap.size w x l) (ho : ∀ v ∈ l, v.okL) (hvl : (vsbytes l).length ≤ 900000) :
    Calls Try.prog 26 #[x] w fun e w' => ∃ a cap, e = .returned (.slice a (vsbytes l).length cap) ∧ w'.ownsRow w.heap.size 5 1 (.slice a (vsbytes l).length cap) (vsbytes l).length ((vsbytes l).map (Value.int .u8)) ∧ Row .u8 w'.heap.size w' (.slice a (vsbytes l).length cap) (vsbytes l) ∧ Below w.heap.size w w' := by
  have b0 := laidB (Below.refl w.heap.size w) (.cells #[.slice none 0 0] 32)
  have hw := Wr.new w
  obtain ⟨a, cap, rfl, h1, h2, h3⟩ := h.below b0
  unfold maxLen at h2
  go_enter Try.func26, Try.ntmps26
  go_wp2_with fail
  go_loopw [4] (fun i wr => ∃ k : Nat, k ≤ l.length ∧ i = .int .i64 (k : Int) ∧ Wr wr w.heap.size w.heap.size (vsbytes (l.take k)) ∧ Below w.heap.size (w.alloc (.cells #[.slice none 0 0] 32)) wr) (fun i _ => l.length - (intOf i).toNat)
  case atStart => exact ⟨0, Nat.zero_le _, rfl, hw, Below.refl _ _⟩
  case round =>
    clear hw
    obtain ⟨k, hk, rfl, hw, hB⟩ := hrel
    by_cases hlt : k < l.length
    · obtain ⟨b, off, rfl, hbn, hc⟩ := h3.resolve_left (by rintro rfl; simp at hlt)
      have hgk : l[k]? = some l[k] := List.getElem?_eq_getElem hlt
      obtain ⟨sb, sl, r1, r2, c0, c1, c2, c3, c4⟩ := hc k _ hgk
      have hok := ho _ (List.mem_of_getElem? hgk)
      have ht := vsbytes_take l k _ hgk
      have hlk := vsbytes_take_le l k
      generalize l[k] = v at *
      replace r1 := RowP.below hB r1
      replace r2 := RowP.below hB r2
      replace c0 := (hB.cell (p := ⟨b, _, none⟩) hbn).trans c0
      replace c1 := (hB.cell (p := ⟨b, _, none⟩) hbn).trans c1
      replace c2 := (hB.cell (p := ⟨b, _, none⟩) hbn).trans c2
      replace c3 := (hB.cell (p := ⟨b, _, none⟩) hbn).trans c3
      replace c4 := (hB.cell (p := ⟨b, _, none⟩) hbn).trans c4
      have HT := Lib.hid ht
      have HG := Lib.hid hgk
      clear hgk ht hc h3
      go_wp2_with fail
      refine (write_any w.heap.size w.heap.size (vsbytes (l.take k)) v _ wr hw (Nat.le_refl _) (by omega) ⟨sb, sl, rfl, r1, r2⟩ hok).mono ?_
      rintro e w1 ⟨rfl, hw1, hb⟩
      dsimp only
      go_wp2_with fail
      go_roundw
      case rel => exact ⟨k + 1, by omega, by go_num, by rw [HT.out]; exact hw1, hB.trans hb⟩
      case measure => simp [intOf]; omega
    · have hkl : k = l.length := by omega
      have ht : l.take k = l := List.take_of_length_le (by omega)
      rw [ht] at hw
      have hB' := b0.trans hB
      clear ht hkl hB
      go_wp2_with fail
      refine (done_any w.heap.size w.heap.size (vsbytes l) _ hw (by omega)).mono ?_
      rintro e w1 ⟨ar, cr, rfl, hoR, hrR, hb⟩
      dsimp only
      go_wp2_with fail
      go_ret
      exact ⟨ar, cr, rfl, owns_base hoR hB'.size, hrR, hB'.trans (hb.mono hB'.size)⟩
theorem encode_any (x : Value) (l : List VM) (w : World) (h : VRow w.heap.size w x l) (ho : ∀ v ∈ l, v.ok) (hl : l.length ≤ 200) :
    Calls Try.prog 26 #[x] w fun e w' => ∃ a cap, e = .returned (.slice a (vsbytes l).length cap) ∧ w'.ownsRow w.heap.size 5 1 (.slice a (vsbytes l).length cap) (vsbytes l).length ((vsbytes l).map (Value.int .u8)) ∧ Row .u8 w'.heap.size w' (.slice a (vsbytes l).length cap) (vsbytes l) ∧ Below w.heap.size w w' :=
  encodeL_any x l w h (fun v hv => (ho v hv).big) (by have := vsbytes_len l ho; omega)
end Go.Proofs.Ytpoldhblddlcpaa
