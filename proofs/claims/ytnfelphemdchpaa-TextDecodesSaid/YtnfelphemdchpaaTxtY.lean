/- Contracts of package text: appendRune. -/
import Derived.Test.YtnfelphemdchpaaTxtQ
import Derived.Test.YtnfelphemdchpaaTxtH
import Derived.Deep.AppendLies
import Derived.Deep.RegionLaw
namespace Go.Proofs.Ytnfelphemdchpaa
open Go.RowKit Go.Shelf
set_option linter.unusedVariables false

/-- The form of a code point. -/
def kindA (s : Int) : Nat := if s < 128 then 0 else if s < 2048 then 1 else if s < 65536 then 2 else 3
theorem kindA_lim (s : Int) (h : s ≤ 1114111) : kindA s < 4 ∧ s < limA (kindA s) ∧ ∀ k, k < kindA s → limA k ≤ s := by
  unfold kindA
  split
  · exact ⟨by decide, by simp [limA]; omega, fun k hk => by omega⟩
  · split
    · refine ⟨by decide, by simp [limA]; omega, fun k hk => ?_⟩
      obtain rfl : k = 0 := by omega
      simp [limA]; omega
    · split
      · refine ⟨by decide, by simp [limA]; omega, fun k hk => ?_⟩
        match k, hk with
        | 0, _ => simp [limA]; omega
        | 1, _ => simp [limA]; omega
      · refine ⟨by decide, by simp [limA]; omega, fun k hk => ?_⟩
        match k, hk with
        | 0, _ => simp [limA]; omega
        | 1, _ => simp [limA]; omega
        | 2, _ => simp [limA]; omega
/-- The bytes that follow the first one, the last j of them. -/
def tailL (s : Int) : Nat → List Int
  | 0 => []
  | j + 1 => (128 + s / 64 ^ j % 64) :: tailL s j
def runeL (s : Int) : List Int := (leadA (kindA s) + s / 64 ^ kindA s) :: tailL s (kindA s)
theorem first_val (s : Int) (k : Nat) (h : k < 4) (h0 : 0 ≤ s) (h1 : s < limA k) : IntKind.u8.wrap (IntKind.i64.wrap (leadA k + s / 2 ^ (6 * k))) = leadA k + s / 64 ^ k := by
  match k, h with
  | 0, _ => simp [limA, leadA] at h1 ⊢; rw [IntWalk.i64_in _ (by omega), IntKind.wrap_u8]; omega
  | 1, _ => simp [limA, leadA] at h1 ⊢; rw [IntWalk.i64_in _ (by omega), IntKind.wrap_u8]; omega
  | 2, _ => simp [limA, leadA] at h1 ⊢; rw [IntWalk.i64_in _ (by omega), IntKind.wrap_u8]; omega
  | 3, _ => simp [limA, leadA] at h1 ⊢; rw [IntWalk.i64_in _ (by omega), IntKind.wrap_u8]; omega
theorem and63 (x : Int) (h0 : 0 ≤ x) (h1 : x < 9223372036854775808) : bits .and .i64 x 63 = x % 64 := by
  obtain ⟨n, rfl⟩ := Int.eq_ofNat_of_zero_le h0
  have e1 : (BitVec.ofInt 64 (n : Int)).toNat = n := by
    rw [BitVec.ofInt_natCast, BitVec.toNat_ofNat]; exact Nat.mod_eq_of_lt (by omega)
  show IntKind.i64.wrap ((BitVec.ofInt 64 (n : Int) &&& BitVec.ofInt 64 63).toNat : Int) = _
  have e2 : (BitVec.ofInt 64 63).toNat = 63 := by decide
  have e3 : n &&& 63 = n % 64 := Nat.and_two_pow_sub_one_eq_mod n 6
  rw [BitVec.toNat_and, e1, e2, e3, IntWalk.i64_in _ (by omega)]
  simp
theorem next_bound (s : Int) (h0 : 0 ≤ s) (h1 : s ≤ 1114111) (m : Nat) (hm : m < 4) : 0 ≤ s / 2 ^ (6 * m) ∧ s / 2 ^ (6 * m) ≤ 1114111 := by
  match m, hm with
  | 0, _ => simp; omega
  | 1, _ => simp; omega
  | 2, _ => simp; omega
  | 3, _ => simp; omega
theorem next_val (s : Int) (h0 : 0 ≤ s) (m : Nat) : 128 + s / 2 ^ (6 * m) % 64 = 128 + s / 64 ^ m % 64 := by
  rw [Int.pow_mul]
  rfl
set_option maxRecDepth 100000 in
set_option maxHeartbeats 2000000 in
theorem appendRune_any (v : Value) (zs : List Int) (base : Nat) (s : Int) (hs0 : 0 ≤ s) (hs1 : s ≤ 1114111) (w : World) (hown : w.ownsRow base 5 1 v zs.length (zs.map (Value.int .u8))) (hbase : base ≤ w.heap.size) (hl : zs.length ≤ 1000000) :
    Calls Try.prog 45 #[v, .int .i64 s] w fun e w' => ∃ v', e = .returned v' ∧ w'.ownsRow base 5 1 v' (zs ++ runeL s).length ((zs ++ runeL s).map (Value.int .u8)) ∧ Below base w w' := by
  obtain ⟨i0, hi, hz0, hz1, hz2⟩ := info_parts info_cb
  obtain ⟨hK4, hKl, hKm⟩ := kindA_lim s hs1
  have hR : runeL s = (leadA (kindA s) + s / 64 ^ kindA s) :: tailL s (kindA s) := rfl
  rw [hR]
  clear hR
  generalize kindA s = K at *
  have HKM := Lib.hid hKm
  clear hKm
  go_enter Try.func45, Try.ntmps45
  go_wp2_with fail
  refine (forms_any _).mono ?_
  rintro e w1 ⟨rfl, hb1⟩
  have hown1 := owns_kept_below hown hb1
  have hB1 : Below base w w1 := hb1.mono hbase
  clear hown hb1
  dsimp only
  go_wp2_with fail
  go_loopw [0, 9] (fun bv i wr => ∃ k : Nat, k ≤ K ∧ i = .int .i64 (k : Int) ∧ bv = v ∧ wr.ownsRow base 5 1 v zs.length (zs.map (Value.int .u8)) ∧ Below base w wr) (fun _ i _ => 4 - (intOf i).toNat)
  case atStart => exact ⟨0, by omega, rfl, rfl, hown1, hB1⟩
  case round =>
    obtain ⟨k, hk, rfl, rfl, hown2, hB2⟩ := hrel
    clear hown1 hB1
    have hk4 : k < 4 := by omega
    have hx := formA k hk4
    have hrg := limA_rng k hk4
    have hbr := hB2.size
    by_cases hlt : k < K
    · have hge := HKM.out k hlt
      go_wp2_with fail
      go_roundw
      case rel => exact ⟨k + 1, by omega, by go_num, rfl, hown2.alloc _, hB2.alloc (by omega) _⟩
      case measure => simp [intOf]; omega
    · obtain rfl : k = K := by omega
      have hlim : ¬ limA k ≤ s := by omega
      have C1 := Cel.new wr 95 #[.int .i64 (limA k), .int .i64 (leadA k), .int .i64 (k : Int)]
      have hownA := hown2.alloc (.cells #[.int .i64 (limA k), .int .i64 (leadA k), .int .i64 (k : Int)] 95)
      have hBA := hB2.alloc (by omega) (.cells #[.int .i64 (limA k), .int .i64 (leadA k), .int .i64 (k : Int)] 95)
      have hsz : (wr.alloc (.cells #[.int .i64 (limA k), .int .i64 (leadA k), .int .i64 (k : Int)] 95)).heap.size = wr.heap.size + 1 := by simp
      go_wp2_with fail
      generalize hW1 : wr.alloc (.cells #[.int .i64 (limA k), .int .i64 (leadA k), .int .i64 (k : Int)] 95) = W1 at *
      have x1 : W1.cell? ⟨wr.heap.size, 1, none⟩ = some (.int .i64 (leadA k)) := C1.cell 1
      have x2 : W1.cell? ⟨wr.heap.size, 2, none⟩ = some (.int .i64 (k : Int)) := C1.cell 2
      have y1 : ∀ o, (W1.alloc o).cell? ⟨wr.heap.size, 1, none⟩ = some (.int .i64 (leadA k)) := fun o => (C1.alloc o).cell 1
      have y2 : ∀ o, (W1.alloc o).cell? ⟨wr.heap.size, 2, none⟩ = some (.int .i64 (k : Int)) := fun o => (C1.alloc o).cell 2
      have hbb := fun g e => hown2.lt g e
      have e1 : IntKind.i64.wrap (6 * (k : Int)) = 6 * (k : Int) := IntWalk.i64_in _ (by omega)
      have e2 : (0 : Int) ≤ 6 * (k : Int) := by omega
      have e3 : (6 * (k : Int)).toNat = 6 * k := by omega
      clear hx hown2 hW1
      have hval := first_val s k hk4 hs0 (by omega)
      have HVAL := Lib.hid hval
      clear hval
      obtain ⟨B0, hB0⟩ : ∃ B0, B0 = IntKind.u8.wrap (IntKind.i64.wrap (leadA k + s / 2 ^ (6 * k))) := ⟨_, rfl⟩
      have HB0 := Lib.hid hB0
      have hnew := heap_alloc_new W1 (.cells #[.int .u8 (IntKind.u8.wrap (IntKind.i64.wrap (leadA k + s / 2 ^ (6 * k))))] 5)
      rw [hsz] at hnew
      have HNEW := Lib.hid hnew
      clear hnew hB0
      go_region_law ((refine step_append_lies _ (by rfl) _ _ _ (by rfl) base 5 i0 _ 1 1 Try.underlying26 hi hz0 hz1 hz2 rfl (by omega) _ zs.length (zs.map (Value.int .u8)) (by rfl) ((hownA.alloc _).drew) ⟨wr.heap.size + 1, 0, none⟩ 1 1 [.int .u8 (IntKind.u8.wrap (IntKind.i64.wrap (leadA k + s / 2 ^ (6 * k))))] (by rfl) (by rfl) (World.news_of_block (cs := #[.int .u8 (IntKind.u8.wrap (IntKind.i64.wrap (leadA k + s / 2 ^ (6 * k))))]) HNEW.out) (by simp [Value.oneCell']) (by omega) (by unfold maxLen; omega) (by omega) (by simp; omega) (wr.heap.size + 2) (by simp; omega) ?_; intro gg cap3 w3 hown3 hgrow3 hat hlt3))
      all_goals
        have C3 := Cel.grown (W := (W1.alloc (.cells #[.int .u8 (IntKind.u8.wrap (IntKind.i64.wrap (leadA k + s / 2 ^ (6 * k))))] 5)).drew) (C1.alloc _) hgrow3 (fun e => by have := (hbb _ e).2; omega)
        have z2 : w3.cell? ⟨wr.heap.size, 2, none⟩ = some (.int .i64 (k : Int)) := C3.cell 2
        have hb3 : Below base w w3 := ((hBA.alloc (by omega) (.cells #[.int .u8 (IntKind.u8.wrap (IntKind.i64.wrap (leadA k + s / 2 ^ (6 * k))))] 5)).drew).grown hgrow3 (by simp; omega) (fun g e => (hbb g e).1)
        rw [HVAL.out] at hown3
        have hown4 : w3.ownsRow base 5 1 (.slice (some ⟨gg, 0, none⟩) (zs.length + 1) cap3) (zs ++ [leadA k + s / 64 ^ k]).length ((zs ++ [leadA k + s / 64 ^ k]).map (Value.int .u8)) := by
          rw [List.length_append, List.map_append]
          exact hown3
        clear hown3 hgrow3 y1 y2 x1 x2 C1 C3 hownA hBA hat hlt3
        go_wp2_with fail
        go_loopw [0, 7] (fun bv i wx => (∃ (m : Nat) (D : List Int), i = .int .i64 (m : Int) ∧ m < k ∧ D.length ≤ 10 ∧ D.length + m ≤ 10 ∧ Hid (D ++ tailL s (m + 1) = (leadA k + s / 64 ^ k) :: tailL s k) ∧ wx.ownsRow base 5 1 bv (zs ++ D).length ((zs ++ D).map (Value.int .u8)) ∧ Below base w wx) ∨ (i = .int .i64 (-1) ∧ wx.ownsRow base 5 1 bv (zs ++ ((leadA k + s / 64 ^ k) :: tailL s k)).length ((zs ++ ((leadA k + s / 64 ^ k) :: tailL s k)).map (Value.int .u8)) ∧ Below base w wx)) (fun _ i _ => (intOf i + 1).toNat)
        case atStart =>
          rcases k with _ | m
          · exact .inr ⟨by simp, hown4, hb3⟩
          · exact .inl ⟨m, [leadA (m + 1) + s / 64 ^ (m + 1)], by congr 1; omega, Nat.lt_succ_self _, by simp, by simp; omega, Lib.hid rfl, hown4, hb3⟩
        case round =>
          rcases hrel with ⟨m, D, rfl, hmk, hD, hDm, HD, hown5, hb5⟩ | ⟨rfl, hown5, hb5⟩
          · obtain ⟨n0, n1⟩ := next_bound s hs0 hs1 m (by omega)
            have hand := and63 (s / 2 ^ (6 * m)) n0 (by omega)
            have hnv : 128 + s / 2 ^ (6 * m) % 64 = 128 + s / 64 ^ m % 64 := next_val s hs0 m
            obtain ⟨Y, hY⟩ : ∃ Y, s / 2 ^ (6 * m) % 64 = Y := ⟨_, rfl⟩
            rw [hY] at hand hnv
            have HT : Hid ((D ++ [128 + Y]) ++ tailL s m = (leadA k + s / 64 ^ k) :: tailL s k) := Lib.hid (by rw [← HD.out, hnv]; simp [tailL])
            have hY0 : 0 ≤ Y := by omega
            have hY1 : Y < 64 := by omega
            have q1 : IntKind.i64.wrap (128 + Y) = 128 + Y := IntWalk.i64_in _ (by omega)
            have hb5s := hb5.size
            have hLL : (zs ++ D).length = zs.length + D.length := List.length_append
            have HLL := Lib.hid hLL
            clear hnv hY hLL
            generalize hZD : zs ++ D = ZD at *
            have HZD := Lib.hid hZD
            clear hZD
            go_wp2_with (at_builtin; refine wpList_append_own _ rfl _ _ 26 rfl base 5 i0 (.int .u8 0) 1 1 Try.underlying26 hi hz0 hz1 hz2 rfl (by decide) _ _ _ rfl (hown5.alloc _) ⟨wr.heap.size, 0, none⟩ 1 1 [.int .u8 (128 + Y)] rfl rfl (cell_one_at _ _ _ _ (by simp)) (by simp [Value.oneCell']) (by unfold maxLen; have := HLL.out; omega) (by have := HLL.out; omega) (by simp; omega) ?_; intro v6 w6 hown6 hgrow6 _)
            have hown7 : w6.ownsRow base 5 1 v6 (zs ++ (D ++ [128 + Y])).length ((zs ++ (D ++ [128 + Y])).map (Value.int .u8)) := by
              rw [← List.append_assoc, HZD.out, List.length_append, List.map_append]
              exact hown6
            have hb6 : Below base w w6 := (hb5.alloc (by omega) _).grown hgrow6 (by simp; omega) (fun g e => own_base hown5 e)
            clear hgrow6
            go_roundw
            case rel =>
              rcases m with _ | m
              · exact .inr ⟨by simp, by
                  have h := HT.out
                  rw [show tailL s 0 = [] from rfl, List.append_nil] at h
                  rw [← h]
                  exact hown7, hb6⟩
              · exact .inl ⟨m, D ++ [128 + Y], by congr 1; omega, by omega, by simp; omega, by simp; omega, HT, hown7, hb6⟩
            case measure => simp [intOf]
          · go_wp2_with fail
            go_ret
            exact ⟨_, rfl, hown5, hb5⟩
end Go.Proofs.Ytnfelphemdchpaa
