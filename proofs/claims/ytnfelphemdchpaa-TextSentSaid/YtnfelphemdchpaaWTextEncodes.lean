/- TextEncodes: the walk. -/
import Derived.Test.YtnfelphemdchpaaTxtOne
namespace Go.Proofs.Ytnfelphemdchpaa
open Go.RowKit Go.Shelf
set_option linter.unusedVariables false

def EncRow (w : World) (M : List Int) (C : Int) (e : Ending) (w' : World) : Prop :=
  ∃ a cap, e = .returned (.tuple #[.slice a M.length cap, .int .i64 C]) ∧ Row .u8 w'.heap.size w' (.slice a M.length cap) M ∧ Below w.heap.size w w'
theorem encRow {w : World} {M : List Int} {C : Int} {F : Nat} {args : Array Value} (h : Calls Try.prog F args w (EncPost w M C)) : Calls Try.prog F args w (EncRow w M C) :=
  h.mono fun e w' ⟨v, he, ho, hb⟩ => by
    subst he
    have hrow := (row_of_owns ho).1
    obtain ⟨a2, c2, rfl⟩ := row_slice hrow
    exact ⟨a2, c2, rfl, hrow, hb⟩
theorem rowsAt_keep {W W' : World} {g : Nat} {zss : List (List Int)} (h : RowsAt W g zss) (hb : Below W.heap.size W W') : RowsAt W' g zss := by
  intro k z hz
  obtain ⟨a, cap, hc, hr⟩ := h k z hz
  exact ⟨a, cap, cellB hc hb, rowB hr hb⟩
theorem rows4 {W : World} {s0 s1 s2 s3 : Value} {e : TypeId} {z0 z1 z2 z3 : List Int} (h0 : Row .i64 W.heap.size W s0 z0) (h1 : Row .i64 W.heap.size W s1 z1) (h2 : Row .i64 W.heap.size W s2 z2) (h3 : Row .i64 W.heap.size W s3 z3) :
    RowsAt (W.alloc (.cells #[s0, s1, s2, s3] e)) W.heap.size [z0, z1, z2, z3] := by
  have b := laidB (Below.refl W.heap.size W) (.cells #[s0, s1, s2, s3] e)
  have C := Cel.new W e #[s0, s1, s2, s3]
  obtain ⟨a0, c0, rfl⟩ := row_slice h0
  obtain ⟨a1, c1, rfl⟩ := row_slice h1
  obtain ⟨a2, c2, rfl⟩ := row_slice h2
  obtain ⟨a3, c3, rfl⟩ := row_slice h3
  intro k z hz
  match k, hz with
  | 0, hz => simp at hz; subst hz; exact ⟨a0, c0, C.cell 0, rowB h0 b⟩
  | 1, hz => simp at hz; subst hz; exact ⟨a1, c1, C.cell 1, rowB h1 b⟩
  | 2, hz => simp at hz; subst hz; exact ⟨a2, c2, C.cell 2, rowB h2 b⟩
  | 3, hz => simp at hz; subst hz; exact ⟨a3, c3, C.cell 3, rowB h3 b⟩
  | k + 4, hz => simp at hz
set_option maxRecDepth 100000 in
set_option maxHeartbeats 4000000 in
theorem textEncodes_walk (a0 : Option Addr) (len0 cap0 : Nat) (z0 : List Int) (a1 : Option Addr) (len1 cap1 : Nat) (z1 : List Int) (a2 : Bool) (w : World) (w0 : IsRow .i64 w a0 len0 cap0 z0) (w1 : IsRow .i64 w a1 len1 cap1 z1) :
    Calls Try.prog 3 #[.slice a0 len0 cap0, .slice a1 len1 cap1, .bool a2] w fun e w' => e = .returned (.bool true) ∧ Below w.heap.size w w' := by
  obtain ⟨i0, hi, hz0, hz1, hz2⟩ := info_parts info_int
  obtain ⟨hr0, hw0⟩ := w0.row
  obtain ⟨hr1, _⟩ := w1.row
  have hl0 := hr0.len
  have hl1 := hr1.len
  clear w0 w1
  generalize z0.take len0 = l0 at *
  generalize z1.take len1 = l1 at *
  subst hl0 hl1
  go_enter Try.func3, Try.ntmps3
  go_wp2_with fail
  refine (text_row a0 cap0 l0 30 a2 w hr0 (by decide) hw0).mono ?_
  rintro e w2 ⟨b2, c2, rfl, _, hA, b1⟩
  have hAl := textT_len l0 30 a2
  generalize textT l0 30 a2 = A at *
  have hr0 := rowB hr0 b1
  have hr1 := rowB hr1 b1
  dsimp only
  go_wp2_with fail
  refine (text_row a0 cap0 l0 30 true w2 hr0 (by decide) hw0).mono ?_
  rintro e w3 ⟨b3, c3, rfl, _, hB, bb⟩
  have hBl := textT_len l0 30 true
  generalize textT l0 30 true = B at *
  have hr0 := rowB hr0 bb
  have hr1 := rowB hr1 bb
  have hA := rowB hA bb
  replace b1 := stepB b1 bb
  clear bb
  dsimp only
  go_wp2_with fail
  refine (ints_int _ l1 12 w3 hr1 (by decide) (by decide)).mono ?_
  rintro e w4 ⟨b4, c4, rfl, _, hC, bb⟩
  have hCl : (l1.take (12 : Int).toNat).length ≤ 12 := by rw [List.length_take]; exact Nat.min_le_left _ _
  generalize l1.take (12 : Int).toNat = C at *
  have hr0 := rowB hr0 bb
  have hr1 := rowB hr1 bb
  have hA := rowB hA bb
  have hB := rowB hB bb
  replace b1 := stepB b1 bb
  clear bb
  dsimp only
  go_wp2_with fail
  have hbs4 := b1.size
  refine (text_row a0 cap0 l0 9 a2 w4 hr0 (by decide) hw0).mono ?_
  rintro e w5 ⟨b5, c5, rfl, hown, _, bb⟩
  have hDl := textT_len l0 9 a2
  generalize textT l0 9 a2 = D at *
  have hr1 := rowB hr1 bb
  have hb4 := bb.size
  replace b1 := stepB b1 bb
  clear hr0
  dsimp only
  go_wp2_with fail
  refine (ints_int _ l1 1 w5 hr1 (by decide) (by decide)).mono ?_
  rintro e w6 ⟨b6, c6, rfl, _, hE, bb6⟩
  have hEl : (l1.take (1 : Int).toNat).length ≤ 1 := by rw [List.length_take]; exact Nat.min_le_left _ _
  generalize l1.take (1 : Int).toNat = E at *
  have hb5 := bb6.size
  have hown6 := owns_kept_below hown bb6
  replace b1 := stepB b1 bb6
  clear hr1 hown hw0
  dsimp only
  go_wp2_with (at_builtin; refine wpList_append_row rfl _ _ 22 rfl w4.heap.size 3 i0 .i64 _ 8 Try.underlying22 hi hz0 hz1 hz2 rfl _ _ D rfl hown6 _ E _ rfl hE (by unfold maxLen; omega) (by omega) (by omega) ?_; intro v7 w7 hown7 hgrow7 hb7; have hDE : (D ++ E).length ≤ 10 := (by rw [List.length_append]; omega); generalize D ++ E = DE at hown7 hDE; have hF := (row_of_owns hown7).1; obtain ⟨a7, c7, rfl⟩ := row_slice hF; clear hgrow7)
  have b47 : Below w4.heap.size w4 w7 := (bb.trans (bb6.mono hb4)).trans hb7
  have hsz7 := b47.size
  have up : ∀ {v : Value} {z : List Int}, Row .i64 w4.heap.size w4 v z → Row .i64 w7.heap.size w7 v z := fun h => (RowP.below b47 h).mono (fun b hb => Nat.lt_of_lt_of_le hb hsz7)
  have hRA := rows4 (e := 22) (up hA) (up hB) (up hC) hF
  have b8 : Below w.heap.size w w7 := b1.trans (hb7.mono hbs4)
  have b9 := laidB b8 (.cells #[.slice b2 A.length c2, .slice b3 B.length c3, .slice b4 C.length c4, .slice a7 DE.length c7] 22)
  generalize hW : w7.alloc (.cells #[.slice b2 A.length c2, .slice b3 B.length c3, .slice b4 C.length c4, .slice a7 DE.length c7] 22) = W at *
  have hzl : ∀ (k : Nat), k < 4 → ∃ z, ([A, B, C, DE] : List (List Int))[k]? = some z ∧ z.length ≤ 100 := by
    intro k hk
    match k, hk with
    | 0, _ => exact ⟨A, rfl, by omega⟩
    | 1, _ => exact ⟨B, rfl, by omega⟩
    | 2, _ => exact ⟨C, rfl, by omega⟩
    | 3, _ => exact ⟨DE, rfl, by omega⟩
  generalize hZ : ([A, B, C, DE] : List (List Int)) = zss at *
  have HZL := Lib.hid hzl
  clear hW hZ hzl up hA hB hC hF hown7 hb7 b47 hsz7 bb bb6
  go_loopw [8] (fun i wr => ∃ k : Nat, k ≤ 4 ∧ i = .int .i64 (k : Int) ∧ Below w.heap.size w wr ∧ RowsAt wr w7.heap.size zss) (fun i _ => 4 - (intOf i).toNat)
  case atStart => exact ⟨0, by omega, rfl, b9, hRA⟩
  case round =>
    obtain ⟨k, hk, rfl, hB, hR⟩ := hrel
    by_cases hlt : k < 4
    · obtain ⟨z, hz, hzl⟩ := HZL.out k hlt
      obtain ⟨az, cz, cc, hrz⟩ := hR k z hz
      have hi4 : (k : Int) < 4 := by omega
      have hi0 : (0 : Int) ≤ (k : Int) := by omega
      clear hz
      go_wp2_with fail
      refine (encRow (encode_any az cz z a2 wr hrz (by omega))).mono ?_
      rintro e v1 ⟨e1, f1, rfl, hM1, bb1⟩
      have cc1 := cellB cc bb1
      have hrz1 := rowB hrz bb1
      have hR1 := rowsAt_keep hR bb1
      have hB1 := stepB hB bb1
      clear cc hrz hR hB bb1
      dsimp only
      go_wp2_with fail
      refine (encRow (refEncode_any az cz z a2 v1 hrz1 (by omega))).mono ?_
      rintro e v2 ⟨e2, f2, rfl, hM2, bb1⟩
      have cc2 := cellB cc1 bb1
      have hrz2 := rowB hrz1 bb1
      have hR2 := rowsAt_keep hR1 bb1
      have hB2 := stepB hB1 bb1
      have hM1 := rowB hM1 bb1
      have hvl := valid_any az cz z a2 v2 hrz2
      clear cc1 hrz1 hR1 hB1 bb1
      generalize validI z a2 = Cv at *
      have HVL := Lib.hid hvl
      clear hvl
      dsimp only
      go_wp2_with fail
      refine HVL.out.mono ?_
      rintro e v3 ⟨rfl, bb1⟩
      have hR3 := rowsAt_keep hR2 bb1
      have hB3 := stepB hB2 bb1
      have hM1 := rowB hM1 bb1
      have hM2 := rowB hM2 bb1
      clear cc2 hrz2 hR2 hB2 bb1
      dsimp only
      go_wp2_with fail
      refine (sameBytes_any _ _ _ _ _ _ _ _ _ hM1 hM2).mono ?_
      rintro e v4 ⟨rfl, bb1⟩
      have hR4 := rowsAt_keep hR3 bb1
      have hB4 := stepB hB3 bb1
      rw [show (encM a2 z == encM a2 z) = true from by simp]
      dsimp only
      go_wp2_with fail
      go_roundw
      case rel => exact ⟨k + 1, by omega, by go_num, hB4, hR4⟩
      case measure => simp [intOf]; omega
    · have hlv := lives4_any wr
      have HLV := Lib.hid hlv
      clear hlv
      go_wp2_with fail
      refine HLV.out.mono ?_
      rintro e v1 ⟨rfl, bb1⟩
      have hB3 := stepB hB bb1
      dsimp only
      go_wp2_with fail
      go_ret
      exact ⟨rfl, hB3⟩
end Go.Proofs.Ytnfelphemdchpaa
