/- WireOwn: the walk. -/
import Derived.Test.YtfgkclhhhoelgaaWireLives
import Derived.Test.YtfgkclhhhoelgaaWireMath4
import Derived.Test.YtfgkclhhhoelgaaWireR3
namespace Go.Proofs.Ytfgkclhhhoelgaa
open Go.RowKit Go.Shelf
set_option linter.unusedVariables false

theorem grow_refl (row : Option Nat) (W : World) : W.grownBy W row := ⟨rfl, rfl, rfl, Nat.le_refl _, fun _ _ _ => rfl⟩
theorem grow_set {row : Option Nat} {W X : World} {g : Nat} (h : W.grownBy X row) (hr : row = some g) (k : Nat) (v : Value) : W.grownBy (X.setCell ⟨g, k, none⟩ v) row := by
  subst hr
  exact only_trans h (only_set X g k v)
theorem grow_below {row : Option Nat} {W X : World} {n : Nat} (h : W.grownBy X row) (hn : ∀ g, row = some g → n ≤ g) (hs : n ≤ W.heap.size) : Below n W X :=
  (Below.refl n W).grown h hs hn
theorem src_cells {W : World} {base g n cap : Nat} {e : TypeId} {zs : List Int} (ho : W.ownsRow base e 1 (.slice (some ⟨g, 0, none⟩) n cap) n (zs.map (Value.int .u8))) (o : Obj) :
    ∀ j u, (zs.map (Value.int .u8))[j]? = some u → (W.alloc o).cell? (Addr.add ⟨g, 0, none⟩ j) = some u := by
  intro j u hu
  have hn : zs.length = n := by simpa using ho.1
  by_cases hj : j < zs.length
  · have h1 := owns_cell ho j (by omega)
    have h2 := cellB h1 (laidB (Below.refl W.heap.size W) o)
    simp [hj] at hu h2
    rw [← hu, addr_add, Nat.zero_add]
    exact h2
  · simp [hj] at hu
theorem enc_rng (B L : List Int) (hB : ∀ n ∈ B, (Lit.int .u8 n).wf = true) : ∀ x ∈ vint B.length ++ B ++ sints L, 0 ≤ x ∧ x < 256 := by
  intro x hx
  unfold sints at hx
  simp only [List.mem_append, List.mem_flatten, List.mem_map] at hx
  rcases hx with (h | h) | h | ⟨l, ⟨n, _, rfl⟩, h⟩
  · exact vintF_rng 10 _ x h
  · have := u8_rng1 (hB x h); omega
  · exact vintF_rng 10 _ x h
  · exact vintF_rng 10 _ x h
def WrB (W : World) (base b m : Nat) (zs : List Int) : Prop :=
  ∃ v, Boxed W b 32 v ∧ W.ownsRow base 5 1 v zs.length (zs.map (Value.int .u8)) ∧ b < m ∧ ∀ g, v.ownBlock = some g → g < m
theorem Wr.bound {W : World} {base b : Nat} {zs : List Int} (h : Wr W base b zs) : WrB W base b W.heap.size zs := by
  obtain ⟨v, hv, ho⟩ := h
  exact ⟨v, hv, ho, hv.lt, fun g e => (ho.lt g e).2⟩
theorem WrB.wr {W : World} {base b m : Nat} {zs : List Int} (h : WrB W base b m zs) : Wr W base b zs := by
  obtain ⟨v, hv, ho, _⟩ := h
  exact ⟨v, hv, ho⟩
theorem WrB.keep {W X : World} {base b m n : Nat} {zs : List Int} (h : WrB W base b m zs) (hb : Below n W X) (hn : W.heap.size ≤ n) : WrB X base b m zs := by
  obtain ⟨v, hv, ho, h1, h2⟩ := h
  exact ⟨v, (hb.block b (Nat.lt_of_lt_of_le hv.lt hn)).trans hv, owns_kept_below ho (hb.mono hn), h1, h2⟩
theorem WrB.other {W X : World} {row : Option Nat} {base b m : Nat} {zs : List Int} (h : WrB W base b m zs) (hbb : base ≤ b) (hg : W.grownBy X row) (hr : ∀ g, row = some g → g < base ∨ m ≤ g) : WrB X base b m zs := by
  obtain ⟨v, hv, ho, h1, h2⟩ := h
  refine ⟨v, (hg.block b hv.lt (fun e => ?_)).trans hv, ho.kept hg ?_, h1, h2⟩
  · have := hr b e.symm; omega
  · cases e : row with
    | none => cases e2 : v.ownBlock with
      | none => exact .inl rfl
      | some k => exact .inr (by simp)
    | some g =>
      refine .inr fun e2 => ?_
      have h3 := (ho.lt g e2).1
      have h4 := h2 g e2
      have h5 := hr g e
      omega
theorem owns_other {W X : World} {row : Option Nat} {base : Nat} {e : TypeId} {size : Nat} {v : Value} {n : Nat} {xs : List Value} (ho : W.ownsRow base e size v n xs) (hg : W.grownBy X row) (hr : ∀ g, row = some g → g < base ∨ W.heap.size ≤ g ∨ v.ownBlock ≠ some g) : X.ownsRow base e size v n xs := by
  refine ho.kept hg ?_
  cases e : row with
  | none => cases e2 : v.ownBlock with
    | none => exact .inl rfl
    | some k => exact .inr (by simp)
  | some g =>
    refine .inr fun e2 => ?_
    have h1 := ho.lt g e2
    rcases hr g e with h2 | h2 | h2
    · omega
    · omega
    · exact h2 e2

set_option maxHeartbeats 4000000 in
theorem wireOwn_walk (a0 : Option Addr) (len0 cap0 : Nat) (z0 : List Int) (a1 : Option Addr) (len1 cap1 : Nat) (z1 : List Int) (w : World) (w0 : IsRow .u8 w a0 len0 cap0 z0) (w1 : IsRow .i64 w a1 len1 cap1 z1) :
    Calls Try.prog 9 #[.slice a0 len0 cap0, .slice a1 len1 cap1] w fun e w' => e = .returned (.bool true) ∧ Below w.heap.size w w' := by
  obtain ⟨hr, hw⟩ := w0.row
  obtain ⟨hr1, hw1⟩ := w1.row
  obtain ⟨i0, hi, hz0, hz1, hz2⟩ := info_parts info_byte
  clear w0 w1
  have Hr1 := Lib.hid hr1
  go_enter Try.func9, Try.ntmps9
  go_wp2_with fail
  refine (few_int _ _ 30 _ hr (by decide) (by decide)).mono ?_
  rintro e W1 ⟨ao, co, rfl, hoB, hrB, hb⟩
  have b1 := hb; clear hb
  have hlB : ((z0.take len0).take (30 : Int).toNat).length ≤ 30 := by rw [List.length_take]; exact Nat.min_le_left _ _
  have hwB := take_wf hw (30 : Int).toNat
  generalize (z0.take len0).take (30 : Int).toNat = B at hoB hrB hlB hwB ⊢
  clear hr hw
  have LB := Lib.hid (show ∀ g, (Value.slice ao B.length co).ownBlock = some g → g < W1.heap.size from fun g e => (hoB.lt g e).2)
  dsimp only
  go_wp2_with fail
  refine (ints_int _ _ 10 _ (rowB hr1 b1) (by decide) (by decide)).mono ?_
  rintro e W2 ⟨an, cn, rfl, hoL, hrL, hb⟩
  have hlL : ((z1.take len1).take (10 : Int).toNat).length ≤ 10 := by rw [List.length_take]; exact Nat.min_le_left _ _
  have hwL := take_wf hw1 (10 : Int).toNat
  generalize hLL : (z1.take len1).take (10 : Int).toNat = L at hoL hrL hlL hwL ⊢
  have HLL := Lib.hid hLL; clear hLL hr1 hw1
  have LL := Lib.hid (show ∀ g, (Value.slice an L.length cn).ownBlock = some g → g < W2.heap.size from fun g e => (hoL.lt g e).2)
  have hs1 := hb.size
  have hoB2 := owns_kept_below hoB hb
  have hrB2 := rowB hrB hb
  have b2 := stepB b1 hb; clear hb hrB hoB
  dsimp only
  go_wp2_with fail
  have c2 := laidB (Below.refl W2.heap.size W2) (.cells #[.slice none 0 0] 32)
  refine (wraw_any W2.heap.size W2.heap.size [] ao co B _ (Wr.new W2) (Nat.le_refl _) (by simp) (RowP.below c2 hrB2) (by omega)).mono ?_
  rintro e W3 ⟨rfl, hw3, hb⟩
  replace c2 := c2.trans hb; clear hb
  rw [List.nil_append] at hw3
  dsimp only
  go_wp2_with fail
  have hvl := vint_length B.length
  have hY : (vint B.length ++ B).length ≤ 41 := by rw [List.length_append]; omega
  refine (wints_any W2.heap.size W2.heap.size _ an cn L _ hw3 (Nat.le_refl _) (by omega) (RowP.below c2 hrL) (by omega) hwL).mono ?_
  rintro e W4 ⟨rfl, hw4, hb⟩
  replace c2 := c2.trans hb; clear hb hw3
  have hvl2 := vint_length L.length
  have hsl := sints_le L
  have hZl : (vint B.length ++ B ++ sints L).length ≤ 200 := by unfold sints; rw [List.length_append, List.length_append, List.length_append]; omega
  generalize hZ : vint B.length ++ B ++ sints L = Z at hw4 hZl
  have HZ := Lib.hid hZ; clear hZ hvl hvl2 hsl hY
  have hoB4 := owns_kept_below hoB2 c2
  have hoL4 := owns_kept_below hoL c2
  clear hrB2 hrL hoB2 hoL
  dsimp only
  go_wp2_with fail
  refine (done_any W2.heap.size W2.heap.size Z _ hw4 (by omega)).mono ?_
  rintro e W5 ⟨af, cf, rfl, hoF, hrF, hb⟩
  have hw5 := hw4.bound.keep hb (Nat.le_refl _)
  have hoB5 := owns_kept_below hoB4 hb
  have hoL5 := owns_kept_below hoL4 hb
  have hs4 := hb.size
  have hs2 := c2.size
  replace c2 := c2.trans (hb.mono c2.size); clear hb hw4 hoB4 hoL4
  dsimp only
  have hcF : ∀ (o : Obj) j u, (Z.map (Value.int .u8))[j]? = some u → ∀ p, af = some p → (W5.alloc o).cell? (p.add j) = some u := by
    intro o j u hu p hp
    by_cases hj : j < Z.length
    · obtain ⟨g, hg, _, _⟩ := owns_at hoF (by omega)
      rw [hp] at hg
      simp only [Option.some.injEq] at hg
      subst hg hp
      have h1 := owns_cell hoF j hj
      have h2 := cellB h1 (laidB (Below.refl W5.heap.size W5) o)
      simp [hj] at hu h2
      rw [← hu, addr_add, Nat.zero_add]
      exact h2
    · simp [hj] at hu
  have HF := Lib.hid hcF; clear hcF
  have hZp : 0 < Z.length := by
    have := HZ.out
    rw [← this, List.length_append, List.length_append]
    have := (vint_length B.length).1
    omega
  obtain ⟨gf, rfl, hgf, _⟩ := owns_at hoF hZp
  have hgf5 : gf < W5.heap.size := (hoF.lt gf rfl).2
  go_wp2_with (at_builtin; refine wpList_append_own _ rfl _ _ 24 rfl W5.heap.size 5 i0 (.int .u8 0) 1 1 Try.underlying24 hi hz0 hz1 hz2 rfl (by decide) _ _ _ rfl (World.ownsRow_made W5 #[] 0 (Nat.le_refl _) (Nat.zero_le _) rfl) ⟨gf, 0, none⟩ Z.length cf (Z.map (Value.int .u8)) rfl (by simp) (fun j u hu => HF.out _ j u hu _ rfl) (ints_one _ _) (by unfold maxLen; omega) (by omega) (by simp) ?_; intro v' w6 hoA hgA _; obtain ⟨aa, la, ca, rfl⟩ := owns_slice hoA)
  have hA5 : Below W5.heap.size W5 w6 := (laidB (Below.refl W5.heap.size W5) _).grown hgA (by simp) (fun k e => own_base (World.ownsRow_made (base := W5.heap.size) (e := 5) (size := 1) W5 #[] 0 (Nat.le_refl _) (Nat.zero_le _) rfl) e)
  clear HF hgA
  rw [Nat.zero_add, List.nil_append] at hoA
  have hw6 := hw5.keep hA5 (Nat.le_refl _)
  have hoB6 := owns_kept_below hoB5 hA5
  have hoL6 := owns_kept_below hoL5 hA5
  have hoF6 := owns_kept_below hoF hA5
  have c6 := c2.trans (hA5.mono c2.size)
  have hs5 := c2.size
  clear hw5 hoB5 hoL5 hoF hrF hA5
  obtain ⟨ga, rfl, hga, rfl⟩ := owns_at hoA hZp
  have hga6 : ga < w6.heap.size := (hoA.lt ga rfl).2
  go_loopw [10] (fun i wr => ∃ (k : Nat) (zs : List Int), k ≤ B.length ∧ i = .int .i64 (k : Int) ∧ wr.ownsRow w.heap.size 5 1 (.slice ao B.length co) B.length (zs.map (Value.int .u8)) ∧ w6.grownBy wr (Value.slice ao B.length co).ownBlock) (fun i _ => B.length - (intOf i).toNat)
  case atStart => exact ⟨0, B, Nat.zero_le _, rfl, hoB6, grow_refl _ _⟩
  case round =>
    obtain ⟨k, zs, hk, rfl, hown, hG⟩ := hrel
    by_cases hlt : k < B.length
    · obtain ⟨g, rfl, hg, _⟩ := owns_at hown (by omega)
      have hcell := owns_cell hown k hlt
      have hfz := hown.frozenAt k
      have hset := owns_set hown k 7
      have HS := Lib.hid hset; clear hset
      go_wp2_with fail
      go_roundw
      case rel => exact ⟨k + 1, zs.set k 7, by omega, by go_num, HS.out, grow_set hG rfl k _⟩
      case measure => simp [intOf]; omega
    · have hoL7 := owns_other hoL6 hG (fun g e => .inl (LB.out g e))
      have hoF7 := owns_other hoF6 hG (fun g e => .inl (by have := LB.out g e; omega))
      have hoA7 := owns_other hoA hG (fun g e => .inl (by have := LB.out g e; omega))
      have hw7 := hw6.other (Nat.le_refl _) hG (fun g e => .inl (by have := LB.out g e; omega))
      have c7 := stepB b2 c6
      have d7 := c7.trans (grow_below hG (fun g e => (hoB6.lt g e).1) (c7.size))
      have hs7 := hG.size
      clear hoB6 hoL6 hoF6 hoA hw6 hown hG hk
      obtain ⟨w7, e7⟩ : ∃ X, X = wr := ⟨wr, rfl⟩
      subst e7
      go_wp2_with fail
      go_loopw [11] (fun i ws => ∃ (k : Nat) (zs : List Int), k ≤ L.length ∧ i = .int .i64 (k : Int) ∧ ws.ownsRow W1.heap.size 3 1 (.slice an L.length cn) L.length (zs.map (Value.int .i64)) ∧ w7.grownBy ws (Value.slice an L.length cn).ownBlock) (fun i _ => L.length - (intOf i).toNat)
      case atStart => exact ⟨0, L, Nat.zero_le _, rfl, hoL7, grow_refl _ _⟩
      case round =>
        obtain ⟨k2, zs2, hk2, rfl, hown, hG⟩ := hrel
        by_cases hlt2 : k2 < L.length
        · obtain ⟨g, rfl, hg, _⟩ := owns_at hown (by omega)
          have hcell := owns_cell hown k2 hlt2
          have hfz := hown.frozenAt k2
          have hset := owns_set hown k2 7
          have HS := Lib.hid hset; clear hset
          go_wp2_with fail
          go_roundw
          case rel => exact ⟨k2 + 1, zs2.set k2 7, by omega, by go_num, HS.out, grow_set hG rfl k2 _⟩
          case measure => simp [intOf]; omega
        · have hoF8 := owns_other hoF7 hG (fun g e => .inl (by have := LL.out g e; omega))
          have hoA8 := owns_other hoA7 hG (fun g e => .inl (by have := LL.out g e; omega))
          have hw8 := hw7.other (Nat.le_refl _) hG (fun g e => .inl (by have := LL.out g e; omega))
          have d8 := d7.trans ((grow_below hG (fun g e => (hoL7.lt g e).1) (by have := c2.size; have := c6.size; omega)).mono b1.size)
          have hs8 := hG.size
          clear hoL7 hoF7 hoA7 hw7 hown hG hk2
          obtain ⟨w8, e8⟩ : ∃ X, X = wr := ⟨wr, rfl⟩
          subst e8
          go_wp2_with fail
          go_loopw [12] (fun i wt => ∃ (k : Nat) (zs : List Int), k ≤ Z.length ∧ i = .int .i64 (k : Int) ∧ wt.ownsRow W4.heap.size 5 1 (.slice (some ⟨gf, 0, none⟩) Z.length cf) Z.length (zs.map (Value.int .u8)) ∧ Only gf w8 wt) (fun i _ => Z.length - (intOf i).toNat)
          case atStart => exact ⟨0, Z, Nat.zero_le _, rfl, hoF8, only_refl _ _⟩
          case round =>
            obtain ⟨k3, zs3, hk3, rfl, hown, hG⟩ := hrel
            by_cases hlt3 : k3 < Z.length
            · have hcell := owns_cell hown k3 hlt3
              have hfz := hown.frozenAt k3
              have hset := owns_set hown k3 9
              have HS := Lib.hid hset; clear hset
              go_wp2_with fail
              go_roundw
              case rel => exact ⟨k3 + 1, zs3.set k3 9, by omega, by go_num, HS.out, only_trans hG (only_set _ _ _ _)⟩
              case measure => simp [intOf]; omega
            · have hoA9 := owns_other hoA8 hG (fun g e => .inl (by have h5 : gf = g := Option.some.inj e; omega))
              have d9 := d8.trans (only_below hG (by have := b2.size; omega) (by omega))
              have hs9 := hG.size
              have hw9 := (hw8.other (Nat.le_refl _) hG (fun g e => .inr (by have h5 : gf = g := Option.some.inj e; omega))).wr
              clear hoF8 hoA8 hw8 hown hG hk3
              obtain ⟨w9, e9⟩ : ∃ X, X = wr := ⟨wr, rfl⟩
              subst e9
              go_wp2_with fail
              refine (done_any W2.heap.size W2.heap.size Z _ hw9 (by omega)).mono ?_
              rintro e W10 ⟨a10, c10, rfl, hoD, hrD, hb⟩
              have hoA10 := owns_kept_below hoA9 hb
              have d10 := d9.trans (hb.mono d9.size)
              have hs10 := hb.size
              clear hw9 hb hoA9
              dsimp only
              go_wp2_with fail
              refine (sameBytes_any a10 _ _ Z _ _ _ Z _ hrD (row_of_owns hoA10).1).mono ?_
              rintro e w11 ⟨rfl, hb⟩
              rw [show (Z == Z) = true from beq_self_eq_true _]
              have hoA11 := owns_kept_below hoA10 hb
              have d11 := d10.trans (hb.mono d10.size)
              clear hoA10 hrD hoD hb
              dsimp only
              go_wp2_with (at_builtin; refine wpList_append_own _ rfl _ _ 24 rfl w11.heap.size 5 i0 (.int .u8 0) 1 1 Try.underlying24 hi hz0 hz1 hz2 rfl (by decide) _ _ _ rfl (World.ownsRow_made w11 #[] 0 (Nat.le_refl _) (Nat.zero_le _) rfl) ⟨ga, 0, none⟩ Z.length ca (Z.map (Value.int .u8)) rfl (by simp) (src_cells hoA11 _) (ints_one _ _) (by unfold maxLen; omega) (by omega) (by simp) ?_; intro v' w12 hoT hgT _; obtain ⟨at', lt', ct, rfl⟩ := owns_slice hoT)
              have hT11 : Below w11.heap.size w11 w12 := (laidB (Below.refl w11.heap.size w11) _).grown hgT (by simp) (fun k e => own_base (World.ownsRow_made (base := w11.heap.size) (e := 5) (size := 1) w11 #[] 0 (Nat.le_refl _) (Nat.zero_le _) rfl) e)
              clear hgT hoA11
              rw [Nat.zero_add, List.nil_append] at hoT
              obtain ⟨gd, rfl, hgd, rfl⟩ := owns_at hoT hZp
              have hgd12 : gd < w12.heap.size := (hoT.lt gd rfl).2
              have d12 := d11.trans (hT11.mono d11.size)
              have hs11 := d11.size
              refine (read_any _ Z _ (row_of_owns hoT).1 (by omega)).mono ?_
              rintro e W13 ⟨r, dr, rfl, hr1, hr2, hR, hb⟩
              have hoT13 := owns_kept_below hoT hb
              have d13 := d12.trans (hb.mono d12.size)
              clear hoT hT11 hb
              dsimp only
              go_wp2_with fail
              go_loopw [15] (fun i wt => ∃ (k : Nat) (zs : List Int), k ≤ Z.length ∧ i = .int .i64 (k : Int) ∧ wt.ownsRow w11.heap.size 5 1 (.slice (some ⟨gd, 0, none⟩) Z.length ct) Z.length (zs.map (Value.int .u8)) ∧ Only gd W13 wt) (fun i _ => Z.length - (intOf i).toNat)
              case atStart => exact ⟨0, Z, Nat.zero_le _, rfl, hoT13, only_refl _ _⟩
              case round =>
                obtain ⟨k4, zs4, hk4, rfl, hown, hG⟩ := hrel
                by_cases hlt4 : k4 < Z.length
                · have hcell := owns_cell hown k4 hlt4
                  have hfz := hown.frozenAt k4
                  have hset := owns_set hown k4 255
                  have HS := Lib.hid hset; clear hset
                  go_wp2_with fail
                  go_roundw
                  case rel => exact ⟨k4 + 1, zs4.set k4 255, by omega, by go_num, HS.out, only_trans hG (only_set _ _ _ _)⟩
                  case measure => simp [intOf]; omega
                · have hR14 := hR.keep hG (by omega) (by omega)
                  have d14 := d13.trans (only_below hG (by omega) (by have := d13.size; have := hR.lt; omega))
                  have HRng : Hid (∀ x ∈ Z, 0 ≤ x ∧ x < 256) := Lib.hid (by rw [← HZ.out]; exact enc_rng B L hwB)
                  have HE1 : Hid (rRaw Z 0 = (B, sints L, 0)) := Lib.hid (by rw [← HZ.out]; exact rRaw_raw B (sints L) (by omega))
                  clear hoT13 hR hown hG hk4
                  obtain ⟨w14, e14⟩ : ∃ X, X = wr := ⟨wr, rfl⟩
                  subst e14
                  go_wp2_with fail
                  have hdr14 := (hR14.dlt).resolve_left (fun e => by rw [e] at hZp; simp at hZp)
                  have hr14 := hR14.lt
                  refine (raw_any r dr Z 0 _ hR14 HRng.out (by omega)).mono ?_
                  rw [HE1.out]
                  rintro e w15 ⟨v, rfl, hoX, hR15, ho⟩
                  dsimp only at hoX hR15
                  have d15 := d14.trans (only_below ho (by omega) hr14)
                  have hs15 := ho.size
                  obtain ⟨ax, lx, cx, rfl⟩ := owns_slice hoX
                  have hlx := (row_of_owns hoX).1.len
                  subst hlx
                  clear hR14 ho
                  dsimp only
                  go_wp2_with fail
                  go_loopw [17] (fun i wt => ∃ (k : Nat) (zs : List Int), k ≤ B.length ∧ i = .int .i64 (k : Int) ∧ wt.ownsRow w14.heap.size 5 1 (.slice ax B.length cx) B.length (zs.map (Value.int .u8)) ∧ w15.grownBy wt (Value.slice ax B.length cx).ownBlock) (fun i _ => B.length - (intOf i).toNat)
                  case atStart => exact ⟨0, B, Nat.zero_le _, rfl, hoX, grow_refl _ _⟩
                  case round =>
                    obtain ⟨k5, zs5, hk5, rfl, hown, hG⟩ := hrel
                    by_cases hlt5 : k5 < B.length
                    · obtain ⟨g, rfl, hg, _⟩ := owns_at hown (by omega)
                      have hcell := owns_cell hown k5 hlt5
                      have hfz := hown.frozenAt k5
                      have hset := owns_set hown k5 1
                      have HS := Lib.hid hset; clear hset
                      go_wp2_with fail
                      go_roundw
                      case rel => exact ⟨k5 + 1, zs5.set k5 1, by omega, by go_num, HS.out, grow_set hG rfl k5 _⟩
                      case measure => simp [intOf]; omega
                    · have hB16 := grow_below hG (fun g e => (hoX.lt g e).1) hs15
                      have hR16 := hR15.below hr14 (.inr hdr14) hB16
                      have d16 := d15.trans (hB16.mono d14.size)
                      clear hoX hR15 hown hG hk5 hB16
                      obtain ⟨w16, e16⟩ : ∃ X, X = wr := ⟨wr, rfl⟩
                      subst e16
                      have HRs : Hid (∀ x ∈ sints L, 0 ≤ x ∧ x < 256) := Lib.hid (fun x hx => HRng.out x (by rw [← HZ.out]; exact List.mem_append_right _ hx))
                      have HE2 : Hid (rInts (sints L) 0 = (L, [], 0)) := Lib.hid (by
                        have h := rInts_sints L [] (by omega) (fun n hn => i64_rng (hwL n hn))
                        rwa [List.append_nil] at h)
                      have HSl : Hid ((sints L).length ≤ 10000000) := Lib.hid (by
                        have h1 := HZ.out
                        have h2 : (vint B.length ++ B ++ sints L).length ≤ 200 := by rw [h1]; exact hZl
                        rw [List.length_append] at h2
                        omega)
                      go_wp2_with fail
                      refine (rints_any r dr (sints L) 0 _ hR16 HRs.out HSl.out).mono ?_
                      rw [HE2.out]
                      rintro e w17 ⟨v, rfl, hoY, hR17, ho⟩
                      dsimp only at hoY hR17
                      have d17 := d16.trans (only_below ho (by omega) hR16.lt)
                      obtain ⟨ay, ly, cy, rfl⟩ := owns_slice hoY
                      clear hR16 ho
                      dsimp only
                      go_wp2_with fail
                      refine (ints_int _ _ 10 _ (rowB Hr1.out d17) (by decide) (by decide)).mono ?_
                      rw [HLL.out]
                      rintro e w18 ⟨al, cl, rfl, _, hrl, hb⟩
                      have hrY := rowB (row_of_owns hoY).1 hb
                      have hR18 := hR17.below hR17.lt hR17.dlt hb
                      have d18 := d17.trans (hb.mono d17.size)
                      clear hR17 hoY hb
                      dsimp only
                      go_wp2_with fail
                      refine (sameInts_any ay ly cy L al _ cl L _ hrY hrl).mono ?_
                      rintro e w19 ⟨rfl, hb⟩
                      rw [show (L == L) = true from beq_self_eq_true _]
                      have hR19 := hR18.below hR18.lt hR18.dlt hb
                      have d19 := d18.trans (hb.mono d18.size)
                      clear hR18 hb hrY hrl
                      dsimp only
                      go_wp2_with fail
                      refine (end_any r dr [] 0 _ hR19).mono ?_
                      rintro e w20 ⟨rfl, rfl⟩
                      rw [show rEnd [] 0 = 0 from by decide]
                      dsimp only
                      go_wp2_with fail
                      refine (lives2_any _).mono ?_
                      rintro e w21 ⟨rfl, hb⟩
                      dsimp only
                      go_wp2_with fail
                      go_ret
                      exact ⟨rfl, d19.trans (hb.mono d19.size)⟩
end Go.Proofs.Ytfgkclhhhoelgaa
