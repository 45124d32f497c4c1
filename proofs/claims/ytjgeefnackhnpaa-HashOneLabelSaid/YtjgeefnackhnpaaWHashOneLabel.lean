/- HashOneLabel: the walk. -/
import Derived.Test.YtjgeefnackhnpaaRefSum
import Derived.Test.YtjgeefnackhnpaaRows3
import Derived.Test.YtjgeefnackhnpaaWHashOneGroup
import Derived.Deep.RegionWith
import Derived.Laws.BitsAllLaws
namespace Go.Proofs.Ytjgeefnackhnpaa
open Go.RowKit Go.Shelf
set_option linter.unusedVariables false

/-- The string of bytes that are numbers. -/
def strOf (zs : List Int) : ByteArray := ⟨(zs.map fun x => UInt8.ofNat x.toNat).toArray⟩
theorem bytesI_strOf (zs : List Int) (h : AreBytes zs) : bytesI (strOf zs) = zs := by
  unfold bytesI strOf
  apply List.ext_getElem
  · simp
  · intro i h1 h2
    have := h i
    rw [List.getElem?_eq_getElem h2, Option.getD_some] at this
    simp
    omega
theorem strOf_size (zs : List Int) : (strOf zs).size = zs.length := by
  show (strOf zs).data.size = _
  simp [strOf]
theorem run_string_of (w : World) (b off cap : Nat) (zs : List Int) (h : AreBytes zs) (hc : ∀ j, j < zs.length → w.cell? ⟨b, off + j, none⟩ = some (.int .u8 (zs[j]?.getD 0))) :
    (convert 30 9 (.slice (some ⟨b, off, none⟩) zs.length cap)).run Try.prog w = .ok (.string (strOf zs)) w := by
  have e := run_convert_bytes_back (P := Try.prog) w 30 9 5 ⟨b, off, none⟩ cap (zs.map fun x => UInt8.ofNat x.toNat) Try.underlying30 Try.underlying5 Try.underlying9 (fun j hj => by
    have hj2 : j < zs.length := by simpa using hj
    rw [addr_add, hc j hj2]
    have := h j
    rw [List.getElem?_eq_getElem hj2, Option.getD_some] at this ⊢
    simp
    omega)
  rw [List.length_map] at e
  exact e

theorem xor8_eq (x a : Int) (h1 : 0 ≤ x) (h2 : x < 256) (h3 : 0 ≤ a) (h4 : a ≤ 255) : bits .xor .u8 x a = x ↔ a = 0 := by
  rw [u8_xor x a h1 h2 h3 (by omega)]
  obtain ⟨n, rfl⟩ := Int.eq_ofNat_of_zero_le h1
  obtain ⟨m, rfl⟩ := Int.eq_ofNat_of_zero_le h3
  simp only [Int.toNat_natCast]
  constructor
  · intro h
    have e : n ^^^ m = n := by omega
    have e2 : n ^^^ (n ^^^ m) = n ^^^ n := by rw [e]
    rw [← Nat.xor_assoc, Nat.xor_self, Nat.zero_xor] at e2
    omega
  · intro h
    have : m = 0 := by omega
    subst this
    simp
/-- The string of a slice that holds bytes. -/
theorem string_at {w : World} {b off n cap : Nat} {zs : List Int} (hn : n = zs.length) (hr : Row .u8 w.heap.size w (.slice (some ⟨b, off, none⟩) n cap) zs) (h : AreBytes zs) (h0 : 0 < zs.length) :
    (convert 30 9 (.slice (some ⟨b, off, none⟩) n cap)).run Try.prog w = .ok (.string (strOf zs)) w := by
  subst hn
  obtain ⟨b', off', e, _, hc⟩ := hr.at h0
  simp only [Option.some.injEq, Addr.mk.injEq, and_true] at e
  obtain ⟨rfl, rfl⟩ := e
  exact run_string_of w b off cap zs h hc
theorem row_bytes (w : World) (s : ByteArray) (gc : Nat) (h1 : s.size ≤ gc) (h2 : gc ≤ maxLen) (f : Nat × Nat) : Row .u8 (w.heap.size + 1) (w.alloc (.cells (bytesRow s gc) 5 f)) (.slice (some ⟨w.heap.size, 0, none⟩) s.size gc) (bytesI s) := by
  have hl := bytesI_length s
  refine .inr ⟨w.heap.size, 0, gc, by rw [hl], by rw [hl]; exact h1, h2, Nat.lt_succ_self _, fun j hj => ?_⟩
  rw [hl] at hj
  rw [Nat.zero_add]
  exact (cell_alloc_marked w (bytesRow s gc) 5 f j).trans (bytesRow_get s gc j hj)

set_option maxRecDepth 100000 in
set_option maxHeartbeats 4000000 in
theorem hashOneLabel_walk (a0 : ByteArray) (a1 : Option Addr) (len1 cap1 : Nat) (z1 : List Int) (a2 : Int) (a3 : Int) (w : World) (w0 : a0.size ≤ maxLen) (w1 : IsRow .i64 w a1 len1 cap1 z1) (h2 : (Lit.int .i64 a2).wf = true) (h3 : (Lit.int .u8 a3).wf = true) :
    Calls Try.prog 7 #[.string a0, .slice a1 len1 cap1, .int .i64 a2, .int .u8 a3] w fun e w' => e = .returned (.bool true) ∧ Below w.heap.size w w' := by
  obtain ⟨hr, hw⟩ := w1.row
  have hcv := fun (w : World) (s : ByteArray) => run_bytes_of_string (P := Try.prog) w 9 30 5 s Try.underlying9 Try.underlying30 Try.underlying5
  clear w1 hw
  go_enter Try.func7, Try.ntmps7
  go_wp2_with fail
  refine (ints_int _ _ 6 _ hr (by decide) (by decide)).mono ?_
  rintro e W1 ⟨a, cap, rfl, _, hra, b0⟩
  dsimp only
  have hla : ((z1.take len1).take (6 : Int).toNat).length ≤ 6 := by rw [List.length_take]; exact Nat.min_le_left _ _
  generalize (z1.take len1).take (6 : Int).toNat = ws at hra hla ⊢
  clear hr
  go_wp2_with fail
  refine (short_int a0 29 _ w0 (by decide) (by decide)).mono ?_
  rintro e W2 ⟨rfl, rfl⟩
  dsimp only
  have hs := short_size a0 29 (by decide)
  generalize a0.extract 0 (29 : Int).toNat = s at hs
  have hs1 : s.size ≤ 29 := by omega
  go_wp2_with fail
  clear hcv
  have hsz : (s ++ ⟨#[120]⟩ : ByteArray).size = s.size + 1 := by rw [ByteArray.size_append]; rfl
  have hge : s.size + 1 ≤ grownCap W2 (s.size + 1) 0 5 := grownCap_ge _ _ _ _
  have hgm : grownCap W2 (s.size + 1) 0 5 ≤ maxLen := grownCap_le_maxLen _ _ _ _ (by unfold maxLen; omega)
  generalize grownCap W2 (s.size + 1) 0 5 = gc at hge hgm ⊢
  have hrb := row_bytes W2 (s ++ ⟨#[120]⟩) gc (by rw [hsz]; exact hge) hgm ((bytesRow (s ++ ⟨#[120]⟩) gc).size, (bytesRow (s ++ ⟨#[120]⟩) gc).size + 1)
  have bl := (laidB (Below.refl W2.heap.size W2) (.cells (bytesRow (s ++ ⟨#[120]⟩) gc) 5 ((bytesRow (s ++ ⟨#[120]⟩) gc).size, (bytesRow (s ++ ⟨#[120]⟩) gc).size + 1))).drew
  have Hx : Hid (AreBytes (bytesI (s ++ ⟨#[120]⟩))) := Lib.hid (bytesI_rng _)
  have hl := bytesI_length (s ++ ⟨#[120]⟩)
  rw [hsz] at hrb hl
  generalize bytesI (s ++ ⟨#[120]⟩) = zt at hrb Hx hl
  generalize hW3 : (W2.alloc (.cells (bytesRow (s ++ ⟨#[120]⟩) gc) 5 ((bytesRow (s ++ ⟨#[120]⟩) gc).size, (bytesRow (s ++ ⟨#[120]⟩) gc).size + 1))).drew = W3 at bl ⊢
  have hrb3 : Row .u8 W3.heap.size W3 (.slice (some ⟨W2.heap.size, 0, none⟩) (s.size + 1) gc) zt := by
    rw [← hW3]
    show Row .u8 (W2.alloc _).heap.size (W2.alloc _) _ _
    rw [World.size_alloc]
    exact hrb
  clear hW3 hrb
  have hra := rowB hra bl
  replace b0 := stepB b0 bl
  clear bl hsz
  have htl : zt.length ≤ 30 := by omega
  have htp : 0 < zt.length := by omega
  rw [← hl] at hrb3 ⊢
  clear hl hge
  generalize W2.heap.size = ga at hrb3 ⊢
  obtain ⟨g2, o2, hge, hgl, _⟩ := hrb3.at htp
  simp only [Option.some.injEq, Addr.mk.injEq, and_true] at hge
  obtain ⟨rfl, rfl⟩ := hge
  refine (few_int _ zt 30 _ hrb3 (by decide) (by decide)).mono ?_
  rintro e W4 ⟨b, cpb, rfl, hown, hr5, hb⟩
  dsimp only
  rw [show zt.take (30 : Int).toNat = zt from List.take_of_length_le (by simpa using htl)] at hown hr5 ⊢
  have hrz := rowB hrb3 hb
  have hb3 := hb
  have bb := hb.size
  have b0' := b0.size
  replace b0 := stepB b0 hb; clear hb
  clear hr5
  obtain ⟨gb, rfl, hgb, _⟩ := owns_at hown htp
  go_wp2_with fail
  refine (around_any a2 zt.length _ h2 (by omega) (by omega)).mono ?_
  rintro e W5 ⟨rfl, rfl⟩
  dsimp only
  have hK0 := aroundI_lo a2 zt.length (by omega)
  have hK1 := aroundI_hi a2 zt.length (by omega)
  generalize aroundI a2 (zt.length : Int) = K at hK0 hK1 ⊢
  obtain ⟨k, rfl⟩ := Int.eq_ofNat_of_zero_le hK0
  have hk : k < zt.length := by omega
  have cb := owns_cell hown k hk
  have fb := hown.frozenAt k
  have hlb : zt.length ≤ cpb ∧ cpb ≤ maxLen := (row_of_owns hown).1.lencap
  have hxr := Hx.out k
  generalize hx : zt[k]?.getD 0 = x at cb hxr
  have Hxx := Lib.hid hx; clear hx
  have hlc := hrz.lencap
  unfold maxLen at hlb hlc
  have hset := owns_set hown k (bits .xor .u8 x a3)
  have hrz1 : Row .u8 W5.heap.size (W5.setCell ⟨gb, k, none⟩ (.int .u8 (bits .xor .u8 x a3))) (.slice (some ⟨ga, 0, none⟩) zt.length gc) zt := hrz.keep' (fun o => World.cell?_setCell_other _ _ _ _ (by intro h; cases h; omega))
  have b1 : Below w.heap.size w (W5.setCell ⟨gb, k, none⟩ (.int .u8 (bits .xor .u8 x a3))) := b0.setCell (p := ⟨gb, k, none⟩) (by simp; omega) _
  have hki : (k : Int) < zt.length := by omega
  have M : (sumI zt ws == sumI (zt.set k (bits .xor .u8 x a3)) ws) = (a3 == 0) := by
    rw [oneLabel zt _ ws (k / 8) (by simp) (fun i hi => by rw [List.getElem?_set_ne (by rintro rfl; exact hi rfl)]) Hx.out (Hx.out.set k _ (xor8_rng _ _))]
    rw [Bool.eq_iff_iff, beq_iff_eq, beq_iff_eq]
    have h3' := u8_rng1 h3
    rw [← xor8_eq x a3 hxr.1 (by omega) h3'.1 h3'.2]
    have hzk : zt[k] = x := by have := Hxx.out; simpa [hk] using this
    constructor
    · intro h
      have := congrArg (fun l : List Int => l[k]?.getD 0) h
      simp [hk] at this
      exact this.symm.trans hzk
    · intro h
      rw [h, ← hzk, List.set_getElem_self]
  have hrb := (row_of_owns hset).1
  rw [World.size_setCell] at hrb
  have hy : (zt.set k (bits .xor .u8 x a3)).length = zt.length := by simp
  have Hy : Hid (AreBytes (zt.set k (bits .xor .u8 x a3))) := Lib.hid (Hx.out.set k _ (xor8_rng _ _))
  generalize hu : bits .xor .u8 x a3 = u at hset hrz1 b1 M hrb hy Hy
  generalize zt.set k u = zy at M hrb hy Hy
  have hra := rowB hra (hb3.setCell (p := ⟨gb, k, none⟩) hgb (.int .u8 u))
  clear hown hset b0 hb3
  go_wp2_with fail
  clear cb fb
  generalize hW6 : W5.setCell ⟨gb, k, none⟩ (.int .u8 u) = W6 at hra hrz1 hrb b1 ⊢
  have hsz : W6.heap.size = W5.heap.size := by rw [← hW6, World.size_setCell]
  rw [← hsz] at hrz1 hrb
  clear hW6 hsz hu hrz hrb3 hlc hlb
  have hrz := hrz1
  clear hrz1
  have Hyl := Lib.hid hy
  have hy0 : 0 < zy.length := by omega
  clear hy
  have M2 : (sumI (bytesI (strOf zt)) ws == sumI (bytesI (strOf zy)) ws) = (a3 == 0) := by rw [bytesI_strOf _ Hx.out, bytesI_strOf _ Hy.out]; exact M
  clear M
  have hz1 : (strOf zt).size ≤ 140737488351232 := by rw [strOf_size]; omega
  have hz2 : (strOf zy).size ≤ 140737488351232 := by rw [strOf_size]; have := Hyl.out; omega
  have hml : ws.length ≤ maxLen := by unfold maxLen; omega
  have bd : Below W6.heap.size W6 W6.drew := (Below.refl _ _).drew
  have hra := rowB hra bd
  have hrb := rowB hrb bd
  have hrz := rowB hrz bd
  have b1 := stepB b1 bd
  have eA := string_at rfl hrz Hx.out htp
  have eB := string_at Hyl.out.symm hrb Hy.out hy0
  clear bd
  go_region_with (first | (go_at_call 15; refine (lives_any _).mono ?_; rintro e W9 ⟨rfl, hb⟩; have b1 := stepB b1 hb) | (go_at_call 13; refine (sum_any _ a _ cap ws (by assumption) _ (by assumption) rfl hml).mono ?_; rintro e W9 ⟨rfl, hb⟩; have b1 := stepB b1 hb; have hra := rowB hra hb; have hrb := rowB hrb hb; have hrz := rowB hrz hb; have eA := string_at rfl hrz Hx.out htp; have eB := string_at Hyl.out.symm hrb Hy.out hy0))
  all_goals (go_wp2; go_ret; exact ⟨rfl, b1⟩)
end Go.Proofs.Ytjgeefnackhnpaa
