/- Plain facts on the hash: one group of bytes turned; a zero byte more. -/
import Derived.Test.YtafmapcblcnccaaHashMath2
namespace Go.Proofs.Ytafmapcblcnccaa
open Go.RowKit

/-- Bytes. -/
def AreBytes (zs : List Int) : Prop := ∀ i : Nat, 0 ≤ zs[i]?.getD 0 ∧ zs[i]?.getD 0 < 256

theorem leN_inj (f g : Nat → Nat) (j : Nat) (hf : ∀ i, f i < 256) (hg : ∀ i, g i < 256) (h : leN f j = leN g j) : ∀ i, i < j → f i = g i := by
  induction j generalizing f g with
  | zero => intro i hi; omega
  | succ j ih =>
    rw [leN_front, leN_front] at h
    have h0 := hf 0
    have h1 := hg 0
    have e0 : f 0 = g 0 := by omega
    have e1 := ih (fun i => f (i + 1)) (fun i => g (i + 1)) (fun i => hf _) (fun i => hg _) (by omega)
    intro i hi
    cases i with
    | zero => exact e0
    | succ i => exact e1 i (by omega)

theorem wordTo_rng (zs : List Int) (o j : Nat) (hj : j ≤ 8) (hz : AreBytes zs) : InR (wordTo zs o j) := by
  rw [wordTo_eq zs o j hj hz]
  have h1 := leN_lt (fun i => (zs[o + i]?.getD 0).toNat) j (fun i => by have := hz (o + i); omega)
  have h2 : 2 ^ (8 * j) ≤ 2 ^ 64 := Nat.pow_le_pow_right (by decide) (by omega)
  constructor <;> omega

theorem wordTo_inj (xs ys : List Int) (o j : Nat) (hj : j ≤ 8) (hx : AreBytes xs) (hy : AreBytes ys) (h : wordTo xs o j = wordTo ys o j) : ∀ i, i < j → xs[o + i]?.getD 0 = ys[o + i]?.getD 0 := by
  rw [wordTo_eq xs o j hj hx, wordTo_eq ys o j hj hy] at h
  intro i hi
  have := leN_inj (fun i => (xs[o + i]?.getD 0).toNat) (fun i => (ys[o + i]?.getD 0).toNat) j (fun i => by have := hx (o + i); omega) (fun i => by have := hy (o + i); omega) (by omega) i hi
  have h1 := hx (o + i)
  have h2 := hy (o + i)
  omega

theorem wordTo_congr (xs ys : List Int) (o j : Nat) (h : ∀ i, i < j → xs[o + i]?.getD 0 = ys[o + i]?.getD 0) : wordTo xs o j = wordTo ys o j := by
  induction j with
  | zero => rfl
  | succ j ih => rw [wordTo, wordTo, ih (fun i hi => h i (by omega)), h j (by omega)]

theorem wordsOf_get (zs : List Int) (i : Nat) (hi : i < (wordsOf zs).length) : (wordsOf zs)[i] = wordTo zs (8 * i) (min 8 (zs.length - 8 * i)) := by
  simp [wordsOf, wordsUpto]

/-- Two byte slices of one length that differ in one group at most: so do their words, and where the words of that group are one, the slices are one. -/
theorem group_words (xs ys : List Int) (g : Nat) (hl : xs.length = ys.length) (hd : ∀ i, i / 8 ≠ g → xs[i]?.getD 0 = ys[i]?.getD 0) :
    wordsOf ys = (wordsOf xs).set g (wordTo ys (8 * g) (min 8 (ys.length - 8 * g))) := by
  have hlw : (wordsOf ys).length = (wordsOf xs).length := by rw [wordsOf_length, wordsOf_length, hl]
  apply List.ext_getElem
  · rw [List.length_set, hlw]
  · intro i h1 h2
    rw [wordsOf_get _ _ h1, List.getElem_set]
    split
    · rename_i h; subst h; rfl
    · rename_i h
      rw [wordsOf_get xs i (by rw [← hlw]; exact h1), hl]
      apply wordTo_congr
      intro j hj
      exact (hd _ (by omega)).symm

theorem group_same (xs ys : List Int) (g : Nat) (hl : xs.length = ys.length) (hd : ∀ i, i / 8 ≠ g → xs[i]?.getD 0 = ys[i]?.getD 0) (hx : AreBytes xs) (hy : AreBytes ys)
    (h : wordTo xs (8 * g) (min 8 (xs.length - 8 * g)) = wordTo ys (8 * g) (min 8 (ys.length - 8 * g))) : xs = ys := by
  rw [← hl] at h
  have hi := wordTo_inj xs ys (8 * g) _ (Nat.min_le_left _ _) hx hy h
  apply List.ext_getElem hl
  intro i h1 h2
  have : xs[i]?.getD 0 = ys[i]?.getD 0 := by
    by_cases e : i / 8 = g
    · have := hi (i - 8 * g) (by omega)
      rwa [show 8 * g + (i - 8 * g) = i from by omega] at this
    · exact hd i e
  simpa [h1, h2] using this

theorem fold_set (ws : List Int) (S : Int) (k : Nat) (v : Int) (h : k < ws.length) (hw : InR (ws[k]?.getD 0)) (hv : InR v) (he : ws.foldl mixI S = (ws.set k v).foldl mixI S) : ws[k]?.getD 0 = v := by
  have e1 : ws.foldl mixI S = (ws.drop (k + 1)).foldl mixI (mixI ((ws.take k).foldl mixI S) (ws[k]?.getD 0)) := by
    conv => lhs; rw [self_split ws k h]
    rw [List.foldl_append, List.foldl_cons]
  have e2 : (ws.set k v).foldl mixI S = (ws.drop (k + 1)).foldl mixI (mixI ((ws.take k).foldl mixI S) v) := by
    rw [set_split ws k v h, List.foldl_append, List.foldl_cons]
  rw [e1, e2] at he
  exact mixI_right _ _ _ hw.1 hw.2 hv.1 hv.2 (fold_inj _ _ _ (InR.mix _ _) (InR.mix _ _) he)

theorem wrap_wrap (a : Int) (h : InR a) : IntKind.u64.wrap (wrap64 a) = a := by
  unfold InR at h
  rw [IntKind.wrap_u64]; unfold wrap64; omega

/-- The hash of bytes: one group turned. -/
theorem oneGroup (l xs ys : List Int) (g : Nat) (hl : xs.length = ys.length) (hd : ∀ i, i / 8 ≠ g → xs[i]?.getD 0 = ys[i]?.getD 0) (hx : AreBytes xs) (hy : AreBytes ys) :
    (sumI l ((wordsOf xs).map wrap64 ++ [(xs.length : Int)]) == sumI l ((wordsOf ys).map wrap64 ++ [(ys.length : Int)])) = (xs == ys) := by
  rw [Bool.eq_iff_iff, beq_iff_eq, beq_iff_eq]
  constructor
  · intro h
    by_cases hg : g < (wordsOf xs).length
    · have e : (wordsOf ys).map wrap64 ++ [(ys.length : Int)] = ((wordsOf xs).map wrap64 ++ [(xs.length : Int)]).set g (wrap64 (wordTo ys (8 * g) (min 8 (ys.length - 8 * g)))) := by
        rw [List.set_append_left _ _ (by simpa using hg), ← List.map_set, ← group_words xs ys g hl hd, hl]
      rw [e, sumI_set _ _ _ _ (by simp; omega)] at h
      rw [List.getElem?_append_left (by simpa using hg), List.getElem?_map, List.getElem?_eq_getElem hg, Option.map_some, Option.getD_some, wordsOf_get] at h
      rw [wrap_wrap _ (wordTo_rng _ _ _ (Nat.min_le_left _ _) hx), wrap_wrap _ (wordTo_rng _ _ _ (Nat.min_le_left _ _) hy)] at h
      exact group_same xs ys g hl hd hx hy h
    · apply List.ext_getElem hl
      intro i h1 h2
      have : xs[i]?.getD 0 = ys[i]?.getD 0 := hd i (by rw [wordsOf_length] at hg; omega)
      simpa [h1, h2] using this
  · rintro rfl; rfl

/-- The sum under labels of which one group was turned. -/
theorem oneLabel (xs ys ws : List Int) (g : Nat) (hl : xs.length = ys.length) (hd : ∀ i, i / 8 ≠ g → xs[i]?.getD 0 = ys[i]?.getD 0) (hx : AreBytes xs) (hy : AreBytes ys) :
    (sumI xs ws == sumI ys ws) = (xs == ys) := by
  rw [Bool.eq_iff_iff, beq_iff_eq, beq_iff_eq]
  constructor
  · intro h
    unfold sumI at h
    rw [← hl] at h
    have h1 := mixI_left _ _ _ (InR.tail _ _ (InR.mix _ _)).1 (InR.tail _ _ (InR.mix _ _)).2 (InR.tail _ _ (InR.mix _ _)).1 (InR.tail _ _ (InR.mix _ _)).2 h
    have h2 := tail_inj _ _ _ (InR.mix _ _) (InR.mix _ _) h1
    have h3 := mixI_left _ _ _ (mixI_lo _ _) (mixI_hi _ _) (mixI_lo _ _) (mixI_hi _ _) h2
    have z : InR 0 := ⟨by decide, by decide⟩
    have h4 := mixI_left _ _ _ (InR.fold _ _ z).1 (InR.fold _ _ z).2 (InR.fold _ _ z).1 (InR.fold _ _ z).2 h3
    by_cases hg : g < (wordsOf xs).length
    · rw [group_words xs ys g hl hd] at h4
      have hw : (wordsOf xs)[g]?.getD 0 = wordTo xs (8 * g) (min 8 (xs.length - 8 * g)) := by rw [List.getElem?_eq_getElem hg, Option.getD_some, wordsOf_get]
      have h5 := fold_set _ _ _ _ hg (by rw [hw]; exact wordTo_rng _ _ _ (Nat.min_le_left _ _) hx) (wordTo_rng _ _ _ (Nat.min_le_left _ _) hy) h4
      rw [hw] at h5
      exact group_same xs ys g hl hd hx hy h5
    · apply List.ext_getElem hl
      intro i h1 h2
      have : xs[i]?.getD 0 = ys[i]?.getD 0 := hd i (by rw [wordsOf_length] at hg; omega)
      simpa [h1, h2] using this
  · rintro rfl; rfl

theorem or_zero (x : Int) (k : Nat) (h : InR x) : bits .or .u64 x (IntKind.u64.wrap (IntKind.u64.wrap 0 * 2 ^ (8 * k))) = x := by
  obtain ⟨n, rfl⟩ := Int.eq_ofNat_of_zero_le h.1
  have e : IntKind.u64.wrap (IntKind.u64.wrap 0 * 2 ^ (8 * k)) = ((0 : Nat) : Int) := by simp [IntKind.wrap_u64]
  have h2 := h.2
  rw [e, orI n 0 (by omega) (by decide), Nat.or_zero]

/-- A zero byte more, within a group that was begun: the words stay. -/
theorem words_longer (zs : List Int) (hz : AreBytes zs) (h8 : zs.length % 8 ≠ 0) : wordsOf (zs ++ [0]) = wordsOf zs := by
  have hl : (wordsOf (zs ++ [0])).length = (wordsOf zs).length := by rw [wordsOf_length, wordsOf_length, List.length_append]; simp; omega
  have hg : ∀ i : Nat, (zs ++ [0])[i]?.getD 0 = zs[i]?.getD 0 := by
    intro i
    rcases Nat.lt_trichotomy i zs.length with h | h | h
    · rw [List.getElem?_append_left h]
    · subst h; simp
    · rw [List.getElem?_append_right (by omega), List.getElem?_eq_none (by simp; omega), List.getElem?_eq_none (by omega)]
  apply List.ext_getElem hl
  intro i h1 h2
  rw [wordsOf_get, wordsOf_get]
  have hc : ∀ j, wordTo (zs ++ [0]) (8 * i) j = wordTo zs (8 * i) j := fun j => wordTo_congr _ _ _ _ (fun q _ => hg _)
  rw [hc, List.length_append]
  by_cases h : 8 * i + 8 ≤ zs.length
  · rw [show min 8 (zs.length + ([0] : List Int).length - 8 * i) = 8 from by simp; omega, show min 8 (zs.length - 8 * i) = 8 from by omega]
  · rw [wordsOf_length] at h2
    have e : min 8 (zs.length + ([0] : List Int).length - 8 * i) = min 8 (zs.length - 8 * i) + 1 := by simp; omega
    rw [e, wordTo]
    have e2 : zs[8 * i + min 8 (zs.length - 8 * i)]?.getD 0 = 0 := by rw [List.getElem?_eq_none (by omega)]; rfl
    rw [e2]
    exact or_zero _ _ (wordTo_rng _ _ _ (Nat.min_le_left _ _) hz)

theorem longer_ne (l zs : List Int) (hz : AreBytes zs) (h8 : zs.length % 8 ≠ 0) :
    (sumI l ((wordsOf (zs ++ [0])).map wrap64 ++ [((zs ++ [0]).length : Int)]) != sumI l ((wordsOf zs).map wrap64 ++ [(zs.length : Int)])) = true := by
  rw [bne_iff_ne, words_longer zs hz h8]
  intro h
  have e : (wordsOf zs).map wrap64 ++ [((zs ++ [0]).length : Int)] = ((wordsOf zs).map wrap64 ++ [(zs.length : Int)]).set ((wordsOf zs).map wrap64).length ((zs ++ [0]).length : Int) := by
    rw [List.set_append_right _ _ (Nat.le_refl _)]
    simp
  rw [e] at h
  have := (sumI_set l _ _ _ (by simp)).1 h.symm
  simp [IntKind.wrap_u64] at this
  omega
end Go.Proofs.Ytafmapcblcnccaa
