/- Contracts for package meter: New. -/
import Derived.Test.YtcohajmappdckaaMtC
namespace Go.Proofs.Ytcohajmappdckaa
open Go.RowKit Go.Shelf
set_option linter.unusedVariables false

def zerosI (n : Nat) : List Int := List.replicate n 0
theorem made_zeros (k : IntKind) (n : Nat) : (madeCells (Value.int k 0).cells (n * 1)).toList = (zerosI n).map (Value.int k) := by
  rw [Nat.mul_one]
  unfold madeCells zerosI
  rw [List.map_replicate]
  apply List.ext_getElem
  · simp
  · intro i h1 h2
    simp [Value.cells, Nat.mod_one]
theorem cel_of_owns {k : IntKind} {W : World} {base g : Nat} {t : TypeId} {n : Nat} {zs : List Int} (h : W.ownsRow base t 1 (.slice (some ⟨g, 0, none⟩) n n) n (zs.map (Value.int k))) : Cel W g t (zs.map (Value.int k)).toArray := by
  have hn : n = zs.length := by have := h.1; simpa using this.symm
  subst hn
  rcases h.2 with ⟨e, _⟩ | ⟨g', cp, cur, e, hb, hg, hc, hm, hs, ht⟩
  · cases e
  · simp at e
    obtain ⟨rfl, rfl⟩ := e
    have : cur = (zs.map (Value.int k)).toArray := by
      apply Array.ext'
      rw [← ht, List.take_of_length_le (by simp [hs])]
    rw [← this]
    exact hg
theorem info_im : (Try.prog.info? 3).map (fun i => (i.zero, i.size, i.bytes)) = some (some (.int .i64 0), 1, 8) := by kernel_rfl
def newBad (n sh pe : Int) : Prop := n < 1 ∨ 500 < n ∨ sh < 0 ∨ 1099511627776 < sh ∨ pe < 1 ∨ 1099511627776 < pe
set_option maxHeartbeats 2000000 in
theorem new_bad (n sh pe : Int) (w : World) (h : newBad n sh pe) :
    Calls Try.prog 10 #[.int .i64 n, .int .i64 sh, .int .i64 pe] w fun e w' => e = .returned (.tuple #[.pointer none, .int .i64 1]) ∧ w' = w := by
  by_cases h1 : n < 1 ∨ 500 < n
  · have ho := outside_yes n 1 500 w h1
    have HO := Lib.hid ho
    clear ho h1 h
    go_enter Try.func10, Try.ntmps10
    go_wp2_with fail
    refine HO.out.mono ?_
    rintro e w1 ⟨rfl, hw1⟩
    subst hw1
    dsimp only
    go_wp2_with fail
    go_ret2
    exact ⟨rfl, rfl⟩
  · have ho := outside_no n 1 500 w (by omega) (by omega)
    have HO := Lib.hid ho
    clear ho
    by_cases h2 : sh < 0 ∨ 1099511627776 < sh
    · have ho2 := outside_yes sh 0 1099511627776 w h2
      have HO2 := Lib.hid ho2
      clear ho2 h1 h2 h
      go_enter Try.func10, Try.ntmps10
      go_wp2_with fail
      refine HO.out.mono ?_
      rintro e w1 ⟨rfl, hw1⟩
      subst hw1
      dsimp only
      go_wp2_with fail
      refine HO2.out.mono ?_
      rintro e w1 ⟨rfl, hw1⟩
      subst hw1
      dsimp only
      go_wp2_with fail
      go_ret2
      exact ⟨rfl, rfl⟩
    · have ho2 := outside_no sh 0 1099511627776 w (by omega) (by omega)
      have ho3 := outside_yes pe 1 1099511627776 w (by unfold newBad at h; omega)
      have HO2 := Lib.hid ho2
      have HO3 := Lib.hid ho3
      clear ho2 ho3 h1 h2 h
      go_enter Try.func10, Try.ntmps10
      go_wp2_with fail
      refine HO.out.mono ?_
      rintro e w1 ⟨rfl, hw1⟩
      subst hw1
      dsimp only
      go_wp2_with fail
      refine HO2.out.mono ?_
      rintro e w1 ⟨rfl, hw1⟩
      subst hw1
      dsimp only
      go_wp2_with fail
      refine HO3.out.mono ?_
      rintro e w1 ⟨rfl, hw1⟩
      subst hw1
      dsimp only
      go_wp2_with fail
      go_ret2
      exact ⟨rfl, rfl⟩
set_option maxHeartbeats 2000000 in
theorem new_ok (n : Nat) (j : Int) (hj : (n : Int) = j) (sh pe : Int) (w : World) (h1 : 1 ≤ n) (h2 : n ≤ 500) (h3 : 0 ≤ sh) (h4 : sh ≤ 1099511627776) (h5 : 1 ≤ pe) (h6 : pe ≤ 1099511627776) :
    Calls Try.prog 10 #[.int .i64 j, .int .i64 sh, .int .i64 pe] w fun e w' => ∃ p u, e = .returned (.tuple #[.pointer (some ⟨p, 0, none⟩), .int .i64 0]) ∧ w.heap.size ≤ p ∧ w.heap.size ≤ u ∧ Mt w' p u (MS.new n sh pe) ∧ Below w.heap.size w w' := by
  obtain ⟨i0, hi, hz0, hz1, hz2⟩ := info_parts info_im
  have ho := outside_no j 1 500 w (by omega) (by omega)
  have ho2 := outside_no sh 0 1099511627776 w (by omega) (by omega)
  have ho3 := outside_no pe 1 1099511627776 w (by omega) (by omega)
  have HO := Lib.hid ho
  have HO2 := Lib.hid ho2
  have HO3 := Lib.hid ho3
  have HOK := Lib.hid (MS.new_ok n sh pe h1 h2 h3 h4 h5 h6)
  have HJ := Lib.hid hj
  clear ho ho2 ho3 h1 h3 h4 h5 h6 hj
  go_enter Try.func10, Try.ntmps10
  go_wp2_with fail
  refine HO.out.mono ?_
  rintro e w1 ⟨rfl, hw1⟩
  subst hw1
  dsimp only
  go_wp2_with fail
  refine HO2.out.mono ?_
  rintro e w1 ⟨rfl, hw1⟩
  subst hw1
  dsimp only
  go_wp2_with fail
  refine HO3.out.mono ?_
  rintro e w1 ⟨rfl, hw1⟩
  subst hw1
  dsimp only
  go_wp2_with (at_make; refine wpList_make_full _ rfl _ _ 22 rfl w1.heap.size 3 i0 (.int .i64 0) 1 Try.underlying22 hi hz0 hz1 .i64 .i64 _ _ n rfl rfl HJ.out.symm HJ.out.symm (by rw [hz2]; omega) (by unfold maxLen; omega) (Nat.le_refl _) ?_; intro w2 hown2 hgrow2; rw [made_zeros] at hown2)
  go_ret2
  have hc := cel_of_owns hown2
  have hb : Below w1.heap.size w1 w2 := (Below.refl _ w1).grown hgrow2 (Nat.le_refl _) (fun k e => by cases e)
  refine ⟨_, _, rfl, hb.size, Nat.le_refl _, ⟨?_, ?_, ?_, HOK.out⟩, laidB hb _⟩
  · have := hc.lt; omega
  · have := Cel.new w2 55 #[.int .i64 sh, .int .i64 pe, .int .i64 0, .slice (some ⟨w1.heap.size, 0, none⟩) n n]
    simpa [MS.new] using this
  · have := hc.alloc (.cells #[.int .i64 sh, .int .i64 pe, .int .i64 0, .slice (some ⟨w1.heap.size, 0, none⟩) n n] 55)
    simpa [MS.new, zerosI] using this
end Go.Proofs.Ytcohajmappdckaa
