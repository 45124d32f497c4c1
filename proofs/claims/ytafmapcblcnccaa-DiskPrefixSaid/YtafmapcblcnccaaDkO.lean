/- Package disk: Copy of a disk with a file. -/
import Derived.Test.YtafmapcblcnccaaDkN
namespace Go.Proofs.Ytafmapcblcnccaa
open Go.RowKit Go.Shelf
set_option linter.unusedVariables false

theorem owns_down0 {W : World} {base m : Nat} {e : TypeId} {size : Nat} {v : Value} {n : Nat} {xs : List Value} (h : W.ownsRow base e size v n xs) (hm : m ≤ base) : W.ownsRow m e size v n xs := by
  rcases h.2 with ⟨rfl, h2⟩ | ⟨g, cp, cur, h1, hb, hg, h3⟩
  · exact ⟨h.1, .inl ⟨rfl, h2⟩⟩
  · exact ⟨h.1, .inr ⟨g, cp, cur, h1, by omega, hg, h3⟩⟩
theorem grown_set (W : World) (q o : Nat) (v : Value) : W.grownBy (W.setCell ⟨q, o, none⟩ v) (some q) := ⟨rfl, rfl, rfl, by simp [World.setCell], fun k _ hn => Below.heap_setCell _ _ _ k (fun e => hn (by rw [e]))⟩
set_option maxRecDepth 100000 in
set_option maxHeartbeats 4000000 in
theorem copy_some {n0 p m : Nat} {s : DS} {v : Value} (w : World) (h : Dk w n0 p m s v) (n : Int) (bs : List Int) (d : Nat) (hf : s.f = some (n, bs, d)) (hlen : bs.length ≤ 10000000) :
    Calls Try.prog 30 #[.pointer (some ⟨p, 0, none⟩)] w fun e w' => CopyPost w s e w' := by
  have c0 := h.box.cell 0
  have c1 := h.box.cell 1
  have c2 := h.box.cell 2
  have c3 := h.box.cell 3
  obtain ⟨X, hX⟩ : ∃ X, X = w.alloc (.cells #[.int .i64 s.room, .map (some m), .bool s.off, .int .i64 s.plan] 74) := ⟨_, rfl⟩
  have sX : X.heap.size = w.heap.size + 1 := by rw [hX]; simp
  have bX : Below w.heap.size w X := by rw [hX]; exact laidB (Below.refl _ _) _
  have CX : Cel X w.heap.size 74 #[.int .i64 s.room, .map (some m), .bool s.off, .int .i64 s.plan] := by rw [hX]; exact Cel.new _ _ _
  obtain ⟨Y, hY⟩ : ∃ Y, Y = X.alloc (.map #[] 0) := ⟨_, rfl⟩
  have hmk : (Instr.makeMap 72 none).run Try.prog X = .ok (.map (some (w.heap.size + 1))) Y := by rw [hY, ← sX]; exact run_makeMap _ _
  have bY : Below X.heap.size X Y := by rw [hY]; exact laidB (Below.refl _ _) _
  have CY := CX.step bY
  have MY : MapL Y (w.heap.size + 1) [] := by rw [hY, ← sX]; exact MapL.new X
  obtain ⟨Z, hZ⟩ : ∃ Z, Z = Y.setCell ⟨w.heap.size, 1, none⟩ (.map (some (w.heap.size + 1))) := ⟨_, rfl⟩
  have CZ : Cel Z w.heap.size 74 #[.int .i64 s.room, .map (some (w.heap.size + 1)), .bool s.off, .int .i64 s.plan] := by rw [hZ]; exact CY.set 1 _
  have oZ : OnlyP (fun i => i = w.heap.size) Y Z := by rw [hZ]; exact OnlyP.set (fun i => i = w.heap.size) _ _ _ rfl
  have hpw := h.box.lt
  have hmw := h.map.lt
  have bZ : Below w.heap.size w Z := (stepB bX bY).trans (oZ.below (by have := bY.size; omega) (fun k e => by omega))
  have MZ := MY.only oZ (by omega)
  have hrow := h.row
  rw [hf] at hrow
  obtain ⟨av, cv, rfl⟩ := hrow.slice
  have hm : MapL Z m [(n, .agg #[.slice av bs.length cv, .int .i64 (d : Int)])] := by have := h.map.step bZ; rw [hf] at this; exact this
  have hrZ := rowB (row_of_owns hrow.1).1 bZ
  have zp : Z.cell? ⟨p, 1, none⟩ = some (.map (some m)) := (h.box.step bZ).cell 1
  have y1 := CY.cell 1
  have yf := CY.free 1
  have fin : ∀ W v2, Cel W w.heap.size 74 #[.int .i64 s.room, .map (some (w.heap.size + 1)), .bool s.off, .int .i64 s.plan] → MapL W (w.heap.size + 1) [(n, .agg #[v2, .int .i64 (d : Int)])] → W.ownsRow Z.heap.size 5 1 v2 bs.length (bs.map (Value.int .u8)) → Below w.heap.size w W → CopyPost w s (.returned (.pointer (some ⟨w.heap.size, 0, none⟩))) W := fun W v2 g1 g2 g3 g4 => by
    refine ⟨v2, rfl, ⟨g1, by rw [hf]; exact g2, ?_, h.room0, h.room1, h.plan0, h.plan1, Nat.le_refl _, Nat.le_succ _⟩, g4⟩
    rw [hf]
    exact ⟨owns_down0 g3 bZ.size, hrow.2⟩
  have FIN := Lib.hid fin
  have hzs : w.heap.size + 2 ≤ Z.heap.size := by have e1 := oZ.size; have e2 : Y.heap.size = X.heap.size + 1 := by rw [hY]; simp
                                                 omega
  have HCZ := Lib.hid CZ
  have HMZ := Lib.hid MZ
  have HBZ := Lib.hid bZ
  have HRZ := Lib.hid hrZ
  clear fin MZ MY CZ CY CX bX bY bZ oZ h hpw sX hrow hrZ
  go_enter Try.func30, Try.ntmps30
  go_upto_region 2 with (fail)
  rw [← hX]
  clear hX hY c0 c2 c3
  go_upto_region 3 with (fail)
  rw [← hZ]
  clear hZ y1 yf hmk c1
  go_wp2_with (at_range; refine wpList_rangeL _ rfl _ rfl Try.underlying72 rfl hm ?_; intro o' hR)
  try go_frame
  have hb := laidB (Below.refl Z.heap.size Z) o'
  go_wp2_with fail
  go_loopw [4] (fun _ wr => ∃ left, RangeL wr Z.heap.size m [(n, .agg #[.slice av bs.length cv, .int .i64 (d : Int)])] left ∧ ((left = [(n, .agg #[.slice av bs.length cv, .int .i64 (d : Int)])] ∧ Below Z.heap.size Z wr) ∨ (left = [] ∧ CopyPost w s (.returned (.pointer (some ⟨w.heap.size, 0, none⟩))) wr))) (fun _ wr => wr.rangeLeft m Z.heap.size)
  case atStart => exact ⟨_, hR, .inl ⟨rfl, hb⟩⟩
  case round =>
    obtain ⟨left, hR2, hcs⟩ := hrel
    clear hR hb
    rcases hcs with ⟨rfl, hb2⟩ | ⟨rfl, hP⟩
    · have hmeas := Lib.hid hR2.left
      have hb2' := Lib.hid hb2
      have hR2' := Lib.hid hR2
      clear hR2 hb2
      go_upto_region 6 with (at_next; refine wpList_nextL _ rfl _ rfl rfl hR2'.out (fun h => absurd h (by simp)) ?_; intro j p' W' hj hR3 hg hsz hen; obtain ⟨rfl, rfl⟩ := one_at hj; replace hg := Lib.hid hg; replace hR3 := Lib.hid hR3; clear hj; dsimp only at hen)
      have bW : Below Z.heap.size Z W' := hb2'.out.grown hg.out hb2'.out.size (fun k e => by injection e with e; omega)
      obtain ⟨B, hB⟩ : ∃ B, B = W'.alloc (.cells #[.slice av bs.length cv, .int .i64 (d : Int)] 79) := ⟨_, rfl⟩
      rw [← hB]
      have sB : B.heap.size = wr.heap.size + 1 := by rw [hB]; simp [hsz]
      have CB : Cel B wr.heap.size 79 #[.slice av bs.length cv, .int .i64 (d : Int)] := by rw [hB, ← hsz]; exact Cel.new _ _ _
      have bWB : Below W'.heap.size W' B := by rw [hB]; exact laidB (Below.refl _ _) _
      have bB : Below Z.heap.size Z B := stepB bW bWB
      have RB' := hR3.out.step bWB
      have hrB := rowB HRZ.out bB
      have hwr := hb2'.out.size
      have hrl := hR2'.out.lt
      have x0 := CB.cell 0
      have HCB := Lib.hid CB
      have HRB := Lib.hid RB'
      have HsB := Lib.hid sB
      have hCL := Lib.hid (cloneBytes_any _ _ _ B hrB hlen)
      clear hB CB RB' bWB bW hg hR3 hen hsz sB hrB
      go_wp2_with fail
      refine hCL.out.mono ?_
      rintro e W2 ⟨a2, c2, rfl, o2, -, b2⟩
      have bZ2 := stepB bB b2
      have C2 := HCB.out.step b2
      have u0 := C2.cell 0
      have u1 := C2.cell 1
      have uf := C2.free 0
      have P2 := HCZ.out.step bZ2
      obtain ⟨W3, h3⟩ : ∃ W3, W3 = W2.setCell ⟨wr.heap.size, 0, none⟩ (.slice a2 bs.length c2) := ⟨_, rfl⟩
      have C3 : Cel W3 wr.heap.size 79 #[.slice a2 bs.length c2, .int .i64 (d : Int)] := by rw [h3]; exact C2.set 0 _
      have g3 : W2.grownBy W3 (some wr.heap.size) := by rw [h3]; exact grown_set _ _ _ _
      have hs2 := b2.size
      have hsB := HsB.out
      have P3 := P2.grown g3 (fun e => by injection e with e; omega)
      have M3 := (HMZ.out.step bZ2).grown g3 (fun e => by injection e with e; omega)
      have hmZ := hm.lt
      have R3 := (HRB.out.step b2).grown g3 (fun e => by injection e with e; omega) (fun e => by injection e with e; omega)
      obtain ⟨W4, hrun, k1, k2⟩ := M3.put (P := Try.prog) (t := 72) (k := 3) Try.underlying72 Try.underlying3 n (.agg #[.slice a2 bs.length c2, .int .i64 (d : Int)])
      have P4 := P3.grown k2 (fun e => by injection e with e; omega)
      have R4 := R3.grown k2 (fun e => by injection e with e; omega) (fun e => by injection e with e; omega)
      have o3 := owns_same (W' := W3) o2 (fun b e => g3.block b (owns_lt' o2 e) (fun hh => by have := own_base o2 e; injection hh with hh; omega))
      have o4 := owns_same (W' := W4) o3 (fun b e => k2.block b (owns_lt' o3 e) (fun hh => by have := own_base o3 e; injection hh with hh; omega))
      have hs3 : w.heap.size ≤ W3.heap.size := by have := g3.size; omega
      have b4 : Below w.heap.size w W4 := ((stepB HBZ.out bZ2).grown g3 (by omega) (fun k e => by injection e with e; omega)).grown k2 hs3 (fun k e => by injection e with e; omega)
      have HP := Lib.hid (FIN.out W4 _ P4 k1 (owns_down0 o4 (by omega)) b4)
      have HR4 := Lib.hid R4
      have z1 := P3.cell 1
      have v0 := C3.cell 0
      have v1 := C3.cell 1
      clear P4 R4 o3 o4 o2 b4 hs3 P3 P2 C3 C2 M3 R3 g3 k1 k2 bZ2 b2 hs2 hsB hmZ hwr hrl bB hzs hmw
      dsimp only
      go_upto_region 7 with (fail)
      rw [← h3]
      clear h3
      go_wp2_with fail
      go_roundw
      case rel => exact ⟨[], HR4.out, .inr ⟨by simp, HP.out⟩⟩
      case measure => rw [hmeas.out, HR4.out.left]; simp
    · go_wp2_with (at_next; refine wpList_nextL _ rfl _ rfl rfl hR2 (fun _ => ?_) (fun j p' W' hj => absurd hj (by simp)))
      try go_frame
      go_wp2_with fail
      go_ret
      exact hP
end Go.Proofs.Ytafmapcblcnccaa
