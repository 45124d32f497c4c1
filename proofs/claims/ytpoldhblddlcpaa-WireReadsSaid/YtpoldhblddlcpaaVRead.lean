/- Contract of the law's read. -/
import Derived.Test.YtpoldhblddlcpaaVWrite
namespace Go.Proofs.Ytpoldhblddlcpaa
open Go.RowKit Go.Shelf
set_option linter.unusedVariables false

/-- Reading a value of a kind. -/
def readM (kind : Int) (zs : List Int) (e : Int) : VM × List Int × Int :=
  if kind = 0 then (⟨kind, (rUint zs e).1, 0, [], []⟩, (rUint zs e).2)
  else if kind = 1 then (⟨kind, 0, (rInt zs e).1, [], []⟩, (rInt zs e).2)
  else if kind = 2 then (⟨kind, 0, if (rBool zs e).1 then 1 else 0, [], []⟩, (rBool zs e).2)
  else if kind = 3 ∨ kind = 4 then (⟨kind, 0, 0, (rRaw zs e).1, []⟩, (rRaw zs e).2)
  else (⟨kind, 0, 0, [], (rInts zs e).1⟩, (rInts zs e).2)

theorem rOct_len (zs : List Int) (e : Int) : (rOct zs e).2.1.length ≤ zs.length := by
  unfold rOct
  split
  · split <;> simp
  · simp
theorem rMany_len (n : Nat) (l zs : List Int) (e : Int) : (rMany n l zs e).2.1.length ≤ zs.length := by
  induction n generalizing l zs e with
  | zero => simp [rMany]
  | succ n ih =>
    unfold rMany
    have h := rInt_len zs e
    split
    · exact Nat.le_trans (ih _ _ _) h
    · exact h
theorem rLen_len (zs : List Int) (e : Int) : (rLen zs e).2.1.length ≤ zs.length := rUint_len zs e
theorem rRaw_len (zs : List Int) (e : Int) : (rRaw zs e).2.1.length ≤ zs.length := by
  unfold rRaw
  have := rLen_len zs e
  split
  · simp only [List.length_drop]; omega
  · exact this
theorem rInts_len (zs : List Int) (e : Int) : (rInts zs e).2.1.length ≤ zs.length := by
  unfold rInts
  have := rLen_len zs e
  split
  · exact Nat.le_trans (rMany_len _ _ _ _) this
  · exact this
theorem readM_len (k : Int) (zs : List Int) (e : Int) : (readM k zs e).2.1.length ≤ zs.length := by
  unfold readM
  split
  · exact rUint_len zs e
  · split
    · exact rInt_len zs e
    · split
      · exact rOct_len zs e
      · split
        · exact rRaw_len zs e
        · exact rInts_len zs e

def ReadPost (b d : Nat) (w : World) (R : VM × List Int × Int) (e : Ending) (w' : World) : Prop :=
  ∃ x, e = .returned x ∧ VV w'.heap.size w' R.1 x ∧ Rd w' b d R.2.1 R.2.2 ∧ Only b w w'
/-- As ReadPost; what was read lies in new memory. -/
def ReadNew (b d : Nat) (w : World) (R : VM × List Int × Int) (e : Ending) (w' : World) : Prop :=
  ∃ sb sl, e = .returned (.agg #[.int .i64 R.1.kind, .int .u64 R.1.u, .int .i64 R.1.n, sb, sl]) ∧ RowP .u8 (fun g => w.heap.size ≤ g ∧ g < w'.heap.size) w' sb R.1.B ∧ RowP .i64 (fun g => w.heap.size ≤ g ∧ g < w'.heap.size) w' sl R.1.L ∧ Rd w' b d R.2.1 R.2.2 ∧ Only b w w'
theorem ReadNew.post {b d : Nat} {w w' : World} {R : VM × List Int × Int} {e : Ending} (h : ReadNew b d w R e w') : ReadPost b d w R e w' := by
  obtain ⟨sb, sl, rfl, h1, h2, h3, h4⟩ := h
  exact ⟨_, rfl, ⟨sb, sl, rfl, h1.mono (fun g hg => hg.2), h2.mono (fun g hg => hg.2)⟩, h3, h4⟩
/-- A row of the call's own, by its block. -/
theorem row_own2 {k : IntKind} {w : World} {base : Nat} {e : TypeId} {v : Value} {n : Nat} {zs : List Int} (h : w.ownsRow base e 1 v n (zs.map (Value.int k))) : RowP k (fun g => base ≤ g ∧ g < w.heap.size) w v zs := by
  obtain ⟨hl, h⟩ := h
  have hn : n = zs.length := by simpa using hl.symm
  subst hn
  rcases h with ⟨rfl, h0⟩ | ⟨g, cap, cur, rfl, hb, hg, hc, hm, hs, ht⟩
  · exact .inl ⟨none, 0, rfl, Nat.zero_le _, fun _ => rfl, by simpa using h0⟩
  · refine .inr ⟨g, 0, cap, rfl, hc, hm, ⟨hb, (Array.getElem?_eq_some_iff.1 hg).1⟩, fun j hj => ?_⟩
    have hcell : w.cell? ⟨g, 0 + j, none⟩ = cur[0 + j]? := by unfold World.cell?; rw [hg]; rfl
    rw [hcell, Nat.zero_add]
    have h1 : (cur.toList.take (zs.length * 1))[j]? = some (.int k (zs[j]?.getD 0)) := by rw [ht]; simp [hj]
    rw [List.getElem?_take] at h1
    simpa [hj] using h1
/-- The end of a read: the value is stored into its two blocks, which are new. -/
theorem read_fin {b d : Nat} {zs : List Int} {err : Int} {w w1 X : World} {R : VM × List Int × Int} (sb sl : Value) (h : Rd w b d zs err) (hR : R.2.1.length ≤ zs.length)
    (hrb : RowP .u8 (fun g => w.heap.size + 2 ≤ g ∧ g < w1.heap.size) w1 sb R.1.B) (hrl : RowP .i64 (fun g => w.heap.size + 2 ≤ g ∧ g < w1.heap.size) w1 sl R.1.L)
    (h1 : Rd w1 b d R.2.1 R.2.2) (ho : Only b w w1) (hX : Below w.heap.size w1 X) (hk : KeepP (fun g => w.heap.size + 2 ≤ g ∧ g < w1.heap.size) w1 X) :
    ReadNew b d w R (.returned (.agg #[.int .i64 R.1.kind, .int .u64 R.1.u, .int .i64 R.1.n, sb, sl])) X := by
  have hs := hX.size
  refine ⟨sb, sl, rfl, (hrb.keep hk).mono (fun g hg => ⟨by omega, by omega⟩), (hrl.keep hk).mono (fun g hg => ⟨by omega, by omega⟩), h1.below h.lt ?_ hX, only_belowN ho hX⟩
  rcases h.dlt with rfl | hd
  · exact .inl (List.eq_nil_of_length_eq_zero (by simpa using hR))
  · exact .inr hd
theorem keepP_set {p : Nat → Prop} {w W : World} (h : KeepP p w W) (b o : Nat) (v : Value) (hp : ¬ p b) : KeepP p w (W.setCell ⟨b, o, none⟩ v) := h.trans (KeepP.setCell p W _ v hp)
theorem only_of (b : Nat) (w : World) (o o' : Obj) {w1 : World} (h : Only b ((w.alloc o).alloc o') w1) : Only b w w1 := only_trans (only_of_below (laidB (laidB (Below.refl w.heap.size w) o) o')) h
theorem rRaw_rng (zs : List Int) (e : Int) (h : ∀ x ∈ zs, 0 ≤ x ∧ x < 256) : ∀ x ∈ (rRaw zs e).1, 0 ≤ x ∧ x < 256 := by
  unfold rRaw
  split
  · intro x hx
    have hx' := List.mem_of_mem_take hx
    exact rUint_left zs e (fun x => 0 ≤ x ∧ x < 256) h x hx'
  · simp
theorem rRaw_len1 (zs : List Int) (e : Int) : (rRaw zs e).1.length ≤ zs.length := by
  unfold rRaw
  have := rLen_len zs e
  split
  · rw [List.length_take]; omega
  · simp
theorem bytesI_len (s : ByteArray) : (bytesI s).length = s.size := by
  unfold bytesI
  rw [List.length_map]
  rfl
/-- The bytes of a string, in new memory. -/
theorem conv_str (s : ByteArray) (hs : s.size ≤ maxLen) (w : World) : ∃ sc w', (convert 9 24 (.string s)).run Try.prog w = .ok (.slice (some ⟨w.heap.size, 0, none⟩) s.size sc) w' ∧
    RowP .u8 (fun g => w.heap.size ≤ g ∧ g < w'.heap.size) w' (.slice (some ⟨w.heap.size, 0, none⟩) s.size sc) (bytesI s) ∧ Below w.heap.size w w' := by
  refine ⟨_, _, run_bytes_of_string w 9 24 5 s Try.underlying9 Try.underlying24 Try.underlying5, ?_, ?_⟩
  · refine .inr ⟨w.heap.size, 0, _, by rw [bytesI_len], by rw [bytesI_len]; exact grownCap_ge _ _ _ _, grownCap_le_maxLen _ _ _ _ hs, by simp, fun j hj => ?_⟩
    rw [bytesI_len] at hj
    have hcl : ∀ (W : World) (c : Array Value) (fr : Nat × Nat) (e : TypeId) (o : Nat), (W.alloc (.cells c e fr)).cell? ⟨W.heap.size, o, none⟩ = c[o]? := by
      intro W c fr e o
      have hg : (W.alloc (.cells c e fr)).heap[W.heap.size]? = some (.cells c e fr) := by
        show (W.heap.push _)[W.heap.size]? = _
        simp
      unfold World.cell?
      rw [hg]
      rfl
    rw [show w.heap.size = w.drew.heap.size from rfl, hcl, Nat.zero_add]
    unfold bytesRow
    have hj' : j < s.data.size := hj
    rw [Array.getElem?_append_left (by simpa using hj'), Array.getElem?_map, Array.getElem?_eq_getElem hj']
    unfold bytesI
    rw [List.getElem?_map, Array.getElem?_toList, Array.getElem?_eq_getElem hj']
    rfl
  · exact ((Below.refl w.heap.size w).drew).alloc (Nat.le_refl _) _

set_option maxHeartbeats 4000000 in
theorem read_k0 (b d : Nat) (zs : List Int) (err : Int) (w : World) (h : Rd w b d zs err) (hz : ∀ x ∈ zs, 0 ≤ x ∧ x < 256) (hm : zs.length ≤ 10000000) :
    Calls Try.prog 22 #[.pointer (some ⟨b, 0, none⟩), .int .i64 0] w (ReadNew b d w (readM 0 zs err)) := by
  have HZ := Lib.hid hz; clear hz
  have hlt := h.lt
  have hRl := readM_len 0 zs err
  have h' := h.below hlt h.dlt (laidB (laidB (Below.refl w.heap.size w) (.cells #[.int .i64 0, .int .u64 0, .int .i64 0, .slice none 0 0, .slice none 0 0] 28)) (.cells #[.int .i64 0, .int .u64 0, .int .i64 0, .slice none 0 0, .slice none 0 0] 28))
  go_enter Try.func22, Try.ntmps22
  go_wp2_with fail
  refine (uint_any b d zs err _ h' HZ.out).mono ?_
  rintro e w1 ⟨rfl, h1, ho1⟩
  have C0 := ((Cel.new w 28 #[.int .i64 0, .int .u64 0, .int .i64 0, .slice none 0 0, .slice none 0 0]).alloc (.cells #[.int .i64 0, .int .u64 0, .int .i64 0, .slice none 0 0, .slice none 0 0] 28)).grown ho1 (by simp; omega)
  have C1 := (Cel.new (w.alloc (.cells #[.int .i64 0, .int .u64 0, .int .i64 0, .slice none 0 0, .slice none 0 0] 28)) 28 #[.int .i64 0, .int .u64 0, .int .i64 0, .slice none 0 0, .slice none 0 0]).grown ho1 (by simp; omega)
  rw [show (w.alloc (.cells #[.int .i64 0, .int .u64 0, .int .i64 0, .slice none 0 0, .slice none 0 0] 28)).heap.size = w.heap.size + 1 from by simp] at C1
  have o1 := only_of b w _ _ ho1
  have hs1 : w.heap.size + 2 ≤ w1.heap.size := by have := ho1.size; simp at this; omega
  clear ho1 h'
  have f1 := C1.free
  have f0 := C0.free
  have x0 : w1.cell? ⟨w.heap.size + 1, 0, none⟩ = some (.int .i64 0) := C1.cell 0
  have x1 : w1.cell? ⟨w.heap.size + 1, 1, none⟩ = some (.int .u64 0) := C1.cell 1
  have x2 : w1.cell? ⟨w.heap.size + 1, 2, none⟩ = some (.int .i64 0) := C1.cell 2
  have x3 : w1.cell? ⟨w.heap.size + 1, 3, none⟩ = some (.slice none 0 0) := C1.cell 3
  have x4 : w1.cell? ⟨w.heap.size + 1, 4, none⟩ = some (.slice none 0 0) := C1.cell 4
  have y0 : w1.cell? ⟨w.heap.size, 0, none⟩ = some (.int .i64 0) := C0.cell 0
  have y1 : w1.cell? ⟨w.heap.size, 1, none⟩ = some (.int .u64 0) := C0.cell 1
  have y2 : w1.cell? ⟨w.heap.size, 2, none⟩ = some (.int .i64 0) := C0.cell 2
  have y3 : w1.cell? ⟨w.heap.size, 3, none⟩ = some (.slice none 0 0) := C0.cell 3
  have y4 : w1.cell? ⟨w.heap.size, 4, none⟩ = some (.slice none 0 0) := C0.cell 4
  dsimp only
  go_wp2_with fail
  refine bodyPost_ret (v := .agg #[.int .i64 0, .int .u64 (rUint zs err).1, .int .i64 0, .slice none 0 0, .slice none 0 0]) (results_cell_row rfl _ _ w.heap.size 28 _ (0, 0) _ rfl ((((((C0.far (p := ⟨w.heap.size + 1, 1, none⟩) (by simp) _).set 0 _).set 1 _).set 2 _).set 3 _).set 4 _) Try.underlying28 rfl rfl) rfl ?_
  refine read_fin (R := readM 0 zs err) (.slice none 0 0) (.slice none 0 0) h hRl (nil_row _ _ _) (nil_row _ _ _) h1 o1 ?_ ?_
  · repeat (refine Below.setCell ?_ (by simp) _)
    exact Below.refl _ _
  · repeat (refine keepP_set ?_ _ _ _ (by omega))
    exact KeepP.refl _ _

set_option maxHeartbeats 4000000 in
theorem read_k1 (b d : Nat) (zs : List Int) (err : Int) (w : World) (h : Rd w b d zs err) (hz : ∀ x ∈ zs, 0 ≤ x ∧ x < 256) (hm : zs.length ≤ 10000000) :
    Calls Try.prog 22 #[.pointer (some ⟨b, 0, none⟩), .int .i64 1] w (ReadNew b d w (readM 1 zs err)) := by
  have HZ := Lib.hid hz; clear hz
  have hlt := h.lt
  have hRl := readM_len 1 zs err
  have h' := h.below hlt h.dlt (laidB (laidB (Below.refl w.heap.size w) (.cells #[.int .i64 0, .int .u64 0, .int .i64 0, .slice none 0 0, .slice none 0 0] 28)) (.cells #[.int .i64 1, .int .u64 0, .int .i64 0, .slice none 0 0, .slice none 0 0] 28))
  go_enter Try.func22, Try.ntmps22
  go_wp2_with fail
  refine (int_any b d zs err _ h' HZ.out).mono ?_
  rintro e w1 ⟨rfl, h1, ho1⟩
  have C0 := ((Cel.new w 28 #[.int .i64 0, .int .u64 0, .int .i64 0, .slice none 0 0, .slice none 0 0]).alloc (.cells #[.int .i64 1, .int .u64 0, .int .i64 0, .slice none 0 0, .slice none 0 0] 28)).grown ho1 (by simp; omega)
  have C1 := (Cel.new (w.alloc (.cells #[.int .i64 0, .int .u64 0, .int .i64 0, .slice none 0 0, .slice none 0 0] 28)) 28 #[.int .i64 1, .int .u64 0, .int .i64 0, .slice none 0 0, .slice none 0 0]).grown ho1 (by simp; omega)
  rw [show (w.alloc (.cells #[.int .i64 0, .int .u64 0, .int .i64 0, .slice none 0 0, .slice none 0 0] 28)).heap.size = w.heap.size + 1 from by simp] at C1
  have o1 := only_of b w _ _ ho1
  have hs1 : w.heap.size + 2 ≤ w1.heap.size := by have := ho1.size; simp at this; omega
  clear ho1 h'
  have f1 := C1.free
  have f0 := C0.free
  have x0 : w1.cell? ⟨w.heap.size + 1, 0, none⟩ = some (.int .i64 1) := C1.cell 0
  have x1 : w1.cell? ⟨w.heap.size + 1, 1, none⟩ = some (.int .u64 0) := C1.cell 1
  have x2 : w1.cell? ⟨w.heap.size + 1, 2, none⟩ = some (.int .i64 0) := C1.cell 2
  have x3 : w1.cell? ⟨w.heap.size + 1, 3, none⟩ = some (.slice none 0 0) := C1.cell 3
  have x4 : w1.cell? ⟨w.heap.size + 1, 4, none⟩ = some (.slice none 0 0) := C1.cell 4
  have y0 : w1.cell? ⟨w.heap.size, 0, none⟩ = some (.int .i64 0) := C0.cell 0
  have y1 : w1.cell? ⟨w.heap.size, 1, none⟩ = some (.int .u64 0) := C0.cell 1
  have y2 : w1.cell? ⟨w.heap.size, 2, none⟩ = some (.int .i64 0) := C0.cell 2
  have y3 : w1.cell? ⟨w.heap.size, 3, none⟩ = some (.slice none 0 0) := C0.cell 3
  have y4 : w1.cell? ⟨w.heap.size, 4, none⟩ = some (.slice none 0 0) := C0.cell 4
  dsimp only
  go_wp2_with fail
  refine bodyPost_ret (v := .agg #[.int .i64 1, .int .u64 0, .int .i64 (rInt zs err).1, .slice none 0 0, .slice none 0 0]) (results_cell_row rfl _ _ w.heap.size 28 _ (0, 0) _ rfl ((((((C0.far (p := ⟨w.heap.size + 1, 2, none⟩) (by simp) _).set 0 _).set 1 _).set 2 _).set 3 _).set 4 _) Try.underlying28 rfl rfl) rfl ?_
  refine read_fin (R := readM 1 zs err) (.slice none 0 0) (.slice none 0 0) h hRl (nil_row _ _ _) (nil_row _ _ _) h1 o1 ?_ ?_
  · repeat (refine Below.setCell ?_ (by simp) _)
    exact Below.refl _ _
  · repeat (refine keepP_set ?_ _ _ _ (by omega))
    exact KeepP.refl _ _

set_option maxHeartbeats 4000000 in
theorem read_k2t (b d : Nat) (zs : List Int) (err : Int) (w : World) (h : Rd w b d zs err) (hz : ∀ x ∈ zs, 0 ≤ x ∧ x < 256) (hm : zs.length ≤ 10000000) (hq : (rBool zs err).1 = true) :
    Calls Try.prog 22 #[.pointer (some ⟨b, 0, none⟩), .int .i64 2] w (ReadNew b d w (readM 2 zs err)) := by
  have HZ := Lib.hid hz; clear hz
  have hlt := h.lt
  have hRl := readM_len 2 zs err
  have h' := h.below hlt h.dlt (laidB (laidB (Below.refl w.heap.size w) (.cells #[.int .i64 0, .int .u64 0, .int .i64 0, .slice none 0 0, .slice none 0 0] 28)) (.cells #[.int .i64 2, .int .u64 0, .int .i64 0, .slice none 0 0, .slice none 0 0] 28))
  have HQ := Lib.hid hq; clear hq
  go_enter Try.func22, Try.ntmps22
  go_wp2_with fail
  refine (rbool_any b d zs err _ h' HZ.out).mono ?_
  rintro e w1 ⟨rfl, h1, ho1⟩
  rw [HQ.out]
  have C0 := ((Cel.new w 28 #[.int .i64 0, .int .u64 0, .int .i64 0, .slice none 0 0, .slice none 0 0]).alloc (.cells #[.int .i64 2, .int .u64 0, .int .i64 0, .slice none 0 0, .slice none 0 0] 28)).grown ho1 (by simp; omega)
  have C1 := (Cel.new (w.alloc (.cells #[.int .i64 0, .int .u64 0, .int .i64 0, .slice none 0 0, .slice none 0 0] 28)) 28 #[.int .i64 2, .int .u64 0, .int .i64 0, .slice none 0 0, .slice none 0 0]).grown ho1 (by simp; omega)
  rw [show (w.alloc (.cells #[.int .i64 0, .int .u64 0, .int .i64 0, .slice none 0 0, .slice none 0 0] 28)).heap.size = w.heap.size + 1 from by simp] at C1
  have o1 := only_of b w _ _ ho1
  have hs1 : w.heap.size + 2 ≤ w1.heap.size := by have := ho1.size; simp at this; omega
  clear ho1 h'
  have f1 := C1.free
  have f0 := C0.free
  have x0 : w1.cell? ⟨w.heap.size + 1, 0, none⟩ = some (.int .i64 2) := C1.cell 0
  have x1 : w1.cell? ⟨w.heap.size + 1, 1, none⟩ = some (.int .u64 0) := C1.cell 1
  have x2 : w1.cell? ⟨w.heap.size + 1, 2, none⟩ = some (.int .i64 0) := C1.cell 2
  have x3 : w1.cell? ⟨w.heap.size + 1, 3, none⟩ = some (.slice none 0 0) := C1.cell 3
  have x4 : w1.cell? ⟨w.heap.size + 1, 4, none⟩ = some (.slice none 0 0) := C1.cell 4
  have y0 : w1.cell? ⟨w.heap.size, 0, none⟩ = some (.int .i64 0) := C0.cell 0
  have y1 : w1.cell? ⟨w.heap.size, 1, none⟩ = some (.int .u64 0) := C0.cell 1
  have y2 : w1.cell? ⟨w.heap.size, 2, none⟩ = some (.int .i64 0) := C0.cell 2
  have y3 : w1.cell? ⟨w.heap.size, 3, none⟩ = some (.slice none 0 0) := C0.cell 3
  have y4 : w1.cell? ⟨w.heap.size, 4, none⟩ = some (.slice none 0 0) := C0.cell 4
  dsimp only
  go_wp2_with fail
  refine bodyPost_ret (v := .agg #[.int .i64 2, .int .u64 0, .int .i64 1, .slice none 0 0, .slice none 0 0]) (results_cell_row rfl _ _ w.heap.size 28 _ (0, 0) _ rfl ((((((C0.far (p := ⟨w.heap.size + 1, 2, none⟩) (by simp) _).set 0 _).set 1 _).set 2 _).set 3 _).set 4 _) Try.underlying28 rfl rfl) rfl ?_
  have hR : readM 2 zs err = (⟨2, 0, 1, [], []⟩, (rBool zs err).2) := by show (VM.mk 2 0 (if (rBool zs err).1 = true then 1 else 0) [] [], (rBool zs err).2) = _; rw [HQ.out]; rfl
  rw [hR] at hRl ⊢
  refine read_fin (R := (⟨2, 0, 1, [], []⟩, (rBool zs err).2)) (.slice none 0 0) (.slice none 0 0) h hRl (nil_row _ _ _) (nil_row _ _ _) h1 o1 ?_ ?_
  · repeat (refine Below.setCell ?_ (by simp) _)
    exact Below.refl _ _
  · repeat (refine keepP_set ?_ _ _ _ (by omega))
    exact KeepP.refl _ _

set_option maxHeartbeats 4000000 in
theorem read_k2f (b d : Nat) (zs : List Int) (err : Int) (w : World) (h : Rd w b d zs err) (hz : ∀ x ∈ zs, 0 ≤ x ∧ x < 256) (hm : zs.length ≤ 10000000) (hq : (rBool zs err).1 = false) :
    Calls Try.prog 22 #[.pointer (some ⟨b, 0, none⟩), .int .i64 2] w (ReadNew b d w (readM 2 zs err)) := by
  have HZ := Lib.hid hz; clear hz
  have hlt := h.lt
  have hRl := readM_len 2 zs err
  have h' := h.below hlt h.dlt (laidB (laidB (Below.refl w.heap.size w) (.cells #[.int .i64 0, .int .u64 0, .int .i64 0, .slice none 0 0, .slice none 0 0] 28)) (.cells #[.int .i64 2, .int .u64 0, .int .i64 0, .slice none 0 0, .slice none 0 0] 28))
  have HQ := Lib.hid hq; clear hq
  go_enter Try.func22, Try.ntmps22
  go_wp2_with fail
  refine (rbool_any b d zs err _ h' HZ.out).mono ?_
  rintro e w1 ⟨rfl, h1, ho1⟩
  rw [HQ.out]
  have C0 := ((Cel.new w 28 #[.int .i64 0, .int .u64 0, .int .i64 0, .slice none 0 0, .slice none 0 0]).alloc (.cells #[.int .i64 2, .int .u64 0, .int .i64 0, .slice none 0 0, .slice none 0 0] 28)).grown ho1 (by simp; omega)
  have C1 := (Cel.new (w.alloc (.cells #[.int .i64 0, .int .u64 0, .int .i64 0, .slice none 0 0, .slice none 0 0] 28)) 28 #[.int .i64 2, .int .u64 0, .int .i64 0, .slice none 0 0, .slice none 0 0]).grown ho1 (by simp; omega)
  rw [show (w.alloc (.cells #[.int .i64 0, .int .u64 0, .int .i64 0, .slice none 0 0, .slice none 0 0] 28)).heap.size = w.heap.size + 1 from by simp] at C1
  have o1 := only_of b w _ _ ho1
  have hs1 : w.heap.size + 2 ≤ w1.heap.size := by have := ho1.size; simp at this; omega
  clear ho1 h'
  have f1 := C1.free
  have f0 := C0.free
  have x0 : w1.cell? ⟨w.heap.size + 1, 0, none⟩ = some (.int .i64 2) := C1.cell 0
  have x1 : w1.cell? ⟨w.heap.size + 1, 1, none⟩ = some (.int .u64 0) := C1.cell 1
  have x2 : w1.cell? ⟨w.heap.size + 1, 2, none⟩ = some (.int .i64 0) := C1.cell 2
  have x3 : w1.cell? ⟨w.heap.size + 1, 3, none⟩ = some (.slice none 0 0) := C1.cell 3
  have x4 : w1.cell? ⟨w.heap.size + 1, 4, none⟩ = some (.slice none 0 0) := C1.cell 4
  have y0 : w1.cell? ⟨w.heap.size, 0, none⟩ = some (.int .i64 0) := C0.cell 0
  have y1 : w1.cell? ⟨w.heap.size, 1, none⟩ = some (.int .u64 0) := C0.cell 1
  have y2 : w1.cell? ⟨w.heap.size, 2, none⟩ = some (.int .i64 0) := C0.cell 2
  have y3 : w1.cell? ⟨w.heap.size, 3, none⟩ = some (.slice none 0 0) := C0.cell 3
  have y4 : w1.cell? ⟨w.heap.size, 4, none⟩ = some (.slice none 0 0) := C0.cell 4
  dsimp only
  go_wp2_with fail
  refine bodyPost_ret (v := .agg #[.int .i64 2, .int .u64 0, .int .i64 0, .slice none 0 0, .slice none 0 0]) (results_cell_row rfl _ _ w.heap.size 28 _ (0, 0) _ rfl ((((((C0).set 0 _).set 1 _).set 2 _).set 3 _).set 4 _) Try.underlying28 rfl rfl) rfl ?_
  have hR : readM 2 zs err = (⟨2, 0, 0, [], []⟩, (rBool zs err).2) := by show (VM.mk 2 0 (if (rBool zs err).1 = true then 1 else 0) [] [], (rBool zs err).2) = _; rw [HQ.out]; rfl
  rw [hR] at hRl ⊢
  refine read_fin (R := (⟨2, 0, 0, [], []⟩, (rBool zs err).2)) (.slice none 0 0) (.slice none 0 0) h hRl (nil_row _ _ _) (nil_row _ _ _) h1 o1 ?_ ?_
  · repeat (refine Below.setCell ?_ (by simp) _)
    exact Below.refl _ _
  · repeat (refine keepP_set ?_ _ _ _ (by omega))
    exact KeepP.refl _ _

set_option maxHeartbeats 4000000 in
theorem read_k4 (b d : Nat) (zs : List Int) (err : Int) (w : World) (h : Rd w b d zs err) (hz : ∀ x ∈ zs, 0 ≤ x ∧ x < 256) (hm : zs.length ≤ 10000000) :
    Calls Try.prog 22 #[.pointer (some ⟨b, 0, none⟩), .int .i64 4] w (ReadNew b d w (readM 4 zs err)) := by
  have HZ := Lib.hid hz; clear hz
  have hlt := h.lt
  have hRl := readM_len 4 zs err
  have h' := h.below hlt h.dlt (laidB (laidB (Below.refl w.heap.size w) (.cells #[.int .i64 0, .int .u64 0, .int .i64 0, .slice none 0 0, .slice none 0 0] 28)) (.cells #[.int .i64 4, .int .u64 0, .int .i64 0, .slice none 0 0, .slice none 0 0] 28))
  go_enter Try.func22, Try.ntmps22
  go_wp2_with fail
  refine (raw_any b d zs err _ h' HZ.out hm).mono ?_
  rintro e w1 ⟨sv, rfl, hoR, h1, ho1⟩
  have hrow := (row_own2 hoR).mono (q := fun g => w.heap.size + 2 ≤ g ∧ g < w1.heap.size) (fun g hg => by have := hg.1; simp at this; omega)
  obtain ⟨sa, sn, sc, rfl⟩ := owns_slice hoR
  clear hoR
  have C0 := ((Cel.new w 28 #[.int .i64 0, .int .u64 0, .int .i64 0, .slice none 0 0, .slice none 0 0]).alloc (.cells #[.int .i64 4, .int .u64 0, .int .i64 0, .slice none 0 0, .slice none 0 0] 28)).grown ho1 (by simp; omega)
  have C1 := (Cel.new (w.alloc (.cells #[.int .i64 0, .int .u64 0, .int .i64 0, .slice none 0 0, .slice none 0 0] 28)) 28 #[.int .i64 4, .int .u64 0, .int .i64 0, .slice none 0 0, .slice none 0 0]).grown ho1 (by simp; omega)
  rw [show (w.alloc (.cells #[.int .i64 0, .int .u64 0, .int .i64 0, .slice none 0 0, .slice none 0 0] 28)).heap.size = w.heap.size + 1 from by simp] at C1
  have o1 := only_of b w _ _ ho1
  have hs1 : w.heap.size + 2 ≤ w1.heap.size := by have := ho1.size; simp at this; omega
  clear ho1 h'
  have f1 := C1.free
  have f0 := C0.free
  have x0 : w1.cell? ⟨w.heap.size + 1, 0, none⟩ = some (.int .i64 4) := C1.cell 0
  have x1 : w1.cell? ⟨w.heap.size + 1, 1, none⟩ = some (.int .u64 0) := C1.cell 1
  have x2 : w1.cell? ⟨w.heap.size + 1, 2, none⟩ = some (.int .i64 0) := C1.cell 2
  have x3 : w1.cell? ⟨w.heap.size + 1, 3, none⟩ = some (.slice none 0 0) := C1.cell 3
  have x4 : w1.cell? ⟨w.heap.size + 1, 4, none⟩ = some (.slice none 0 0) := C1.cell 4
  have y0 : w1.cell? ⟨w.heap.size, 0, none⟩ = some (.int .i64 0) := C0.cell 0
  have y1 : w1.cell? ⟨w.heap.size, 1, none⟩ = some (.int .u64 0) := C0.cell 1
  have y2 : w1.cell? ⟨w.heap.size, 2, none⟩ = some (.int .i64 0) := C0.cell 2
  have y3 : w1.cell? ⟨w.heap.size, 3, none⟩ = some (.slice none 0 0) := C0.cell 3
  have y4 : w1.cell? ⟨w.heap.size, 4, none⟩ = some (.slice none 0 0) := C0.cell 4
  dsimp only
  go_wp2_with fail
  refine bodyPost_ret (v := .agg #[.int .i64 4, .int .u64 0, .int .i64 0, .slice sa sn sc, .slice none 0 0]) (results_cell_row rfl _ _ w.heap.size 28 _ (0, 0) _ rfl ((((((C0.far (p := ⟨w.heap.size + 1, 3, none⟩) (by simp) _).set 0 _).set 1 _).set 2 _).set 3 _).set 4 _) Try.underlying28 rfl rfl) rfl ?_
  refine read_fin (R := readM 4 zs err) (.slice sa sn sc) (.slice none 0 0) h hRl hrow (nil_row _ _ _) h1 o1 ?_ ?_
  · repeat (refine Below.setCell ?_ (by simp) _)
    exact Below.refl _ _
  · repeat (refine keepP_set ?_ _ _ _ (by omega))
    exact KeepP.refl _ _

set_option maxHeartbeats 4000000 in
theorem read_k5 (b d : Nat) (zs : List Int) (err : Int) (w : World) (h : Rd w b d zs err) (hz : ∀ x ∈ zs, 0 ≤ x ∧ x < 256) (hm : zs.length ≤ 10000000) :
    Calls Try.prog 22 #[.pointer (some ⟨b, 0, none⟩), .int .i64 5] w (ReadNew b d w (readM 5 zs err)) := by
  have HZ := Lib.hid hz; clear hz
  have hlt := h.lt
  have hRl := readM_len 5 zs err
  have h' := h.below hlt h.dlt (laidB (laidB (Below.refl w.heap.size w) (.cells #[.int .i64 0, .int .u64 0, .int .i64 0, .slice none 0 0, .slice none 0 0] 28)) (.cells #[.int .i64 5, .int .u64 0, .int .i64 0, .slice none 0 0, .slice none 0 0] 28))
  go_enter Try.func22, Try.ntmps22
  go_wp2_with fail
  refine (rints_any b d zs err _ h' HZ.out hm).mono ?_
  rintro e w1 ⟨sv, rfl, hoR, h1, ho1⟩
  have hrow := (row_own2 hoR).mono (q := fun g => w.heap.size + 2 ≤ g ∧ g < w1.heap.size) (fun g hg => by have := hg.1; simp at this; omega)
  obtain ⟨sa, sn, sc, rfl⟩ := owns_slice hoR
  clear hoR
  have C0 := ((Cel.new w 28 #[.int .i64 0, .int .u64 0, .int .i64 0, .slice none 0 0, .slice none 0 0]).alloc (.cells #[.int .i64 5, .int .u64 0, .int .i64 0, .slice none 0 0, .slice none 0 0] 28)).grown ho1 (by simp; omega)
  have C1 := (Cel.new (w.alloc (.cells #[.int .i64 0, .int .u64 0, .int .i64 0, .slice none 0 0, .slice none 0 0] 28)) 28 #[.int .i64 5, .int .u64 0, .int .i64 0, .slice none 0 0, .slice none 0 0]).grown ho1 (by simp; omega)
  rw [show (w.alloc (.cells #[.int .i64 0, .int .u64 0, .int .i64 0, .slice none 0 0, .slice none 0 0] 28)).heap.size = w.heap.size + 1 from by simp] at C1
  have o1 := only_of b w _ _ ho1
  have hs1 : w.heap.size + 2 ≤ w1.heap.size := by have := ho1.size; simp at this; omega
  clear ho1 h'
  have f1 := C1.free
  have f0 := C0.free
  have x0 : w1.cell? ⟨w.heap.size + 1, 0, none⟩ = some (.int .i64 5) := C1.cell 0
  have x1 : w1.cell? ⟨w.heap.size + 1, 1, none⟩ = some (.int .u64 0) := C1.cell 1
  have x2 : w1.cell? ⟨w.heap.size + 1, 2, none⟩ = some (.int .i64 0) := C1.cell 2
  have x3 : w1.cell? ⟨w.heap.size + 1, 3, none⟩ = some (.slice none 0 0) := C1.cell 3
  have x4 : w1.cell? ⟨w.heap.size + 1, 4, none⟩ = some (.slice none 0 0) := C1.cell 4
  have y0 : w1.cell? ⟨w.heap.size, 0, none⟩ = some (.int .i64 0) := C0.cell 0
  have y1 : w1.cell? ⟨w.heap.size, 1, none⟩ = some (.int .u64 0) := C0.cell 1
  have y2 : w1.cell? ⟨w.heap.size, 2, none⟩ = some (.int .i64 0) := C0.cell 2
  have y3 : w1.cell? ⟨w.heap.size, 3, none⟩ = some (.slice none 0 0) := C0.cell 3
  have y4 : w1.cell? ⟨w.heap.size, 4, none⟩ = some (.slice none 0 0) := C0.cell 4
  dsimp only
  go_wp2_with fail
  refine bodyPost_ret (v := .agg #[.int .i64 5, .int .u64 0, .int .i64 0, .slice none 0 0, .slice sa sn sc]) (results_cell_row rfl _ _ w.heap.size 28 _ (0, 0) _ rfl ((((((C0.far (p := ⟨w.heap.size + 1, 4, none⟩) (by simp) _).set 0 _).set 1 _).set 2 _).set 3 _).set 4 _) Try.underlying28 rfl rfl) rfl ?_
  refine read_fin (R := readM 5 zs err) (.slice none 0 0) (.slice sa sn sc) h hRl (nil_row _ _ _) hrow h1 o1 ?_ ?_
  · repeat (refine Below.setCell ?_ (by simp) _)
    exact Below.refl _ _
  · repeat (refine keepP_set ?_ _ _ _ (by omega))
    exact KeepP.refl _ _

set_option maxHeartbeats 4000000 in
theorem read_k3 (b d : Nat) (zs : List Int) (err : Int) (w : World) (h : Rd w b d zs err) (hz : ∀ x ∈ zs, 0 ≤ x ∧ x < 256) (hm : zs.length ≤ 10000000) :
    Calls Try.prog 22 #[.pointer (some ⟨b, 0, none⟩), .int .i64 3] w (ReadNew b d w (readM 3 zs err)) := by
  have HZ := Lib.hid hz; clear hz
  have hlt := h.lt
  have hRl := readM_len 3 zs err
  have h' := h.below hlt h.dlt (laidB (laidB (Below.refl w.heap.size w) (.cells #[.int .i64 0, .int .u64 0, .int .i64 0, .slice none 0 0, .slice none 0 0] 28)) (.cells #[.int .i64 3, .int .u64 0, .int .i64 0, .slice none 0 0, .slice none 0 0] 28))
  have HT : Hid (bytesI (strOfNums (rRaw zs err).1) = (rRaw zs err).1) := Lib.hid (bytesI_str _ (rRaw_rng zs err HZ.out))
  go_enter Try.func22, Try.ntmps22
  go_wp2_with fail
  refine (text_any b d zs err _ h' HZ.out hm).mono ?_
  rintro e w1 ⟨rfl, h1, ho1⟩
  have C0 := ((Cel.new w 28 #[.int .i64 0, .int .u64 0, .int .i64 0, .slice none 0 0, .slice none 0 0]).alloc (.cells #[.int .i64 3, .int .u64 0, .int .i64 0, .slice none 0 0, .slice none 0 0] 28)).grown ho1 (by simp; omega)
  have C1 := (Cel.new (w.alloc (.cells #[.int .i64 0, .int .u64 0, .int .i64 0, .slice none 0 0, .slice none 0 0] 28)) 28 #[.int .i64 3, .int .u64 0, .int .i64 0, .slice none 0 0, .slice none 0 0]).grown ho1 (by simp; omega)
  rw [show (w.alloc (.cells #[.int .i64 0, .int .u64 0, .int .i64 0, .slice none 0 0, .slice none 0 0] 28)).heap.size = w.heap.size + 1 from by simp] at C1
  have o1 := only_of b w _ _ ho1
  have hs1 : w.heap.size + 2 ≤ w1.heap.size := by have := ho1.size; simp at this; omega
  clear ho1 h'
  obtain ⟨sc, w2, hrun, hrow, hB2⟩ := conv_str (strOfNums (rRaw zs err).1) (by have h1 := rRaw_len1 zs err; have h2 := congrArg List.length HT.out; rw [bytesI_len] at h2; unfold maxLen; omega) w1
  rw [HT.out] at hrow
  replace hrow := hrow.mono (q := fun g => w.heap.size + 2 ≤ g ∧ g < w2.heap.size) (fun g hg => by omega)
  replace C0 := C0.step hB2
  replace C1 := C1.step hB2
  replace h1 := h1.below h1.lt h1.dlt hB2
  replace o1 := only_belowN o1 (hB2.mono o1.size)
  have hs2 := hB2.size
  have f1 := C1.free
  have f0 := C0.free
  have x0 : w2.cell? ⟨w.heap.size + 1, 0, none⟩ = some (.int .i64 3) := C1.cell 0
  have x1 : w2.cell? ⟨w.heap.size + 1, 1, none⟩ = some (.int .u64 0) := C1.cell 1
  have x2 : w2.cell? ⟨w.heap.size + 1, 2, none⟩ = some (.int .i64 0) := C1.cell 2
  have x3 : w2.cell? ⟨w.heap.size + 1, 3, none⟩ = some (.slice none 0 0) := C1.cell 3
  have x4 : w2.cell? ⟨w.heap.size + 1, 4, none⟩ = some (.slice none 0 0) := C1.cell 4
  have y0 : w2.cell? ⟨w.heap.size, 0, none⟩ = some (.int .i64 0) := C0.cell 0
  have y1 : w2.cell? ⟨w.heap.size, 1, none⟩ = some (.int .u64 0) := C0.cell 1
  have y2 : w2.cell? ⟨w.heap.size, 2, none⟩ = some (.int .i64 0) := C0.cell 2
  have y3 : w2.cell? ⟨w.heap.size, 3, none⟩ = some (.slice none 0 0) := C0.cell 3
  have y4 : w2.cell? ⟨w.heap.size, 4, none⟩ = some (.slice none 0 0) := C0.cell 4
  dsimp only
  go_wp2_with fail
  refine bodyPost_ret (v := .agg #[.int .i64 3, .int .u64 0, .int .i64 0, .slice (some ⟨w1.heap.size, 0, none⟩) (strOfNums (rRaw zs err).1).size sc, .slice none 0 0]) (results_cell_row rfl _ _ w.heap.size 28 _ (0, 0) _ rfl ((((((C0.far (p := ⟨w.heap.size + 1, 3, none⟩) (by simp) _).set 0 _).set 1 _).set 2 _).set 3 _).set 4 _) Try.underlying28 rfl rfl) rfl ?_
  refine read_fin (R := readM 3 zs err) (.slice (some ⟨w1.heap.size, 0, none⟩) (strOfNums (rRaw zs err).1).size sc) (.slice none 0 0) h hRl hrow (nil_row _ _ _) h1 o1 ?_ ?_
  · repeat (refine Below.setCell ?_ (by simp) _)
    exact Below.refl _ _
  · repeat (refine keepP_set ?_ _ _ _ (by omega))
    exact KeepP.refl _ _

theorem lread_new (b d : Nat) (k : Int) (zs : List Int) (err : Int) (w : World) (h : Rd w b d zs err) (hz : ∀ x ∈ zs, 0 ≤ x ∧ x < 256) (hm : zs.length ≤ 10000000) (hk : 0 ≤ k ∧ k < 6) :
    Calls Try.prog 22 #[.pointer (some ⟨b, 0, none⟩), .int .i64 k] w (ReadNew b d w (readM k zs err)) := by
  have hk' : k = 0 ∨ k = 1 ∨ k = 2 ∨ k = 3 ∨ k = 4 ∨ k = 5 := by omega
  rcases hk' with rfl | rfl | rfl | rfl | rfl | rfl
  · exact read_k0 b d zs err w h hz hm
  · exact read_k1 b d zs err w h hz hm
  · cases hq : (rBool zs err).1
    · exact read_k2f b d zs err w h hz hm hq
    · exact read_k2t b d zs err w h hz hm hq
  · exact read_k3 b d zs err w h hz hm
  · exact read_k4 b d zs err w h hz hm
  · exact read_k5 b d zs err w h hz hm

theorem lread_any (b d : Nat) (k : Int) (zs : List Int) (err : Int) (w : World) (h : Rd w b d zs err) (hz : ∀ x ∈ zs, 0 ≤ x ∧ x < 256) (hm : zs.length ≤ 10000000) (hk : 0 ≤ k ∧ k < 6) :
    Calls Try.prog 22 #[.pointer (some ⟨b, 0, none⟩), .int .i64 k] w (ReadPost b d w (readM k zs err)) :=
  (lread_new b d k zs err w h hz hm hk).mono fun _ _ h => h.post
end Go.Proofs.Ytpoldhblddlcpaa
