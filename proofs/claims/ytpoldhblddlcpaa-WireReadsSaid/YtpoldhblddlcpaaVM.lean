/- The reference model's values: what they are, how they lie. -/
import Derived.Test.YtpoldhblddlcpaaRefB
import Derived.Test.YtpoldhblddlcpaaWire2
import Derived.Test.YtpoldhblddlcpaaWireR3
import Derived.Test.YtpoldhblddlcpaaWireMath4
import Derived.Test.YtpoldhblddlcpaaCel
namespace Go.Proofs.Ytpoldhblddlcpaa
open Go.RowKit Go.Shelf
set_option linter.unusedVariables false

/-- A value of the reference model. -/
structure VM where
  kind : Int
  u : Int
  n : Int
  B : List Int
  L : List Int
def VM.canon (v : VM) : Prop :=
  (v.kind = 0 ∧ v.n = 0 ∧ v.B = [] ∧ v.L = []) ∨ (v.kind = 1 ∧ v.u = 0 ∧ v.B = [] ∧ v.L = []) ∨ (v.kind = 2 ∧ (v.n = 0 ∨ v.n = 1) ∧ v.u = 0 ∧ v.B = [] ∧ v.L = []) ∨
  ((v.kind = 3 ∨ v.kind = 4) ∧ v.n = 0 ∧ v.u = 0 ∧ v.L = []) ∨ (v.kind = 5 ∧ v.n = 0 ∧ v.u = 0 ∧ v.B = [])
structure VM.ok (v : VM) : Prop where
  u0 : 0 ≤ v.u
  u1 : v.u < 18446744073709551616
  n : (Lit.int .i64 v.n).wf = true
  B : ∀ x ∈ v.B, 0 ≤ x ∧ x < 256
  Bl : v.B.length ≤ 200
  L : ∀ n ∈ v.L, (Lit.int .i64 n).wf = true
  Ll : v.L.length ≤ 200
  canon : v.canon
/-- A value as it can come out of a reader. -/
structure VM.okL (v : VM) : Prop where
  u0 : 0 ≤ v.u
  u1 : v.u < 18446744073709551616
  n : (Lit.int .i64 v.n).wf = true
  B : ∀ x ∈ v.B, 0 ≤ x ∧ x < 256
  Bl : v.B.length ≤ 100000
  L : ∀ n ∈ v.L, (Lit.int .i64 n).wf = true
  Ll : v.L.length ≤ 100000
  canon : v.canon
theorem VM.ok.big {v : VM} (h : v.ok) : v.okL := ⟨h.u0, h.u1, h.n, h.B, Nat.le_trans h.Bl (by decide), h.L, Nat.le_trans h.Ll (by decide), h.canon⟩
/-- The bytes of a value. -/
def vbytes (v : VM) : List Int :=
  if v.kind = 0 then vint v.u.toNat else if v.kind = 1 then sint v.n else if v.kind = 2 then [if v.n = 1 then 1 else 0] else if v.kind = 3 ∨ v.kind = 4 then vint v.B.length ++ v.B else sints v.L
theorem vbytes_len (v : VM) (h : v.ok) : (vbytes v).length ≤ 3000 := by
  have h1 := (vint_length v.u.toNat).2
  have h2 := (vint_length (zig v.n)).2
  have h3 := (vint_length v.B.length).2
  have h4 := (vint_length v.L.length).2
  have h5 := sints_le v.L
  have h6 := h.Bl
  have h7 := h.Ll
  unfold vbytes sint sints
  split
  · omega
  · split
    · omega
    · split
      · simp
      · split
        · rw [List.length_append]; omega
        · rw [List.length_append]; omega
/-- The bytes of values. -/
def vsbytes (l : List VM) : List Int := (l.map vbytes).flatten
theorem vsbytes_len (l : List VM) (h : ∀ v ∈ l, v.ok) : (vsbytes l).length ≤ 3000 * l.length := by
  unfold vsbytes
  induction l with
  | nil => simp
  | cons x l ih =>
    have h1 := vbytes_len x (h x (List.mem_cons_self ..))
    have h2 := ih (fun v hv => h v (List.mem_cons_of_mem _ hv))
    simp only [List.map_cons, List.flatten_cons, List.length_append, List.length_cons]
    omega
theorem vsbytes_take (l : List VM) (k : Nat) (v : VM) (h : l[k]? = some v) : vsbytes (l.take (k + 1)) = vsbytes (l.take k) ++ vbytes v := by
  obtain ⟨hk, rfl⟩ := List.getElem?_eq_some_iff.1 h
  unfold vsbytes
  rw [List.take_succ_eq_append_getElem hk, List.map_append, List.flatten_append]
  simp

/-- The five cells of a value. -/
def VCells (n₀ : Nat) (W : World) (v : VM) (cs : List Value) : Prop :=
  ∃ sb sl, cs = [.int .i64 v.kind, .int .u64 v.u, .int .i64 v.n, sb, sl] ∧ Row .u8 n₀ W sb v.B ∧ Row .i64 n₀ W sl v.L
/-- A value, held by value. -/
def VV (n₀ : Nat) (W : World) (v : VM) (x : Value) : Prop :=
  ∃ sb sl, x = .agg #[.int .i64 v.kind, .int .u64 v.u, .int .i64 v.n, sb, sl] ∧ Row .u8 n₀ W sb v.B ∧ Row .i64 n₀ W sl v.L
theorem VV.below {n₀ : Nat} {W W' : World} {v : VM} {x : Value} (h : VV n₀ W v x) (hb : Below n₀ W W') : VV n₀ W' v x := by
  obtain ⟨sb, sl, rfl, h1, h2⟩ := h
  exact ⟨sb, sl, rfl, RowP.below hb h1, RowP.below hb h2⟩
theorem VV.more {n₀ n₁ : Nat} {W : World} {v : VM} {x : Value} (h : VV n₀ W v x) (hn : n₀ ≤ n₁) : VV n₁ W v x := by
  obtain ⟨sb, sl, rfl, h1, h2⟩ := h
  exact ⟨sb, sl, rfl, RowP.mono (fun _ h => by omega) h1, RowP.mono (fun _ h => by omega) h2⟩
/-- A slice of values, in blocks below a number. -/
def VRow (n₀ : Nat) (W : World) (x : Value) (l : List VM) : Prop :=
  ∃ a cap, x = .slice a l.length cap ∧ l.length ≤ cap ∧ cap ≤ maxLen ∧ (l = [] ∨ ∃ b off, a = some ⟨b, off, none⟩ ∧ b < n₀ ∧ ∀ (i : Nat) (v : VM), l[i]? = some v → ∃ sb sl, Row .u8 n₀ W sb v.B ∧ Row .i64 n₀ W sl v.L ∧
    W.cell? ⟨b, off + i * 5, none⟩ = some (.int .i64 v.kind) ∧ W.cell? ⟨b, off + i * 5 + 1, none⟩ = some (.int .u64 v.u) ∧ W.cell? ⟨b, off + i * 5 + 2, none⟩ = some (.int .i64 v.n) ∧ W.cell? ⟨b, off + i * 5 + 3, none⟩ = some sb ∧ W.cell? ⟨b, off + i * 5 + 4, none⟩ = some sl)
theorem VRow.below {n₀ : Nat} {W W' : World} {x : Value} {l : List VM} (h : VRow n₀ W x l) (hb : Below n₀ W W') : VRow n₀ W' x l := by
  obtain ⟨a, cap, rfl, h1, h2, h3⟩ := h
  refine ⟨a, cap, rfl, h1, h2, h3.imp id ?_⟩
  rintro ⟨b, off, rfl, hbn, hc⟩
  refine ⟨b, off, rfl, hbn, fun i v hv => ?_⟩
  obtain ⟨sb, sl, r1, r2, c0, c1, c2, c3, c4⟩ := hc i v hv
  exact ⟨sb, sl, RowP.below hb r1, RowP.below hb r2, (hb.cell (p := ⟨b, _, none⟩) hbn).trans c0, (hb.cell (p := ⟨b, _, none⟩) hbn).trans c1, (hb.cell (p := ⟨b, _, none⟩) hbn).trans c2, (hb.cell (p := ⟨b, _, none⟩) hbn).trans c3, (hb.cell (p := ⟨b, _, none⟩) hbn).trans c4⟩
theorem VRow.more {n₀ n₁ : Nat} {W : World} {x : Value} {l : List VM} (h : VRow n₀ W x l) (hn : n₀ ≤ n₁) : VRow n₁ W x l := by
  obtain ⟨a, cap, rfl, h1, h2, h3⟩ := h
  refine ⟨a, cap, rfl, h1, h2, h3.imp id ?_⟩
  rintro ⟨b, off, rfl, hbn, hc⟩
  refine ⟨b, off, rfl, by omega, fun i v hv => ?_⟩
  obtain ⟨sb, sl, r1, r2, c0, c1, c2, c3, c4⟩ := hc i v hv
  exact ⟨sb, sl, RowP.mono (fun _ h => by omega) r1, RowP.mono (fun _ h => by omega) r2, c0, c1, c2, c3, c4⟩
end Go.Proofs.Ytpoldhblddlcpaa
