/- Contracts of the reference model's values (package rexmillref02): Same. -/
import Derived.Test.YtpoldhblddlcpaaRefB
import Derived.Test.YtpoldhblddlcpaaWire2
import Derived.Test.YtpoldhblddlcpaaCel
namespace Go.Proofs.Ytpoldhblddlcpaa
open Go.RowKit Go.Shelf
set_option linter.unusedVariables false

/-- Same, of one value and another that reads alike. -/
theorem same_self (k u n : Int) (sb sl sb' sl' : Value) (B L : List Int) (w : World)
   (h1 : Row .u8 w.heap.size w sb B) (h2 : Row .i64 w.heap.size w sl L) (h3 : Row .u8 w.heap.size w sb' B) (h4 : Row .i64 w.heap.size w sl' L) :
    Calls Try.prog 21 #[.agg #[.int .i64 k, .int .u64 u, .int .i64 n, sb, sl], .agg #[.int .i64 k, .int .u64 u, .int .i64 n, sb', sl']] w fun e w' => e = .returned (.bool true) ∧ Below w.heap.size w w' := by
  obtain ⟨ab, cb, rfl⟩ := row_slice h1
  obtain ⟨al, cl, rfl⟩ := row_slice h2
  obtain ⟨ab', cb', rfl⟩ := row_slice h3
  obtain ⟨al', cl', rfl⟩ := row_slice h4
  have b0 := laidB (laidB (Below.refl w.heap.size w) (.cells #[.int .i64 k, .int .u64 u, .int .i64 n, .slice ab B.length cb, .slice al L.length cl] 28)) (.cells #[.int .i64 k, .int .u64 u, .int .i64 n, .slice ab' B.length cb', .slice al' L.length cl'] 28)
  have C0 := (Cel.new w 28 #[.int .i64 k, .int .u64 u, .int .i64 n, .slice ab B.length cb, .slice al L.length cl]).alloc (.cells #[.int .i64 k, .int .u64 u, .int .i64 n, .slice ab' B.length cb', .slice al' L.length cl'] 28)
  have C1 := Cel.new (w.alloc (.cells #[.int .i64 k, .int .u64 u, .int .i64 n, .slice ab B.length cb, .slice al L.length cl] 28)) 28 #[.int .i64 k, .int .u64 u, .int .i64 n, .slice ab' B.length cb', .slice al' L.length cl']
  rw [show (w.alloc (.cells #[.int .i64 k, .int .u64 u, .int .i64 n, .slice ab B.length cb, .slice al L.length cl] 28)).heap.size = w.heap.size + 1 from by simp] at C1
  go_enter Try.func21, Try.ntmps21
  go_wp2_with fail
  refine (sameBytes_any ab B.length cb B ab' B.length cb' B _ (rowB h1 b0) (rowB h3 b0)).mono ?_
  rintro e w1 ⟨rfl, hb⟩
  rw [show (B == B) = true from beq_self_eq_true _]
  have b1 := stepB b0 hb
  replace C0 := C0.step hb
  replace C1 := C1.step hb
  have x0 : w1.cell? ⟨w.heap.size, 4, none⟩ = some (.slice al L.length cl) := C0.cell 4
  have x1 : w1.cell? ⟨w.heap.size + 1, 4, none⟩ = some (.slice al' L.length cl') := C1.cell 4
  clear hb b0
  dsimp only
  go_wp2_with fail
  refine (sameInts_any al L.length cl L al' L.length cl' L _ (rowB h2 b1) (rowB h4 b1)).mono ?_
  rintro e w2 ⟨rfl, hb⟩
  rw [show (L == L) = true from beq_self_eq_true _]
  have b2 := stepB b1 hb
  replace C0 := C0.step hb
  replace C1 := C1.step hb
  clear x0 x1 hb b1
  have x0 : w2.cell? ⟨w.heap.size, 0, none⟩ = some (.int .i64 k) := C0.cell 0
  have x1 : w2.cell? ⟨w.heap.size + 1, 0, none⟩ = some (.int .i64 k) := C1.cell 0
  have x2 : w2.cell? ⟨w.heap.size, 1, none⟩ = some (.int .u64 u) := C0.cell 1
  have x3 : w2.cell? ⟨w.heap.size + 1, 1, none⟩ = some (.int .u64 u) := C1.cell 1
  have x4 : w2.cell? ⟨w.heap.size, 2, none⟩ = some (.int .i64 n) := C0.cell 2
  have x5 : w2.cell? ⟨w.heap.size + 1, 2, none⟩ = some (.int .i64 n) := C1.cell 2
  dsimp only
  go_wp2_with fail
  go_ret
  exact ⟨rfl, b2⟩
end Go.Proofs.Ytpoldhblddlcpaa
