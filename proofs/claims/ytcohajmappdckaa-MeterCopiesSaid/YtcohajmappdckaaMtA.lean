/- Package meter: what a meter is in memory, and what its methods do to it, plainly. -/
import Derived.Test.YtcohajmappdckaaCel
namespace Go.Proofs.Ytcohajmappdckaa
open Go.RowKit Go.Shelf
set_option linter.unusedVariables false

/-- Nothing that was there has turned but blocks of which q speaks. -/
structure OnlyP (q : Nat → Prop) (W W' : World) : Prop where
  os : W'.os = W.os
  tape : W'.tape = W.tape
  output : W'.output = W.output
  size : W.heap.size ≤ W'.heap.size
  block : ∀ k, k < W.heap.size → ¬ q k → W'.heap[k]? = W.heap[k]?
theorem OnlyP.refl (q : Nat → Prop) (W : World) : OnlyP q W W := ⟨rfl, rfl, rfl, Nat.le_refl _, fun _ _ _ => rfl⟩
theorem OnlyP.trans {q : Nat → Prop} {A B C : World} (h : OnlyP q A B) (k : OnlyP q B C) : OnlyP q A C :=
  ⟨k.os.trans h.os, k.tape.trans h.tape, k.output.trans h.output, Nat.le_trans h.size k.size, fun i hi hn => (k.block i (Nat.lt_of_lt_of_le hi h.size) hn).trans (h.block i hi hn)⟩
theorem OnlyP.set (q : Nat → Prop) (W : World) (a : Addr) (v : Value) (h : q a.block) : OnlyP q W (W.setCell a v) :=
  ⟨rfl, rfl, rfl, by simp [World.setCell], fun k _ hk => Below.heap_setCell _ _ _ k (fun e => hk (e ▸ h))⟩
theorem OnlyP.of_below {q : Nat → Prop} {A B : World} (h : Below A.heap.size A B) : OnlyP q A B := ⟨h.os, h.tape, h.output, h.size, fun k hk _ => h.block k hk⟩
theorem OnlyP.below {q : Nat → Prop} {A B : World} {n : Nat} (h : OnlyP q A B) (hn : n ≤ A.heap.size) (hq : ∀ k, q k → n ≤ k) : Below n A B :=
  ⟨h.os, h.tape, h.output, h.size, fun k hk => h.block k (Nat.lt_of_lt_of_le hk hn) (fun e => by have := hq k e; omega)⟩
theorem OnlyP.mono {q r : Nat → Prop} {A B : World} (h : OnlyP q A B) (hr : ∀ k, q k → r k) : OnlyP r A B := ⟨h.os, h.tape, h.output, h.size, fun k hk hn => h.block k hk (fun e => hn (hr k e))⟩
theorem Cel.only {q : Nat → Prop} {A B : World} {b : Nat} {t : TypeId} {cs : Array Value} (h : Cel A b t cs) (ho : OnlyP q A B) (hn : ¬ q b) : Cel B b t cs := (ho.block b h.lt hn).trans h

/-- A meter, plainly. -/
structure MS where
  sh : Int
  pe : Int
  tk : Int
  us : List Int
structure MS.Ok (s : MS) : Prop where
  sh0 : 0 ≤ s.sh
  sh1 : s.sh ≤ 1099511627776
  pe0 : 1 ≤ s.pe
  pe1 : s.pe ≤ 1099511627776
  tk0 : 0 ≤ s.tk
  tk1 : s.tk ≤ 1099511627776
  n0 : 1 ≤ s.us.length
  n1 : s.us.length ≤ 500
  used : ∀ i : Nat, 0 ≤ s.us[i]?.getD 0 ∧ s.us[i]?.getD 0 ≤ s.sh
/-- The blocks of a meter. -/
def Two (p u : Nat) (k : Nat) : Prop := k = p ∨ k = u
/-- The meter at block p, what was used at block u. -/
structure Mt (W : World) (p u : Nat) (s : MS) : Prop where
  ne : p ≠ u
  box : Cel W p 55 #[.int .i64 s.sh, .int .i64 s.pe, .int .i64 s.tk, .slice (some ⟨u, 0, none⟩) s.us.length s.us.length]
  row : Cel W u 3 (s.us.map (Value.int .i64)).toArray
  ok : s.Ok
theorem Mt.only {q : Nat → Prop} {A B : World} {p u : Nat} {s : MS} (h : Mt A p u s) (ho : OnlyP q A B) (hp : ¬ q p) (hu : ¬ q u) : Mt B p u s := ⟨h.ne, h.box.only ho hp, h.row.only ho hu, h.ok⟩
theorem Mt.step {A B : World} {p u : Nat} {s : MS} (h : Mt A p u s) (hb : Below A.heap.size A B) : Mt B p u s := ⟨h.ne, h.box.step hb, h.row.step hb, h.ok⟩
theorem Mt.cell {W : World} {p u : Nat} {s : MS} (h : Mt W p u s) (i : Nat) (hi : i < s.us.length) : W.cell? ⟨u, i, none⟩ = some (.int .i64 (s.us[i]?.getD 0)) := by
  rw [h.row.cell i]
  simp [hi]

/-- The error of arguments. -/
def MS.chk (s : MS) (r n t : Int) : Int :=
  if r < 0 ∨ (s.us.length : Int) - 1 < r then 1 else if n < 0 ∨ 1099511627776 < n then 1 else if t < 0 ∨ 1099511627776 < t then 1 else if t < s.tk then 16 else 0
theorem MS.chk_ok {s : MS} {r n t : Int} (h : s.chk r n t = 0) : 0 ≤ r ∧ r < s.us.length ∧ 0 ≤ n ∧ n ≤ 1099511627776 ∧ 0 ≤ t ∧ t ≤ 1099511627776 ∧ s.tk ≤ t := by
  unfold MS.chk at h
  split at h
  · omega
  · split at h
    · omega
    · split at h
      · omega
      · split at h
        · omega
        · omega
/-- Has a new period begun at a tick? -/
def MS.fresh (s : MS) (t : Int) : Bool := decide (s.tk / s.pe < t / s.pe)
/-- How much a rule has used in the period of a tick. -/
def MS.at (s : MS) (i : Nat) (t : Int) : Int := if s.fresh t then 0 else s.us[i]?.getD 0
/-- What was used in the period of a tick. -/
def MS.usAt (s : MS) (t : Int) : List Int := if s.fresh t then List.replicate s.us.length 0 else s.us
theorem MS.usAt_len (s : MS) (t : Int) : (s.usAt t).length = s.us.length := by
  unfold MS.usAt; split <;> simp
theorem MS.usAt_at (s : MS) (i : Nat) (t : Int) : (s.usAt t)[i]?.getD 0 = s.at i t := by
  unfold MS.usAt MS.at
  split
  · rw [List.getElem?_replicate]; split <;> rfl
  · rfl
theorem MS.Ok.at {s : MS} (h : s.Ok) (i : Nat) (t : Int) : 0 ≤ s.at i t ∧ s.at i t ≤ s.sh := by
  unfold MS.at
  split
  · exact ⟨by omega, h.sh0⟩
  · exact h.used i
/-- The meter at a later tick. -/
def MS.adv (s : MS) (t : Int) : MS := { s with tk := t, us := s.usAt t }
theorem MS.Ok.adv {s : MS} (h : s.Ok) (t : Int) (h0 : 0 ≤ t) (h1 : t ≤ 1099511627776) : (s.adv t).Ok :=
  ⟨h.sh0, h.sh1, h.pe0, h.pe1, h0, h1, by show 1 ≤ (s.usAt t).length; rw [s.usAt_len]; exact h.n0, by show (s.usAt t).length ≤ 500; rw [s.usAt_len]; exact h.n1, fun i => by show 0 ≤ (s.usAt t)[i]?.getD 0 ∧ (s.usAt t)[i]?.getD 0 ≤ s.sh; rw [s.usAt_at]; exact h.at i t⟩
/-- The meter at a later tick, where a rule has used as much. -/
def MS.put (s : MS) (i : Nat) (t x : Int) : MS := { s with tk := t, us := (s.usAt t).set i x }
theorem MS.Ok.put {s : MS} (h : s.Ok) (i : Nat) (t x : Int) (h0 : 0 ≤ t) (h1 : t ≤ 1099511627776) (hx0 : 0 ≤ x) (hx1 : x ≤ s.sh) : (s.put i t x).Ok :=
  ⟨h.sh0, h.sh1, h.pe0, h.pe1, h0, h1, by show 1 ≤ ((s.usAt t).set i x).length; rw [List.length_set, s.usAt_len]; exact h.n0, by show ((s.usAt t).set i x).length ≤ 500; rw [List.length_set, s.usAt_len]; exact h.n1, fun k => by
    show 0 ≤ ((s.usAt t).set i x)[k]?.getD 0 ∧ ((s.usAt t).set i x)[k]?.getD 0 ≤ s.sh
    rw [List.getElem?_set]
    split
    · split
      · exact ⟨hx0, hx1⟩
      · exact ⟨by simp, h.sh0⟩
    · rw [s.usAt_at]; exact h.at k t⟩
/-- How much there is for a rule. -/
def MS.give (s : MS) (i : Nat) (n t : Int) : Int := min n (s.sh - s.at i t)
theorem MS.Ok.give {s : MS} (h : s.Ok) (i : Nat) (n t : Int) (hn : 0 ≤ n) : 0 ≤ s.give i n t ∧ s.give i n t ≤ n ∧ s.at i t + s.give i n t ≤ s.sh := by
  have := h.at i t
  unfold MS.give
  omega
/-- Take, whole: what is given, the error, the meter. -/
def MS.take (s : MS) (r n t : Int) : Int × Int × MS :=
  if s.chk r n t = 0 then (s.give r.toNat n t, 0, s.put r.toNat t (s.at r.toNat t + s.give r.toNat n t)) else (0, s.chk r n t, s)
/-- Back, whole. -/
def MS.back (s : MS) (r n t : Int) : Int × MS :=
  if s.chk r n t = 0 then (if s.at r.toNat t < n then (21, s) else (0, s.put r.toNat t (s.at r.toNat t - n))) else (s.chk r n t, s)
/-- Left, whole. -/
def MS.left (s : MS) (r t : Int) : Int × Int :=
  if s.chk r 0 t = 0 then (s.sh - s.at r.toNat t, 0) else (0, s.chk r 0 t)
/-- A new meter. -/
def MS.new (n : Nat) (sh pe : Int) : MS := ⟨sh, pe, 0, List.replicate n 0⟩
theorem MS.new_ok (n : Nat) (sh pe : Int) (h1 : 1 ≤ n) (h2 : n ≤ 500) (h3 : 0 ≤ sh) (h4 : sh ≤ 1099511627776) (h5 : 1 ≤ pe) (h6 : pe ≤ 1099511627776) : (MS.new n sh pe).Ok :=
  ⟨h3, h4, h5, h6, by simp [MS.new], by simp [MS.new], by simp [MS.new]; exact h1, by simp [MS.new]; exact h2, fun i => by
    show 0 ≤ (List.replicate n (0 : Int))[i]?.getD 0 ∧ (List.replicate n (0 : Int))[i]?.getD 0 ≤ sh
    rw [List.getElem?_replicate]
    split <;> simp [h3]⟩
end Go.Proofs.Ytcohajmappdckaa
