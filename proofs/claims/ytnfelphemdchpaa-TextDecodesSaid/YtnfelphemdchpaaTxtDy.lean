/- What TextDecodes' region has gathered, whatever the order (RegInv). -/
import Derived.Test.YtnfelphemdchpaaTxtDx
import Derived.Test.YtnfelphemdchpaaRegInv
namespace Go.Proofs.Ytnfelphemdchpaa
open Go.RowKit Go.Shelf
set_option linter.unusedVariables false

structure DecC (n0 : Nat) (w0 : World) (E : List Int) (a3 p : Int) (r : Value) (own : Nat → Nat) (l : Nat → Prop) (x : Nat → Value) (W : World) : Prop where
  tg : Tg n0 w0 own W
  c41 : l 2 → ∃ ys : List Int, OwnT n0 5 .u8 W own (x 41) ys 1 ∧ ys.length ≤ 40 ∧ ∀ i : Nat, 0 ≤ ys[i]?.getD 0 ∧ ys[i]?.getD 0 < 256
  c43 : l 4 → ¬ l 6 → OwnT n0 5 .u8 W own (x 43) [] 2
  c45 : l 6 → ¬ l 9 → OwnT n0 5 .u8 W own (x 45) E 2
  c47 : l 8 → OwnT n0 5 .u8 W own (x 47) [a3] 3
  c48 : l 9 → OwnT n0 5 .u8 W own (x 48) (E ++ [a3]) 2
  c54 : l 15 → x 54 = .int .i64 p
  c55 : l 16 → x 55 = r
  c57 : l 18 → ¬ l 21 → OwnT n0 5 .u8 W own (x 57) [a3] 4
  c59 : l 20 → ∃ ys : List Int, OwnT n0 5 .u8 W own (x 59) ys 5 ∧ ys.length ≤ 3 ∧ ∀ i : Nat, 0 ≤ ys[i]?.getD 0 ∧ ys[i]?.getD 0 < 256
  c60 : l 21 → ∃ ys : List Int, OwnT n0 5 .u8 W own (x 60) ys 4 ∧ ys.length ≤ 200 ∧ ∀ i : Nat, 0 ≤ ys[i]?.getD 0 ∧ ys[i]?.getD 0 < 256
  c61 : l 22 → ∃ g, x 61 = .slice (some ⟨g, 0, none⟩) 6 6 ∧ SixP W g
  c14 : l 23 → ∃ g, x 14 = .slice (some ⟨g, 0, none⟩) 6 6 ∧ SixP W g
  d22 : l 22 → l 9 ∧ l 21
  d9 : l 9 → l 6
  d23 : l 23 → l 22
section
variable {n0 : Nat} {w0 : World} {E : List Int} {a3 p : Int} {r : Value} {own : Nat → Nat} {l : Nat → Prop} {x : Nat → Value} {W W' : World}
theorem DecC.keep (h : DecC n0 w0 E a3 p r own l x W) (hb : Below W.heap.size W W') {s : Nat} (hs : s ≠ 0) : DecC n0 w0 E a3 p r (tagged W own s) l x W' where
  tg := h.tg.turn (Turns.of_below hb) hs
  c41 := fun hl => by obtain ⟨ys, ho, h2⟩ := h.c41 hl; exact ⟨ys, ho.keep hb, h2⟩
  c43 := fun hl hn => (h.c43 hl hn).keep hb
  c45 := fun hl hn => (h.c45 hl hn).keep hb
  c47 := fun hl => (h.c47 hl).keep hb
  c48 := fun hl => (h.c48 hl).keep hb
  c54 := h.c54
  c55 := h.c55
  c57 := fun hl hn => (h.c57 hl hn).keep hb
  c59 := fun hl => by obtain ⟨ys, ho, h2⟩ := h.c59 hl; exact ⟨ys, ho.keep hb, h2⟩
  c60 := fun hl => by obtain ⟨ys, ho, h2⟩ := h.c60 hl; exact ⟨ys, ho.keep hb, h2⟩
  c61 := fun hl => by obtain ⟨g, e, hg⟩ := h.c61 hl; exact ⟨g, e, hg.step hb⟩
  c14 := fun hl => by obtain ⟨g, e, hg⟩ := h.c14 hl; exact ⟨g, e, hg.step hb⟩
  d22 := h.d22
  d9 := h.d9
  d23 := h.d23
theorem DecC.add2 (h : DecC n0 w0 E a3 p r own l x W) {v : Value} (ys : List Int) (hn : OwnT n0 5 .u8 W own v ys 1) (hy : ys.length ≤ 40) (hz : ∀ i : Nat, 0 ≤ ys[i]?.getD 0 ∧ ys[i]?.getD 0 < 256) : DecC n0 w0 E a3 p r own (fun j => j = 2 ∨ l j) (upd x (some 41) v) W where
  tg := h.tg
  c41 := fun _ => ⟨ys, hn, hy, hz⟩
  c43 := fun hl hn => h.c43 (hl.resolve_left (by decide)) (fun e => hn (.inr e))
  c45 := fun hl hn => h.c45 (hl.resolve_left (by decide)) (fun e => hn (.inr e))
  c47 := fun hl => h.c47 (hl.resolve_left (by decide))
  c48 := fun hl => h.c48 (hl.resolve_left (by decide))
  c54 := fun hl => h.c54 (hl.resolve_left (by decide))
  c55 := fun hl => h.c55 (hl.resolve_left (by decide))
  c57 := fun hl hn => h.c57 (hl.resolve_left (by decide)) (fun e => hn (.inr e))
  c59 := fun hl => h.c59 (hl.resolve_left (by decide))
  c60 := fun hl => h.c60 (hl.resolve_left (by decide))
  c61 := fun hl => h.c61 (hl.resolve_left (by decide))
  c14 := fun hl => h.c14 (hl.resolve_left (by decide))
  d22 := fun hl => ⟨.inr (h.d22 (hl.resolve_left (by decide))).1, .inr (h.d22 (hl.resolve_left (by decide))).2⟩
  d9 := fun hl => .inr (h.d9 (hl.resolve_left (by decide)))
  d23 := fun hl => .inr (h.d23 (hl.resolve_left (by decide)))
theorem DecC.add4 (h : DecC n0 w0 E a3 p r own l x W) {v : Value} (hn : OwnT n0 5 .u8 W own v [] 2) : DecC n0 w0 E a3 p r own (fun j => j = 4 ∨ l j) (upd x (some 43) v) W where
  tg := h.tg
  c41 := fun hl => h.c41 (hl.resolve_left (by decide))
  c43 := fun _ _ => hn
  c45 := fun hl hn => h.c45 (hl.resolve_left (by decide)) (fun e => hn (.inr e))
  c47 := fun hl => h.c47 (hl.resolve_left (by decide))
  c48 := fun hl => h.c48 (hl.resolve_left (by decide))
  c54 := fun hl => h.c54 (hl.resolve_left (by decide))
  c55 := fun hl => h.c55 (hl.resolve_left (by decide))
  c57 := fun hl hn => h.c57 (hl.resolve_left (by decide)) (fun e => hn (.inr e))
  c59 := fun hl => h.c59 (hl.resolve_left (by decide))
  c60 := fun hl => h.c60 (hl.resolve_left (by decide))
  c61 := fun hl => h.c61 (hl.resolve_left (by decide))
  c14 := fun hl => h.c14 (hl.resolve_left (by decide))
  d22 := fun hl => ⟨.inr (h.d22 (hl.resolve_left (by decide))).1, .inr (h.d22 (hl.resolve_left (by decide))).2⟩
  d9 := fun hl => .inr (h.d9 (hl.resolve_left (by decide)))
  d23 := fun hl => .inr (h.d23 (hl.resolve_left (by decide)))
theorem DecC.add8 (h : DecC n0 w0 E a3 p r own l x W) {v : Value} (hn : OwnT n0 5 .u8 W own v [a3] 3) : DecC n0 w0 E a3 p r own (fun j => j = 8 ∨ l j) (upd x (some 47) v) W where
  tg := h.tg
  c41 := fun hl => h.c41 (hl.resolve_left (by decide))
  c43 := fun hl hn => h.c43 (hl.resolve_left (by decide)) (fun e => hn (.inr e))
  c45 := fun hl hn => h.c45 (hl.resolve_left (by decide)) (fun e => hn (.inr e))
  c47 := fun _ => hn
  c48 := fun hl => h.c48 (hl.resolve_left (by decide))
  c54 := fun hl => h.c54 (hl.resolve_left (by decide))
  c55 := fun hl => h.c55 (hl.resolve_left (by decide))
  c57 := fun hl hn => h.c57 (hl.resolve_left (by decide)) (fun e => hn (.inr e))
  c59 := fun hl => h.c59 (hl.resolve_left (by decide))
  c60 := fun hl => h.c60 (hl.resolve_left (by decide))
  c61 := fun hl => h.c61 (hl.resolve_left (by decide))
  c14 := fun hl => h.c14 (hl.resolve_left (by decide))
  d22 := fun hl => ⟨.inr (h.d22 (hl.resolve_left (by decide))).1, .inr (h.d22 (hl.resolve_left (by decide))).2⟩
  d9 := fun hl => .inr (h.d9 (hl.resolve_left (by decide)))
  d23 := fun hl => .inr (h.d23 (hl.resolve_left (by decide)))
theorem DecC.add15 (h : DecC n0 w0 E a3 p r own l x W) {v : Value} (hn : v = .int .i64 p) : DecC n0 w0 E a3 p r own (fun j => j = 15 ∨ l j) (upd x (some 54) v) W where
  tg := h.tg
  c41 := fun hl => h.c41 (hl.resolve_left (by decide))
  c43 := fun hl hn => h.c43 (hl.resolve_left (by decide)) (fun e => hn (.inr e))
  c45 := fun hl hn => h.c45 (hl.resolve_left (by decide)) (fun e => hn (.inr e))
  c47 := fun hl => h.c47 (hl.resolve_left (by decide))
  c48 := fun hl => h.c48 (hl.resolve_left (by decide))
  c54 := fun _ => hn
  c55 := fun hl => h.c55 (hl.resolve_left (by decide))
  c57 := fun hl hn => h.c57 (hl.resolve_left (by decide)) (fun e => hn (.inr e))
  c59 := fun hl => h.c59 (hl.resolve_left (by decide))
  c60 := fun hl => h.c60 (hl.resolve_left (by decide))
  c61 := fun hl => h.c61 (hl.resolve_left (by decide))
  c14 := fun hl => h.c14 (hl.resolve_left (by decide))
  d22 := fun hl => ⟨.inr (h.d22 (hl.resolve_left (by decide))).1, .inr (h.d22 (hl.resolve_left (by decide))).2⟩
  d9 := fun hl => .inr (h.d9 (hl.resolve_left (by decide)))
  d23 := fun hl => .inr (h.d23 (hl.resolve_left (by decide)))
theorem DecC.add16 (h : DecC n0 w0 E a3 p r own l x W) {v : Value} (hn : v = r) : DecC n0 w0 E a3 p r own (fun j => j = 16 ∨ l j) (upd x (some 55) v) W where
  tg := h.tg
  c41 := fun hl => h.c41 (hl.resolve_left (by decide))
  c43 := fun hl hn => h.c43 (hl.resolve_left (by decide)) (fun e => hn (.inr e))
  c45 := fun hl hn => h.c45 (hl.resolve_left (by decide)) (fun e => hn (.inr e))
  c47 := fun hl => h.c47 (hl.resolve_left (by decide))
  c48 := fun hl => h.c48 (hl.resolve_left (by decide))
  c54 := fun hl => h.c54 (hl.resolve_left (by decide))
  c55 := fun _ => hn
  c57 := fun hl hn => h.c57 (hl.resolve_left (by decide)) (fun e => hn (.inr e))
  c59 := fun hl => h.c59 (hl.resolve_left (by decide))
  c60 := fun hl => h.c60 (hl.resolve_left (by decide))
  c61 := fun hl => h.c61 (hl.resolve_left (by decide))
  c14 := fun hl => h.c14 (hl.resolve_left (by decide))
  d22 := fun hl => ⟨.inr (h.d22 (hl.resolve_left (by decide))).1, .inr (h.d22 (hl.resolve_left (by decide))).2⟩
  d9 := fun hl => .inr (h.d9 (hl.resolve_left (by decide)))
  d23 := fun hl => .inr (h.d23 (hl.resolve_left (by decide)))
theorem DecC.add18 (h : DecC n0 w0 E a3 p r own l x W) {v : Value} (hn : OwnT n0 5 .u8 W own v [a3] 4) : DecC n0 w0 E a3 p r own (fun j => j = 18 ∨ l j) (upd x (some 57) v) W where
  tg := h.tg
  c41 := fun hl => h.c41 (hl.resolve_left (by decide))
  c43 := fun hl hn => h.c43 (hl.resolve_left (by decide)) (fun e => hn (.inr e))
  c45 := fun hl hn => h.c45 (hl.resolve_left (by decide)) (fun e => hn (.inr e))
  c47 := fun hl => h.c47 (hl.resolve_left (by decide))
  c48 := fun hl => h.c48 (hl.resolve_left (by decide))
  c54 := fun hl => h.c54 (hl.resolve_left (by decide))
  c55 := fun hl => h.c55 (hl.resolve_left (by decide))
  c57 := fun _ _ => hn
  c59 := fun hl => h.c59 (hl.resolve_left (by decide))
  c60 := fun hl => h.c60 (hl.resolve_left (by decide))
  c61 := fun hl => h.c61 (hl.resolve_left (by decide))
  c14 := fun hl => h.c14 (hl.resolve_left (by decide))
  d22 := fun hl => ⟨.inr (h.d22 (hl.resolve_left (by decide))).1, .inr (h.d22 (hl.resolve_left (by decide))).2⟩
  d9 := fun hl => .inr (h.d9 (hl.resolve_left (by decide)))
  d23 := fun hl => .inr (h.d23 (hl.resolve_left (by decide)))
theorem DecC.add20 (h : DecC n0 w0 E a3 p r own l x W) {v : Value} (ys : List Int) (hn : OwnT n0 5 .u8 W own v ys 5) (hy : ys.length ≤ 3) (hz : ∀ i : Nat, 0 ≤ ys[i]?.getD 0 ∧ ys[i]?.getD 0 < 256) : DecC n0 w0 E a3 p r own (fun j => j = 20 ∨ l j) (upd x (some 59) v) W where
  tg := h.tg
  c41 := fun hl => h.c41 (hl.resolve_left (by decide))
  c43 := fun hl hn => h.c43 (hl.resolve_left (by decide)) (fun e => hn (.inr e))
  c45 := fun hl hn => h.c45 (hl.resolve_left (by decide)) (fun e => hn (.inr e))
  c47 := fun hl => h.c47 (hl.resolve_left (by decide))
  c48 := fun hl => h.c48 (hl.resolve_left (by decide))
  c54 := fun hl => h.c54 (hl.resolve_left (by decide))
  c55 := fun hl => h.c55 (hl.resolve_left (by decide))
  c57 := fun hl hn => h.c57 (hl.resolve_left (by decide)) (fun e => hn (.inr e))
  c59 := fun _ => ⟨ys, hn, hy, hz⟩
  c60 := fun hl => h.c60 (hl.resolve_left (by decide))
  c61 := fun hl => h.c61 (hl.resolve_left (by decide))
  c14 := fun hl => h.c14 (hl.resolve_left (by decide))
  d22 := fun hl => ⟨.inr (h.d22 (hl.resolve_left (by decide))).1, .inr (h.d22 (hl.resolve_left (by decide))).2⟩
  d9 := fun hl => .inr (h.d9 (hl.resolve_left (by decide)))
  d23 := fun hl => .inr (h.d23 (hl.resolve_left (by decide)))
theorem DecC.add22 (h : DecC n0 w0 E a3 p r own l x W) {v : Value} (g : Nat) (hn : v = .slice (some ⟨g, 0, none⟩) 6 6) (hS : SixP W g) (h9 : l 9) (h21 : l 21) : DecC n0 w0 E a3 p r own (fun j => j = 22 ∨ l j) (upd x (some 61) v) W where
  tg := h.tg
  c41 := fun hl => h.c41 (hl.resolve_left (by decide))
  c43 := fun hl hn => h.c43 (hl.resolve_left (by decide)) (fun e => hn (.inr e))
  c45 := fun hl hn => h.c45 (hl.resolve_left (by decide)) (fun e => hn (.inr e))
  c47 := fun hl => h.c47 (hl.resolve_left (by decide))
  c48 := fun hl => h.c48 (hl.resolve_left (by decide))
  c54 := fun hl => h.c54 (hl.resolve_left (by decide))
  c55 := fun hl => h.c55 (hl.resolve_left (by decide))
  c57 := fun hl hn => h.c57 (hl.resolve_left (by decide)) (fun e => hn (.inr e))
  c59 := fun hl => h.c59 (hl.resolve_left (by decide))
  c60 := fun hl => h.c60 (hl.resolve_left (by decide))
  c61 := fun _ => ⟨g, hn, hS⟩
  c14 := fun hl => h.c14 (hl.resolve_left (by decide))
  d22 := fun hl => ⟨.inr h9, .inr h21⟩
  d9 := fun hl => .inr (h.d9 (hl.resolve_left (by decide)))
  d23 := fun hl => .inr (h.d23 (hl.resolve_left (by decide)))
theorem DecC.add23 (h : DecC n0 w0 E a3 p r own l x W) {v : Value} (g : Nat) (hn : v = .slice (some ⟨g, 0, none⟩) 6 6) (hS : SixP W g) (h22 : l 22) : DecC n0 w0 E a3 p r own (fun j => j = 23 ∨ l j) (upd x (some 14) v) W where
  tg := h.tg
  c41 := fun hl => h.c41 (hl.resolve_left (by decide))
  c43 := fun hl hn => h.c43 (hl.resolve_left (by decide)) (fun e => hn (.inr e))
  c45 := fun hl hn => h.c45 (hl.resolve_left (by decide)) (fun e => hn (.inr e))
  c47 := fun hl => h.c47 (hl.resolve_left (by decide))
  c48 := fun hl => h.c48 (hl.resolve_left (by decide))
  c54 := fun hl => h.c54 (hl.resolve_left (by decide))
  c55 := fun hl => h.c55 (hl.resolve_left (by decide))
  c57 := fun hl hn => h.c57 (hl.resolve_left (by decide)) (fun e => hn (.inr e))
  c59 := fun hl => h.c59 (hl.resolve_left (by decide))
  c60 := fun hl => h.c60 (hl.resolve_left (by decide))
  c61 := fun hl => h.c61 (hl.resolve_left (by decide))
  c14 := fun _ => ⟨g, hn, hS⟩
  d22 := fun hl => ⟨.inr (h.d22 (hl.resolve_left (by decide))).1, .inr (h.d22 (hl.resolve_left (by decide))).2⟩
  d9 := fun hl => .inr (h.d9 (hl.resolve_left (by decide)))
  d23 := fun hl => .inr h22
theorem DecC.turn6 (h : DecC n0 w0 E a3 p r own l x W) (T : Turns own 2 W W') {v : Value} (h4 : l 4) (hi : ¬ l 6) (hn : OwnT n0 5 .u8 W' (tagged W own 2) v E 2) : DecC n0 w0 E a3 p r (tagged W own 2) (fun j => j = 6 ∨ l j) (upd x (some 45) v) W' where
  tg := h.tg.turn T (by decide)
  c41 := fun hl => by obtain ⟨ys', ho, h2⟩ := h.c41 (hl.resolve_left (by decide)); exact ⟨ys', ho.far T (by decide), h2⟩
  c43 := fun _ hn2 => absurd (.inl rfl) hn2
  c45 := fun _ _ => hn
  c47 := fun hl => (h.c47 (hl.resolve_left (by decide))).far T (by decide)
  c48 := fun hl => absurd (h.d9 (hl.resolve_left (by decide))) hi
  c54 := fun hl => h.c54 (hl.resolve_left (by decide))
  c55 := fun hl => h.c55 (hl.resolve_left (by decide))
  c57 := fun hl hn2 => (h.c57 (hl.resolve_left (by decide)) (fun e => hn2 (.inr e))).far T (by decide)
  c59 := fun hl => by obtain ⟨ys', ho, h2⟩ := h.c59 (hl.resolve_left (by decide)); exact ⟨ys', ho.far T (by decide), h2⟩
  c60 := fun hl => by obtain ⟨ys', ho, h2⟩ := h.c60 (hl.resolve_left (by decide)); exact ⟨ys', ho.far T (by decide), h2⟩
  c61 := fun hl => (hi (h.d9 (h.d22 (hl.resolve_left (by decide))).1)).elim
  c14 := fun hl => (hi (h.d9 (h.d22 (h.d23 (hl.resolve_left (by decide)))).1)).elim
  d22 := fun hl => ⟨.inr (h.d22 (hl.resolve_left (by decide))).1, .inr (h.d22 (hl.resolve_left (by decide))).2⟩
  d9 := fun hl => .inr (h.d9 (hl.resolve_left (by decide)))
  d23 := fun hl => .inr (h.d23 (hl.resolve_left (by decide)))
theorem DecC.turn9 (h : DecC n0 w0 E a3 p r own l x W) (T : Turns own 2 W W') {v : Value} (h6 : l 6) (hi : ¬ l 9) (hn : OwnT n0 5 .u8 W' (tagged W own 2) v (E ++ [a3]) 2) : DecC n0 w0 E a3 p r (tagged W own 2) (fun j => j = 9 ∨ l j) (upd x (some 48) v) W' where
  tg := h.tg.turn T (by decide)
  c41 := fun hl => by obtain ⟨ys', ho, h2⟩ := h.c41 (hl.resolve_left (by decide)); exact ⟨ys', ho.far T (by decide), h2⟩
  c43 := fun _ hn2 => absurd (.inr h6) hn2
  c45 := fun _ hn2 => absurd (.inl rfl) hn2
  c47 := fun hl => (h.c47 (hl.resolve_left (by decide))).far T (by decide)
  c48 := fun _ => hn
  c54 := fun hl => h.c54 (hl.resolve_left (by decide))
  c55 := fun hl => h.c55 (hl.resolve_left (by decide))
  c57 := fun hl hn2 => (h.c57 (hl.resolve_left (by decide)) (fun e => hn2 (.inr e))).far T (by decide)
  c59 := fun hl => by obtain ⟨ys', ho, h2⟩ := h.c59 (hl.resolve_left (by decide)); exact ⟨ys', ho.far T (by decide), h2⟩
  c60 := fun hl => by obtain ⟨ys', ho, h2⟩ := h.c60 (hl.resolve_left (by decide)); exact ⟨ys', ho.far T (by decide), h2⟩
  c61 := fun hl => (hi (h.d22 (hl.resolve_left (by decide))).1).elim
  c14 := fun hl => (hi (h.d22 (h.d23 (hl.resolve_left (by decide)))).1).elim
  d22 := fun hl => ⟨.inr (h.d22 (hl.resolve_left (by decide))).1, .inr (h.d22 (hl.resolve_left (by decide))).2⟩
  d9 := fun hl => .inr h6
  d23 := fun hl => .inr (h.d23 (hl.resolve_left (by decide)))
theorem DecC.turn21 (h : DecC n0 w0 E a3 p r own l x W) (T : Turns own 4 W W') {v : Value} (hi : ¬ l 21) (ys : List Int) (hn : OwnT n0 5 .u8 W' (tagged W own 4) v ys 4) (hy : ys.length ≤ 200) (hz : ∀ i : Nat, 0 ≤ ys[i]?.getD 0 ∧ ys[i]?.getD 0 < 256) : DecC n0 w0 E a3 p r (tagged W own 4) (fun j => j = 21 ∨ l j) (upd x (some 60) v) W' where
  tg := h.tg.turn T (by decide)
  c41 := fun hl => by obtain ⟨ys', ho, h2⟩ := h.c41 (hl.resolve_left (by decide)); exact ⟨ys', ho.far T (by decide), h2⟩
  c43 := fun hl hn2 => (h.c43 (hl.resolve_left (by decide)) (fun e => hn2 (.inr e))).far T (by decide)
  c45 := fun hl hn2 => (h.c45 (hl.resolve_left (by decide)) (fun e => hn2 (.inr e))).far T (by decide)
  c47 := fun hl => (h.c47 (hl.resolve_left (by decide))).far T (by decide)
  c48 := fun hl => (h.c48 (hl.resolve_left (by decide))).far T (by decide)
  c54 := fun hl => h.c54 (hl.resolve_left (by decide))
  c55 := fun hl => h.c55 (hl.resolve_left (by decide))
  c57 := fun _ hn2 => absurd (.inl rfl) hn2
  c59 := fun hl => by obtain ⟨ys', ho, h2⟩ := h.c59 (hl.resolve_left (by decide)); exact ⟨ys', ho.far T (by decide), h2⟩
  c60 := fun _ => ⟨ys, hn, hy, hz⟩
  c61 := fun hl => (hi (h.d22 (hl.resolve_left (by decide))).2).elim
  c14 := fun hl => (hi (h.d22 (h.d23 (hl.resolve_left (by decide)))).2).elim
  d22 := fun hl => ⟨.inr (h.d22 (hl.resolve_left (by decide))).1, .inr (h.d22 (hl.resolve_left (by decide))).2⟩
  d9 := fun hl => .inr (h.d9 (hl.resolve_left (by decide)))
  d23 := fun hl => .inr (h.d23 (hl.resolve_left (by decide)))
end
end Go.Proofs.Ytnfelphemdchpaa
