/- A loop over an iterator that stores into a box of its own between its rounds. -/
import Derived.Test.YtnfelphemdchpaaKeep
namespace Go.Proofs.Ytnfelphemdchpaa
open Go.RowKit Go.Shelf
set_option linter.unusedVariables false

/-- All blocks of A but Bs lie in B as they lay. -/
def ButBox (Bs : Nat) (A B : World) : Prop := A.grownBy B (some Bs)
theorem ButBox.same {Bs : Nat} {A B : World} (h : ButBox Bs A B) (k : Nat) (hk : k < A.heap.size) (hn : k ≠ Bs) : B.heap[k]? = A.heap[k]? := World.grownBy.block h k hk (fun e => hn (by cases e; rfl))
theorem ButBox.of_below {Bs : Nat} {A B : World} (h : Below A.heap.size A B) : ButBox Bs A B := ⟨h.os, h.tape, h.output, h.size, fun k hk _ => h.block k hk⟩
theorem ButBox.setCell (Bs o : Nat) (A : World) (v : Value) : ButBox Bs A (A.setCell ⟨Bs, o, none⟩ v) := ⟨rfl, rfl, rfl, by simp, fun k _ hn => Below.heap_setCell _ _ _ k (fun e => hn (by rw [e]))⟩
theorem ButBox.below {Bs n : Nat} {X A B : World} (h : ButBox Bs A B) (hX : Below n X A) (hn : n ≤ Bs) (hs : n ≤ X.heap.size) : Below n X B := hX.grown h (Nat.le_trans hs hX.size) (fun k e => by cases e; exact hn)
def AbidesBox {β : Type} (Bs : Nat) (J : β → World → Prop) : Prop := ∀ s A B, J s A → ButBox Bs A B → J s B
/-- The iterator's word: as the kit's 'SeqStopsK', for invariants that abide its stores into its box. -/
def SeqBox {α : Type} (F : Fence) (n : Nat) (P : Program) (g : Nat) (lb : Array Value) (encs : α → Array Value) (Kp : World → World → Prop) (Bs : Nat) (S Sp : List α → Prop) (N : Nat) (w : World) : Prop :=
  ∀ (l : Nat) (J Jx : List α → World → Prop) (W : World), Below w.heap.size w W → AbidesBox Bs J → AbidesBox Bs Jx →
    (∀ pre x V, J pre V → pre.length < N → YieldAt F (n - 1) P l (encs x) V fun e V' => (e = .returned (.bool true) ∧ J (pre ++ [x]) V' ∧ Kp V V') ∨ (e = .returned (.bool false) ∧ Jx (pre ++ [x]) V')) →
    J [] W → CallsIn F n P g (#[.func (.yield l) #[] #[]] ++ lb) W fun e W' => (∃ v, e = .returned v) ∧ ((∃ xs, S xs ∧ J xs W') ∨ (∃ pre, Sp pre ∧ Jx pre W'))
/-- How a round may end: it goes on, or returns. -/
def boxPost {α : Type} (B : Nat) (Kp : World → World → Prop) (I Ix : List α → World → Prop) (xs : List α) (W : World) : Exit → Act → World → Prop
  | .normal, _, W' => KeepsFrom B W W' ∧ Kp W W' ∧ I xs W'
  | .ret, _, W' => KeepsFrom B W W' ∧ Ix xs W'
  | _, _, _ => False

/-- The loop's two blocks, as they lie between two rounds. -/
def Booked (L D : Nat) (o : Obj) (W : World) : Prop := W.heap[L]? = some o ∧ W.heap[D]? = some (.deferred (some []))
theorem Booked.box {L D Bs : Nat} {o : Obj} {A B : World} (h : Booked L D o A) (hL : L ≠ Bs) (hD : D ≠ Bs) (hb : ButBox Bs A B) : Booked L D o B :=
  ⟨(hb.same L (Array.getElem?_eq_some_iff.1 h.1).1 hL).trans h.1, (hb.same D (Array.getElem?_eq_some_iff.1 h.2).1 hD).trans h.2⟩
theorem Booked.from {L D B : Nat} {o : Obj} {X Y : World} (h : Booked L D o X) (ho : o.isCells = false) (hL : B ≤ L) (hD : B ≤ D) (k : KeepsFrom B X Y) : Booked L D o Y :=
  ⟨k.same _ _ hL h.1 ho, k.same _ _ hD h.2 rfl⟩
theorem Booked.put {L D : Nat} {o : Obj} {X : World} (h : Booked L D o X) (hne : L ≠ D) (o' : Obj) : Booked L D o' (X.putObj L o') :=
  ⟨World.putObj_heap_same (Array.getElem?_eq_some_iff.1 h.1).1, (World.putObj_heap_other (fun e => hne e.symm)).trans h.2⟩

theorem range_box {F : Fence} {n : Nat} {P : Program} {α : Type} {g : Operand} {ps : Array Tmp} {assign body : Code} {Q : Exit → Act → World → Prop} {a : Act} {w : World}
    (hro : F.round = none) (h1 : 1 ≤ n) {gf : Nat} {lb : Array Value} (hg : a.eval g = .func (.func gf) #[] lb) (hFg : F.fn gf) (eg : ∀ args w, (callFunc gf args).run P w = .ok (.enter gf args) w)
    {encs : α → Array Value} {Kp : World → World → Prop} {Bs : Nat} {S Sp : List α → Prop} {N : Nat} {w0 : World} (hseq : SeqBox F (n - 1) P gf lb encs Kp Bs S Sp N w0)
    (hKt : ∀ {A B C : World}, Kp A B → Kp B C → Kp A C) (hKb : ∀ (W : World) (l : Nat) (o o' : Obj), w.heap.size ≤ l → W.heap[l]? = some o → o.isCells = false → o.isWalk = false → Kp W (W.putObj l o')) (hb0 : Below w0.heap.size w0 w) (hps : ∀ x, (encs x).size = ps.size)
    (hBs : Bs < w.heap.size)
    (I Ix : List α → World → Prop) (hI : OwnFrom w.heap.size I) (hIx : OwnFrom w.heap.size Ix) (hIb : AbidesBox Bs I) (hIxb : AbidesBox Bs Ix) (h0 : I [] w) (a₁ : α → Act)
    (hassign : ∀ (l : Nat) (x : α) (W : World) (K : Act → World → Prop), K (a₁ x) W →
      assign.wpIn (F.inRound l) (n - 1 - 1) P (Exit.then K (fun _ _ _ => False)) { tmps := (ps.zip (encs x)).foldl (fun t (p, v) => t.setIfInBounds p v) a.tmps, defers := [] } W)
    (hbody : ∀ (l : Nat) (pre : List α) (x : α) (W : World), I pre W → pre.length < N → body.wpIn (F.inRound l) (n - 1 - 1) P (boxPost w.heap.size Kp I Ix (pre ++ [x]) W) (a₁ x) W)
    (hdone : ∀ (D : Nat) (xs : List α) (W : World), w.heap.size ≤ D → S xs → I xs W → W.heap[D]? = some (.deferred (some [])) → Q .normal { a with defers := { target := .collected D, args := #[] } :: a.defers } W)
    (hstop : ∀ (D : Nat) (pre : List α) (W : World), w.heap.size ≤ D → Sp pre → Ix pre W → W.heap[D]? = some (.deferred (some [])) → Code.ret.wpIn F n P Q { a with defers := { target := .collected D, args := #[] } :: a.defers } W) :
    (Code.rangeFunc g ps assign body).wpIn F n P Q a w := by
  refine wpIn_rangeFunc fun fn hfn => ?_
  rw [hro]
  have hLD : w.heap.size + 1 ≠ w.heap.size := by omega
  -- the record, in a state and with a jump
  let lp : LoopState → Option Code → Loop := fun st j => ⟨st, j, fn, a.tmps, ps, assign, body, w.heap.size⟩
  have bk : Booked (w.heap.size + 1) w.heap.size (.loop (lp .ready none)) ((w.alloc (.deferred (some []))).alloc (.loop (lp .ready none))) := by
    constructor
    · have h := World.alloc_heap_new (w.alloc (.deferred (some []))) (.loop (lp .ready none))
      rwa [World.size_alloc] at h
    · exact (Below.heap_alloc _ _ _ (by simp)).trans (World.alloc_heap_new w _)
  have hin : I [] ((w.alloc (.deferred (some []))).alloc (.loop (lp .ready none))) := hI.alloc _ (hI.alloc _ h0)
  have hbl : Below w0.heap.size w0 ((w.alloc (.deferred (some []))).alloc (.loop (lp .ready none))) := hb0.trans ((((Below.refl _ w).alloc (Nat.le_refl _) _).alloc (by simp) _).mono hb0.size)
  obtain ⟨W1, hW1⟩ : ∃ W1, (w.alloc (.deferred (some []))).alloc (.loop (lp .ready none)) = W1 := ⟨_, rfl⟩
  rw [hW1] at bk hin hbl
  refine ⟨w.heap.size + 1, [{ target := .collected w.heap.size, args := #[] }], W1, ⟨.fn (.func gf) lb, #[.func (.yield (w.heap.size + 1)) #[] #[]]⟩, W1, gf, #[.func (.yield (w.heap.size + 1)) #[] #[]] ++ lb, W1, by rw [← hW1]; exact run_enterLoop_outer _ _ _ _ _, by simp only [resolve, hg]; simp [go_sem], ?_, by simp [invoke, go_sem, eg], fun _ => h1, ?_⟩
  · intro f' hf'
    simp [Target.leads] at hf'
    subst hf'
    exact hFg
  refine (hseq (w.heap.size + 1) (fun pre W => I pre W ∧ Booked (w.heap.size + 1) w.heap.size (.loop (lp .ready none)) W) (fun pre W => Ix pre W ∧ Booked (w.heap.size + 1) w.heap.size (.loop (lp .done (some .ret))) W) _ hbl
    (fun s A B hs hb => ⟨hIb s A B hs.1 hb, hs.2.box (by omega) (by omega) hb⟩) (fun s A B hs hb => ⟨hIxb s A B hs.1 hb, hs.2.box (by omega) (by omega) hb⟩) ?round ⟨hin, bk⟩).mono ?behind
  case round =>
    rintro pre x V ⟨hi, hbk⟩ hlen
    have hVL := hbk.1
    refine ⟨fn, _, assign, body, run_yield (P := P) (args := encs x) hVL (hps x), roundIn_of_wpIn hfn (hassign _ x V _ ⟨_, run_beginRound hVL rfl, ?_⟩)⟩
    have hbk2 := hbk.put hLD (.loop { lp .ready none with state := .busy })
    have hk2 : Kp V (V.putObj (w.heap.size + 1) (.loop { lp .ready none with state := .busy })) := hKb _ _ _ _ (by omega) hVL rfl rfl
    refine wpIn_mono (hbody _ pre x _ (hI.putObj _ hi (by omega) hVL rfl) hlen) ?_
    rintro e a3 V3 hp
    cases e with
    | normal =>
      obtain ⟨hkf, hkp, hi3⟩ := hp
      have hbk3 := hbk2.from rfl (by omega) (Nat.le_refl _) hkf
      exact ⟨_, _, run_endRound (P := P) none hbk3.1, .inl ⟨rfl, ⟨hI.putObj _ hi3 (by omega) hbk3.1 rfl, hbk3.put hLD _⟩, hKt (hKt hk2 hkp) (hKb _ _ _ _ (by omega) hbk3.1 rfl rfl)⟩⟩
    | ret =>
      obtain ⟨hkf, hi3⟩ := hp
      have hbk3 := hbk2.from rfl (by omega) (Nat.le_refl _) hkf
      exact ⟨_, _, run_endRound (P := P) (some .ret) hbk3.1, .inr ⟨rfl, hIx.putObj _ hi3 (by omega) hbk3.1 rfl, hbk3.put hLD _⟩⟩
    | exit id => exact hp.elim
    | goto t => exact hp.elim
    | panic ch => exact hp.elim
    | outgrown => exact hp.elim
  case behind =>
    rintro e V ⟨⟨v, rfl⟩, (⟨xs, hS, hi, hbk⟩ | ⟨pre, hSp, hi, hbk⟩)⟩
    · exact ⟨none, _, run_endLoop (P := P) hbk.1 (by simp [lp]), hdone _ xs _ (Nat.le_refl _) hS (hI.putObj _ hi (by omega) hbk.1 rfl) (hbk.put hLD _).2⟩
    · exact ⟨some .ret, _, run_endLoop (P := P) hbk.1 (by simp [lp]), hstop _ pre _ (Nat.le_refl _) hSp (hIx.putObj _ hi (by omega) hbk.1 rfl) (hbk.put hLD _).2⟩
end Go.Proofs.Ytnfelphemdchpaa
