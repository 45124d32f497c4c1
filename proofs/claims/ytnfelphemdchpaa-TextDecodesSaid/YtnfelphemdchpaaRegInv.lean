/- A region that draws its order, proved by what each operation leaves: one proof an operation, whatever the order. -/
import Derived.Test.YtnfelphemdchpaaStepApp
import Derived.Test.YtnfelphemdchpaaCel
import Derived.RegionTactic
namespace Go.Proofs.Ytnfelphemdchpaa
open Go.RowKit Go.Shelf
set_option linter.unusedVariables false

/-- The frame with the slots ds filled by x. -/
def putAll (a : Act) : List Nat → (Nat → Value) → Act
  | [], _ => a
  | d :: ds, x => putAll (a.put (some d) (x d)) ds x
def upd (x : Nat → Value) : Option Nat → Value → Nat → Value
  | none, _ => x
  | some d, v => fun k => if k = d then v else x k
theorem put_same (a : Act) (d : Nat) (u v : Value) : (a.put (some d) u).put (some d) v = a.put (some d) v := by
  simp [Act.put]
theorem putAll_put {d : Nat} {v : Value} {x : Nat → Value} : ∀ (ds : List Nat) (a : Act), d ∉ ds → (putAll a ds x).put (some d) v = putAll (a.put (some d) v) ds x
  | [], _, _ => rfl
  | e :: ds, a, h => by
    have h1 : d ≠ e := fun he => h (he ▸ List.mem_cons_self)
    have h2 : d ∉ ds := fun he => h (List.mem_cons_of_mem _ he)
    show (putAll (a.put (some e) (x e)) ds x).put (some d) v = putAll ((a.put (some d) v).put (some e) (x e)) ds x
    rw [putAll_put ds _ h2, Act.put_comm a v (x e) (fun k hk he => h1 (by cases hk; cases he; rfl))]
theorem putAll_upd {d : Nat} {v : Value} {x : Nat → Value} : ∀ (ds : List Nat) (a : Act), d ∉ ds → putAll a ds (upd x (some d) v) = putAll a ds x
  | [], _, _ => rfl
  | e :: ds, a, h => by
    have h1 : e ≠ d := fun he => h (he ▸ List.mem_cons_self)
    have h2 : d ∉ ds := fun he => h (List.mem_cons_of_mem _ he)
    show putAll (a.put (some e) (upd x (some d) v e)) ds (upd x (some d) v) = putAll (a.put (some e) (x e)) ds x
    rw [putAll_upd ds _ h2, show upd x (some d) v e = x e from by simp [upd, h1]]
theorem put_putAll {d : Nat} {v : Value} {x : Nat → Value} : ∀ (ds : List Nat) (a : Act), ds.Nodup → d ∈ ds → (putAll a ds x).put (some d) v = putAll a ds (upd x (some d) v)
  | [], _, _, h => by cases h
  | e :: ds, a, hn, h => by
    obtain ⟨hn1, hn2⟩ := List.nodup_cons.1 hn
    show (putAll (a.put (some e) (x e)) ds x).put (some d) v = putAll (a.put (some e) (upd x (some d) v e)) ds (upd x (some d) v)
    by_cases hde : d = e
    · subst hde
      rw [putAll_put ds _ hn1, put_same, putAll_upd ds _ hn1, show upd x (some d) v d = v from by simp [upd]]
    · have h2 : d ∈ ds := (List.mem_cons.1 h).resolve_left hde
      rw [put_putAll ds _ hn2 h2, show upd x (some d) v e = x e from by simp [upd, Ne.symm hde]]
theorem put_own (a : Act) (d : Nat) : a.put (some d) (a.tmps.getD d undef) = a := by
  have : a.tmps.setIfInBounds d (a.tmps.getD d undef) = a.tmps := by
    apply Array.ext_getElem?
    intro i
    rw [Array.getElem?_setIfInBounds]
    split
    · rename_i h
      subst h
      split
      · rename_i h2
        simp [h2]
      · rename_i h2
        rw [Array.getElem?_eq_none (by omega)]
    · rfl
  cases a
  simp only [Act.put] at *
  rw [this]
theorem putAll_own (a : Act) : ∀ ds : List Nat, putAll a ds (fun d => a.tmps.getD d undef) = a
  | [] => rfl
  | d :: ds => by
    show putAll (a.put (some d) (a.tmps.getD d undef)) ds (fun d => a.tmps.getD d undef) = a
    rw [put_own]
    exact putAll_own a ds

/-- What an operation has to do: whatever else has been done, from the claims of the listed ones it leads to the claims with itself listed. -/
def StepOk (P : Program) (md : Region.Mode) (ops : Array Oper) (Q : Exit → Act → World → Prop) (a : Act) (ds : List Nat) (C : (Nat → Prop) → (Nat → Value) → World → Prop) (i : Nat) (o : Oper) : Prop :=
  ∀ (l : Nat → Prop) (x : Nat → Value) (w : World), ¬ l i → (∀ e ∈ o.after, Region.binds md e = true → l e.on) → C l x w →
    ∀ K : Act → World → Prop, (∀ v w', C (fun j => j = i ∨ l j) (upd x o.dst v) w' → K ((putAll a ds x).put o.dst v) w') →
      if Region.wanted o (yielded ops (putAll a ds x).tmps) = true then Oper.wp P o (putAll a ds x) w K Q else K ((putAll a ds x).put o.dst undef) w
def AllSteps (P : Program) (md : Region.Mode) (ops : Array Oper) (Q : Exit → Act → World → Prop) (a : Act) (ds : List Nat) (C : (Nat → Prop) → (Nat → Value) → World → Prop) : List Nat → Prop
  | [] => True
  | i :: is => (∀ o, ops[i]? = some o → StepOk P md ops Q a ds C i o) ∧ AllSteps P md ops Q a ds C is
theorem AllSteps.at {P : Program} {md : Region.Mode} {ops : Array Oper} {Q : Exit → Act → World → Prop} {a : Act} {ds : List Nat} {C : (Nat → Prop) → (Nat → Value) → World → Prop} {i : Nat} {o : Oper} : ∀ {is : List Nat}, AllSteps P md ops Q a ds C is → i ∈ is → ops[i]? = some o → StepOk P md ops Q a ds C i o
  | [], _, h, _ => by cases h
  | j :: is, h, hm, ho => by
    rcases List.mem_cons.1 hm with rfl | hm
    · exact h.1 o ho
    · exact AllSteps.at h.2 hm ho
def dstIn (ds : List Nat) : Option Nat → Bool
  | none => true
  | some d => ds.contains d
/-- What can be told by reckoning. -/
def regChk (ops : Array Oper) (fuel : Nat) (L : Array Bool) (pre todo ds : List Nat) : Bool :=
  L.size == ops.size && decide (L.toList.count false ≤ fuel) && decide ds.Nodup &&
  ((List.range ops.size).all fun i => L.getD i false == pre.contains i) && (pre.all fun j => decide (j < ops.size)) &&
  ((List.range ops.size).all fun i => match ops[i]? with
    | none => false
    | some o => (o.after.all fun e => decide (e.on < i)) && (pre.contains i || (todo.contains i && dstIn ds o.dst)))
section
variable {P : Program} {md : Region.Mode} {ops : Array Oper} {Q : Exit → Act → World → Prop} {a : Act}
theorem lst_set {L : Array Bool} {i : Nat} (hi : i < L.size) : (fun j => (L.setIfInBounds i true).getD j false = true) = (fun j => j = i ∨ L.getD j false = true) := by
  funext j
  apply propext
  by_cases h : j = i
  · subst h
    simp [hi]
  · simp only [h, false_or]
    rw [getD_set_ne false (Ne.symm h)]
theorem getD_both {L : Array Bool} {i : Nat} (hi : i < L.size) (b c : Bool) : L.getD i b = L.getD i c := by simp [hi]
theorem count_set {L : Array Bool} {i : Nat} (hi : i < L.size) (h : L.getD i true = false) : (L.setIfInBounds i true).toList.count false + 1 = L.toList.count false := by
  rw [Array.toList_setIfInBounds, List.count_set (by simpa using hi)]
  have e : L.toList[i]'(by simpa using hi) = false := by simpa [hi] using h
  have hp : 0 < L.toList.count false := List.count_pos_iff.2 (by rw [← e]; exact List.getElem_mem _)
  rw [e]
  simp only [BEq.rfl, if_true, show (true == false) = false from rfl, Bool.false_eq_true, if_false]
  omega
theorem all_listed {L : Array Bool} (hs : L.size = ops.size) (hord : ∀ (i : Nat) (o : Oper), ops[i]? = some o → ∀ e ∈ o.after, e.on < i) (hr : Region.ready md ops L = []) : ∀ i, i < ops.size → L.getD i false = true := by
  intro i
  induction i using Nat.strongRecOn with
  | ind i ih =>
    intro hi
    by_cases h : L.getD i false = true
    · exact h
    · exfalso
      have h0 : L.getD i true = false := by rw [getD_both (by omega) true false]; simpa using h
      have ho : ops[i]? = some ops[i] := Array.getElem?_eq_getElem hi
      have hm : i ∈ Region.ready md ops L := mem_ready.2 ⟨h0, _, ho, fun e he _ => ih e.on (hord i _ ho e he) (by have := hord i _ ho e he; omega)⟩
      rw [hr] at hm
      cases hm
theorem wpAny_claims {pre todo ds : List Nat} {C : (Nat → Prop) → (Nat → Value) → World → Prop} (hds : ds.Nodup) (hord : ∀ (i : Nat) (o : Oper), ops[i]? = some o → ∀ e ∈ o.after, e.on < i)
    (htodo : ∀ (i : Nat) (o : Oper), ops[i]? = some o → i ∈ pre ∨ (i ∈ todo ∧ dstIn ds o.dst = true)) (hst : AllSteps P md ops Q a ds C todo)
    (hf : ∀ x W, C (fun j => j < ops.size) x W → Q .normal (putAll a ds x) W) :
    ∀ (fuel : Nat) (L : Array Bool) (x : Nat → Value) (w : World), L.size = ops.size → L.toList.count false ≤ fuel → (∀ j ∈ pre, L.getD j false = true) → C (fun j => L.getD j false = true) x w → wpAny P md ops Q fuel L (putAll a ds x) w := by
  have fin : ∀ (L : Array Bool) (x : Nat → Value) (w : World), L.size = ops.size → C (fun j => L.getD j false = true) x w → Region.ready md ops L = [] → Q .normal (putAll a ds x) w := by
    intro L x w hs hC hr
    refine hf x w ?_
    have hall := all_listed hs hord hr
    have e : (fun j => L.getD j false = true) = (fun j => j < ops.size) := by
      funext j
      apply propext
      constructor
      · intro h
        by_cases hj : j < ops.size
        · exact hj
        · rw [Array.getD, dif_neg (by omega)] at h
          cases h
      · exact hall j
    rwa [e] at hC
  intro fuel
  induction fuel with
  | zero =>
    intro L x w hs hc hp hC
    have hr : Region.ready md ops L = [] := by
      rw [List.eq_nil_iff_forall_not_mem]
      intro j hj
      obtain ⟨h0, o, ho, _⟩ := mem_ready.1 hj
      have hj2 : j < L.size := by rw [hs]; exact (Array.getElem?_eq_some_iff.1 ho).1
      have := count_set hj2 h0
      omega
    exact ⟨hr, fin L x w hs hC hr⟩
  | succ fuel ih =>
    intro L x w hs hc hp hC
    refine ⟨fin L x w hs hC, fun i hi => ?_⟩
    obtain ⟨h0, o, ho, he⟩ := mem_ready.1 hi
    have hi2 : i < L.size := by rw [hs]; exact (Array.getElem?_eq_some_iff.1 ho).1
    have hni : ¬ L.getD i false = true := by rw [getD_both hi2 false true, h0]; simp
    have hti := (htodo i o ho).resolve_left (fun h => hni (hp i h))
    refine wpOp_step ho (fun K hK => hst.at hti.1 ho (fun j => L.getD j false = true) x w hni he hC K (fun v w' hC' => hK _ _ ?_))
    have e : (putAll a ds x).put o.dst v = putAll a ds (upd x o.dst v) := by
      cases hd : o.dst with
      | none => rfl
      | some d =>
        have : d ∈ ds := by have := hti.2; rw [hd] at this; simpa [dstIn] using this
        exact put_putAll ds a hds this
    rw [e]
    refine ih _ _ _ (by simpa using hs) (by have := count_set hi2 h0; omega) (fun j hj => ?_) ?_
    · by_cases hji : j = i
      · subst hji; simp [hi2]
      · rw [getD_set_ne false (Ne.symm hji)]; exact hp j hj
    · rw [lst_set hi2]; exact hC'
theorem wpAny_by {fuel : Nat} {L : Array Bool} {w : World} (pre todo ds : List Nat) (C : (Nat → Prop) → (Nat → Value) → World → Prop) (chk : regChk ops fuel L pre todo ds = true)
    (h0 : C (fun j => pre.contains j = true) (fun d => a.tmps.getD d undef) w) (hst : AllSteps P md ops Q a ds C todo)
    (hf : ∀ x W, C (fun j => j < ops.size) x W → Q .normal (putAll a ds x) W) : wpAny P md ops Q fuel L a w := by
  simp only [regChk, Bool.and_eq_true, beq_iff_eq, decide_eq_true_eq, List.all_eq_true, List.mem_range] at chk
  obtain ⟨⟨⟨⟨⟨hs, hc⟩, hds⟩, hag⟩, hpre⟩, hall⟩ := chk
  have hord : ∀ (i : Nat) (o : Oper), ops[i]? = some o → ∀ e ∈ o.after, e.on < i := by
    intro i o ho e he
    have hi := (Array.getElem?_eq_some_iff.1 ho).1
    have := hall i hi
    simp only [ho, Bool.and_eq_true] at this
    have h2 := Array.all_eq_true_iff_forall_mem.1 this.1 e he
    simpa using h2
  have htodo : ∀ (i : Nat) (o : Oper), ops[i]? = some o → i ∈ pre ∨ (i ∈ todo ∧ dstIn ds o.dst = true) := by
    intro i o ho
    have hi := (Array.getElem?_eq_some_iff.1 ho).1
    have := hall i hi
    simp only [ho, Bool.and_eq_true, Bool.or_eq_true] at this
    rcases this.2 with h | h
    · exact .inl (by simpa using h)
    · exact .inr ⟨by simpa using h.1, h.2⟩
  have h := wpAny_claims (P := P) (md := md) (Q := Q) (a := a) hds hord htodo hst hf fuel L (fun d => a.tmps.getD d undef) w hs hc
    (fun j hj => by rw [hag j (hpre j hj)]; simpa using hj)
    (by
      have e : (fun j => L.getD j false = true) = (fun j => pre.contains j = true) := by
        funext j
        by_cases hj : j < ops.size
        · rw [hag j hj]
        · have h1 : L.getD j false = false := by rw [Array.getD, dif_neg (by omega)]
          have h2 : pre.contains j = false := by
            by_cases hm : j ∈ pre
            · exact absurd (hpre j hm) hj
            · simpa using hm
          rw [h1, h2]
      rw [e]
      exact h0)
  rwa [putAll_own] at h
end

/-- From W to W' nothing that was there has turned but blocks that bear the tag s. -/
structure Turns (own : Nat → Nat) (s : Nat) (W W' : World) : Prop where
  os : W'.os = W.os
  tape : W'.tape = W.tape
  output : W'.output = W.output
  size : W.heap.size ≤ W'.heap.size
  block : ∀ b, b < W.heap.size → own b ≠ s → W'.heap[b]? = W.heap[b]?
theorem Turns.of_grown {own : Nat → Nat} {s : Nat} {W W' : World} {row : Option Nat} (h : W.grownBy W' row) (hq : ∀ b, row = some b → own b = s) : Turns own s W W' := ⟨h.os, h.tape, h.output, h.size, fun k hk hn => h.block k hk (fun e => hn (hq k e.symm))⟩
theorem Turns.of_below {own : Nat → Nat} {s : Nat} {W W' : World} (h : Below W.heap.size W W') : Turns own s W W' := ⟨h.os, h.tape, h.output, h.size, fun k hk _ => h.block k hk⟩
/-- New blocks bear the tag s. -/
def tagged (W : World) (own : Nat → Nat) (s : Nat) : Nat → Nat := fun b => if b < W.heap.size then own b else s
theorem tagged_old {W : World} {own : Nat → Nat} {s b : Nat} (h : b < W.heap.size) : tagged W own s b = own b := by simp [tagged, h]
theorem tagged_new {W : World} {own : Nat → Nat} {s b : Nat} (h : W.heap.size ≤ b) : tagged W own s b = s := by simp [tagged, Nat.not_lt.2 h]
/-- Blocks below n0 bear the tag 0, and are as they were in w0. -/
structure Tg (n0 : Nat) (w0 : World) (own : Nat → Nat) (W : World) : Prop where
  base : ∀ b, b < n0 → own b = 0
  size : n0 ≤ W.heap.size
  below : Below n0 w0 W
theorem Tg.turn {n0 : Nat} {w0 W W' : World} {own : Nat → Nat} {s : Nat} (h : Tg n0 w0 own W) (t : Turns own s W W') (hs : s ≠ 0) : Tg n0 w0 (tagged W own s) W' := by
  have hsz := t.size
  have hb := h.size
  refine ⟨fun b hb' => by rw [tagged_old (by omega)]; exact h.base b hb', by omega, h.below.trans ⟨t.os, t.tape, t.output, t.size, fun k hk => t.block k (by omega) (by rw [h.base k hk]; exact Ne.symm hs)⟩⟩
/-- A row of own numbers, in a block that bears the tag t. -/
def OwnT (n0 : Nat) (ty : TypeId) (k : IntKind) (W : World) (own : Nat → Nat) (v : Value) (zs : List Int) (t : Nat) : Prop :=
  W.ownsRow n0 ty 1 v zs.length (zs.map (Value.int k)) ∧ ∀ b, v.ownBlock = some b → b < W.heap.size ∧ own b = t
section
variable {n0 : Nat} {ty : TypeId} {k : IntKind} {W W' : World} {own : Nat → Nat} {v v' : Value} {zs zs' : List Int} {t s : Nat}
theorem owns_lt {base : Nat} {e : TypeId} {size : Nat} {n : Nat} {xs : List Value} (h : W.ownsRow base e size v n xs) {b : Nat} (hk : v.ownBlock = some b) : b < W.heap.size := by
  rcases h.2 with ⟨rfl, _⟩ | ⟨g, cp, cur, rfl, hb, hg, _⟩
  · simp [Value.ownBlock] at hk
  · obtain rfl : g = b := by simpa [Value.ownBlock] using hk
    exact (Array.getElem?_eq_some_iff.1 hg).1
theorem owns_down {base : Nat} {e : TypeId} {size : Nat} {n : Nat} {xs : List Value} {m : Nat} (h : W.ownsRow base e size v n xs) (hm : m ≤ base) : W.ownsRow m e size v n xs := by
  rcases h.2 with ⟨rfl, h2⟩ | ⟨g, cp, cur, h1, hb, hg, h3⟩
  · exact ⟨h.1, .inl ⟨rfl, h2⟩⟩
  · exact ⟨h.1, .inr ⟨g, cp, cur, h1, by omega, hg, h3⟩⟩
theorem OwnT.far (h : OwnT n0 ty k W own v zs t) (T : Turns own s W W') (hts : t ≠ s) : OwnT n0 ty k W' (tagged W own s) v zs t := by
  refine ⟨⟨h.1.1, ?_⟩, fun b hb => ?_⟩
  · rcases h.1.2 with h2 | ⟨g, cp, cur, rfl, hb, hg, h3⟩
    · exact .inl h2
    · obtain ⟨h4, h5⟩ := h.2 g rfl
      exact .inr ⟨g, cp, cur, rfl, hb, by rw [T.block g h4 (by rw [h5]; exact hts)]; exact hg, h3⟩
  · obtain ⟨h4, h5⟩ := h.2 b hb
    exact ⟨Nat.lt_of_lt_of_le h4 T.size, by rw [tagged_old h4]; exact h5⟩
theorem OwnT.keep (h : OwnT n0 ty k W own v zs t) (hb : Below W.heap.size W W') : OwnT n0 ty k W' (tagged W own s) v zs t := by
  refine ⟨⟨h.1.1, ?_⟩, fun b hb' => ?_⟩
  · rcases h.1.2 with h2 | ⟨g, cp, cur, rfl, hn, hg, h3⟩
    · exact .inl h2
    · exact .inr ⟨g, cp, cur, rfl, hn, by rw [hb.block g (h.2 g rfl).1]; exact hg, h3⟩
  · obtain ⟨h4, h5⟩ := h.2 b hb'
    exact ⟨Nat.lt_of_lt_of_le h4 hb.size, by rw [tagged_old h4]; exact h5⟩
theorem OwnT.new (h : W'.ownsRow W.heap.size ty 1 v zs.length (zs.map (Value.int k))) (hn : n0 ≤ W.heap.size) : OwnT n0 ty k W' (tagged W own s) v zs s :=
  ⟨owns_down h hn, fun b hb => ⟨owns_lt h hb, tagged_new (own_base h hb)⟩⟩
theorem OwnT.app (h : OwnT n0 ty k W own v zs s) (ho : W'.ownsRow n0 ty 1 v' zs'.length (zs'.map (Value.int k))) (hd : v'.ownBlock = v.ownBlock ∨ v'.ownBlock = some W.heap.size) : OwnT n0 ty k W' (tagged W own s) v' zs' s := by
  refine ⟨ho, fun b hb => ⟨owns_lt ho hb, ?_⟩⟩
  rcases hd with hd | hd
  · obtain ⟨h4, h5⟩ := h.2 b (by rw [← hd]; exact hb)
    rw [tagged_old h4]; exact h5
  · rw [hd] at hb
    cases hb
    exact tagged_new (Nat.le_refl _)
theorem OwnT.turns (h : OwnT n0 ty k W own v zs s) (hg : W.grownBy W' v.ownBlock) : Turns own s W W' := Turns.of_grown hg (fun b hb => (h.2 b hb).2)
theorem OwnT.row (h : OwnT n0 ty k W own v zs t) : Row k W.heap.size W v zs := (row_of_owns h.1).1
end
end Go.Proofs.Ytnfelphemdchpaa
