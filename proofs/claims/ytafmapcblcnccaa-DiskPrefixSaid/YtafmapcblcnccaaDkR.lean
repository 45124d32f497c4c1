/- Package disk: Crash and Copy of any disk; two disks side by side; calls whose answers are known. -/
import Derived.Test.YtafmapcblcnccaaDkQ
namespace Go.Proofs.Ytafmapcblcnccaa
open Go.RowKit Go.Shelf
set_option linter.unusedVariables false

theorem crash_any {n0 p m : Nat} {s : DS} {v : Value} (w : World) (h : Dk w n0 p m s v) (hk : keyD s.f) (ak : Option Addr) (ck : Nat) (keep : List Int) (hkr : Row .i64 w.heap.size w (.slice ak keep.length ck) keep) (flip : Int) :
    Calls Try.prog 32 #[.pointer (some ⟨p, 0, none⟩), .slice ak keep.length ck, .int .i64 flip] w fun e w' => e = .returned (.tuple #[]) ∧ DkAfter w w' n0 p m (s.crash keep flip) v := by
  cases hf : s.f with
  | none => exact crash_none w h hf ak ck keep flip
  | some x =>
    obtain ⟨n, bs, d⟩ := x
    rw [hf] at hk
    exact crash_some w h n bs d hf hk.1 hk.2 ak ck keep hkr flip
theorem crash_is {n0 p m : Nat} {s s' : DS} {v : Value} (w : World) (h : Dk w n0 p m s v) (hk : keyD s.f) (ak : Option Addr) (L ck : Nat) (keep : List Int) (hL : L = keep.length) (hkr : Row .i64 w.heap.size w (.slice ak L ck) keep) (flip : Int) (he : s.crash keep flip = s') :
    Calls Try.prog 32 #[.pointer (some ⟨p, 0, none⟩), .slice ak L ck, .int .i64 flip] w fun e w' => e = .returned (.tuple #[]) ∧ DkAfter w w' n0 p m s' v := by
  subst hL he
  exact crash_any w h hk ak ck keep hkr flip
theorem copy_any {n0 p m : Nat} {s : DS} {v : Value} (w : World) (h : Dk w n0 p m s v) (hlen : lenD s.f ≤ 10000000) :
    Calls Try.prog 30 #[.pointer (some ⟨p, 0, none⟩)] w fun e w' => CopyPost w s e w' := by
  cases hf : s.f with
  | none => exact copy_none w h hf
  | some x =>
    obtain ⟨n, bs, d⟩ := x
    rw [hf] at hlen
    exact copy_some w h n bs d hf hlen
theorem append_is {n0 p m : Nat} {s s' : DS} {v : Value} (w : World) (h : Dk w n0 p m s v) (n : Int) (ab : Option Addr) (L cb : Nat) (b : List Int) (hL : L = b.length) (hr : Row .u8 w.heap.size w (.slice ab L cb) b) (hbl : b.length ≤ 16777216)
    (hz : ∀ x ∈ b, 0 ≤ x ∧ x < 256) (hone : ∀ n' bs d, s.f = some (n', bs, d) → n ≠ n' → b = []) (err : Int) (he : s.app n b = (err, s')) :
    Calls Try.prog 21 #[.pointer (some ⟨p, 0, none⟩), .int .i64 n, .slice ab L cb] w fun e w' => e = .returned (.int .i64 err) ∧ DkAfter w w' n0 p m s' v := by
  subst hL
  have := append_any w h n ab cb b hr hbl hz hone
  rw [he] at this
  exact this
theorem sync_is {n0 p m : Nat} {s s' : DS} {v : Value} (w : World) (h : Dk w n0 p m s v) (hk : keyD s.f) (err : Int) (he : s.sync = (err, s')) :
    Calls Try.prog 29 #[.pointer (some ⟨p, 0, none⟩)] w fun e w' => e = .returned (.int .i64 err) ∧ DkAfter w w' n0 p m s' v := by
  refine (syncD_any w h hk).mono ?_
  rw [he]
  rintro e w' ⟨rfl, h1, h2⟩
  refine ⟨rfl, v, h1, h2.mono (fun i e => ?_), .inl rfl⟩
  rcases e with e | e
  · exact .inl e
  · exact .inr (.inl e)
theorem read_is {n0 p m : Nat} {s : DS} {v : Value} (w : World) (h : Dk w n0 p m s v) (n : Int) (hlen : lenD s.f ≤ 10000000) (zs : List Int) (err : Int) (L : Nat) (hL : zs.length = L) (he : s.rd n = (zs, err)) :
    Calls Try.prog 22 #[.pointer (some ⟨p, 0, none⟩), .int .i64 n] w fun e w' => ∃ a c, e = .returned (.tuple #[.slice a L c, .int .i64 err]) ∧ Row .u8 w'.heap.size w' (.slice a L c) zs ∧ Below w.heap.size w w' := by
  have := readD_any w h n hlen
  rw [he] at this
  subst hL
  exact this
theorem DkAfter.mk' {w w' : World} {n0 p m : Nat} {s s' : DS} {v : Value} (h : Dk w' n0 p m s' v) (ho : OnlyP (fun k => k = p) w w') : DkAfter w w' n0 p m s' v := ⟨v, h, ho.mono (fun i e => .inl e), .inl rfl⟩
/-- Two disks that share no block. -/
def ApartD (p m : Nat) (v : Value) (p' m' : Nat) (v' : Value) : Prop := ∀ k, DkB p m v k → ¬ DkB p' m' v' k
theorem Dk.below {w w' : World} {n0 p m base : Nat} {s : DS} {v : Value} (h : Dk w n0 p m s v) (ho : OnlyP (DkB p m v) w w') (hb : base ≤ n0) : Below base w w' :=
  ho.below (by have := h.basep; have := h.box.lt; omega) (fun k hk => Nat.le_trans hb (h.blk hk).1)
theorem ApartD.symm {p m p' m' : Nat} {v v' : Value} (h : ApartD p m v p' m' v') : ApartD p' m' v' p m v := fun k h1 h2 => h k h2 h1
/-- A call on one of two disks. -/
theorem DkAfter.beside {w w' : World} {n0 p m n1 p2 m2 : Nat} {s' s2 : DS} {v v2 : Value} (h : DkAfter w w' n0 p m s' v) (h2 : Dk w n1 p2 m2 s2 v2) (ha : ApartD p m v p2 m2 v2) :
    ∃ v', Dk w' n0 p m s' v' ∧ Dk w' n1 p2 m2 s2 v2 ∧ ApartD p m v' p2 m2 v2 ∧ OnlyP (DkB p m v) w w' := by
  obtain ⟨v', g1, g2, g3⟩ := h
  refine ⟨v', g1, h2.only g2 (fun k hk h => ha k h hk), fun k hk hk2 => ?_, g2⟩
  rcases hk with hk | hk | hk
  · exact ha k (.inl hk) hk2
  · exact ha k (.inr (.inl hk)) hk2
  · rcases g3 with g3 | g3 | ⟨j, g3, g4⟩
    · exact ha k (.inr (.inr (by rw [← g3]; exact hk))) hk2
    · rw [g3] at hk; cases hk
    · rw [g3] at hk
      injection hk with hk
      have := (h2.blk hk2).2
      omega
/-- A disk laid anew lies apart from all before. -/
theorem Dk.fresh {w w' : World} {n0 p m p2 m2 : Nat} {s s2 : DS} {v v2 : Value} (h : Dk w n0 p m s v) (h2 : Dk w' w.heap.size p2 m2 s2 v2) : ApartD p m v p2 m2 v2 := fun k h1 h3 => by
  have := (h.blk h1).2
  have := (h2.blk h3).1
  omega
theorem litB (w : World) (zs : List Int) (hm : zs.length ≤ 1000) (n : Nat) (hn : n = zs.length) (c : Array Value) (hc : c = (zs.map (Value.int .u8)).toArray) : Row .u8 (w.alloc (.cells c 5)).heap.size (w.alloc (.cells c 5)) (.slice (some ⟨w.heap.size, 0, none⟩) n n) zs := by
  rw [World.size_alloc]
  exact row_new w 5 zs (by unfold maxLen; omega) n hn c hc
theorem litI (w : World) (zs : List Int) (hm : zs.length ≤ 1000) (n : Nat) (hn : n = zs.length) (c : Array Value) (hc : c = (zs.map (Value.int .i64)).toArray) : Row .i64 (w.alloc (.cells c 3)).heap.size (w.alloc (.cells c 3)) (.slice (some ⟨w.heap.size, 0, none⟩) n n) zs := by
  rw [World.size_alloc]
  exact row_new w 3 zs (by unfold maxLen; omega) n hn c hc
end Go.Proofs.Ytafmapcblcnccaa
