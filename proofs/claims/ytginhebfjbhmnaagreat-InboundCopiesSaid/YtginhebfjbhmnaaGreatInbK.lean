/-
  Package inbound: a reader by its state, living or dead.
-/
import Derived.Test.YtginhebfjbhmnaaGreatInbO
import Derived.Test.YtginhebfjbhmnaaGreatInbZ
import Derived.Test.YtginhebfjbhmnaaGreatG40
namespace Go.Proofs.YtginhebfjbhmnaaGreat
set_option maxRecDepth 100000
set_option linter.unusedVariables false
set_option linter.unusedSimpArgs false
open Go.RowKit
abbrev RiSt := Option (List UInt8 × Option Part × Bool)
/-- A reader at p in the state st; its blocks are T. -/
structure RiS (w W : World) (p : Nat) (st : RiSt) (T : Nat → Prop) : Prop where
  sp : T p
  lo : ∀ k, T k → w.heap.size ≤ k ∧ k < W.heap.size
  lw : w.heap.size ≤ W.heap.size
  alive : ∀ l s bg, st = some (l, s, bg) → ∃ P : InB, P.p = p ∧ T = P.has ∧ IbAt w W P l s bg
  dead : st = none → InDead W p ∧ T = (· = p)
theorem RiS.of {w W : World} {P : InB} {l : List UInt8} {s : Option Part} {bg : Bool} (h : IbAt w W P l s bg) : RiS w W P.p (some (l, s, bg)) P.has :=
  ⟨.inl rfl, fun k hk => ⟨(h.lt hk).2, (h.lt hk).1⟩, h.de.fr.size, fun l' s' bg' e => by cases e; exact ⟨P, rfl, rfl, h⟩, fun e => by cases e⟩
theorem RiS.ofDead {w W : World} {p : Nat} (h : InDead W p) (hp : w.heap.size ≤ p) : RiS w W p none (· = p) := by
  have hl : p < W.heap.size := Blk.lt h
  exact ⟨rfl, fun k hk => by subst hk; exact ⟨hp, hl⟩, by omega, fun l' s' bg' e => (by cases e), fun e => ⟨h, rfl⟩⟩
theorem RiS.only {S : Nat → Prop} {w W W' : World} {p : Nat} {st : RiSt} {T : Nat → Prop} (h : RiS w W p st T) (ho : Only S W W') (hs : ∀ k, T k → ¬ S k) (hl : ∀ k, S k → w.heap.size ≤ k) : RiS w W' p st T := by
  have hz := ho.size
  refine ⟨h.sp, fun k hk => ⟨(h.lo k hk).1, by have := (h.lo k hk).2; omega⟩, by have := h.lw; omega, fun l s bg e => ?_, fun e => ?_⟩
  · obtain ⟨P, hp, hT, hi⟩ := h.alive l s bg e
    exact ⟨P, hp, hT, hi.only ho (fun k hk => hs k (by rw [hT]; exact hk)) hl⟩
  · obtain ⟨hd, hT⟩ := h.dead e
    exact ⟨Blk.only hd ho (hs p h.sp), hT⟩
theorem RiS.fresh {w W W' : World} {p : Nat} {st : RiSt} {T : Nat → Prop} (h : RiS w W p st T) (hf : Fresh W W') : RiS w W' p st T := by
  have hz := hf.size
  refine ⟨h.sp, fun k hk => ⟨(h.lo k hk).1, by have := (h.lo k hk).2; omega⟩, by have := h.lw; omega, fun l s bg e => ?_, fun e => ?_⟩
  · obtain ⟨P, hp, hT, hi⟩ := h.alive l s bg e
    exact ⟨P, hp, hT, hi.fresh hf⟩
  · obtain ⟨hd, hT⟩ := h.dead e
    exact ⟨Blk.fresh hd hf, hT⟩
theorem RiS.odd {w W : World} {p : Nat} {st : RiSt} {T : Nat → Prop} (h : RiS w W p st T) {k : Nat} {t : TypeId} {cs : Array Value} (hb : Blk W k t cs) (ht : OddT t) : ¬ T k := by
  cases st with
  | none =>
    obtain ⟨hd, rfl⟩ := h.dead rfl
    exact hb.ne hd ht.1
  | some q =>
    obtain ⟨l, s, bg⟩ := q
    obtain ⟨P, _, rfl, hi⟩ := h.alive l s bg rfl
    exact hi.odd hb ht
theorem RiS.mem {w W : World} {p : Nat} {st : RiSt} {T : Nat → Prop} (h : RiS w W p st T) {W' : World} (ho : Only T W W') {w1 : World} (hf : Fresh w1 W) (h1 : w1.heap.size ≤ w.heap.size) : Fresh w1 W' :=
  Only.fresh ((Only.of_fresh hf).trans ho) (fun i hi hk => by have := (h.lo i hk).1; omega)
/-- What bytes do to a reader. -/
def feedX (st : RiSt) (b : List UInt8) : List Ev × Int × RiSt := match st with
  | some (l, s, bg) => feedQ l s bg b
  | none => ([], 105, none)
theorem feedX_lim (st : RiSt) (b : List UInt8) : ∀ e ∈ (feedX st b).1, e.lim := by
  cases st with
  | none => intro e he; cases he
  | some q =>
    obtain ⟨l, s, bg⟩ := q
    exact feedQ_lim l s bg b
theorem feedX_none (st : RiSt) (b : List UInt8) : (feedX st b).2.2 = none ↔ (feedX st b).2.1 ≠ 0 := by
  cases st with
  | none => simp [feedX]
  | some q =>
    obtain ⟨l, s, bg⟩ := q
    simp only [feedX, feedQ]
    cases allF 16384 (l ++ b).length (l ++ b) with
    | none => simp [feedR]
    | some P =>
      simp only [feedR]
      by_cases h : (readAll s bg P.1).2.1 = 0
      · simp [h]
      · simp [h]
def InFeedS (w W : World) (p : Nat) (T : Nat → Prop) (evs : List Ev) (co : Int) (cb : Bool) (st' : RiSt) (e : Ending) (W' : World) : Prop :=
  ∃ (xs : List EvV) (A : Option Addr) (n c : Nat) (T' : Nat → Prop), e = .returned (.tuple #[.slice A n c, .agg #[.int .i64 co, .bool cb]]) ∧ xs.length = n ∧ OwnE W' W.heap.size (.slice A n c) xs ∧ xs.map EvV.e = evs ∧ Only T W W' ∧ RiS w W' p st' T' ∧ (∀ k, T' k → T k ∨ W.heap.size ≤ k) ∧ ∀ x ∈ xs, x.off T'
theorem in_feedS (w W : World) (p : Nat) (st : RiSt) (T : Nat → Prop) (A : Option Addr) (n c : Nat) (b : List UInt8) (h : RiS w W p st T) (hn : b.length = n) (hB : BS W A b) (hb : n ≤ 1000000000) (evs : List Ev) (co : Int) (cb : Bool) (st' : RiSt) (hq : feedX st b = (evs, co, st')) (hcb : decide (co ≠ 0) = cb) :
    Calls Tryz.prog 12 #[.pointer (some ⟨p, 0, none⟩), .slice A n c] W (InFeedS w W p T evs co cb st') := by
  cases st with
  | none =>
    obtain ⟨hd, rfl⟩ := h.dead rfl
    cases hq
    refine (in_feed_dead p _ W hd).mono ?_
    rintro e W' ⟨rfl, hf⟩
    exact ⟨[], none, 0, 0, _, by rw [← hcb]; rfl, rfl, OwnE.nil _ _, rfl, Only.of_fresh hf, h.fresh hf, fun k hk => .inl hk, fun x hx => by cases hx⟩
  | some q =>
    obtain ⟨l, s, bg⟩ := q
    obtain ⟨P, rfl, rfl, hi⟩ := h.alive l s bg rfl
    refine (in_feedV w W P l s bg A n c b hi hn hB hb evs co cb st' hq hcb).mono ?_
    rintro e W' ⟨xs, A', n', c', rfl, h1, h2, h3, h4, h5, h6⟩
    cases st' with
    | none =>
      exact ⟨xs, A', n', c', _, rfl, h1, h2, h3, h4, RiS.ofDead (h5 rfl) (h.lo P.p h.sp).1, fun k hk => (by subst hk; exact .inl h.sp), fun x hx => (h2.2.1 x hx).low.mono (fun k hk => by subst hk; exact (h.lo _ h.sp).2)⟩
    | some q' =>
      obtain ⟨l', s', bg'⟩ := q'
      obtain ⟨B', hp, hib, hh, hof⟩ := h6 l' s' bg' rfl
      exact ⟨xs, A', n', c', B'.has, rfl, h1, h2, h3, h4, hp ▸ RiS.of hib, hh, hof⟩
theorem in_deadS {w W : World} {p : Nat} {st : RiSt} {T : Nat → Prop} (h : RiS w W p st T) : Calls Tryz.prog 14 #[.pointer (some ⟨p, 0, none⟩)] W fun e w' => e = .returned (.bool st.isNone) ∧ W = w' := by
  cases st with
  | none =>
    obtain ⟨hd, rfl⟩ := h.dead rfl
    exact (in_dead_yes hd).mono (fun e w' ⟨h1, h2⟩ => ⟨h1, h2.symm⟩)
  | some q =>
    obtain ⟨l, s, bg⟩ := q
    obtain ⟨P, rfl, rfl, hi⟩ := h.alive l s bg rfl
    exact (in_dead_no hi).mono (fun e w' ⟨h1, h2⟩ => ⟨h1, h2.symm⟩)
def waitX (st : RiSt) : Int := match st with
  | some (l, s, _) => (l.length : Int) + (lenS s : Int)
  | none => 0
theorem in_waitS {w W : World} {p : Nat} {st : RiSt} {T : Nat → Prop} (h : RiS w W p st T) : Calls Tryz.prog 15 #[.pointer (some ⟨p, 0, none⟩)] W fun e w' => e = .returned (.int .i64 (waitX st)) ∧ Fresh W w' := by
  cases st with
  | none =>
    obtain ⟨hd, rfl⟩ := h.dead rfl
    exact (in_wait_dead hd).mono (fun e w' ⟨h1, h2⟩ => ⟨h1, by rw [h2]; exact Fresh.refl _⟩)
  | some q =>
    obtain ⟨l, s, bg⟩ := q
    obtain ⟨P, rfl, rfl, hi⟩ := h.alive l s bg rfl
    exact in_wait hi
def InCopyS (w W : World) (st : RiSt) (e : Ending) (W' : World) : Prop := ∃ (q : Nat) (T : Nat → Prop), e = .returned (.pointer (some ⟨q, 0, none⟩)) ∧ RiS w W' q st T ∧ (∀ k, T k → W.heap.size ≤ k) ∧ Fresh W W'
theorem in_copyS {w W : World} {p : Nat} {st : RiSt} {T : Nat → Prop} (h : RiS w W p st T) : Calls Tryz.prog 16 #[.pointer (some ⟨p, 0, none⟩)] W (InCopyS w W st) := by
  have hlw := h.lw
  cases st with
  | none =>
    obtain ⟨hd, rfl⟩ := h.dead rfl
    refine (in_copy_dead p W hd).mono ?_
    rintro e W' ⟨q, rfl, h1, h2, h3⟩
    exact ⟨q, _, rfl, RiS.ofDead h1 (by omega), fun k hk => (by subst hk; exact h2), h3⟩
  | some q =>
    obtain ⟨l, s, bg⟩ := q
    obtain ⟨P, rfl, rfl, hi⟩ := h.alive l s bg rfl
    refine (in_copy w W P l s bg hi).mono ?_
    rintro e W' ⟨B', rfl, h1, h2, h3⟩
    exact ⟨B'.p, B'.has, rfl, RiS.of h1, h2, h3⟩
/-- Two sets of blocks that have nothing in common. -/
def Sep (S T : Nat → Prop) : Prop := ∀ k, S k → ¬ T k
theorem Sep.symm {S T : Nat → Prop} (h : Sep S T) : Sep T S := fun k h1 h2 => h k h2 h1
theorem RiS.sep {w W : World} {p : Nat} {st : RiSt} {T T' S : Nat → Prop} (hS : ∀ k, S k → k < W.heap.size) (hd : Sep S T) (hg : ∀ k, T' k → T k ∨ W.heap.size ≤ k) : Sep S T' := fun k h1 h2 => (hg k h2).elim (hd k h1) (fun e => by have := hS k h1; omega)
/-- One frame in a chunk of its own. -/
theorem feedX_one {f : Fr} (hst : f.st ≤ 2147483647) (hl : f.pl.length ≤ 600) (s : Option Part) (bg : Bool) (q : Int × Option Part × Ev) (hq : readP s bg f.x.toNat f.y.toNat f.st f.pl = q) : feedX (some ([], s, bg)) (frB2 f.x f.y f.st f.pl) = (if q.1 = 0 then ((if q.2.2.k ≠ 0 then [q.2.2] else []), 0, some ([], q.2.1, true)) else ([], q.1, none)) := by
  subst hq
  exact feed_one hst hl s bg
/-- A row of events and a set of blocks: none of the events' memory, nor the row, is there. -/
theorem OwnE.feedT {w W W' : World} {p : Nat} {st : RiSt} {T T' : Nat → Prop} {base : Nat} {v : Value} {xs : List EvV} (h : OwnE W base v xs) (hr : RiS w W p st T) (hx : ∀ x ∈ xs, x.off T) (ho : Only T W W') (hg : ∀ k, T' k → T k ∨ W.heap.size ≤ k) : OwnE W' base v xs ∧ ∀ x ∈ xs, x.off T' := by
  refine ⟨h.only ho (fun k hk => ?_) (fun g cs hb => hr.odd hb (by decide)) hx, fun x hxs => ((hx x hxs).or (h.2.1 x hxs).lt).mono hg⟩
  obtain ⟨_, _, cs, hb⟩ := h.blk hk
  exact hr.odd hb (by decide)
end Go.Proofs.YtginhebfjbhmnaaGreat

