/-
  A reassembler's calls by its state alone.
-/
import Derived.Test.YtgmgnokmeocmjaaReasmF
namespace Go.Proofs.Ytgmgnokmeocmjaa
set_option linter.unusedVariables false
open Go.RowKit
/-- What waits behind a chunk; none: dead. -/
def feedS (most : Int) (s : Option (List UInt8)) (b : List UInt8) : Option (List UInt8) := s.bind fun l => (allF most (l ++ b).length (l ++ b)).map Prod.snd
def RsV (w : World) (p : Nat) (most : Int) (s : Option (List UInt8)) (v : Value) : Prop :=
  match s with
  | some l => RsAt w p most l v
  | none => RsDead w p ∧ v = .slice none 0 0
theorem RsV.only {S : Nat → Prop} {w w' : World} {p : Nat} {most : Int} {s : Option (List UInt8)} {v : Value} (h : RsV w p most s v) (ho : Only S w w') (hp : ¬ S p) (hv : ∀ k, v.ownBlock = some k → ¬ S k) : RsV w' p most s v := by
  cases s with
  | some l => exact RsAt.only h ho hp hv
  | none => exact ⟨RsDead.only h.1 ho hp, h.2⟩
theorem RsV.fresh {w w' : World} {p : Nat} {most : Int} {s : Option (List UInt8)} {v : Value} (h : RsV w p most s v) (hf : Fresh w w') : RsV w' p most s v := by
  cases s with
  | some l => exact RsAt.fresh h hf
  | none => exact ⟨RsDead.fresh h.1 hf, h.2⟩
theorem RsV.lt {w : World} {p : Nat} {most : Int} {s : Option (List UInt8)} {v : Value} (h : RsV w p most s v) : p < w.heap.size ∧ ∀ k, v.ownBlock = some k → k ≠ p ∧ k < w.heap.size := by
  cases s with
  | some l => exact ⟨RsAt.blk h |>.lt, RsAt.ne h⟩
  | none =>
    obtain ⟨⟨A, c, hb⟩, rfl⟩ := h
    exact ⟨hb.lt, fun k hk => by cases hk⟩
def FeedV (p : Nat) (most : Int) (s : Option (List UInt8)) (v : Value) (w : World) (e : Ending) (w' : World) : Prop :=
  ∃ A n c z v', e = .returned (.tuple #[.slice A n c, .int .i64 z]) ∧ RsV w' p most s v' ∧ Only (fun k => k = p ∨ v.ownBlock = some k) w w' ∧ (∀ k, v'.ownBlock = some k → v.ownBlock = some k ∨ w.heap.size ≤ k)
theorem rfeedV (p : Nat) (most : Int) (s s' : Option (List UInt8)) (v : Value) (A : Option Addr) (n c : Nat) (b : List UInt8) (w : World) (h : RsV w p most s v) (hn : b.length = n) (hB : BS w A b) (hb : n ≤ 1000000000) (hs : feedS most s b = s') :
    Calls Try.prog 10 #[.pointer (some ⟨p, 0, none⟩), .slice A n c] w (FeedV p most s' v w) := by
  subst hs
  cases s with
  | some l =>
    cases hr : allF most (l ++ b).length (l ++ b) with
    | none =>
      refine (rfeed p most l v A n c b none w h hn hB hb hr).mono fun e w' ⟨_, h2⟩ => ?_
      obtain ⟨rfl, hd, ho⟩ := h2 rfl
      have e0 : feedS most (some l) b = none := by simp only [feedS, Option.bind_some, hr, Option.map_none]
      exact ⟨none, 0, 0, 106, .slice none 0 0, rfl, by rw [e0]; exact ⟨hd, rfl⟩, ho, fun k hk => by cases hk⟩
    | some P =>
      refine (rfeed p most l v A n c b (some P) w h hn hB hb hr).mono fun e w' ⟨h2, _⟩ => ?_
      obtain ⟨A1, n1, c1, fs, v', rfl, _, _, _, hrs, ho, hv, _⟩ := h2 P rfl
      have e0 : feedS most (some l) b = some P.2 := by simp only [feedS, Option.bind_some, hr, Option.map_some]
      exact ⟨A1, n1, c1, 0, v', rfl, by rw [e0]; exact hrs, ho, hv⟩
  | none =>
    obtain ⟨hd, rfl⟩ := h
    exact (rfeed_dead p _ w hd).mono fun e w' ⟨he, hw⟩ => by
      subst hw
      exact ⟨none, 0, 0, 25, .slice none 0 0, he, ⟨hd, rfl⟩, Only.refl _ _, fun k hk => by cases hk⟩
theorem rneedsV (p : Nat) (most : Int) (s : Option (List UInt8)) (v : Value) (w : World) (h : RsV w p most s v) :
    Calls Try.prog 14 #[.pointer (some ⟨p, 0, none⟩)] w fun e w' => e = .returned (.int .i64 (s.elim 0 needI)) ∧ w = w' := by
  cases s with
  | some l => exact rneeds p most l v w h
  | none => exact rneeds_dead p w h.1
def waitI (s : Option (List UInt8)) : Int := s.elim 0 fun l => (l.length : Int)
theorem rwaitingV (p : Nat) (most : Int) (s : Option (List UInt8)) (v : Value) (w : World) (h : RsV w p most s v) :
    Calls Try.prog 13 #[.pointer (some ⟨p, 0, none⟩)] w fun e w' => e = .returned (.int .i64 (waitI s)) ∧ w = w' := by
  cases s with
  | some l => exact rwaiting p most l v w h
  | none => exact rwaiting_dead p w h.1
theorem rdeadV (p : Nat) (most : Int) (s : Option (List UInt8)) (v : Value) (w : World) (h : RsV w p most s v) :
    Calls Try.prog 11 #[.pointer (some ⟨p, 0, none⟩)] w fun e w' => e = .returned (.bool s.isNone) ∧ w = w' := by
  cases s with
  | some l => exact rdead_no p most l v w h
  | none => exact rdead_yes p w h.1
def CopyV (most : Int) (s : Option (List UInt8)) (w : World) (e : Ending) (w' : World) : Prop :=
  ∃ p v, e = .returned (.pointer (some ⟨p, 0, none⟩)) ∧ w.heap.size ≤ p ∧ RsV w' p most s v ∧ (∀ k, v.ownBlock = some k → w.heap.size ≤ k) ∧ Fresh w w'
theorem rcopyV (p : Nat) (most : Int) (s : Option (List UInt8)) (v : Value) (w : World) (h : RsV w p most s v) :
    Calls Try.prog 16 #[.pointer (some ⟨p, 0, none⟩)] w (CopyV most s w) := by
  cases s with
  | some l => exact rcopy p most l v w h
  | none => exact (rcopy_dead p w h.1).mono fun e w' ⟨q, he, hq, hd, hf⟩ => ⟨q, .slice none 0 0, he, hq, ⟨hd, rfl⟩, (fun k hk => by cases hk), hf⟩
end Go.Proofs.Ytgmgnokmeocmjaa
