/-
  The reader's contracts once more, by whole bytes and a place: addresses are told by existence.
-/
import Derived.Test.YtcdghmidpaeloaaOctet
namespace Go.Proofs.Ytcdghmidpaeloaa
set_option linter.unusedVariables false
open Go.RowKit
/-- n bytes from place o of block g on; of none the place is open. -/
def AtG (A : Option Addr) (g o n : Nat) : Prop := (A = none ∧ n = 0) ∨ ∃ o', A = some ⟨g, o', none⟩ ∧ (0 < n → o' = o)
theorem AtG.pos {A : Option Addr} {g o n : Nat} (h : AtG A g o n) (hn : 0 < n) : A = some ⟨g, o, none⟩ := by
  rcases h with ⟨_, h⟩ | ⟨o', rfl, h⟩
  · omega
  · rw [h hn]
theorem AtG.block {A : Option Addr} {g o n : Nat} (h : AtG A g o n) : ∀ b o', A = some ⟨b, o', none⟩ → b = g := by
  intro b o' e
  rcases h with ⟨h, _⟩ | ⟨o'', h, _⟩
  · rw [h] at e; cases e
  · rw [h] at e; simp at e; exact e.1.symm
theorem AtG.less {A : Option Addr} {g o n m : Nat} (h : AtG A g o n) (hm : m ≤ n) : AtG A g o m := by
  rcases h with ⟨h, h'⟩ | ⟨o'', h, h'⟩
  · exact .inl ⟨h, by omega⟩
  · exact .inr ⟨o'', h, fun hp => h' (by omega)⟩
/-- A reader at block p over the bytes full in block g; it stands at place o. -/
def Rdr (w : World) (p g : Nat) (full : List UInt8) (o : Nat) : Prop :=
  ∃ A c, InAt w p A c (full.drop o) ∧ Blk w g 5 (bytesA full) ∧ AtG A g o (full.length - o) ∧ o ≤ full.length ∧ g ≠ p
theorem Rdr.fresh {w w' : World} {p g : Nat} {full : List UInt8} {o : Nat} (h : Rdr w p g full o) (hf : Fresh w w') : Rdr w' p g full o := by
  obtain ⟨A, c, h1, h2, h3, h4, h5⟩ := h
  exact ⟨A, c, h1.fresh hf, h2.fresh hf, h3, h4, h5⟩
theorem Rdr.blk {w : World} {p g : Nat} {full : List UInt8} {o : Nat} (h : Rdr w p g full o) : Blk w g 5 (bytesA full) := by
  obtain ⟨A, c, h1, h2, h3, h4, h5⟩ := h
  exact h2
theorem Rdr.lt {w : World} {p g : Nat} {full : List UInt8} {o : Nat} (h : Rdr w p g full o) : p < w.heap.size ∧ g < w.heap.size ∧ g ≠ p ∧ o ≤ full.length := by
  obtain ⟨A, c, h1, h2, h3, h4, h5⟩ := h
  exact ⟨h1.blk.lt, h2.lt, h5, h4⟩
/-- Far from the reader and its bytes. -/
theorem Rdr.only {S : Nat → Prop} {w w' : World} {p g : Nat} {full : List UInt8} {o : Nat} (h : Rdr w p g full o) (ho : Only S w w') (hp : ¬ S p) (hg : ¬ S g) : Rdr w' p g full o := by
  obtain ⟨A, c, h1, h2, h3, h4, h5⟩ := h
  refine ⟨A, c, ⟨h1.blk.only ho hp, h1.le, h1.max, ?_, ?_⟩, h2.only ho hg, h3, h4, h5⟩
  · intro hn
    have e := h3.pos (by simp at hn; omega)
    have hB := (BS.row (h2.only ho hg)).drop o
    rw [Nat.zero_add] at hB
    rw [e]
    exact hB hn
  · rcases h1.addr with h | ⟨b, o, e, hb, hn⟩
    · exact .inl h
    · exact .inr ⟨b, o, e, by have := ho.size; omega, hn⟩

def NewAt (l : List UInt8) (w : World) (e : Ending) (w' : World) : Prop :=
  ∃ p g, e = .returned (.pointer (some ⟨p, 0, none⟩)) ∧ w.heap.size ≤ p ∧ w.heap.size ≤ g ∧ Rdr w' p g l 0 ∧ Fresh w w'
theorem onew_at (A : Option Addr) (n c : Nat) (l : List UInt8) (w : World) (hn : l.length = n) (h : BS w A l) (hm : n ≤ 140737488355328) :
    Calls Try.prog 42 #[.slice A n c] w (NewAt l w) := by
  subst hn
  exact (onew A c l w h hm).mono fun _ _ ⟨he, hi, hb, hf⟩ => ⟨_, _, he, by omega, Nat.le_refl _, ⟨_, _, hi, hb, .inr ⟨0, rfl, fun _ => rfl⟩, Nat.zero_le _, by omega⟩, hf⟩
/-- A reader that was just made: its bytes lie at the head of block g. -/
def FreshRdr (w : World) (p g : Nat) (l : List UInt8) : Prop := InAt w p (some ⟨g, 0, none⟩) l.length l ∧ Blk w g 5 (bytesA l) ∧ g ≠ p
theorem FreshRdr.rdr {w : World} {p g : Nat} {l : List UInt8} (h : FreshRdr w p g l) : Rdr w p g l 0 := ⟨_, _, h.1, h.2.1, .inr ⟨0, rfl, fun _ => rfl⟩, Nat.zero_le _, h.2.2⟩
def NewR (l : List UInt8) (w : World) (e : Ending) (w' : World) : Prop :=
  ∃ p g, e = .returned (.pointer (some ⟨p, 0, none⟩)) ∧ w.heap.size ≤ p ∧ w.heap.size ≤ g ∧ FreshRdr w' p g l ∧ Fresh w w'
theorem onewR (A : Option Addr) (n c : Nat) (l : List UInt8) (w : World) (hn : l.length = n) (h : BS w A l) (hm : n ≤ 140737488355328) :
    Calls Try.prog 42 #[.slice A n c] w (NewR l w) := by
  subst hn
  exact (onew A c l w h hm).mono fun _ _ ⟨he, hi, hb, hf⟩ => ⟨_, _, he, by omega, Nat.le_refl _, ⟨hi, hb, by omega⟩, hf⟩
theorem Rdr.took {w w' : World} {p g : Nat} {full : List UInt8} {o n c : Nat} {A : Option Addr} (h1 : InAt w p A c (full.drop o)) (h2 : Blk w g 5 (bytesA full)) (h3 : AtG A g o (full.length - o)) (h4 : o ≤ full.length) (h5 : g ≠ p)
    (hn : o + n ≤ full.length) (hi : InAt w' p (cutA A n c) (c - n) ((full.drop o).drop n)) (ho : Only (· = p) w w') : Rdr w' p g full (o + n) := by
  have hle := h1.le
  simp at hle
  refine ⟨_, _, by rw [← List.drop_drop]; exact hi, h2.only ho h5, ?_, by omega, h5⟩
  unfold cutA
  split
  · exact h3.imp (fun ⟨a, b⟩ => ⟨a, by omega⟩) (fun ⟨o', a, b⟩ => ⟨o', a, fun hp => by omega⟩)
  · rcases h3 with ⟨rfl, h⟩ | ⟨o', rfl, h⟩
    · exact .inl ⟨rfl, by omega⟩
    · exact .inr ⟨o' + n, by simp [add_eq], fun hp => by rw [h (by omega)]⟩
def TakeAt (p g : Nat) (full : List UInt8) (o n : Nat) (w : World) (e : Ending) (w' : World) : Prop :=
  ∃ A, e = .returned (.tuple #[.slice A n n, .bool true]) ∧ AtG A g o n ∧ BS w' A ((full.drop o).take n) ∧ Rdr w' p g full (o + n) ∧ Only (· = p) w w'
theorem otake_at (p g : Nat) (full : List UInt8) (o n : Nat) (z : Int) (w : World) (hz : z = n) (h : Rdr w p g full o) (hn : o + n ≤ full.length) :
    Calls Try.prog 51 #[.pointer (some ⟨p, 0, none⟩), .int .i64 z] w (TakeAt p g full o n w) := by
  subst hz
  obtain ⟨A, c, h1, h2, h3, h4, h5⟩ := h
  exact (otake_yes p A c (full.drop o) n w h1 (by simp; omega)).mono fun _ _ ⟨he, hi, ho, hb⟩ => ⟨A, he, h3.less (by omega), hb, Rdr.took h1 h2 h3 h4 h5 hn hi ho, ho⟩
theorem otake_no_at (p g : Nat) (full : List UInt8) (o : Nat) (z : Int) (w : World) (h : Rdr w p g full o) (hn : ¬ (0 ≤ z ∧ o + z ≤ full.length)) :
    Calls Try.prog 51 #[.pointer (some ⟨p, 0, none⟩), .int .i64 z] w fun e w' => e = .returned (.tuple #[.slice none 0 0, .bool false]) ∧ w = w' := by
  obtain ⟨A, c, h1, h2, h3, h4, h5⟩ := h
  exact otake_no p A c (full.drop o) z w h1 (by simp; omega)
def ByteAt (p g : Nat) (full : List UInt8) (o : Nat) (b : UInt8) (w : World) (e : Ending) (w' : World) : Prop :=
  e = .returned (.tuple #[.int .i64 (b.toNat : Int), .bool true]) ∧ Rdr w' p g full (o + 1) ∧ Only (· = p) w w'
theorem obyte_at (p g : Nat) (full : List UInt8) (o : Nat) (b : UInt8) (w : World) (h : Rdr w p g full o) (hb : full[o]? = some b) :
    Calls Try.prog 48 #[.pointer (some ⟨p, 0, none⟩)] w (ByteAt p g full o b w) := by
  obtain ⟨hlt, he⟩ := List.getElem?_eq_some_iff.1 hb
  obtain ⟨A, c, h1, h2, h3, h4, h5⟩ := h
  have hl : 0 < (full.drop o).length := by simp; omega
  refine (obyte p A c (full.drop o) w h1).mono fun _ _ ⟨h, _⟩ => ?_
  obtain ⟨he', hi, ho⟩ := h hl
  refine ⟨?_, Rdr.took h1 h2 h3 h4 h5 (by omega) hi ho, ho⟩
  rw [he']
  have : (full.drop o)[0] = b := by simpa using he
  rw [this]
theorem obyte_no_at (p g : Nat) (full : List UInt8) (o : Nat) (w : World) (h : Rdr w p g full o) (hn : full.length ≤ o) :
    Calls Try.prog 48 #[.pointer (some ⟨p, 0, none⟩)] w fun e w' => e = .returned (.tuple #[.int .i64 0, .bool false]) ∧ w = w' := by
  obtain ⟨A, c, h1, h2, h3, h4, h5⟩ := h
  exact (obyte p A c (full.drop o) w h1).mono fun _ _ ⟨_, h⟩ => h (by simp; omega)
def NumAt (p g : Nat) (full : List UInt8) (o n : Nat) (x : Nat) (w : World) (e : Ending) (w' : World) : Prop :=
  e = .returned (.tuple #[.int .u64 (x : Int), .bool true]) ∧ Rdr w' p g full (o + n) ∧ Only (· = p) w w'
theorem onum_at (p g : Nat) (full : List UInt8) (o n : Nat) (x : Nat) (z : Int) (w : World) (hz : z = n) (h : Rdr w p g full o) (hn : o + n ≤ full.length) (h8 : n ≤ 8) (hx : numL ((full.drop o).take n) = x) :
    Calls Try.prog 49 #[.pointer (some ⟨p, 0, none⟩), .int .i64 z] w (NumAt p g full o n x w) := by
  subst hz hx
  obtain ⟨A, c, h1, h2, h3, h4, h5⟩ := h
  exact (ornum_yes p A c (full.drop o) n w h1 (by simp; omega) h8).mono fun _ _ ⟨he, hi, ho⟩ => ⟨he, Rdr.took h1 h2 h3 h4 h5 hn hi ho, ho⟩
theorem onum_no_at (p g : Nat) (full : List UInt8) (o : Nat) (z : Int) (w : World) (h : Rdr w p g full o) (hn : ¬ (0 ≤ z ∧ o + z ≤ full.length ∧ z ≤ 8)) :
    Calls Try.prog 49 #[.pointer (some ⟨p, 0, none⟩), .int .i64 z] w fun e w' => e = .returned (.tuple #[.int .u64 0, .bool false]) ∧ w = w' := by
  obtain ⟨A, c, h1, h2, h3, h4, h5⟩ := h
  exact ornum_no p A c (full.drop o) z w h1 (by simp; omega)
theorem oleft_at (p g : Nat) (full : List UInt8) (o n : Nat) (w : World) (h : Rdr w p g full o) (hn : o + n = full.length) :
    Calls Try.prog 50 #[.pointer (some ⟨p, 0, none⟩)] w fun e w' => e = .returned (.int .i64 (n : Int)) ∧ w = w' := by
  obtain ⟨A, c, h1, h2, h3, h4, h5⟩ := h
  have := oleft p A c (full.drop o) w h1
  rwa [show (full.drop o).length = n by simp; omega] at this
def RestAt (p g : Nat) (full : List UInt8) (o n : Nat) (w : World) (e : Ending) (w' : World) : Prop :=
  ∃ A, e = .returned (.slice A n n) ∧ AtG A g o n ∧ BS w' A (full.drop o) ∧ Blk w' g 5 (bytesA full) ∧ Rdr w' p g full full.length ∧ Only (· = p) w w'
theorem orest_at (p g : Nat) (full : List UInt8) (o n : Nat) (w : World) (h : Rdr w p g full o) (hn : o + n = full.length) :
    Calls Try.prog 44 #[.pointer (some ⟨p, 0, none⟩)] w (RestAt p g full o n w) := by
  obtain ⟨A, c, h1, h2, h3, h4, h5⟩ := h
  have hl : (full.drop o).length = n := by simp; omega
  refine (orest p A c (full.drop o) w h1).mono fun _ w' ⟨he, hi, ho, hb⟩ => ⟨A, by rw [he, hl], h3.less (by omega), hb, h2.only ho h5, ?_, ho⟩
  exact ⟨none, 0, by rw [List.drop_length]; exact hi, h2.only ho h5, .inl ⟨rfl, by omega⟩, Nat.le_refl _, h5⟩
def RestNew (p g : Nat) (l : List UInt8) (n : Nat) (w : World) (e : Ending) (w' : World) : Prop :=
  e = .returned (.slice (some ⟨g, 0, none⟩) n n) ∧ Blk w' g 5 (bytesA l) ∧ Blk w' p 77 #[.slice none 0 0] ∧ Only (· = p) w w'
theorem orest_new (p g : Nat) (l : List UInt8) (n : Nat) (w : World) (h : FreshRdr w p g l) (hn : l.length = n) :
    Calls Try.prog 44 #[.pointer (some ⟨p, 0, none⟩)] w (RestNew p g l n w) := by
  subst hn
  exact (orest p _ _ l w h.1).mono fun _ w' ⟨he, hi, ho, hb⟩ => ⟨he, h.2.1.only ho h.2.2, hi.blk, ho⟩
end Go.Proofs.Ytcdghmidpaeloaa

