/-
  Words on memory: what may have changed; a block known whole; a slice read as a list of cells.
-/
import Derived.Test.YtcdghmidpaeloaaRows
import Derived.WalkKit
import Derived.WalkLawsBesides
import Derived.WalkSpells
import Derived.ProofKit
import Derived.OpenShut
import Derived.Outline
import Derived.Lib.Hide
import Derived.Laws.Rows
import Derived.Deep.Draws
import Derived.Deep.QuietTactic
import Derived.BigQuiet
namespace Go.Proofs.Ytcdghmidpaeloaa
set_option linter.unusedVariables false
open Go.RowKit

theorem ret_bool {a b : Bool} (h : a = b) : Ending.returned (.bool a) = .returned (.bool b) := by rw [h]
theorem ret_int {k : IntKind} {a b : Int} (h : a = b) : Ending.returned (.int k a) = .returned (.int k b) := by rw [h]

/-- Of what was there only blocks of S may have changed. -/
structure Only (S : Nat → Prop) (w w' : World) : Prop where
  os : w'.os = w.os
  tape : w'.tape = w.tape
  output : w'.output = w.output
  size : w.heap.size ≤ w'.heap.size
  block : ∀ k, k < w.heap.size → ¬ S k → w'.heap[k]? = w.heap[k]?

/-- The world has at most new blocks. -/
def Fresh (w w' : World) : Prop := Below w.heap.size w w'
theorem Fresh.refl (w : World) : Fresh w w := Below.refl _ _
theorem Fresh.trans {a b c : World} (h : Fresh a b) (k : Fresh b c) : Fresh a c := Below.trans h (k.mono h.size)
theorem Fresh.alloc (w : World) (o : Obj) : Fresh w (w.alloc o) := (Below.refl _ _).alloc (Nat.le_refl _) o
theorem Fresh.tA {a b : World} {o : Obj} (h : Fresh (a.alloc o) b) : Fresh a b := (Fresh.alloc a o).trans h
theorem Fresh.drewN (w : World) (n : Nat) : Fresh w (w.drewN n) := by
  induction n with
  | zero => exact Fresh.refl _
  | succ n ih => exact Below.drew ih
theorem Fresh.drew (w : World) : Fresh w w.drew := Below.drew (Fresh.refl w)
theorem Fresh.tD {a b : World} {n : Nat} (h : Fresh (a.drewN n) b) : Fresh a b := (Fresh.drewN a n).trans h
theorem Fresh.size {a b : World} (h : Fresh a b) : a.heap.size ≤ b.heap.size := Below.size h
theorem Fresh.cell {w w' : World} (h : Fresh w w') {p : Addr} (hp : p.block < w.heap.size) : w'.cell? p = w.cell? p := Below.cell h hp
theorem Fresh.frozen {w w' : World} (h : Fresh w w') {p : Addr} (hp : p.block < w.heap.size) : w'.frozen? p = w.frozen? p := Below.frozen h hp

theorem Only.of_fresh {S : Nat → Prop} {w w' : World} (h : Fresh w w') : Only S w w' := ⟨Below.os h, Below.tape h, Below.output h, Below.size h, fun k hk _ => Below.block h k hk⟩
theorem Only.fresh {w w' : World} {S : Nat → Prop} (h : Only S w w') (hS : ∀ k, k < w.heap.size → ¬ S k) : Fresh w w' := ⟨h.os, h.tape, h.output, h.size, fun k hk => h.block k hk (hS k hk)⟩
theorem Only.below {B : Nat} {S : Nat → Prop} {w w' : World} (h : Only S w w') (hB : B ≤ w.heap.size) (hS : ∀ k, S k → B ≤ k) : Below B w w' :=
  ⟨h.os, h.tape, h.output, h.size, fun k hk => h.block k (by omega) (fun hs => by have := hS k hs; omega)⟩
theorem Only.refl (S : Nat → Prop) (w : World) : Only S w w := ⟨rfl, rfl, rfl, Nat.le_refl _, fun _ _ _ => rfl⟩
theorem Only.trans {S : Nat → Prop} {a b c : World} (h : Only S a b) (k : Only S b c) : Only S a c :=
  ⟨k.os.trans h.os, k.tape.trans h.tape, k.output.trans h.output, Nat.le_trans h.size k.size,
   fun i hi hs => (k.block i (by have := h.size; omega) hs).trans (h.block i hi hs)⟩
/-- What the second may change is new, or among what the first may change. -/
theorem Only.trans' {S T : Nat → Prop} {a b c : World} (h : Only S a b) (k : Only T b c) (hT : ∀ i, i < a.heap.size → T i → S i) : Only S a c :=
  ⟨k.os.trans h.os, k.tape.trans h.tape, k.output.trans h.output, Nat.le_trans h.size k.size,
   fun i hi hs => (k.block i (by have := h.size; omega) (fun ht => hs (hT i hi ht))).trans (h.block i hi hs)⟩
theorem Only.mono {S T : Nat → Prop} {a b : World} (h : Only S a b) (hT : ∀ i, S i → T i) : Only T a b :=
  ⟨h.os, h.tape, h.output, h.size, fun i hi hs => h.block i hi (fun x => hs (hT i x))⟩
theorem Only.setCell (w : World) (p : Addr) (v : Value) : Only (· = p.block) w (w.setCell p v) :=
  ⟨rfl, rfl, rfl, by simp [World.setCell], fun k _ hk => Below.heap_setCell _ _ _ _ hk⟩
theorem Only.cell {S : Nat → Prop} {w w' : World} (h : Only S w w') {p : Addr} (hp : p.block < w.heap.size) (hs : ¬ S p.block) : w'.cell? p = w.cell? p :=
  World.cell?_of_block (w := w) (h.block p.block hp hs)
theorem Only.frozen {S : Nat → Prop} {w w' : World} (h : Only S w w') {p : Addr} (hp : p.block < w.heap.size) (hs : ¬ S p.block) : w'.frozen? p = w.frozen? p :=
  World.frozen?_of_block (w := w) (h.block p.block hp hs)

theorem drewN_heap (w : World) (n : Nat) : (w.drewN n).heap = w.heap := by
  induction n with
  | zero => rfl
  | succ n ih => exact ih

/-! A block known whole: block g has just the cells cs, of the type t; none is frozen. -/
def Blk (w : World) (g : Nat) (t : TypeId) (cs : Array Value) : Prop := w.heap[g]? = some (.cells cs t (0, 0))
section
variable {w w' : World} {g : Nat} {t : TypeId} {cs : Array Value}
theorem Blk.lt (h : Blk w g t cs) : g < w.heap.size := by
  have := (Array.getElem?_eq_some_iff.1 h).1
  exact this
theorem Blk.cell (h : Blk w g t cs) (i : Nat) : w.cell? ⟨g, i, none⟩ = cs[i]? := cell_of_row w g i cs t (0, 0) h
theorem Blk.frozen (h : Blk w g t cs) (i : Nat) : w.frozen? ⟨g, i, none⟩ = false := by
  have h' : w.heap[g]? = some (.cells cs t (0, 0)) := h
  simp [World.frozen?, h']
theorem Blk.new (w : World) (t : TypeId) (cs : Array Value) : Blk (w.alloc (.cells cs t)) w.heap.size t cs := by
  show (w.heap.push _)[w.heap.size]? = _
  simp
theorem Blk.fresh (h : Blk w g t cs) (hf : Fresh w w') : Blk w' g t cs := (Below.block hf g h.lt).trans h
theorem Blk.below {B : Nat} (h : Blk w g t cs) (hf : Below B w w') (hg : g < B) : Blk w' g t cs := (Below.block hf g hg).trans h
theorem Blk.only {S : Nat → Prop} (h : Blk w g t cs) (hf : Only S w w') (hs : ¬ S g) : Blk w' g t cs := (hf.block g h.lt hs).trans h
theorem Blk.set (h : Blk w g t cs) (i : Nat) (u : Value) : Blk (w.setCell ⟨g, i, none⟩ u) g t (cs.setIfInBounds i u) := by
  have h' : w.heap[g]? = some (.cells cs t (0, 0)) := h
  show (w.setCell ⟨g, i, none⟩ u).heap[g]? = _
  simp [World.setCell, Array.getElem?_modify, h']
theorem Blk.far (h : Blk w g t cs) {p : Addr} (hp : g ≠ p.block) (u : Value) : Blk (w.setCell p u) g t cs := (Below.heap_setCell w p u g hp).trans h
theorem Blk.alloc (h : Blk w g t cs) (o : Obj) : Blk (w.alloc o) g t cs := h.fresh (Fresh.alloc w o)
theorem Blk.drewN (h : Blk w g t cs) (n : Nat) : Blk (w.drewN n) g t cs := h.fresh (Fresh.drewN w n)
theorem Blk.drew (h : Blk w g t cs) : Blk w.drew g t cs := h.fresh (Fresh.drew w)
theorem Blk.ne {g' : Nat} {t' : TypeId} {cs' : Array Value} (h : Blk w g t cs) (h' : Blk w g' t' cs') (hne : t ≠ t') : g ≠ g' := by
  intro e
  subst e
  have e1 : w.heap[g]? = some (.cells cs t (0, 0)) := h
  have e2 : w.heap[g]? = some (.cells cs' t' (0, 0)) := h'
  rw [e1] at e2
  simp at e2
  exact hne e2.2
end

/-- One cell was written, and blocks were made. -/
def Wrote (p : Addr) (v : Value) (w w' : World) : Prop := Only (· = p.block) w w' ∧ w'.heap[p.block]? = (w.setCell p v).heap[p.block]?
theorem Wrote.set (p : Addr) (v : Value) (w : World) : Wrote p v w (w.setCell p v) := ⟨Only.setCell w p v, rfl⟩
theorem Wrote.after {p : Addr} {v : Value} {w w1 : World} (hf : Fresh w w1) (hp : p.block < w.heap.size) : Wrote p v w (w1.setCell p v) := by
  refine ⟨Only.trans (Only.of_fresh hf) ((Only.setCell w1 p v)), ?_⟩
  have h := Below.block hf p.block hp
  simp only [World.setCell, Array.getElem?_modify, h]
theorem Wrote.blk {g i : Nat} {v : Value} {w w' : World} {t : TypeId} {cs : Array Value} (h : Wrote ⟨g, i, none⟩ v w w') (hb : Blk w g t cs) : Blk w' g t (cs.setIfInBounds i v) :=
  h.2.trans (hb.set i v)

/-! A slice's cells, sz of each element: nil is let in. -/
def Sl (w : World) (B sz : Nat) (A : Option Addr) (n : Nat) (xs : List Value) : Prop :=
  xs.length = n * sz ∧ (0 < n → ∃ b o, A = some ⟨b, o, none⟩ ∧ b < B ∧ ∀ j, j < xs.length → w.cell? ⟨b, o + j, none⟩ = xs[j]?)
section
variable {w w' : World} {B sz n : Nat} {A : Option Addr} {xs : List Value}
theorem Sl.nil (w : World) (B sz : Nat) (A : Option Addr) : Sl w B sz A 0 [] := ⟨by simp, fun h => absurd h (by omega)⟩
theorem Sl.keep (h : Sl w B sz A n xs) (hk : ∀ p : Addr, p.block < B → w'.cell? p = w.cell? p) : Sl w' B sz A n xs :=
  ⟨h.1, fun hn => by
    obtain ⟨b, o, e, hb, hc⟩ := h.2 hn
    exact ⟨b, o, e, hb, fun j hj => (hk ⟨b, o + j, none⟩ hb).trans (hc j hj)⟩⟩
theorem Sl.below (h : Sl w B sz A n xs) (hb : Below B w w') : Sl w' B sz A n xs := h.keep fun _ hp => hb.cell hp
theorem Sl.more {B' : Nat} (h : Sl w B sz A n xs) (hB : B ≤ B') : Sl w B' sz A n xs :=
  ⟨h.1, fun hn => by
    obtain ⟨b, o, e, hb, hc⟩ := h.2 hn
    exact ⟨b, o, e, by omega, hc⟩⟩
theorem Sl.fresh (h : Sl w B sz A n xs) (hf : Fresh w w') (hB : B ≤ w.heap.size) : Sl w' B sz A n xs := h.below (Below.mono hf hB)
theorem Sl.addr (h : Sl w B sz A n xs) (hn : 0 < n) : ∃ b o, A = some ⟨b, o, none⟩ ∧ b < B ∧ ∀ j, j < xs.length → w.cell? ⟨b, o + j, none⟩ = xs[j]? := h.2 hn
end
end Go.Proofs.Ytcdghmidpaeloaa

