/-
  Texts laid together: Mem Open Bytes.
-/
import Derived.Test.YtginhebfjbhmnaaGreatRows
import Derived.WalkKit
import Derived.WalkLawsBesides
import Derived.WalkSpells
import Derived.ProofKit
import Derived.OpenShut
import Derived.Outline
import Derived.Lib.Hide
import Derived.Laws.Rows
import Derived.Deep.Draws
import Derived.Deep.QuietTactic
import Derived.BigQuiet
import Derived.Deep.Slices
import Derived.Deep.Fields
import Derived.ChangeSame
import Derived.Laws.BytesArg
import Derived.Laws.IdiomStrings
import Derived.Laws.CopyOwn
import Derived.Deep.OwnRows
import Derived.IntWalk
/-
  Words on memory: what may have changed; a block known whole; a slice read as a list of cells.
-/
namespace Go.Proofs.YtginhebfjbhmnaaGreat
set_option maxRecDepth 100000
set_option linter.unusedVariables false
open Go.RowKit

theorem ret_bool {a b : Bool} (h : a = b) : Ending.returned (.bool a) = .returned (.bool b) := by rw [h]
theorem ret_int {k : IntKind} {a b : Int} (h : a = b) : Ending.returned (.int k a) = .returned (.int k b) := by rw [h]

/-- Of what was there only blocks of S may have changed. -/
structure Only (S : Nat → Prop) (w w' : World) : Prop where
  os : w'.os = w.os
  tape : w'.tape = w.tape
  output : w'.output = w.output
  size : w.heap.size ≤ w'.heap.size
  block : ∀ k, k < w.heap.size → ¬ S k → w'.heap[k]? = w.heap[k]?

/-- The world has at most new blocks. -/
def Fresh (w w' : World) : Prop := Below w.heap.size w w'
theorem Fresh.refl (w : World) : Fresh w w := Below.refl _ _
theorem Fresh.trans {a b c : World} (h : Fresh a b) (k : Fresh b c) : Fresh a c := Below.trans h (k.mono h.size)
theorem Fresh.alloc (w : World) (o : Obj) : Fresh w (w.alloc o) := (Below.refl _ _).alloc (Nat.le_refl _) o
theorem Fresh.tA {a b : World} {o : Obj} (h : Fresh (a.alloc o) b) : Fresh a b := (Fresh.alloc a o).trans h
theorem Fresh.drewN (w : World) (n : Nat) : Fresh w (w.drewN n) := by
  induction n with
  | zero => exact Fresh.refl _
  | succ n ih => exact Below.drew ih
theorem Fresh.drew (w : World) : Fresh w w.drew := Below.drew (Fresh.refl w)
theorem Fresh.tD {a b : World} {n : Nat} (h : Fresh (a.drewN n) b) : Fresh a b := (Fresh.drewN a n).trans h
theorem Fresh.size {a b : World} (h : Fresh a b) : a.heap.size ≤ b.heap.size := Below.size h
theorem Fresh.cell {w w' : World} (h : Fresh w w') {p : Addr} (hp : p.block < w.heap.size) : w'.cell? p = w.cell? p := Below.cell h hp
theorem Fresh.frozen {w w' : World} (h : Fresh w w') {p : Addr} (hp : p.block < w.heap.size) : w'.frozen? p = w.frozen? p := Below.frozen h hp

theorem Only.of_fresh {S : Nat → Prop} {w w' : World} (h : Fresh w w') : Only S w w' := ⟨Below.os h, Below.tape h, Below.output h, Below.size h, fun k hk _ => Below.block h k hk⟩
theorem Only.fresh {w w' : World} {S : Nat → Prop} (h : Only S w w') (hS : ∀ k, k < w.heap.size → ¬ S k) : Fresh w w' := ⟨h.os, h.tape, h.output, h.size, fun k hk => h.block k hk (hS k hk)⟩
theorem Only.below {B : Nat} {S : Nat → Prop} {w w' : World} (h : Only S w w') (hB : B ≤ w.heap.size) (hS : ∀ k, S k → B ≤ k) : Below B w w' :=
  ⟨h.os, h.tape, h.output, h.size, fun k hk => h.block k (by omega) (fun hs => by have := hS k hs; omega)⟩
theorem Only.refl (S : Nat → Prop) (w : World) : Only S w w := ⟨rfl, rfl, rfl, Nat.le_refl _, fun _ _ _ => rfl⟩
theorem Only.trans {S : Nat → Prop} {a b c : World} (h : Only S a b) (k : Only S b c) : Only S a c :=
  ⟨k.os.trans h.os, k.tape.trans h.tape, k.output.trans h.output, Nat.le_trans h.size k.size,
   fun i hi hs => (k.block i (by have := h.size; omega) hs).trans (h.block i hi hs)⟩
/-- What the second may change is new, or among what the first may change. -/
theorem Only.trans' {S T : Nat → Prop} {a b c : World} (h : Only S a b) (k : Only T b c) (hT : ∀ i, i < a.heap.size → T i → S i) : Only S a c :=
  ⟨k.os.trans h.os, k.tape.trans h.tape, k.output.trans h.output, Nat.le_trans h.size k.size,
   fun i hi hs => (k.block i (by have := h.size; omega) (fun ht => hs (hT i hi ht))).trans (h.block i hi hs)⟩
theorem Only.mono {S T : Nat → Prop} {a b : World} (h : Only S a b) (hT : ∀ i, S i → T i) : Only T a b :=
  ⟨h.os, h.tape, h.output, h.size, fun i hi hs => h.block i hi (fun x => hs (hT i x))⟩
theorem Only.setCell (w : World) (p : Addr) (v : Value) : Only (· = p.block) w (w.setCell p v) :=
  ⟨rfl, rfl, rfl, by simp [World.setCell], fun k _ hk => Below.heap_setCell _ _ _ _ hk⟩
theorem Only.cell {S : Nat → Prop} {w w' : World} (h : Only S w w') {p : Addr} (hp : p.block < w.heap.size) (hs : ¬ S p.block) : w'.cell? p = w.cell? p :=
  World.cell?_of_block (w := w) (h.block p.block hp hs)
theorem Only.frozen {S : Nat → Prop} {w w' : World} (h : Only S w w') {p : Addr} (hp : p.block < w.heap.size) (hs : ¬ S p.block) : w'.frozen? p = w.frozen? p :=
  World.frozen?_of_block (w := w) (h.block p.block hp hs)

theorem drewN_heap (w : World) (n : Nat) : (w.drewN n).heap = w.heap := by
  induction n with
  | zero => rfl
  | succ n ih => exact ih

/-! A block known whole: block g has just the cells cs, of the type t; none is frozen. -/
def Blk (w : World) (g : Nat) (t : TypeId) (cs : Array Value) : Prop := w.heap[g]? = some (.cells cs t (0, 0))
section
variable {w w' : World} {g : Nat} {t : TypeId} {cs : Array Value}
theorem Blk.lt (h : Blk w g t cs) : g < w.heap.size := by
  have := (Array.getElem?_eq_some_iff.1 h).1
  exact this
theorem Blk.cell (h : Blk w g t cs) (i : Nat) : w.cell? ⟨g, i, none⟩ = cs[i]? := cell_of_row w g i cs t (0, 0) h
theorem Blk.frozen (h : Blk w g t cs) (i : Nat) : w.frozen? ⟨g, i, none⟩ = false := by
  have h' : w.heap[g]? = some (.cells cs t (0, 0)) := h
  simp [World.frozen?, h']
theorem Blk.new (w : World) (t : TypeId) (cs : Array Value) : Blk (w.alloc (.cells cs t)) w.heap.size t cs := by
  show (w.heap.push _)[w.heap.size]? = _
  simp
theorem Blk.fresh (h : Blk w g t cs) (hf : Fresh w w') : Blk w' g t cs := (Below.block hf g h.lt).trans h
theorem Blk.below {B : Nat} (h : Blk w g t cs) (hf : Below B w w') (hg : g < B) : Blk w' g t cs := (Below.block hf g hg).trans h
theorem Blk.only {S : Nat → Prop} (h : Blk w g t cs) (hf : Only S w w') (hs : ¬ S g) : Blk w' g t cs := (hf.block g h.lt hs).trans h
theorem Blk.set (h : Blk w g t cs) (i : Nat) (u : Value) : Blk (w.setCell ⟨g, i, none⟩ u) g t (cs.setIfInBounds i u) := by
  have h' : w.heap[g]? = some (.cells cs t (0, 0)) := h
  show (w.setCell ⟨g, i, none⟩ u).heap[g]? = _
  simp [World.setCell, Array.getElem?_modify, h']
theorem Blk.far (h : Blk w g t cs) {p : Addr} (hp : g ≠ p.block) (u : Value) : Blk (w.setCell p u) g t cs := (Below.heap_setCell w p u g hp).trans h
theorem Blk.alloc (h : Blk w g t cs) (o : Obj) : Blk (w.alloc o) g t cs := h.fresh (Fresh.alloc w o)
theorem Blk.drewN (h : Blk w g t cs) (n : Nat) : Blk (w.drewN n) g t cs := h.fresh (Fresh.drewN w n)
theorem Blk.drew (h : Blk w g t cs) : Blk w.drew g t cs := h.fresh (Fresh.drew w)
theorem Blk.ne {g' : Nat} {t' : TypeId} {cs' : Array Value} (h : Blk w g t cs) (h' : Blk w g' t' cs') (hne : t ≠ t') : g ≠ g' := by
  intro e
  subst e
  have e1 : w.heap[g]? = some (.cells cs t (0, 0)) := h
  have e2 : w.heap[g]? = some (.cells cs' t' (0, 0)) := h'
  rw [e1] at e2
  simp at e2
  exact hne e2.2
end

/-- One cell was written, and blocks were made. -/
def Wrote (p : Addr) (v : Value) (w w' : World) : Prop := Only (· = p.block) w w' ∧ w'.heap[p.block]? = (w.setCell p v).heap[p.block]?
theorem Wrote.set (p : Addr) (v : Value) (w : World) : Wrote p v w (w.setCell p v) := ⟨Only.setCell w p v, rfl⟩
theorem Wrote.after {p : Addr} {v : Value} {w w1 : World} (hf : Fresh w w1) (hp : p.block < w.heap.size) : Wrote p v w (w1.setCell p v) := by
  refine ⟨Only.trans (Only.of_fresh hf) ((Only.setCell w1 p v)), ?_⟩
  have h := Below.block hf p.block hp
  simp only [World.setCell, Array.getElem?_modify, h]
theorem Wrote.blk {g i : Nat} {v : Value} {w w' : World} {t : TypeId} {cs : Array Value} (h : Wrote ⟨g, i, none⟩ v w w') (hb : Blk w g t cs) : Blk w' g t (cs.setIfInBounds i v) :=
  h.2.trans (hb.set i v)

/-! A slice's cells, sz of each element: nil is let in. -/
def Sl (w : World) (B sz : Nat) (A : Option Addr) (n : Nat) (xs : List Value) : Prop :=
  xs.length = n * sz ∧ (0 < n → ∃ b o, A = some ⟨b, o, none⟩ ∧ b < B ∧ ∀ j, j < xs.length → w.cell? ⟨b, o + j, none⟩ = xs[j]?)
section
variable {w w' : World} {B sz n : Nat} {A : Option Addr} {xs : List Value}
theorem Sl.nil (w : World) (B sz : Nat) (A : Option Addr) : Sl w B sz A 0 [] := ⟨by simp, fun h => absurd h (by omega)⟩
theorem Sl.keep (h : Sl w B sz A n xs) (hk : ∀ p : Addr, p.block < B → w'.cell? p = w.cell? p) : Sl w' B sz A n xs :=
  ⟨h.1, fun hn => by
    obtain ⟨b, o, e, hb, hc⟩ := h.2 hn
    exact ⟨b, o, e, hb, fun j hj => (hk ⟨b, o + j, none⟩ hb).trans (hc j hj)⟩⟩
theorem Sl.below (h : Sl w B sz A n xs) (hb : Below B w w') : Sl w' B sz A n xs := h.keep fun _ hp => hb.cell hp
theorem Sl.more {B' : Nat} (h : Sl w B sz A n xs) (hB : B ≤ B') : Sl w B' sz A n xs :=
  ⟨h.1, fun hn => by
    obtain ⟨b, o, e, hb, hc⟩ := h.2 hn
    exact ⟨b, o, e, by omega, hc⟩⟩
theorem Sl.fresh (h : Sl w B sz A n xs) (hf : Fresh w w') (hB : B ≤ w.heap.size) : Sl w' B sz A n xs := h.below (Below.mono hf hB)
theorem Sl.addr (h : Sl w B sz A n xs) (hn : 0 < n) : ∃ b o, A = some ⟨b, o, none⟩ ∧ b < B ∧ ∀ j, j < xs.length → w.cell? ⟨b, o + j, none⟩ = xs[j]? := h.2 hn
end
end Go.Proofs.YtginhebfjbhmnaaGreat

/-
  Opening arguments: slices of structs of whole numbers; slices of bytes.
-/
namespace Go.Proofs.YtginhebfjbhmnaaGreat
set_option maxRecDepth 100000
set_option linter.unusedVariables false
open Go.RowKit Go.ChangeShapes Go.WideShapes Go.Deep

theorem cell_block_lt {w : World} {a : Addr} {v : Value} (h : w.cell? a = some v) : a.block < w.heap.size := by
  unfold World.cell? at h
  by_cases hb : a.block < w.heap.size
  · exact hb
  · rw [Array.getElem?_eq_none (by omega)] at h
    simp at h

/-- A slice whose elements are structs of m whole numbers. -/
def IntRows (w : World) (m : Nat) (A : Option Addr) (n : Nat) (R : Nat → Nat → Int) : Prop :=
  (0 < n → ∃ b o, A = some ⟨b, o, none⟩ ∧ b < w.heap.size ∧ ∀ i j, i < n → j < m → w.cell? ⟨b, o + i * m + j, none⟩ = some (.int .i64 (R i j))) ∧
  ∀ i j, i < n → j < m → -9223372036854775808 ≤ R i j ∧ R i j ≤ 9223372036854775807

theorem IntRows.fresh {w w' : World} {m n : Nat} {A : Option Addr} {R : Nat → Nat → Int} (h : IntRows w m A n R) (hf : Fresh w w') : IntRows w' m A n R := by
  refine ⟨fun hn => ?_, h.2⟩
  obtain ⟨b, o, e, hb, hc⟩ := h.1 hn
  exact ⟨b, o, e, by have := hf.size; omega, fun i j hi hj => (hf.cell (p := ⟨b, _, none⟩) hb).trans (hc i j hi hj)⟩

theorem add_eq (a : Addr) (k : Nat) (h : a.spot = none) : a.add k = ⟨a.block, a.off + k, none⟩ := by
  obtain ⟨b, o, s⟩ := a
  simp only at h
  subst h
  unfold Addr.add
  split
  · rename_i h0
    simp_all
  · rfl

section
variable {H : Type} {enc : TypeId × Value → H} {P : Program} {w : World} {base : Nat} {spare : Nat → Bool} {held : Bool}

theorem choose_rows {n : Nat} {p : Nat → (Nat → Int) → Prop} (h : ∀ i, i < n → ∃ f, p i f) : ∃ R : Nat → Nat → Int, ∀ i, i < n → p i (R i) :=
  ⟨fun i => if hi : i < n then Classical.choose (h i hi) else fun _ => 0, fun i hi => by
    have := Classical.choose_spec (h i hi)
    simpa [hi] using this⟩

theorem wf_i64_bd {n : Int} (h : (Lit.int .i64 n).wf = true) : -9223372036854775808 ≤ n ∧ n ≤ 9223372036854775807 := by
  have := bounds_i64 h
  exact this

theorem open_int_rows {t e : TypeId} {fs : Array Field} {m : Nat} {v : Value} {d : DataW H} {p : List MemPlace} {r : Reach} {b0 : Nat} (ht : P.underlying t = some (.slice e)) (he : P.underlying e = some (.struct fs))
    (hone : oneCellFields P fs = true) (hC : P.cellsOf e = m) (hm : fs.size = m) (hm0 : 0 < m) (hint : ∀ (j : Nat) (f : Field), fs[j]? = some f → P.underlying f.type = some (.int .i64))
    (hv : Value.okWide P w r b0 t v) (h : DataW.Trod enc P w base spare held t v d p) :
    ∃ A n c R, v = .slice A n c ∧ n ≤ maxLen ∧ IntRows w m A n R := by
  obtain ⟨A, n, c, rfl⟩ := okWide_slice ht hv
  obtain ⟨fuel, hf⟩ := h
  rcases open_slice ht hf with ⟨hcs, _⟩ | ⟨a, len, cap, mm, nn, D, Pl, hcs, hb, hl, hmx, hmm, hx, hi⟩
  · simp [Value.cells] at hcs
    obtain ⟨rfl, rfl, rfl⟩ := hcs
    exact ⟨none, 0, 0, fun _ _ => 0, rfl, by simp [maxLen], fun h => absurd h (by omega), fun i j hi => absurd hi (by omega)⟩
  · simp [Value.cells] at hcs
    obtain ⟨rfl, rfl, rfl⟩ := hcs
    have hle : n ≤ mm := by rw [hmm]; split <;> omega
    have key : ∀ i, i < n → ∃ f : Nat → Int, ∀ j, j < m → w.cell? (a.add (i * m + j)) = some (.int .i64 (f j)) ∧ (Lit.int .i64 (f j)).wf = true := by
      intro i hin
      obtain ⟨cs', hc, htr⟩ := hi i (by omega)
      rw [hC] at hc
      obtain ⟨ys, n', hn', hy, hlen, hyl, hfld⟩ := DataW.trod_struct he htr
      obtain ⟨_, hcl, hat⟩ := World.cells?_some hc
      have each : ∀ j, j < m → ∃ z : Int, w.cell? (a.add (i * m + j)) = some (.int .i64 z) ∧ (Lit.int .i64 z).wf = true := by
        intro j hj
        have hjs : j < fs.size := by omega
        have hfj : fs[j]? = some fs[j] := Array.getElem?_eq_getElem hjs
        obtain ⟨ho, hk⟩ := hone_of hone j _ hfj
        have h1 := hfld j _ hfj
        rw [ho, hk] at h1
        have hd : (cs'.drop j).take 1 = [cs'[j]'(by omega)] := by
          rw [List.drop_eq_getElem_cons (by omega)]; rfl
        rw [hd] at h1
        have hys : ys[j]? = some (ys[j]'(by omega)) := List.getElem?_eq_getElem (by omega)
        rw [hys] at h1
        obtain ⟨z, hz, _, hw⟩ := DataW.trod_int (hint j _ hfj) h1
        refine ⟨z, ?_, hw⟩
        have hj2 := hat j hj
        rw [List.getElem?_eq_getElem (by omega)] at hj2
        have hz' : cs'[j]'(by omega) = .int .i64 z := by simpa using hz
        rw [← Go.Deep.add_add, hj2, hz']
      exact ⟨fun j => if hj : j < m then Classical.choose (each j hj) else 0, fun j hj => by simpa [hj] using Classical.choose_spec (each j hj)⟩
    obtain ⟨R, hR⟩ := choose_rows key
    refine ⟨some a, n, c, R, rfl, by omega, fun hn => ?_, fun i j hin hj => wf_i64_bd (hR i hin j hj).2⟩
    have h0 := (hR 0 hn 0 hm0).1
    have hsp : a.spot = none := by
      have := World.cell?_spot h0
      unfold Addr.add at this
      split at this <;> simp_all
    rw [add_eq a _ hsp] at h0
    refine ⟨a.block, a.off, ?_, cell_block_lt (a := ⟨a.block, _, none⟩) h0, fun i j hin hj => ?_⟩
    · obtain ⟨b, o, s⟩ := a
      simp only at hsp
      subst hsp
      rfl
    · rw [Nat.add_assoc, ← add_eq a _ hsp]; exact (hR i hin j hj).1
end
end Go.Proofs.YtginhebfjbhmnaaGreat

/-
  Words on bytes: a slice of bytes read as a list; its text.
-/
namespace Go.Proofs.YtginhebfjbhmnaaGreat
set_option maxRecDepth 100000
set_option linter.unusedVariables false
open Go.RowKit

def byteV (x : UInt8) : Value := .int .u8 (x.toNat : Int)
def bytesA (l : List UInt8) : Array Value := (l.map byteV).toArray
theorem bytesA_size (l : List UInt8) : (bytesA l).size = l.length := by simp [bytesA]
theorem bytesA_get (l : List UInt8) (i : Nat) : (bytesA l)[i]? = (l[i]?).map byteV := by simp [bytesA]
/-- The string of bytes. -/
def strB (l : List UInt8) : ByteArray := ⟨l.toArray⟩
theorem strB_size (l : List UInt8) : (strB l).size = l.length := by simp [strB, ByteArray.size]
theorem strB_data (l : List UInt8) : (strB l).data.toList = l := rfl
theorem strB_ext (s : ByteArray) : strB s.data.toList = s := rfl

theorem strB_append (a b : List UInt8) : strB a ++ strB b = strB (a ++ b) := by
  apply ByteArray.ext
  rw [ByteArray.data_append]
  simp [strB]
theorem strB_inj {a b : List UInt8} (h : strB a = strB b) : a = b := by
  have := congrArg (fun s : ByteArray => s.data.toList) h
  simpa [strB] using this

/-- The slice at A holds just these bytes. -/
def BS (w : World) (A : Option Addr) (l : List UInt8) : Prop :=
  0 < l.length → ∃ b o, A = some ⟨b, o, none⟩ ∧ b < w.heap.size ∧ ∀ j (h : j < l.length), w.cell? ⟨b, o + j, none⟩ = some (byteV l[j])
theorem BS.nil (w : World) (A : Option Addr) : BS w A [] := fun h => absurd h (by simp)
theorem BS.fresh {w w' : World} {A : Option Addr} {l : List UInt8} (h : BS w A l) (hf : Fresh w w') : BS w' A l := fun hn => by
  obtain ⟨b, o, e, hb, hc⟩ := h hn
  exact ⟨b, o, e, by have := hf.size; omega, fun j hj => (hf.cell (p := ⟨b, _, none⟩) hb).trans (hc j hj)⟩
theorem BS.only {w w' : World} {S : Nat → Prop} {A : Option Addr} {l : List UInt8} (h : BS w A l) (hf : Only S w w') (hs : ∀ b o, A = some ⟨b, o, none⟩ → ¬ S b) : BS w' A l := fun hn => by
  obtain ⟨b, o, e, hb, hc⟩ := h hn
  exact ⟨b, o, e, by have := hf.size; omega, fun j hj => (hf.cell (p := ⟨b, _, none⟩) hb (hs b o e)).trans (hc j hj)⟩
theorem BS.drew_ {w : World} {A : Option Addr} {l : List UInt8} (h : BS w A l) : BS w.drew A l := h.fresh (Fresh.drew w)
theorem BS.row {w : World} {g : Nat} {t : TypeId} {l : List UInt8} (h : Blk w g t (bytesA l)) : BS w (some ⟨g, 0, none⟩) l := fun hn =>
  ⟨g, 0, rfl, h.lt, fun j hj => by rw [Nat.zero_add, h.cell, bytesA_get, List.getElem?_eq_getElem hj]; rfl⟩
theorem BS.take {w : World} {A : Option Addr} {l : List UInt8} (h : BS w A l) (n : Nat) : BS w A (l.take n) := fun hn => by
  obtain ⟨b, o, e, hb, hc⟩ := h (by simp at hn; omega)
  exact ⟨b, o, e, hb, fun j hj => by rw [hc j (by simp at hj; omega)]; simp⟩
theorem BS.drop {w : World} {b o : Nat} {l : List UInt8} (h : BS w (some ⟨b, o, none⟩) l) (n : Nat) : BS w (some ⟨b, o + n, none⟩) (l.drop n) := fun hn => by
  obtain ⟨b', o', e, hb, hc⟩ := h (by simp at hn; omega)
  simp only [Option.some.injEq, Addr.mk.injEq, and_true] at e
  obtain ⟨rfl, rfl⟩ := e
  refine ⟨b, o + n, rfl, hb, fun j hj => ?_⟩
  rw [Nat.add_assoc, hc (n + j) (by simp at hj; omega)]
  simp
theorem BS.addr {w : World} {A : Option Addr} {l : List UInt8} (h : BS w A l) (hn : 0 < l.length) : ∃ b o, A = some ⟨b, o, none⟩ ∧ b < w.heap.size ∧ ∀ j (h : j < l.length), w.cell? ⟨b, o + j, none⟩ = some (byteV l[j]) := h hn

/-- string(b). -/
theorem run_str {P : Program} {w : World} {A : Option Addr} {l : List UInt8} (h : BS w A l) (src dst e : TypeId) (hs : P.underlying src = some (.slice e)) (he : P.underlying e = some (.int .u8)) (hd : P.underlying dst = some .string) (c : Nat) :
    (convert src dst (.slice A l.length c)).run P w = .ok (.string (strB l)) w := by
  rcases A with _ | a
  · have hl : l = [] := by
      cases l with
      | nil => rfl
      | cons x l => obtain ⟨b, o, e, _⟩ := h (by simp); cases e
    subst hl
    exact run_convert_bytes_nil w src e hs he 0 c dst hd
  · refine run_convert_bytes_back w src dst e a c l hs he hd fun j hj => ?_
    obtain ⟨b, o, e, hb, hc⟩ := h (by omega)
    cases e
    rw [add_eq _ _ rfl]
    exact hc j hj

/-- The address behind a cut, elements of one cell. -/
def cutA (A : Option Addr) (n c : Nat) : Option Addr := if c = n then A else A.map (·.add n)
theorem cutA_some (b o n c : Nat) (h : n < c) : cutA (some ⟨b, o, none⟩) n c = some ⟨b, o + n, none⟩ := by
  unfold cutA
  rw [if_neg (by omega)]
  simp [add_eq]
theorem cutA_zero (A : Option Addr) (c : Nat) : cutA A 0 c = A := by
  unfold cutA
  split
  · rfl
  · cases A <;> simp [Addr.add]
section
variable {P : Program} {T E : TypeId} (hT : P.underlying T = some (.slice E)) (hE : ∀ W : World, (Go.sizeOf E).run P W = .ok 1 W)
include hT hE
/-- s[:n:n] -/
theorem run_cut_full (A : Option Addr) (l c n : Nat) (hn : n ≤ c) (W : World) : (Instr.slice T (.slice A l c) none (some (.int .i64 (n : Int))) (some (.int .i64 (n : Int)))).run P W = .ok (.slice A n n) W := by
  have he : P.elem T = E := by simp [Program.elem, hT]
  rw [run_slice_hm (P := P) W T A l c (by rw [he]; exact hT) .i64 .i64 n n (by omega) (by omega) (by omega), he, hE]
  have h0 := cutA_zero A n
  unfold cutA at h0
  simp [sliced, Result.andThen]
  intro hn0
  cases A <;> simp [Addr.add]
/-- s[n:] -/
theorem run_cut_from (A : Option Addr) (l c n : Nat) (hn : n ≤ l) (W : World) : (Instr.slice T (.slice A l c) (some (.int .i64 (n : Int))) none none).run P W = .ok (.slice (cutA A n c) (l - n) (c - n)) W := by
  have he : P.elem T = E := by simp [Program.elem, hT]
  rw [run_slice_l (P := P) W T A l c (by rw [he]; exact hT) .i64 n (by omega) (by omega), he, hE]
  simp [sliced, cutA, Result.andThen]
/-- s[:n] -/
theorem run_cut_to (A : Option Addr) (l c n : Nat) (hn : n ≤ c) (W : World) : (Instr.slice T (.slice A l c) none (some (.int .i64 (n : Int))) none).run P W = .ok (.slice A n c) W := by
  have he : P.elem T = E := by simp [Program.elem, hT]
  rw [run_slice_h (P := P) W T A l c (by rw [he]; exact hT) .i64 n (by omega) (by omega), he, hE]
  simp [sliced, Result.andThen]
  intro hn0
  cases A <;> simp [Addr.add]
/-- s[m:n] -/
theorem run_cut_mid (A : Option Addr) (l c m n : Nat) (hm : m ≤ n) (hn : n ≤ c) (W : World) : (Instr.slice T (.slice A l c) (some (.int .i64 (m : Int))) (some (.int .i64 (n : Int))) none).run P W = .ok (.slice (cutA A m c) (n - m) (c - m)) W := by
  have he : P.elem T = E := by simp [Program.elem, hT]
  rw [run_slice_lh (P := P) W T A l c (by rw [he]; exact hT) .i64 .i64 m n (by omega) (by omega) (by omega), he, hE]
  simp [sliced, cutA, Result.andThen]
end
theorem BS.cut {w : World} {A : Option Addr} {l : List UInt8} (h : BS w A l) (n c : Nat) (hc : l.length ≤ c) : BS w (cutA A n c) (l.drop n) := fun hn => by
  have hl : n < l.length := by simp at hn; omega
  obtain ⟨b, o, rfl, hb, hcs⟩ := h (by omega)
  rw [cutA_some _ _ _ _ (by omega)]
  exact (BS.drop (show BS w (some ⟨b, o, none⟩) l from fun _ => ⟨b, o, rfl, hb, hcs⟩) n) (by simp; omega)

/-- cs laid over the cells from place o on. -/
def over (cur : Array Value) (o : Nat) (cs : List Value) : Array Value := (cur.toList.take o ++ cs ++ cur.toList.drop (o + cs.length)).toArray
theorem over_size (cur : Array Value) (o : Nat) (cs : List Value) (h : o + cs.length ≤ cur.size) : (over cur o cs).size = cur.size := by
  unfold over
  simp
  omega
theorem over_all (cur : Array Value) (cs : List Value) (h : cs.length = cur.size) : over cur 0 cs = cs.toArray := by
  unfold over
  have : cur.toList.drop (0 + cs.length) = [] := List.drop_eq_nil_of_le (by simp; omega)
  rw [this]
  simp
theorem run_copy_bs {P : Program} {W : World} {A : Option Addr} {l : List UInt8} (h : BS W A l) (T E ty : TypeId) (hu : P.underlying T = some (.slice E)) (hs : (P.info? E).map (·.size) = some 1)
    (g o dLen dCap c : Nat) (cur : Array Value) (t : TypeId) (hg : Blk W g t cur) (hl : l.length ≤ dLen) (hfit : o + l.length ≤ cur.size) (D : Option Addr) (hD : 0 < l.length → D = some ⟨g, o, none⟩) :
    ∃ W', (Builtin.copy_ #[T, T] ty #[.slice D dLen dCap, .slice A l.length c]).run P W = .ok (.int .i64 (l.length : Int)) W' ∧ Blk W' g t (over cur o (l.map byteV)) ∧ Only (· = g) W W' ∧ W'.heap.size = W.heap.size := by
  by_cases h0 : l.length = 0
  · have hl0 : l = [] := List.eq_nil_of_length_eq_zero h0
    subst hl0
    refine ⟨W, run_copy_none W T T ty E D A dLen dCap 0 c hu hs (by simp), ?_, Only.refl _ _, rfl⟩
    have : over cur o (([] : List UInt8).map byteV) = cur := by
      unfold over
      simp
    rw [this]
    exact hg
  · obtain ⟨b, o', rfl, hb, hcs⟩ := h.addr (by omega)
    rw [hD (by omega)]
    refine ⟨_, (run_copy_row P W T T ty E g o dLen dCap ⟨b, o', none⟩ l.length c cur t (l.map byteV) hu hs hg (by simp [Nat.min_eq_left hl]) (fun j v hj => ?_) (by simpa using hfit) (fun v hv => ?_)).trans (by simp [goInt]; rfl), ?_, ?_, by simp⟩
    · have hjl : j < l.length := by
        have := (List.getElem?_eq_some_iff.1 hj).1
        simpa using this
      rw [add_eq _ _ rfl, hcs j hjl, ← hj]
      simp [hjl]
    · obtain ⟨x, _, rfl⟩ := List.mem_map.1 hv; rfl
    · have h' : W.heap[g]? = some (.cells cur t (0, 0)) := hg
      show (W.setRow g _).heap[g]? = _
      simp [World.setRow, Array.getElem?_modify, h', over]
    · exact ⟨rfl, rfl, rfl, by simp [World.setRow], fun k _ hk => setRow_other W g k _ hk⟩

theorem byte_mk (z : Int) (h0 : 0 ≤ z) (h1 : z < 256) : Value.int .u8 z = byteV (UInt8.ofNat z.toNat) := by
  unfold byteV
  congr 1
  simp
  omega

section
variable {H : Type} {enc : TypeId × Value → H} {P : Program} {w : World} {base : Nat} {spare : Nat → Bool} {held : Bool}
open Go.ChangeShapes Go.WideShapes
theorem wf_u8_bd {n : Int} (h : (Lit.int .u8 n).wf = true) : 0 ≤ n ∧ n ≤ 255 := by
  have := bounds_u8 h
  exact this
/-- Opening an argument that is a slice of bytes. -/
theorem open_bytes {t e : TypeId} {v : Value} {d : DataW H} {p : List MemPlace} {r : Reach} {b0 : Nat} (ht : P.underlying t = some (.slice e)) (he : P.underlying e = some (.int .u8)) (hC : P.cellsOf e = 1)
    (hv : Value.okWide P w r b0 t v) (h : DataW.Trod enc P w base spare held t v d p) :
    ∃ A l c, v = .slice A l.length c ∧ l.length ≤ c ∧ c ≤ maxLen ∧ BS w A l := by
  obtain ⟨A, n, c, rfl⟩ := okWide_slice ht hv
  obtain ⟨fuel, hf⟩ := h
  rcases open_ints ht he hC hf with ⟨hcs, _⟩ | ⟨x, l, c', zs, hcs, _, hl, hm, hz, _, hcell, hwz⟩
  · simp [Value.cells] at hcs
    obtain ⟨rfl, rfl, rfl⟩ := hcs
    exact ⟨none, [], 0, rfl, by simp, by simp [maxLen], BS.nil _ _⟩
  · simp [Value.cells] at hcs
    obtain ⟨rfl, rfl, rfl⟩ := hcs
    have hz' : n ≤ zs.length := by rw [hz]; split <;> omega
    refine ⟨some x, (zs.take n).map fun z => UInt8.ofNat z.toNat, c, ?_, ?_, hm, fun hn => ?_⟩
    · simp [Nat.min_eq_left hz']
    · simp [Nat.min_eq_left hz']; exact hl
    · simp [Nat.min_eq_left hz'] at hn
      have h0 := hcell 0 (by omega)
      have hsp : x.spot = none := by
        have := World.cell?_spot h0
        unfold Addr.add at this
        split at this <;> simp_all
      rw [add_eq x _ hsp] at h0
      refine ⟨x.block, x.off, ?_, cell_block_lt (a := ⟨x.block, _, none⟩) h0, fun j hj => ?_⟩
      · obtain ⟨b, o, s⟩ := x
        simp only at hsp
        subst hsp
        rfl
      · simp [Nat.min_eq_left hz'] at hj
        rw [← add_eq x _ hsp, hcell j (by omega)]
        have hjl : j < zs.length := by omega
        have hb := wf_u8_bd (hwz zs[j] (List.getElem_mem hjl))
        rw [show zs.getD j 0 = zs[j] by simp [List.getD, List.getElem?_eq_getElem hjl]]
        rw [byte_mk _ hb.1 (by omega)]
        simp
end
end Go.Proofs.YtginhebfjbhmnaaGreat

