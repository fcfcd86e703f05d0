/-
  Texts laid together: Rdr Make Ret Gen.
-/
import Derived.Test.YtginhebfjbhmnaaGreatG02
import Derived.Laws.MakeOwn
import Derived.Maps.AppendAt
import Derived.Laws.Entries
import Derived.Lib.SlBytesConst
import Derived.Test.YtginhebfjbhmnaaGreatG00
import Derived.Deep.RegionLaw
/-
  The reader's contracts once more, by whole bytes and a place: addresses are told by existence.
-/
namespace Go.Proofs.YtginhebfjbhmnaaGreat
set_option maxRecDepth 100000
set_option linter.unusedVariables false
open Go.RowKit
/-- n bytes from place o of block g on; of none the place is open. -/
def AtG (A : Option Addr) (g o n : Nat) : Prop := (A = none ∧ n = 0) ∨ ∃ o', A = some ⟨g, o', none⟩ ∧ (0 < n → o' = o)
theorem AtG.pos {A : Option Addr} {g o n : Nat} (h : AtG A g o n) (hn : 0 < n) : A = some ⟨g, o, none⟩ := by
  rcases h with ⟨_, h⟩ | ⟨o', rfl, h⟩
  · omega
  · rw [h hn]
theorem AtG.block {A : Option Addr} {g o n : Nat} (h : AtG A g o n) : ∀ b o', A = some ⟨b, o', none⟩ → b = g := by
  intro b o' e
  rcases h with ⟨h, _⟩ | ⟨o'', h, _⟩
  · rw [h] at e; cases e
  · rw [h] at e; simp at e; exact e.1.symm
theorem AtG.less {A : Option Addr} {g o n m : Nat} (h : AtG A g o n) (hm : m ≤ n) : AtG A g o m := by
  rcases h with ⟨h, h'⟩ | ⟨o'', h, h'⟩
  · exact .inl ⟨h, by omega⟩
  · exact .inr ⟨o'', h, fun hp => h' (by omega)⟩
/-- A reader at block p over the bytes full in block g; it stands at place o. -/
def Rdr (w : World) (p g : Nat) (full : List UInt8) (o : Nat) : Prop :=
  ∃ A c, InAt w p A c (full.drop o) ∧ Blk w g 5 (bytesA full) ∧ AtG A g o (full.length - o) ∧ o ≤ full.length ∧ g ≠ p
theorem Rdr.fresh {w w' : World} {p g : Nat} {full : List UInt8} {o : Nat} (h : Rdr w p g full o) (hf : Fresh w w') : Rdr w' p g full o := by
  obtain ⟨A, c, h1, h2, h3, h4, h5⟩ := h
  exact ⟨A, c, h1.fresh hf, h2.fresh hf, h3, h4, h5⟩
theorem Rdr.blk {w : World} {p g : Nat} {full : List UInt8} {o : Nat} (h : Rdr w p g full o) : Blk w g 5 (bytesA full) := by
  obtain ⟨A, c, h1, h2, h3, h4, h5⟩ := h
  exact h2
theorem Rdr.lt {w : World} {p g : Nat} {full : List UInt8} {o : Nat} (h : Rdr w p g full o) : p < w.heap.size ∧ g < w.heap.size ∧ g ≠ p ∧ o ≤ full.length := by
  obtain ⟨A, c, h1, h2, h3, h4, h5⟩ := h
  exact ⟨h1.blk.lt, h2.lt, h5, h4⟩
/-- Far from the reader and its bytes. -/
theorem Rdr.only {S : Nat → Prop} {w w' : World} {p g : Nat} {full : List UInt8} {o : Nat} (h : Rdr w p g full o) (ho : Only S w w') (hp : ¬ S p) (hg : ¬ S g) : Rdr w' p g full o := by
  obtain ⟨A, c, h1, h2, h3, h4, h5⟩ := h
  refine ⟨A, c, ⟨h1.blk.only ho hp, h1.le, h1.max, ?_, ?_⟩, h2.only ho hg, h3, h4, h5⟩
  · intro hn
    have e := h3.pos (by simp at hn; omega)
    have hB := (BS.row (h2.only ho hg)).drop o
    rw [Nat.zero_add] at hB
    rw [e]
    exact hB hn
  · rcases h1.addr with h | ⟨b, o, e, hb, hn⟩
    · exact .inl h
    · exact .inr ⟨b, o, e, by have := ho.size; omega, hn⟩

def NewAt (l : List UInt8) (w : World) (e : Ending) (w' : World) : Prop :=
  ∃ p g, e = .returned (.pointer (some ⟨p, 0, none⟩)) ∧ w.heap.size ≤ p ∧ w.heap.size ≤ g ∧ Rdr w' p g l 0 ∧ Fresh w w'
theorem onew_at (A : Option Addr) (n c : Nat) (l : List UInt8) (w : World) (hn : l.length = n) (h : BS w A l) (hm : n ≤ 140737488355328) :
    Calls Tryz.prog 44 #[.slice A n c] w (NewAt l w) := by
  subst hn
  exact (onew A c l w h hm).mono fun _ _ ⟨he, hi, hb, hf⟩ => ⟨_, _, he, by omega, Nat.le_refl _, ⟨_, _, hi, hb, .inr ⟨0, rfl, fun _ => rfl⟩, Nat.zero_le _, by omega⟩, hf⟩
/-- A reader that was just made: its bytes lie at the head of block g. -/
def FreshRdr (w : World) (p g : Nat) (l : List UInt8) : Prop := InAt w p (some ⟨g, 0, none⟩) l.length l ∧ Blk w g 5 (bytesA l) ∧ g ≠ p
theorem FreshRdr.rdr {w : World} {p g : Nat} {l : List UInt8} (h : FreshRdr w p g l) : Rdr w p g l 0 := ⟨_, _, h.1, h.2.1, .inr ⟨0, rfl, fun _ => rfl⟩, Nat.zero_le _, h.2.2⟩
def NewR (l : List UInt8) (w : World) (e : Ending) (w' : World) : Prop :=
  ∃ p g, e = .returned (.pointer (some ⟨p, 0, none⟩)) ∧ w.heap.size ≤ p ∧ w.heap.size ≤ g ∧ FreshRdr w' p g l ∧ Fresh w w'
theorem onewR (A : Option Addr) (n c : Nat) (l : List UInt8) (w : World) (hn : l.length = n) (h : BS w A l) (hm : n ≤ 140737488355328) :
    Calls Tryz.prog 44 #[.slice A n c] w (NewR l w) := by
  subst hn
  exact (onew A c l w h hm).mono fun _ _ ⟨he, hi, hb, hf⟩ => ⟨_, _, he, by omega, Nat.le_refl _, ⟨hi, hb, by omega⟩, hf⟩
theorem Rdr.took {w w' : World} {p g : Nat} {full : List UInt8} {o n c : Nat} {A : Option Addr} (h1 : InAt w p A c (full.drop o)) (h2 : Blk w g 5 (bytesA full)) (h3 : AtG A g o (full.length - o)) (h4 : o ≤ full.length) (h5 : g ≠ p)
    (hn : o + n ≤ full.length) (hi : InAt w' p (cutA A n c) (c - n) ((full.drop o).drop n)) (ho : Only (· = p) w w') : Rdr w' p g full (o + n) := by
  have hle := h1.le
  simp at hle
  refine ⟨_, _, by rw [← List.drop_drop]; exact hi, h2.only ho h5, ?_, by omega, h5⟩
  unfold cutA
  split
  · exact h3.imp (fun ⟨a, b⟩ => ⟨a, by omega⟩) (fun ⟨o', a, b⟩ => ⟨o', a, fun hp => by omega⟩)
  · rcases h3 with ⟨rfl, h⟩ | ⟨o', rfl, h⟩
    · exact .inl ⟨rfl, by omega⟩
    · exact .inr ⟨o' + n, by simp [add_eq], fun hp => by rw [h (by omega)]⟩
def TakeAt (p g : Nat) (full : List UInt8) (o n : Nat) (w : World) (e : Ending) (w' : World) : Prop :=
  ∃ A, e = .returned (.tuple #[.slice A n n, .bool true]) ∧ AtG A g o n ∧ BS w' A ((full.drop o).take n) ∧ Rdr w' p g full (o + n) ∧ Only (· = p) w w'
theorem otake_at (p g : Nat) (full : List UInt8) (o n : Nat) (z : Int) (w : World) (hz : z = n) (h : Rdr w p g full o) (hn : o + n ≤ full.length) :
    Calls Tryz.prog 75 #[.pointer (some ⟨p, 0, none⟩), .int .i64 z] w (TakeAt p g full o n w) := by
  subst hz
  obtain ⟨A, c, h1, h2, h3, h4, h5⟩ := h
  exact (otake_yes p A c (full.drop o) n w h1 (by simp; omega)).mono fun _ _ ⟨he, hi, ho, hb⟩ => ⟨A, he, h3.less (by omega), hb, Rdr.took h1 h2 h3 h4 h5 hn hi ho, ho⟩
theorem otake_no_at (p g : Nat) (full : List UInt8) (o : Nat) (z : Int) (w : World) (h : Rdr w p g full o) (hn : ¬ (0 ≤ z ∧ o + z ≤ full.length)) :
    Calls Tryz.prog 75 #[.pointer (some ⟨p, 0, none⟩), .int .i64 z] w fun e w' => e = .returned (.tuple #[.slice none 0 0, .bool false]) ∧ w = w' := by
  obtain ⟨A, c, h1, h2, h3, h4, h5⟩ := h
  exact otake_no p A c (full.drop o) z w h1 (by simp; omega)
def ByteAt (p g : Nat) (full : List UInt8) (o : Nat) (b : UInt8) (w : World) (e : Ending) (w' : World) : Prop :=
  e = .returned (.tuple #[.int .i64 (b.toNat : Int), .bool true]) ∧ Rdr w' p g full (o + 1) ∧ Only (· = p) w w'
theorem obyte_at (p g : Nat) (full : List UInt8) (o : Nat) (b : UInt8) (w : World) (h : Rdr w p g full o) (hb : full[o]? = some b) :
    Calls Tryz.prog 56 #[.pointer (some ⟨p, 0, none⟩)] w (ByteAt p g full o b w) := by
  obtain ⟨hlt, he⟩ := List.getElem?_eq_some_iff.1 hb
  obtain ⟨A, c, h1, h2, h3, h4, h5⟩ := h
  have hl : 0 < (full.drop o).length := by simp; omega
  refine (obyte p A c (full.drop o) w h1).mono fun _ _ ⟨h, _⟩ => ?_
  obtain ⟨he', hi, ho⟩ := h hl
  refine ⟨?_, Rdr.took h1 h2 h3 h4 h5 (by omega) hi ho, ho⟩
  rw [he']
  have : (full.drop o)[0] = b := by simpa using he
  rw [this]
theorem obyte_no_at (p g : Nat) (full : List UInt8) (o : Nat) (w : World) (h : Rdr w p g full o) (hn : full.length ≤ o) :
    Calls Tryz.prog 56 #[.pointer (some ⟨p, 0, none⟩)] w fun e w' => e = .returned (.tuple #[.int .i64 0, .bool false]) ∧ w = w' := by
  obtain ⟨A, c, h1, h2, h3, h4, h5⟩ := h
  exact (obyte p A c (full.drop o) w h1).mono fun _ _ ⟨_, h⟩ => h (by simp; omega)
def NumAt (p g : Nat) (full : List UInt8) (o n : Nat) (x : Nat) (w : World) (e : Ending) (w' : World) : Prop :=
  e = .returned (.tuple #[.int .u64 (x : Int), .bool true]) ∧ Rdr w' p g full (o + n) ∧ Only (· = p) w w'
theorem onum_at (p g : Nat) (full : List UInt8) (o n : Nat) (x : Nat) (z : Int) (w : World) (hz : z = n) (h : Rdr w p g full o) (hn : o + n ≤ full.length) (h8 : n ≤ 8) (hx : numL ((full.drop o).take n) = x) :
    Calls Tryz.prog 55 #[.pointer (some ⟨p, 0, none⟩), .int .i64 z] w (NumAt p g full o n x w) := by
  subst hz hx
  obtain ⟨A, c, h1, h2, h3, h4, h5⟩ := h
  exact (ornum_yes p A c (full.drop o) n w h1 (by simp; omega) h8).mono fun _ _ ⟨he, hi, ho⟩ => ⟨he, Rdr.took h1 h2 h3 h4 h5 hn hi ho, ho⟩
theorem onum_no_at (p g : Nat) (full : List UInt8) (o : Nat) (z : Int) (w : World) (h : Rdr w p g full o) (hn : ¬ (0 ≤ z ∧ o + z ≤ full.length ∧ z ≤ 8)) :
    Calls Tryz.prog 55 #[.pointer (some ⟨p, 0, none⟩), .int .i64 z] w fun e w' => e = .returned (.tuple #[.int .u64 0, .bool false]) ∧ w = w' := by
  obtain ⟨A, c, h1, h2, h3, h4, h5⟩ := h
  exact ornum_no p A c (full.drop o) z w h1 (by simp; omega)
theorem oleft_at (p g : Nat) (full : List UInt8) (o n : Nat) (w : World) (h : Rdr w p g full o) (hn : o + n = full.length) :
    Calls Tryz.prog 78 #[.pointer (some ⟨p, 0, none⟩)] w fun e w' => e = .returned (.int .i64 (n : Int)) ∧ w = w' := by
  obtain ⟨A, c, h1, h2, h3, h4, h5⟩ := h
  have := oleft p A c (full.drop o) w h1
  rwa [show (full.drop o).length = n by simp; omega] at this
def RestAt (p g : Nat) (full : List UInt8) (o n : Nat) (w : World) (e : Ending) (w' : World) : Prop :=
  ∃ A, e = .returned (.slice A n n) ∧ AtG A g o n ∧ BS w' A (full.drop o) ∧ Blk w' g 5 (bytesA full) ∧ Rdr w' p g full full.length ∧ Only (· = p) w w'
theorem orest_at (p g : Nat) (full : List UInt8) (o n : Nat) (w : World) (h : Rdr w p g full o) (hn : o + n = full.length) :
    Calls Tryz.prog 45 #[.pointer (some ⟨p, 0, none⟩)] w (RestAt p g full o n w) := by
  obtain ⟨A, c, h1, h2, h3, h4, h5⟩ := h
  have hl : (full.drop o).length = n := by simp; omega
  refine (orest p A c (full.drop o) w h1).mono fun _ w' ⟨he, hi, ho, hb⟩ => ⟨A, by rw [he, hl], h3.less (by omega), hb, h2.only ho h5, ?_, ho⟩
  exact ⟨none, 0, by rw [List.drop_length]; exact hi, h2.only ho h5, .inl ⟨rfl, by omega⟩, Nat.le_refl _, h5⟩
def RestNew (p g : Nat) (l : List UInt8) (n : Nat) (w : World) (e : Ending) (w' : World) : Prop :=
  e = .returned (.slice (some ⟨g, 0, none⟩) n n) ∧ Blk w' g 5 (bytesA l) ∧ Blk w' p 125 #[.slice none 0 0] ∧ Only (· = p) w w'
theorem orest_new (p g : Nat) (l : List UInt8) (n : Nat) (w : World) (h : FreshRdr w p g l) (hn : l.length = n) :
    Calls Tryz.prog 45 #[.pointer (some ⟨p, 0, none⟩)] w (RestNew p g l n w) := by
  subst hn
  exact (orest p _ _ l w h.1).mono fun _ w' ⟨he, hi, ho, hb⟩ => ⟨he, h.2.1.only ho h.2.2, hi.blk, ho⟩
end Go.Proofs.YtginhebfjbhmnaaGreat

/-
  Rows that a call makes by make, and what is appended to them; small words on boxed structs.
-/
namespace Go.Proofs.YtginhebfjbhmnaaGreat
set_option maxRecDepth 100000
set_option linter.unusedVariables false
open Go.RowKit

theorem run_make_rowN {P : Program} (t e : TypeId) (i : TypeInfo) (z : Value) (ht : P.underlying t = some (.slice e)) (hi : P.info? e = some i) (hz : i.zero = some z)
    (kl kc : IntKind) (n c : Nat) (hnc : n ≤ c) (hbytes : i.bytes * c ≤ 281474976710656) (h63 : c ≤ 9223372036854775807) (w : World) :
    (Instr.makeSlice t (.int kl (n : Int)) (.int kc (c : Int))).run P w = .ok (.slice (some ⟨w.heap.size, 0, none⟩) n c) (w.alloc (.cells (madeCells z.cells (c * i.size)) e)) := by
  have hb : (i.bytes : Int) * (c : Int) ≤ 281474976710656 := by
    have h : ((i.bytes * c : Nat) : Int) ≤ 281474976710656 := by omega
    rwa [Int.natCast_mul] at h
  have hr := run_make (P := P) w t e i z ht hi hz kl kc n c (by omega) (by omega) hb (by omega)
  simp only [Int.toNat_natCast] at hr
  exact hr

/-- make([]T, 0, c), elements of one cell. -/
theorem run_make0 {P : Program} {T E : TypeId} {z : Value} {bytes : Nat} (hT : P.underlying T = some (.slice E)) (hinfo : (P.info? E).map (fun i => (i.zero, i.size, i.bytes)) = some (some z, 1, bytes)) (hz : z.cells = #[z]) (c : Nat) (hb : bytes * c ≤ 281474976710656) (h63 : c ≤ 9223372036854775807) (w : World) :
    (Instr.makeSlice T (.int .i64 0) (.int .i64 (c : Int))).run P w = .ok (.slice (some ⟨w.heap.size, 0, none⟩) 0 c) (w.alloc (.cells (madeCells #[z] c) E)) := by
  obtain ⟨i, hi, hiz, his, hib⟩ := info_parts hinfo
  have := run_make_rowN (P := P) T E i z hT hi hiz .i64 .i64 0 c (Nat.zero_le _) (by rw [hib]; exact hb) h63 w
  rw [his, hz, Nat.mul_one] at this
  exact this
theorem Own.made (w : World) (E : TypeId) (z : Value) (c : Nat) (h63 : c ≤ maxLen) :
    Own (w.alloc (.cells (madeCells #[z] c) E)) w.heap.size E 1 (.slice (some ⟨w.heap.size, 0, none⟩) 0 c) 0 [] :=
  ⟨by simp, .inr ⟨w.heap.size, c, madeCells #[z] c, rfl, Nat.le_refl _, Blk.new _ _ _, Nat.zero_le _, h63, by simp [size_madeCells], by simp⟩⟩

/-- []byte(a constant). -/
theorem BS.const (w : World) (e : TypeId) (l : List UInt8) (z : Nat × Nat) : BS (w.alloc (.cells (bytesA l) e z)) (some ⟨w.heap.size, 0, none⟩) l := fun hn =>
  ⟨w.heap.size, 0, rfl, by simp, fun j hj => by
    have h : (w.alloc (.cells (bytesA l) e z)).heap[w.heap.size]? = some (.cells (bytesA l) e z) := by
      show (w.heap.push _)[w.heap.size]? = _
      simp
    rw [Nat.zero_add]
    simp only [World.cell?, h]
    simp [bytesA_get, hj]⟩
theorem strB_toList (l : List UInt8) : (strB l).toList = l := by rw [ByteArray.toList_eq]; simp [strB]
/-- make([]T, n), elements of one cell. -/
theorem run_makeZ {P : Program} {T E : TypeId} {z : Value} {bytes : Nat} (hT : P.underlying T = some (.slice E)) (hinfo : (P.info? E).map (fun i => (i.zero, i.size, i.bytes)) = some (some z, 1, bytes)) (hz : z.cells = #[z]) (n : Nat) (k : Int) (hk : k = (n : Int)) (hb : bytes * n ≤ 281474976710656) (h63 : n ≤ 9223372036854775807) (w : World) :
    (Instr.makeSlice T (.int .i64 k) (.int .i64 k)).run P w = .ok (.slice (some ⟨w.heap.size, 0, none⟩) n n) (w.alloc (.cells (madeCells #[z] n) E)) := by
  subst hk
  obtain ⟨i, hi, hiz, his, hib⟩ := info_parts hinfo
  have := run_make_rowN (P := P) T E i z hT hi hiz .i64 .i64 n n (Nat.le_refl _) (by rw [hib]; exact hb) h63 w
  rw [his, hz, Nat.mul_one] at this
  exact this
theorem madeCells_zero (n : Nat) : madeCells #[.int .u8 0] n = bytesA (List.replicate n 0) := by
  apply Array.toList_inj.1
  rw [toList_madeCells_one]
  simp [bytesA, byteV]
/-- An own row is read. -/
theorem Own.bs {w : World} {base : Nat} {E : TypeId} {A : Option Addr} {c : Nat} {l : List UInt8} (h : Own w base E 1 (.slice A l.length c) l.length (l.map byteV)) : BS w A l := h.bytes.1

section
variable {P : Program} {T E : TypeId} (hT : P.underlying T = some (.slice E)) (hinfo : (P.info? E).map (fun i => (i.zero, i.size, i.bytes)) = some (some (.int .u8 0), 1, 1))
include hT hinfo
/-- Own.more of bytes, with lengths that are told. -/
theorem Own.moreN {w0 w : World} {base n : Nat} {v : Value} {X : List UInt8} (ty : TypeId) (h : Own w base E 1 v n (X.map byteV)) (hb : Below base w0 w) (hbase : base ≤ w0.heap.size) (A : Option Addr) (c : Nat) (l : List UInt8) (m r : Nat) (hm : l.length = m) (hr : n + m = r) (hS : BS w A l) (hlc : m ≤ c)
    (hn : r ≤ 140737488355328) :
    ∃ A' c' w', (Builtin.append_ #[T, T] ty #[v, .slice A m c]).run P w = .ok (.slice A' r c') w' ∧ Own w' base E 1 (.slice A' r c') r ((X ++ l).map byteV) ∧ Below base w0 w' ∧ Own w' base E 1 v n (X.map byteV) := by
  subst hm hr
  obtain ⟨v', w', hr, ho, hb', _, hk⟩ := Own.more hT hinfo ty h hb hbase A c l hS hlc (by unfold maxLen; omega) hn
  obtain ⟨A', c', rfl, _⟩ := ho.slice
  exact ⟨A', c', w', hr, by rw [List.map_append]; exact ho, hb', hk⟩
end

section
variable {P : Program} {T E : TypeId} (hT : P.underlying T = some (.slice E)) (hinfo : (P.info? E).map (fun i => (i.zero, i.size, i.bytes)) = some (some (.int .u8 0), 1, 1))
include hT hinfo
/-- An append of bytes to a row: only the row is written, and where the new one lies is told. -/
theorem Own.moreX {w : World} {base n : Nat} {v : Value} {X : List UInt8} (ty : TypeId) (h : Own w base E 1 v n (X.map byteV)) (hbase : base ≤ w.heap.size) (A : Option Addr) (c : Nat) (l : List UInt8) (m r : Nat) (hm : l.length = m) (hr : n + m = r) (hS : BS w A l) (hn : r ≤ 140737488355328) :
    ∃ A' c' w', (Builtin.append_ #[T, T] ty #[v, .slice A m c]).run P w = .ok (.slice A' r c') w' ∧ Own w' base E 1 (.slice A' r c') r ((X ++ l).map byteV) ∧ Only (fun k => v.ownBlock = some k) w w' ∧
      ((Value.slice A' r c').ownBlock = v.ownBlock ∨ (Value.slice A' r c').ownBlock = some w.heap.size) := by
  subst hm hr
  obtain ⟨i, hi, hiz, his, hib⟩ := info_parts hinfo
  cases A with
  | none =>
    have hl : l = [] := by
      rcases l with _ | ⟨x, l⟩
      · rfl
      · obtain ⟨b, o, e, _⟩ := hS.addr (by simp)
        cases e
    subst hl
    obtain ⟨A', c', rfl, _⟩ := h.slice
    refine ⟨A', c', w, ?_, by simpa using h, Only.refl _ _, .inl rfl⟩
    rcases h.2 with ⟨h1, h2⟩ | ⟨g, cap, cur, h1, _, _, hnc, _⟩
    · cases h1
      simp [Builtin.append_, run_underlying hT, sizeOf, typeInfo, hi, Builtin.lenOf, Builtin.firstCells]
    · cases h1
      simp [Builtin.append_, run_underlying hT, sizeOf, typeInfo, hi, Builtin.lenOf, Builtin.firstCells, hnc, storeCells]
  | some a =>
    have hcs : ∀ j u, (l.map byteV)[j]? = some u → w.cell? (a.add j) = some u := fun j u hj => by
      have hjl : j < l.length := by
        rcases Nat.lt_or_ge j l.length with h | h
        · exact h
        · rw [List.getElem?_eq_none (by simpa using h)] at hj; cases hj
      obtain ⟨b, o, e, _, hc⟩ := hS.addr (by omega)
      injection e with e
      subst e
      rw [add_eq _ _ rfl, hc j hjl]
      rw [List.getElem?_map, List.getElem?_eq_getElem hjl] at hj
      exact hj
    have h1 : ∀ u ∈ l.map byteV, u.oneCell' = true := by
      intro u hu
      rw [List.mem_map] at hu
      obtain ⟨x, _, rfl⟩ := hu
      rfl
    obtain ⟨v', w', hr, ho, hg, _, hat⟩ := run_append_own_at (P := P) w base T ty E i (.int .u8 0) 1 1 hT hi hiz his hib rfl (by omega) v n _ h a l.length c (l.map byteV) (by simp) hcs h1 (by unfold maxLen; omega) (by omega) hbase
    obtain ⟨A', c', rfl, _⟩ := Own.slice (show Own w' base E 1 v' _ _ from ho)
    exact ⟨A', c', w', hr, by rw [List.map_append]; exact ho, ⟨hg.os, hg.tape, hg.output, hg.size, fun k hk hne => hg.block k hk (fun e => hne e.symm)⟩, hat⟩
end

section
variable {w : World} {g : Nat} {t : TypeId} {a b c d e f : Value}
theorem Blk.c1 (h : Blk w g t #[a]) : w.cell? ⟨g, 0, none⟩ = some a := h.cell 0
theorem Blk.c2 (h : Blk w g t #[a, b]) : w.cell? ⟨g, 0, none⟩ = some a ∧ w.cell? ⟨g, 1, none⟩ = some b := ⟨h.cell 0, h.cell 1⟩
theorem Blk.c3 (h : Blk w g t #[a, b, c]) : w.cell? ⟨g, 0, none⟩ = some a ∧ w.cell? ⟨g, 1, none⟩ = some b ∧ w.cell? ⟨g, 2, none⟩ = some c := ⟨h.cell 0, h.cell 1, h.cell 2⟩
theorem Blk.c4 (h : Blk w g t #[a, b, c, d]) : w.cell? ⟨g, 0, none⟩ = some a ∧ w.cell? ⟨g, 1, none⟩ = some b ∧ w.cell? ⟨g, 2, none⟩ = some c ∧ w.cell? ⟨g, 3, none⟩ = some d := ⟨h.cell 0, h.cell 1, h.cell 2, h.cell 3⟩
theorem Blk.c5 (h : Blk w g t #[a, b, c, d, e]) : w.cell? ⟨g, 0, none⟩ = some a ∧ w.cell? ⟨g, 1, none⟩ = some b ∧ w.cell? ⟨g, 2, none⟩ = some c ∧ w.cell? ⟨g, 3, none⟩ = some d ∧ w.cell? ⟨g, 4, none⟩ = some e := ⟨h.cell 0, h.cell 1, h.cell 2, h.cell 3, h.cell 4⟩
theorem Blk.c6 (h : Blk w g t #[a, b, c, d, e, f]) : w.cell? ⟨g, 0, none⟩ = some a ∧ w.cell? ⟨g, 1, none⟩ = some b ∧ w.cell? ⟨g, 2, none⟩ = some c ∧ w.cell? ⟨g, 3, none⟩ = some d ∧ w.cell? ⟨g, 4, none⟩ = some e ∧ w.cell? ⟨g, 5, none⟩ = some f := ⟨h.cell 0, h.cell 1, h.cell 2, h.cell 3, h.cell 4, h.cell 5⟩
theorem Blk.z4 (h : Blk w g t #[a, b, c, d]) : w.frozen? ⟨g, 0, none⟩ = false ∧ w.frozen? ⟨g, 1, none⟩ = false ∧ w.frozen? ⟨g, 2, none⟩ = false ∧ w.frozen? ⟨g, 3, none⟩ = false := ⟨h.frozen 0, h.frozen 1, h.frozen 2, h.frozen 3⟩
end
end Go.Proofs.YtginhebfjbhmnaaGreat

/-
  Small words on what is returned.
-/
namespace Go.Proofs.YtginhebfjbhmnaaGreat
set_option maxRecDepth 100000
set_option linter.unusedVariables false
open Go.RowKit

theorem ret_two {a b a' b' : Value} (h : a = a') (k : b = b') : Ending.returned (.tuple #[a, b]) = .returned (.tuple #[a', b']) := by rw [h, k]
theorem ret_three {a b c a' b' c' : Value} (h : a = a') (k : b = b') (l : c = c') : Ending.returned (.tuple #[a, b, c]) = .returned (.tuple #[a', b', c']) := by rw [h, k, l]
theorem val_i {k : IntKind} {a b : Int} (h : b = a) : Value.int k a = .int k b := by rw [h]
theorem val_b {a b : Bool} (h : b = a) : Value.bool a = .bool b := by rw [h]
theorem agg_ib {k : IntKind} {a a' : Int} {b b' : Bool} (h : a' = a) (l : b' = b) : Value.agg #[.int k a, .bool b] = .agg #[.int k a', .bool b'] := by rw [h, l]
/-! What may have changed, step by step, from the last step back. -/
section
variable {S : Nat → Prop} {w w' : World}
theorem Only.step (h : Only S w w') (p : Addr) (v : Value) (hp : S p.block ∨ w.heap.size ≤ p.block) : Only S w (w'.setCell p v) :=
  h.trans' (Only.setCell w' p v) fun i hi e => by
    rcases hp with hp | hp
    · rw [e]; exact hp
    · omega
theorem Only.allocS (h : Only S w w') (o : Obj) : Only S w (w'.alloc o) := h.trans (Only.of_fresh (Fresh.alloc _ _))
theorem Only.drewS (h : Only S w w') : Only S w w'.drew := h.trans (Only.of_fresh (Fresh.drew _))
theorem Only.freshS {w2 : World} (h : Only S w w') (hf : Fresh w' w2) : Only S w w2 := h.trans (Only.of_fresh hf)
theorem Fresh.allocS (h : Fresh w w') (o : Obj) : Fresh w (w'.alloc o) := h.trans (Fresh.alloc _ _)
theorem Fresh.drewS (h : Fresh w w') : Fresh w w'.drew := h.trans (Fresh.drew _)
theorem Fresh.step (h : Fresh w w') (p : Addr) (v : Value) (hp : w.heap.size ≤ p.block) : Fresh w (w'.setCell p v) :=
  Only.fresh (S := fun _ => False) ((Only.of_fresh h).step p v (.inr hp)) (fun _ _ h => h)
end
/-! Cells that are held while blocks are made. -/
def Hold (w : World) : List (Addr × Value) → World → Prop
  | [], w' => Fresh w w'
  | (a, v) :: r, w' => w'.cell? a = some v ∧ Hold w r w'
theorem cell_lt {w : World} {a : Addr} {v : Value} (h : w.cell? a = some v) : a.block < w.heap.size := by
  unfold World.cell? at h
  by_cases hb : a.block < w.heap.size
  · exact hb
  · rw [Array.getElem?_eq_none (by omega)] at h
    simp at h
theorem Hold.fresh {w w' w'' : World} : ∀ {l : List (Addr × Value)}, Hold w l w' → Fresh w' w'' → Hold w l w''
  | [], h, hf => Below.trans h (hf.mono (Below.size h))
  | (a, v) :: r, h, hf => ⟨(hf.cell (cell_lt h.1)).trans h.1, Hold.fresh h.2 hf⟩
theorem Hold.end_ {w w' : World} : ∀ {l : List (Addr × Value)}, Hold w l w' → Fresh w w'
  | [], h => h
  | (a, v) :: r, h => Hold.end_ h.2
end Go.Proofs.YtginhebfjbhmnaaGreat

/-
  The world ahead of some code, by what is known of it alone.
-/
namespace Go.Proofs.YtginhebfjbhmnaaGreat
set_option maxRecDepth 100000
set_option linter.unusedVariables false
open Go.RowKit
theorem wp_gen {P : Program} {c : Code} {Q : Exit → Act → World → Prop} {a : Act} {w : World} (S : World → Prop) (hS : S w) (h : ∀ w', S w' → c.wp P Q a w') : c.wp P Q a w := h w hS
theorem Fresh.step2 {w w' : World} {p : Addr} {v : Value} (hp : w.heap.size ≤ p.block) (h : Fresh w w') : Fresh w (w'.setCell p v) := h.step p v hp
theorem Only.step2 {S : Nat → Prop} {w w' : World} {p : Addr} {v : Value} (hp : S p.block ∨ w.heap.size ≤ p.block) (h : Only S w w') : Only S w (w'.setCell p v) := h.step p v hp
theorem wx_gen {F : Exit → Act → World → Prop} {e : Exit} {a : Act} {w : World} (S : World → Prop) (hS : S w) (h : ∀ w', S w' → F e a w') : F e a w := h w hS
/-- An append whose run is known, as one step of a region that draws its order. -/
theorem step_app {P : Program} {ops : Array Oper} {o : Oper} {a : Act} {w : World} {K : Act → World → Prop} {Q : Exit → Act → World → Prop} {E : Prop} (hgd : o.guard = none) (s x : Operand) (t : TypeId)
    (ho : o.op = .call { callee := .builtin .append, args := #[s, x], argTypes := #[t, t] }) {v vx v' : Value} {w' : World} {ty : TypeId} (hrun : (Builtin.append_ #[t, t] ty #[v, vx]).run P w = .ok v' w')
    (hty : o.type = ty) (hs : a.eval s = v) (hx : a.eval x = vx) (h : K (a.put o.dst v') w') : if Region.wanted o (yielded ops a.tmps) = true then Oper.wp P o a w K Q else E := by
  have hw : Region.wanted o (yielded ops a.tmps) = true := by simp [Region.wanted, hgd]
  rw [if_pos hw]
  subst hty
  unfold Oper.wp
  simp [execOp, ho, resolve, invoke, builtin, hs, hx, hrun, Result.andThen]
  exact h
end Go.Proofs.YtginhebfjbhmnaaGreat

