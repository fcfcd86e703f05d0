/-
  Words for OctetReads: what stays when a byte before is written.
-/
import Derived.Test.YtjbonafpolmmmaaOctetV
import Derived.Test.YtjbonafpolmmmaaMore
namespace Go.Proofs.Ytjbonafpolmmmaa
set_option linter.unusedVariables false
open Go.RowKit

theorem bytesA_set (l : List UInt8) (k : Nat) (x : UInt8) : (bytesA l).setIfInBounds k (byteV x) = bytesA (l.set k x) := by
  unfold bytesA
  simp [List.map_set]

/-- A written byte of a whole block of bytes. -/
theorem Blk.setByte {w : World} {g : Nat} {t : TypeId} {l : List UInt8} (h : Blk w g t (bytesA l)) (k : Nat) (x : UInt8) : Blk (w.setCell ⟨g, k, none⟩ (byteV x)) g t (bytesA (l.set k x)) := by
  have := h.set k (byteV x)
  rwa [bytesA_set] at this

theorem Blk.byte {w : World} {g : Nat} {t : TypeId} {l : List UInt8} (h : Blk w g t (bytesA l)) (k : Nat) (hk : k < l.length) : w.cell? ⟨g, k, none⟩ = some (byteV l[k]) := by
  rw [h.cell, bytesA_get, List.getElem?_eq_getElem hk]
  rfl

/-- A reader over the rest of a whole block. -/
structure RdAt (w : World) (p g : Nat) (full : List UInt8) (o : Nat) (A : Option Addr) (c : Nat) : Prop where
  rd : InAt w p A c (full.drop o)
  blk : Blk w g 5 (bytesA full)
  at_ : o < full.length → A = some ⟨g, o, none⟩
  le : o ≤ full.length
  ne : g ≠ p

theorem InAt.again {w w' : World} {p c : Nat} {A : Option Addr} {l l' : List UInt8} (h : InAt w p A c l) (hl : l'.length = l.length) (hb : Blk w' p 48 #[.slice A l.length c]) (hA : BS w' A l') (hs : w.heap.size ≤ w'.heap.size) : InAt w' p A c l' :=
  ⟨by rw [hl]; exact hb, by rw [hl]; exact h.le, h.max, hA, by
    rcases h.addr with h | ⟨b, o, e, hb, hn⟩
    · exact .inl h
    · exact .inr ⟨b, o, e, by omega, hn⟩⟩

theorem drop_set_lt {α : Type} (l : List α) (k o : Nat) (x : α) (h : k < o) : (l.set k x).drop o = l.drop o := by
  rw [List.drop_set_of_lt h]

/-- A byte before the rest is written: the rest stays. -/
theorem RdAt.write {w : World} {p g o c : Nat} {full : List UInt8} {A : Option Addr} (h : RdAt w p g full o A c) (k : Nat) (hk : k < o) (x : UInt8) :
    RdAt (w.setCell ⟨g, k, none⟩ (byteV x)) p g (full.set k x) o A c := by
  have hb := h.blk.setByte k x
  refine ⟨?_, hb, by simpa using h.at_, by simpa using h.le, h.ne⟩
  rw [drop_set_lt _ _ _ _ hk]
  refine h.rd.again rfl (h.rd.blk.far (fun e => h.ne (by simpa using e.symm)) _) ?_ (by simp)
  intro hn
  have e := h.at_ (by simp at hn; omega)
  have hB := (BS.row hb).drop o
  rw [Nat.zero_add, drop_set_lt _ _ _ _ hk] at hB
  rw [e]
  exact hB hn

/-- What was taken lies before the rest. -/
theorem RdAt.took {w w' : World} {p g o c : Nat} {full : List UInt8} {A : Option Addr} (h : RdAt w p g full o A c) (n : Nat) (hn : n ≤ (full.drop o).length) (hi : InAt w' p (cutA A n c) (c - n) ((full.drop o).drop n)) (ho : Only (· = p) w w') :
    RdAt w' p g full (o + n) (cutA A n c) (c - n) := by
  have hle := h.rd.le
  simp at hn hle
  have := h.le
  refine ⟨by rw [← List.drop_drop]; exact hi, h.blk.only ho h.ne, fun hlt => ?_, by omega, h.ne⟩
  rw [h.at_ (by omega), cutA_some _ _ _ _ (by omega)]

/-- At the end nothing is left. -/
theorem RdAt.done {w w' : World} {p g o c : Nat} {full : List UInt8} {A : Option Addr} (h : RdAt w p g full o A c) (hi : InAt w' p none 0 []) (ho : Only (· = p) w w') :
    RdAt w' p g full full.length none 0 :=
  ⟨by rw [List.drop_length]; exact hi, h.blk.only ho h.ne, fun hlt => absurd hlt (by omega), Nat.le_refl _, h.ne⟩

theorem RdAt.fresh {w w' : World} {p g o c : Nat} {full : List UInt8} {A : Option Addr} (h : RdAt w p g full o A c) (hf : Fresh w w') : RdAt w' p g full o A c :=
  ⟨h.rd.fresh hf, h.blk.fresh hf, h.at_, h.le, h.ne⟩
theorem RdAt.new {w w' : World} {l : List UInt8} (h : InAt w' (w.heap.size + 1) (some ⟨w.heap.size, 0, none⟩) l.length l) (hb : Blk w' w.heap.size 5 (bytesA l)) :
    RdAt w' (w.heap.size + 1) w.heap.size l 0 (some ⟨w.heap.size, 0, none⟩) l.length :=
  ⟨h, hb, fun _ => rfl, Nat.zero_le _, by omega⟩

theorem strB_extract (l : List UInt8) (i j : Nat) : (strB l).extract i j = strB ((l.take j).drop i) := by
  apply ByteArray.ext
  simp [strB, ByteArray.data_extract]
  try rw [List.drop_take]

/-- Far from the reader and its bytes. -/
theorem RdAt.only {S : Nat → Prop} {w w' : World} {p g o c : Nat} {full : List UInt8} {A : Option Addr} (h : RdAt w p g full o A c) (ho : Only S w w') (hp : ¬ S p) (hg : ¬ S g) : RdAt w' p g full o A c := by
  refine ⟨h.rd.again rfl (h.rd.blk.only ho hp) ?_ ho.size, h.blk.only ho hg, h.at_, h.le, h.ne⟩
  intro hn
  have e := h.at_ (by simp at hn; omega)
  have hB := (BS.row (h.blk.only ho hg)).drop o
  rw [Nat.zero_add] at hB
  rw [e]
  exact hB hn

/-- The loop over one's own row: where it stands. -/
def IncRel (w : World) (A : Option Addr) (c m g b2 : Nat) (l : List UInt8) (AL : Option Addr) (n : Nat) (R : Nat → Nat → Int) (wr : World) : Prop :=
  (∃ l' : List UInt8, l'.length = l.length ∧ Own wr w.heap.size 5 1 (.slice A l.length c) l.length (l'.map byteV)) ∧ (∀ b o, A = some ⟨b, o, none⟩ → w.heap.size ≤ b ∧ b < g) ∧
  RdAt wr (g + 1) g l 0 (some ⟨g, 0, none⟩) l.length ∧ Below w.heap.size w wr

theorem IncRel.step {w : World} {A : Option Addr} {c m g b2 : Nat} {l : List UInt8} {AL : Option Addr} {n : Nat} {R : Nat → Nat → Int} {wr : World} (h : IncRel w A c m g b2 l AL n R wr) (k : Nat) (hk : k < l.length) :
    ∃ b, A = some ⟨b, 0, none⟩ ∧ wr.frozen? ⟨b, k, none⟩ = false ∧ ∃ x : UInt8, wr.cell? ⟨b, k, none⟩ = some (.int .u8 (x.toNat : Int)) ∧ ∀ y : UInt8, IncRel w A c m g b2 l AL n R (wr.setCell ⟨b, k, none⟩ (byteV y)) := by
  obtain ⟨⟨l', hl', ho⟩, hA, hr, hb⟩ := h
  rcases ho.form with ⟨e, e2, _⟩ | ⟨b, cap, e, hb1, hb2, _, _, _⟩
  · omega
  · cases e
    refine ⟨b, rfl, World.ownsRow.frozenAt ho k, l'[k], ?_, fun y => ?_⟩
    · have := World.ownsRow.cellAt ho k (by omega)
      rw [this, List.getElem?_map, List.getElem?_eq_getElem (by omega)]
      rfl
    · obtain ⟨h1, h2⟩ := World.ownsRow.stored ho k (byteV y)
      have hlt := hA b 0 rfl
      refine ⟨⟨l'.set k y, by simpa using hl', by rw [List.map_set]; exact h1⟩, hA, hr.only (Only.setCell _ _ _) (by simp; omega) (by simp; omega), ?_⟩
      exact Below.trans hb (Only.below (Only.setCell wr _ _) hb.size (by simp; omega))
end Go.Proofs.Ytjbonafpolmmmaa
