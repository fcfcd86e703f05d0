/-
  Rows that a call makes by make, and what is appended to them; small words on boxed structs.
-/
import Derived.Test.YtcdghmidpaeloaaMore
import Derived.Laws.MakeOwn
import Derived.Maps.AppendAt
import Derived.Laws.Entries
import Derived.Lib.SlBytesConst
namespace Go.Proofs.Ytcdghmidpaeloaa
set_option linter.unusedVariables false
open Go.RowKit

theorem run_make_rowN {P : Program} (t e : TypeId) (i : TypeInfo) (z : Value) (ht : P.underlying t = some (.slice e)) (hi : P.info? e = some i) (hz : i.zero = some z)
    (kl kc : IntKind) (n c : Nat) (hnc : n ≤ c) (hbytes : i.bytes * c ≤ 281474976710656) (h63 : c ≤ 9223372036854775807) (w : World) :
    (Instr.makeSlice t (.int kl (n : Int)) (.int kc (c : Int))).run P w = .ok (.slice (some ⟨w.heap.size, 0, none⟩) n c) (w.alloc (.cells (madeCells z.cells (c * i.size)) e)) := by
  have hb : (i.bytes : Int) * (c : Int) ≤ 281474976710656 := by
    have h : ((i.bytes * c : Nat) : Int) ≤ 281474976710656 := by omega
    rwa [Int.natCast_mul] at h
  have hr := run_make (P := P) w t e i z ht hi hz kl kc n c (by omega) (by omega) hb (by omega)
  simp only [Int.toNat_natCast] at hr
  exact hr

/-- make([]T, 0, c), elements of one cell. -/
theorem run_make0 {P : Program} {T E : TypeId} {z : Value} {bytes : Nat} (hT : P.underlying T = some (.slice E)) (hinfo : (P.info? E).map (fun i => (i.zero, i.size, i.bytes)) = some (some z, 1, bytes)) (hz : z.cells = #[z]) (c : Nat) (hb : bytes * c ≤ 281474976710656) (h63 : c ≤ 9223372036854775807) (w : World) :
    (Instr.makeSlice T (.int .i64 0) (.int .i64 (c : Int))).run P w = .ok (.slice (some ⟨w.heap.size, 0, none⟩) 0 c) (w.alloc (.cells (madeCells #[z] c) E)) := by
  obtain ⟨i, hi, hiz, his, hib⟩ := info_parts hinfo
  have := run_make_rowN (P := P) T E i z hT hi hiz .i64 .i64 0 c (Nat.zero_le _) (by rw [hib]; exact hb) h63 w
  rw [his, hz, Nat.mul_one] at this
  exact this
theorem Own.made (w : World) (E : TypeId) (z : Value) (c : Nat) (h63 : c ≤ maxLen) :
    Own (w.alloc (.cells (madeCells #[z] c) E)) w.heap.size E 1 (.slice (some ⟨w.heap.size, 0, none⟩) 0 c) 0 [] :=
  ⟨by simp, .inr ⟨w.heap.size, c, madeCells #[z] c, rfl, Nat.le_refl _, Blk.new _ _ _, Nat.zero_le _, h63, by simp [size_madeCells], by simp⟩⟩

/-- []byte(a constant). -/
theorem BS.const (w : World) (e : TypeId) (l : List UInt8) (z : Nat × Nat) : BS (w.alloc (.cells (bytesA l) e z)) (some ⟨w.heap.size, 0, none⟩) l := fun hn =>
  ⟨w.heap.size, 0, rfl, by simp, fun j hj => by
    have h : (w.alloc (.cells (bytesA l) e z)).heap[w.heap.size]? = some (.cells (bytesA l) e z) := by
      show (w.heap.push _)[w.heap.size]? = _
      simp
    rw [Nat.zero_add]
    simp only [World.cell?, h]
    simp [bytesA_get, hj]⟩
theorem strB_toList (l : List UInt8) : (strB l).toList = l := by rw [ByteArray.toList_eq]; simp [strB]
/-- make([]T, n), elements of one cell. -/
theorem run_makeZ {P : Program} {T E : TypeId} {z : Value} {bytes : Nat} (hT : P.underlying T = some (.slice E)) (hinfo : (P.info? E).map (fun i => (i.zero, i.size, i.bytes)) = some (some z, 1, bytes)) (hz : z.cells = #[z]) (n : Nat) (k : Int) (hk : k = (n : Int)) (hb : bytes * n ≤ 281474976710656) (h63 : n ≤ 9223372036854775807) (w : World) :
    (Instr.makeSlice T (.int .i64 k) (.int .i64 k)).run P w = .ok (.slice (some ⟨w.heap.size, 0, none⟩) n n) (w.alloc (.cells (madeCells #[z] n) E)) := by
  subst hk
  obtain ⟨i, hi, hiz, his, hib⟩ := info_parts hinfo
  have := run_make_rowN (P := P) T E i z hT hi hiz .i64 .i64 n n (Nat.le_refl _) (by rw [hib]; exact hb) h63 w
  rw [his, hz, Nat.mul_one] at this
  exact this
theorem madeCells_zero (n : Nat) : madeCells #[.int .u8 0] n = bytesA (List.replicate n 0) := by
  apply Array.toList_inj.1
  rw [toList_madeCells_one]
  simp [bytesA, byteV]
/-- An own row is read. -/
theorem Own.bs {w : World} {base : Nat} {E : TypeId} {A : Option Addr} {c : Nat} {l : List UInt8} (h : Own w base E 1 (.slice A l.length c) l.length (l.map byteV)) : BS w A l := h.bytes.1

section
variable {P : Program} {T E : TypeId} (hT : P.underlying T = some (.slice E)) (hinfo : (P.info? E).map (fun i => (i.zero, i.size, i.bytes)) = some (some (.int .u8 0), 1, 1))
include hT hinfo
/-- Own.more of bytes, with lengths that are told. -/
theorem Own.moreN {w0 w : World} {base n : Nat} {v : Value} {X : List UInt8} (ty : TypeId) (h : Own w base E 1 v n (X.map byteV)) (hb : Below base w0 w) (hbase : base ≤ w0.heap.size) (A : Option Addr) (c : Nat) (l : List UInt8) (m r : Nat) (hm : l.length = m) (hr : n + m = r) (hS : BS w A l) (hlc : m ≤ c)
    (hn : r ≤ 140737488355328) :
    ∃ A' c' w', (Builtin.append_ #[T, T] ty #[v, .slice A m c]).run P w = .ok (.slice A' r c') w' ∧ Own w' base E 1 (.slice A' r c') r ((X ++ l).map byteV) ∧ Below base w0 w' ∧ Own w' base E 1 v n (X.map byteV) := by
  subst hm hr
  obtain ⟨v', w', hr, ho, hb', _, hk⟩ := Own.more hT hinfo ty h hb hbase A c l hS hlc (by unfold maxLen; omega) hn
  obtain ⟨A', c', rfl, _⟩ := ho.slice
  exact ⟨A', c', w', hr, by rw [List.map_append]; exact ho, hb', hk⟩
end

section
variable {P : Program} {T E : TypeId} (hT : P.underlying T = some (.slice E)) (hinfo : (P.info? E).map (fun i => (i.zero, i.size, i.bytes)) = some (some (.int .u8 0), 1, 1))
include hT hinfo
/-- An append of bytes to a row: only the row is written, and where the new one lies is told. -/
theorem Own.moreX {w : World} {base n : Nat} {v : Value} {X : List UInt8} (ty : TypeId) (h : Own w base E 1 v n (X.map byteV)) (hbase : base ≤ w.heap.size) (A : Option Addr) (c : Nat) (l : List UInt8) (m r : Nat) (hm : l.length = m) (hr : n + m = r) (hS : BS w A l) (hn : r ≤ 140737488355328) :
    ∃ A' c' w', (Builtin.append_ #[T, T] ty #[v, .slice A m c]).run P w = .ok (.slice A' r c') w' ∧ Own w' base E 1 (.slice A' r c') r ((X ++ l).map byteV) ∧ Only (fun k => v.ownBlock = some k) w w' ∧
      ((Value.slice A' r c').ownBlock = v.ownBlock ∨ (Value.slice A' r c').ownBlock = some w.heap.size) := by
  subst hm hr
  obtain ⟨i, hi, hiz, his, hib⟩ := info_parts hinfo
  cases A with
  | none =>
    have hl : l = [] := by
      rcases l with _ | ⟨x, l⟩
      · rfl
      · obtain ⟨b, o, e, _⟩ := hS.addr (by simp)
        cases e
    subst hl
    obtain ⟨A', c', rfl, _⟩ := h.slice
    refine ⟨A', c', w, ?_, by simpa using h, Only.refl _ _, .inl rfl⟩
    rcases h.2 with ⟨h1, h2⟩ | ⟨g, cap, cur, h1, _, _, hnc, _⟩
    · cases h1
      simp [Builtin.append_, run_underlying hT, sizeOf, typeInfo, hi, Builtin.lenOf, Builtin.firstCells]
    · cases h1
      simp [Builtin.append_, run_underlying hT, sizeOf, typeInfo, hi, Builtin.lenOf, Builtin.firstCells, hnc, storeCells]
  | some a =>
    have hcs : ∀ j u, (l.map byteV)[j]? = some u → w.cell? (a.add j) = some u := fun j u hj => by
      have hjl : j < l.length := by
        rcases Nat.lt_or_ge j l.length with h | h
        · exact h
        · rw [List.getElem?_eq_none (by simpa using h)] at hj; cases hj
      obtain ⟨b, o, e, _, hc⟩ := hS.addr (by omega)
      injection e with e
      subst e
      rw [add_eq _ _ rfl, hc j hjl]
      rw [List.getElem?_map, List.getElem?_eq_getElem hjl] at hj
      exact hj
    have h1 : ∀ u ∈ l.map byteV, u.oneCell' = true := by
      intro u hu
      rw [List.mem_map] at hu
      obtain ⟨x, _, rfl⟩ := hu
      rfl
    obtain ⟨v', w', hr, ho, hg, _, hat⟩ := run_append_own_at (P := P) w base T ty E i (.int .u8 0) 1 1 hT hi hiz his hib rfl (by omega) v n _ h a l.length c (l.map byteV) (by simp) hcs h1 (by unfold maxLen; omega) (by omega) hbase
    obtain ⟨A', c', rfl, _⟩ := Own.slice (show Own w' base E 1 v' _ _ from ho)
    exact ⟨A', c', w', hr, by rw [List.map_append]; exact ho, ⟨hg.os, hg.tape, hg.output, hg.size, fun k hk hne => hg.block k hk (fun e => hne e.symm)⟩, hat⟩
end

section
variable {w : World} {g : Nat} {t : TypeId} {a b c d e f : Value}
theorem Blk.c1 (h : Blk w g t #[a]) : w.cell? ⟨g, 0, none⟩ = some a := h.cell 0
theorem Blk.c2 (h : Blk w g t #[a, b]) : w.cell? ⟨g, 0, none⟩ = some a ∧ w.cell? ⟨g, 1, none⟩ = some b := ⟨h.cell 0, h.cell 1⟩
theorem Blk.c3 (h : Blk w g t #[a, b, c]) : w.cell? ⟨g, 0, none⟩ = some a ∧ w.cell? ⟨g, 1, none⟩ = some b ∧ w.cell? ⟨g, 2, none⟩ = some c := ⟨h.cell 0, h.cell 1, h.cell 2⟩
theorem Blk.c4 (h : Blk w g t #[a, b, c, d]) : w.cell? ⟨g, 0, none⟩ = some a ∧ w.cell? ⟨g, 1, none⟩ = some b ∧ w.cell? ⟨g, 2, none⟩ = some c ∧ w.cell? ⟨g, 3, none⟩ = some d := ⟨h.cell 0, h.cell 1, h.cell 2, h.cell 3⟩
theorem Blk.c5 (h : Blk w g t #[a, b, c, d, e]) : w.cell? ⟨g, 0, none⟩ = some a ∧ w.cell? ⟨g, 1, none⟩ = some b ∧ w.cell? ⟨g, 2, none⟩ = some c ∧ w.cell? ⟨g, 3, none⟩ = some d ∧ w.cell? ⟨g, 4, none⟩ = some e := ⟨h.cell 0, h.cell 1, h.cell 2, h.cell 3, h.cell 4⟩
theorem Blk.c6 (h : Blk w g t #[a, b, c, d, e, f]) : w.cell? ⟨g, 0, none⟩ = some a ∧ w.cell? ⟨g, 1, none⟩ = some b ∧ w.cell? ⟨g, 2, none⟩ = some c ∧ w.cell? ⟨g, 3, none⟩ = some d ∧ w.cell? ⟨g, 4, none⟩ = some e ∧ w.cell? ⟨g, 5, none⟩ = some f := ⟨h.cell 0, h.cell 1, h.cell 2, h.cell 3, h.cell 4, h.cell 5⟩
theorem Blk.z4 (h : Blk w g t #[a, b, c, d]) : w.frozen? ⟨g, 0, none⟩ = false ∧ w.frozen? ⟨g, 1, none⟩ = false ∧ w.frozen? ⟨g, 2, none⟩ = false ∧ w.frozen? ⟨g, 3, none⟩ = false := ⟨h.frozen 0, h.frozen 1, h.frozen 2, h.frozen 3⟩
end
end Go.Proofs.Ytcdghmidpaeloaa

