/-
  Layer 8: a line's form: what it is; bytes of a string.
-/
import Derived.Test.YtdoddpigiencjaaLitD
import Derived.Test.YtdoddpigiencjaaLitM
import Derived.Test.YtdoddpigiencjaaStatM
import Derived.Laws.IdiomStrings
namespace Go.Proofs.Ytdoddpigiencjaa
set_option linter.unusedVariables false
set_option linter.unusedSimpArgs false
open Go.RowKit
def IsShort (l P : List UInt8) : Prop := IsLit l (decide (litN l true < litN l false)) P
theorem IsShort.uniq {l P Q : List UInt8} (h : IsShort l P) (k : IsShort l Q) : P = Q := IsLit.uniq h k
/-- A line: its name's and its value's bytes, and whether it is never to be kept. -/
structure Ln where
  (n v : List UInt8) (nv : Bool)
/-- The form of a field whose value is written out. -/
def IsFormF (n v : List UInt8) (mark : Nat) (L : List UInt8) : Prop := ∃ i : Nat, i ≤ 61 ∧ FstIx (prN (strB n)) (i : Int) ∧ ∃ Pn Pv, IsShort n Pn ∧ IsShort v Pv ∧ L = encL i 4 mark ++ ((if i = 0 then Pn else []) ++ Pv)
theorem IsFormF.uniq {n v : List UInt8} {mark : Nat} {L M : List UInt8} (h : IsFormF n v mark L) (k : IsFormF n v mark M) : L = M := by
  obtain ⟨i, _, hi, Pn, Pv, h1, h2, rfl⟩ := h
  obtain ⟨j, _, hj, Qn, Qv, k1, k2, rfl⟩ := k
  have e := FstIx.uniq hi hj
  have e2 : i = j := by omega
  subst e2
  rw [h1.uniq k1, h2.uniq k2]
/-- The form of a line. -/
def IsLine (x : Ln) (L : List UInt8) : Prop := ∃ (z : Nat) (ex : Bool), z ≤ 61 ∧ FdIx (strB x.n, strB x.v) (z : Int) ex ∧ if x.nv then IsFormF x.n x.v 1 L else if ex then L = encL z 7 1 else IsFormF x.n x.v 0 L
theorem IsLine.uniq {x : Ln} {L M : List UInt8} (h : IsLine x L) (k : IsLine x M) : L = M := by
  obtain ⟨z, ex, _, hz, hl⟩ := h
  obtain ⟨y, ey, _, hy, kl⟩ := k
  obtain ⟨e1, rfl⟩ := FdIx.uniq hz hy
  have e2 : z = y := by omega
  subst e2
  obtain ⟨n, v, nv⟩ := x
  cases nv with
  | true => exact IsFormF.uniq hl kl
  | false =>
    cases ex with
    | true => exact Eq.trans hl (Eq.symm kl)
    | false => exact IsFormF.uniq hl kl
theorem FstIx.nat {pr : Fld → Bool} {z : Int} (h : FstIx pr z) : ∃ i : Nat, z = (i : Int) ∧ i ≤ 61 := by
  rcases h with ⟨rfl, _⟩ | ⟨k, hk, rfl, _⟩
  · exact ⟨0, rfl, by omega⟩
  · exact ⟨k + 1, by omega, by omega⟩
theorem FdIx.nat {q : Fld} {z : Int} {ex : Bool} (h : FdIx q z ex) : ∃ i : Nat, z = (i : Int) ∧ i ≤ 61 := by
  rcases h with ⟨k, hk, rfl, _⟩ | ⟨_, _, h⟩
  · exact ⟨k + 1, by omega, by omega⟩
  · exact h.nat
/-- Bytes of a string: a row of its own. -/
theorem conv_bytes (w : World) (l : List UInt8) : ∃ (c : Nat) (W : World), (convert 9 29 (.string (strB l))).run Try.prog w = .ok (.slice (some ⟨w.heap.size, 0, none⟩) l.length c) W ∧ BS W (some ⟨w.heap.size, 0, none⟩) l ∧ l.length ≤ c ∧ Fresh w W := by
  have h := run_bytes_of_string (P := Try.prog) w 9 29 5 (strB l) Try.underlying9 Try.underlying29 Try.underlying5
  rw [strB_size] at h
  have hge := grownCap_ge w l.length 0 5
  refine ⟨_, _, h, fun hn => ⟨_, 0, rfl, ?_, fun j hj => ?_⟩, hge, (Fresh.drew w).trans (Fresh.alloc _ _)⟩
  · show _ < (w.heap.push _).size
    rw [Array.size_push]; omega
  · generalize hz : ((bytesRow (strB l) (grownCap w l.length 0 5)).size, (bytesRow (strB l) (grownCap w l.length 0 5)).size + 1) = z
    have hh : (w.drew.alloc (.cells (bytesRow (strB l) (grownCap w l.length 0 5)) 5 z)).heap[w.heap.size]? = some (.cells (bytesRow (strB l) (grownCap w l.length 0 5)) 5 z) := by
      show (w.heap.push _)[w.heap.size]? = _
      simp
    rw [Nat.zero_add]
    simp only [World.cell?, hh]
    simp [bytesRow, strB, byteV, Array.getElem?_append, hj]
end Go.Proofs.Ytdoddpigiencjaa

