/-
  Words on bytes: a slice of bytes read as a list; its text.
-/
import Derived.Test.YtcdghmidpaeloaaOpen
import Derived.Laws.BytesArg
import Derived.Laws.IdiomStrings
import Derived.Laws.CopyOwn
import Derived.Deep.OwnRows
import Derived.IntWalk
namespace Go.Proofs.Ytcdghmidpaeloaa
set_option linter.unusedVariables false
open Go.RowKit

def byteV (x : UInt8) : Value := .int .u8 (x.toNat : Int)
def bytesA (l : List UInt8) : Array Value := (l.map byteV).toArray
theorem bytesA_size (l : List UInt8) : (bytesA l).size = l.length := by simp [bytesA]
theorem bytesA_get (l : List UInt8) (i : Nat) : (bytesA l)[i]? = (l[i]?).map byteV := by simp [bytesA]
/-- The string of bytes. -/
def strB (l : List UInt8) : ByteArray := ⟨l.toArray⟩
theorem strB_size (l : List UInt8) : (strB l).size = l.length := by simp [strB, ByteArray.size]
theorem strB_data (l : List UInt8) : (strB l).data.toList = l := rfl
theorem strB_ext (s : ByteArray) : strB s.data.toList = s := rfl

theorem strB_append (a b : List UInt8) : strB a ++ strB b = strB (a ++ b) := by
  apply ByteArray.ext
  rw [ByteArray.data_append]
  simp [strB]
theorem strB_inj {a b : List UInt8} (h : strB a = strB b) : a = b := by
  have := congrArg (fun s : ByteArray => s.data.toList) h
  simpa [strB] using this

/-- The slice at A holds just these bytes. -/
def BS (w : World) (A : Option Addr) (l : List UInt8) : Prop :=
  0 < l.length → ∃ b o, A = some ⟨b, o, none⟩ ∧ b < w.heap.size ∧ ∀ j (h : j < l.length), w.cell? ⟨b, o + j, none⟩ = some (byteV l[j])
theorem BS.nil (w : World) (A : Option Addr) : BS w A [] := fun h => absurd h (by simp)
theorem BS.fresh {w w' : World} {A : Option Addr} {l : List UInt8} (h : BS w A l) (hf : Fresh w w') : BS w' A l := fun hn => by
  obtain ⟨b, o, e, hb, hc⟩ := h hn
  exact ⟨b, o, e, by have := hf.size; omega, fun j hj => (hf.cell (p := ⟨b, _, none⟩) hb).trans (hc j hj)⟩
theorem BS.only {w w' : World} {S : Nat → Prop} {A : Option Addr} {l : List UInt8} (h : BS w A l) (hf : Only S w w') (hs : ∀ b o, A = some ⟨b, o, none⟩ → ¬ S b) : BS w' A l := fun hn => by
  obtain ⟨b, o, e, hb, hc⟩ := h hn
  exact ⟨b, o, e, by have := hf.size; omega, fun j hj => (hf.cell (p := ⟨b, _, none⟩) hb (hs b o e)).trans (hc j hj)⟩
theorem BS.drew_ {w : World} {A : Option Addr} {l : List UInt8} (h : BS w A l) : BS w.drew A l := h.fresh (Fresh.drew w)
theorem BS.row {w : World} {g : Nat} {t : TypeId} {l : List UInt8} (h : Blk w g t (bytesA l)) : BS w (some ⟨g, 0, none⟩) l := fun hn =>
  ⟨g, 0, rfl, h.lt, fun j hj => by rw [Nat.zero_add, h.cell, bytesA_get, List.getElem?_eq_getElem hj]; rfl⟩
theorem BS.take {w : World} {A : Option Addr} {l : List UInt8} (h : BS w A l) (n : Nat) : BS w A (l.take n) := fun hn => by
  obtain ⟨b, o, e, hb, hc⟩ := h (by simp at hn; omega)
  exact ⟨b, o, e, hb, fun j hj => by rw [hc j (by simp at hj; omega)]; simp⟩
theorem BS.drop {w : World} {b o : Nat} {l : List UInt8} (h : BS w (some ⟨b, o, none⟩) l) (n : Nat) : BS w (some ⟨b, o + n, none⟩) (l.drop n) := fun hn => by
  obtain ⟨b', o', e, hb, hc⟩ := h (by simp at hn; omega)
  simp only [Option.some.injEq, Addr.mk.injEq, and_true] at e
  obtain ⟨rfl, rfl⟩ := e
  refine ⟨b, o + n, rfl, hb, fun j hj => ?_⟩
  rw [Nat.add_assoc, hc (n + j) (by simp at hj; omega)]
  simp
theorem BS.addr {w : World} {A : Option Addr} {l : List UInt8} (h : BS w A l) (hn : 0 < l.length) : ∃ b o, A = some ⟨b, o, none⟩ ∧ b < w.heap.size ∧ ∀ j (h : j < l.length), w.cell? ⟨b, o + j, none⟩ = some (byteV l[j]) := h hn

/-- string(b). -/
theorem run_str {P : Program} {w : World} {A : Option Addr} {l : List UInt8} (h : BS w A l) (src dst e : TypeId) (hs : P.underlying src = some (.slice e)) (he : P.underlying e = some (.int .u8)) (hd : P.underlying dst = some .string) (c : Nat) :
    (convert src dst (.slice A l.length c)).run P w = .ok (.string (strB l)) w := by
  rcases A with _ | a
  · have hl : l = [] := by
      cases l with
      | nil => rfl
      | cons x l => obtain ⟨b, o, e, _⟩ := h (by simp); cases e
    subst hl
    exact run_convert_bytes_nil w src e hs he 0 c dst hd
  · refine run_convert_bytes_back w src dst e a c l hs he hd fun j hj => ?_
    obtain ⟨b, o, e, hb, hc⟩ := h (by omega)
    cases e
    rw [add_eq _ _ rfl]
    exact hc j hj

/-- The address behind a cut, elements of one cell. -/
def cutA (A : Option Addr) (n c : Nat) : Option Addr := if c = n then A else A.map (·.add n)
theorem cutA_some (b o n c : Nat) (h : n < c) : cutA (some ⟨b, o, none⟩) n c = some ⟨b, o + n, none⟩ := by
  unfold cutA
  rw [if_neg (by omega)]
  simp [add_eq]
theorem cutA_zero (A : Option Addr) (c : Nat) : cutA A 0 c = A := by
  unfold cutA
  split
  · rfl
  · cases A <;> simp [Addr.add]
section
variable {P : Program} {T E : TypeId} (hT : P.underlying T = some (.slice E)) (hE : ∀ W : World, (Go.sizeOf E).run P W = .ok 1 W)
include hT hE
/-- s[:n:n] -/
theorem run_cut_full (A : Option Addr) (l c n : Nat) (hn : n ≤ c) (W : World) : (Instr.slice T (.slice A l c) none (some (.int .i64 (n : Int))) (some (.int .i64 (n : Int)))).run P W = .ok (.slice A n n) W := by
  have he : P.elem T = E := by simp [Program.elem, hT]
  rw [run_slice_hm (P := P) W T A l c (by rw [he]; exact hT) .i64 .i64 n n (by omega) (by omega) (by omega), he, hE]
  have h0 := cutA_zero A n
  unfold cutA at h0
  simp [sliced, Result.andThen]
  intro hn0
  cases A <;> simp [Addr.add]
/-- s[n:] -/
theorem run_cut_from (A : Option Addr) (l c n : Nat) (hn : n ≤ l) (W : World) : (Instr.slice T (.slice A l c) (some (.int .i64 (n : Int))) none none).run P W = .ok (.slice (cutA A n c) (l - n) (c - n)) W := by
  have he : P.elem T = E := by simp [Program.elem, hT]
  rw [run_slice_l (P := P) W T A l c (by rw [he]; exact hT) .i64 n (by omega) (by omega), he, hE]
  simp [sliced, cutA, Result.andThen]
/-- s[:n] -/
theorem run_cut_to (A : Option Addr) (l c n : Nat) (hn : n ≤ c) (W : World) : (Instr.slice T (.slice A l c) none (some (.int .i64 (n : Int))) none).run P W = .ok (.slice A n c) W := by
  have he : P.elem T = E := by simp [Program.elem, hT]
  rw [run_slice_h (P := P) W T A l c (by rw [he]; exact hT) .i64 n (by omega) (by omega), he, hE]
  simp [sliced, Result.andThen]
  intro hn0
  cases A <;> simp [Addr.add]
/-- s[m:n] -/
theorem run_cut_mid (A : Option Addr) (l c m n : Nat) (hm : m ≤ n) (hn : n ≤ c) (W : World) : (Instr.slice T (.slice A l c) (some (.int .i64 (m : Int))) (some (.int .i64 (n : Int))) none).run P W = .ok (.slice (cutA A m c) (n - m) (c - m)) W := by
  have he : P.elem T = E := by simp [Program.elem, hT]
  rw [run_slice_lh (P := P) W T A l c (by rw [he]; exact hT) .i64 .i64 m n (by omega) (by omega) (by omega), he, hE]
  simp [sliced, cutA, Result.andThen]
end
theorem BS.cut {w : World} {A : Option Addr} {l : List UInt8} (h : BS w A l) (n c : Nat) (hc : l.length ≤ c) : BS w (cutA A n c) (l.drop n) := fun hn => by
  have hl : n < l.length := by simp at hn; omega
  obtain ⟨b, o, rfl, hb, hcs⟩ := h (by omega)
  rw [cutA_some _ _ _ _ (by omega)]
  exact (BS.drop (show BS w (some ⟨b, o, none⟩) l from fun _ => ⟨b, o, rfl, hb, hcs⟩) n) (by simp; omega)

/-- cs laid over the cells from place o on. -/
def over (cur : Array Value) (o : Nat) (cs : List Value) : Array Value := (cur.toList.take o ++ cs ++ cur.toList.drop (o + cs.length)).toArray
theorem over_size (cur : Array Value) (o : Nat) (cs : List Value) (h : o + cs.length ≤ cur.size) : (over cur o cs).size = cur.size := by
  unfold over
  simp
  omega
theorem over_all (cur : Array Value) (cs : List Value) (h : cs.length = cur.size) : over cur 0 cs = cs.toArray := by
  unfold over
  have : cur.toList.drop (0 + cs.length) = [] := List.drop_eq_nil_of_le (by simp; omega)
  rw [this]
  simp
theorem run_copy_bs {P : Program} {W : World} {A : Option Addr} {l : List UInt8} (h : BS W A l) (T E ty : TypeId) (hu : P.underlying T = some (.slice E)) (hs : (P.info? E).map (·.size) = some 1)
    (g o dLen dCap c : Nat) (cur : Array Value) (t : TypeId) (hg : Blk W g t cur) (hl : l.length ≤ dLen) (hfit : o + l.length ≤ cur.size) (D : Option Addr) (hD : 0 < l.length → D = some ⟨g, o, none⟩) :
    ∃ W', (Builtin.copy_ #[T, T] ty #[.slice D dLen dCap, .slice A l.length c]).run P W = .ok (.int .i64 (l.length : Int)) W' ∧ Blk W' g t (over cur o (l.map byteV)) ∧ Only (· = g) W W' ∧ W'.heap.size = W.heap.size := by
  by_cases h0 : l.length = 0
  · have hl0 : l = [] := List.eq_nil_of_length_eq_zero h0
    subst hl0
    refine ⟨W, run_copy_none W T T ty E D A dLen dCap 0 c hu hs (by simp), ?_, Only.refl _ _, rfl⟩
    have : over cur o (([] : List UInt8).map byteV) = cur := by
      unfold over
      simp
    rw [this]
    exact hg
  · obtain ⟨b, o', rfl, hb, hcs⟩ := h.addr (by omega)
    rw [hD (by omega)]
    refine ⟨_, (run_copy_row P W T T ty E g o dLen dCap ⟨b, o', none⟩ l.length c cur t (l.map byteV) hu hs hg (by simp [Nat.min_eq_left hl]) (fun j v hj => ?_) (by simpa using hfit) (fun v hv => ?_)).trans (by simp [goInt]; rfl), ?_, ?_, by simp⟩
    · have hjl : j < l.length := by
        have := (List.getElem?_eq_some_iff.1 hj).1
        simpa using this
      rw [add_eq _ _ rfl, hcs j hjl, ← hj]
      simp [hjl]
    · obtain ⟨x, _, rfl⟩ := List.mem_map.1 hv; rfl
    · have h' : W.heap[g]? = some (.cells cur t (0, 0)) := hg
      show (W.setRow g _).heap[g]? = _
      simp [World.setRow, Array.getElem?_modify, h', over]
    · exact ⟨rfl, rfl, rfl, by simp [World.setRow], fun k _ hk => setRow_other W g k _ hk⟩

theorem byte_mk (z : Int) (h0 : 0 ≤ z) (h1 : z < 256) : Value.int .u8 z = byteV (UInt8.ofNat z.toNat) := by
  unfold byteV
  congr 1
  simp
  omega

section
variable {H : Type} {enc : TypeId × Value → H} {P : Program} {w : World} {base : Nat} {spare : Nat → Bool} {held : Bool}
open Go.ChangeShapes Go.WideShapes
theorem wf_u8_bd {n : Int} (h : (Lit.int .u8 n).wf = true) : 0 ≤ n ∧ n ≤ 255 := by
  have := bounds_u8 h
  exact this
/-- Opening an argument that is a slice of bytes. -/
theorem open_bytes {t e : TypeId} {v : Value} {d : DataW H} {p : List MemPlace} {r : Reach} {b0 : Nat} (ht : P.underlying t = some (.slice e)) (he : P.underlying e = some (.int .u8)) (hC : P.cellsOf e = 1)
    (hv : Value.okWide P w r b0 t v) (h : DataW.Trod enc P w base spare held t v d p) :
    ∃ A l c, v = .slice A l.length c ∧ l.length ≤ c ∧ c ≤ maxLen ∧ BS w A l := by
  obtain ⟨A, n, c, rfl⟩ := okWide_slice ht hv
  obtain ⟨fuel, hf⟩ := h
  rcases open_ints ht he hC hf with ⟨hcs, _⟩ | ⟨x, l, c', zs, hcs, _, hl, hm, hz, _, hcell, hwz⟩
  · simp [Value.cells] at hcs
    obtain ⟨rfl, rfl, rfl⟩ := hcs
    exact ⟨none, [], 0, rfl, by simp, by simp [maxLen], BS.nil _ _⟩
  · simp [Value.cells] at hcs
    obtain ⟨rfl, rfl, rfl⟩ := hcs
    have hz' : n ≤ zs.length := by rw [hz]; split <;> omega
    refine ⟨some x, (zs.take n).map fun z => UInt8.ofNat z.toNat, c, ?_, ?_, hm, fun hn => ?_⟩
    · simp [Nat.min_eq_left hz']
    · simp [Nat.min_eq_left hz']; exact hl
    · simp [Nat.min_eq_left hz'] at hn
      have h0 := hcell 0 (by omega)
      have hsp : x.spot = none := by
        have := World.cell?_spot h0
        unfold Addr.add at this
        split at this <;> simp_all
      rw [add_eq x _ hsp] at h0
      refine ⟨x.block, x.off, ?_, cell_block_lt (a := ⟨x.block, _, none⟩) h0, fun j hj => ?_⟩
      · obtain ⟨b, o, s⟩ := x
        simp only at hsp
        subst hsp
        rfl
      · simp [Nat.min_eq_left hz'] at hj
        rw [← add_eq x _ hsp, hcell j (by omega)]
        have hjl : j < zs.length := by omega
        have hb := wf_u8_bd (hwz zs[j] (List.getElem_mem hjl))
        rw [show zs.getD j 0 = zs[j] by simp [List.getD, List.getElem?_eq_getElem hjl]]
        rw [byte_mk _ hb.1 (by omega)]
        simp
end
end Go.Proofs.Ytcdghmidpaeloaa

