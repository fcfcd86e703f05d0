/-
  Package dyn: what a table is; slices.Delete on a row of fields.
-/
import Derived.Test.YthjajipagfojoaaOwn
import Derived.Test.YthjajipagfojoaaMore
import Derived.Test.YthjajipagfojoaaMake
import Derived.Test.YthjajipagfojoaaRet
import Derived.Test.YthjajipagfojoaaGen
import Derived.Lib.SliceRun
import Derived.Deep.RegionLaw
import Derived.Shelf.RegionOpenPlain
namespace Go.Proofs.Ythjajipagfojoaa
set_option linter.unusedVariables false
set_option linter.unusedSimpArgs false
open Go.RowKit

abbrev FldT := ByteArray × ByteArray
def fldD (p : FldT) : List Value := [.string p.1, .string p.2]
def rowD (l : List FldT) : List Value := l.flatMap fldD
def fz (p : FldT) : Nat := p.1.size + p.2.size + 32
def tz (l : List FldT) : Nat := (l.map fz).sum
/-- How many of the oldest go. -/
def goneN : List FldT → Int → Nat
  | [], _ => 0
  | f :: r, room => if room < (tz (f :: r) : Int) then goneN r room + 1 else 0
theorem rowD_length (l : List FldT) : (rowD l).length = l.length * 2 := by
  induction l with
  | nil => rfl
  | cons f r ih => simp only [rowD, List.flatMap_cons, List.length_append, List.length_cons] at ih ⊢; rw [ih]; simp [fldD]; omega
theorem rowD_drop (l : List FldT) (j : Nat) : (rowD l).drop (j * 2) = rowD (l.drop j) := by
  induction l generalizing j with
  | nil => simp [rowD]
  | cons f r ih =>
    cases j with
    | zero => simp
    | succ j =>
      have := ih j
      simp only [rowD, List.flatMap_cons, List.drop_succ_cons] at this ⊢
      rw [← this]
      simp [fldD, Nat.succ_mul]
theorem tz_cons (f : FldT) (r : List FldT) : tz (f :: r) = fz f + tz r := by simp [tz]
theorem tz_append (a b : List FldT) : tz (a ++ b) = tz a + tz b := by simp [tz]
theorem goneN_le (l : List FldT) (room : Int) : goneN l room ≤ l.length := by
  induction l with
  | nil => simp [goneN]
  | cons f r ih => unfold goneN; split <;> simp; omega
theorem fld_one (l : List FldT) : ∀ u ∈ rowD l, u.oneCell' = true := by
  intro u hu
  simp only [rowD, List.mem_flatMap, fldD, List.mem_cons, List.not_mem_nil, or_false] at hu
  obtain ⟨p, _, rfl | rfl⟩ := hu <;> rfl
/-! Cells in a row. -/
def setL (cur : Array Value) (o : Nat) : List Value → Array Value
  | [] => cur
  | v :: r => setL (cur.setIfInBounds o v) (o + 1) r
theorem setL_size : ∀ (vs : List Value) (cur : Array Value) (o : Nat), (setL cur o vs).size = cur.size
  | [], _, _ => rfl
  | v :: r, cur, o => by rw [setL, setL_size r]; simp
theorem setL_get : ∀ (vs : List Value) (cur : Array Value) (o i : Nat), o + vs.length ≤ cur.size → (setL cur o vs)[i]? = if o ≤ i ∧ i < o + vs.length then vs[i - o]? else cur[i]?
  | [], cur, o, i, _ => by simp [setL]; intro h1 h2; omega
  | v :: r, cur, o, i, h => by
    rw [setL, setL_get r _ _ _ (by simp at h ⊢; omega)]
    simp only [List.length_cons] at h ⊢
    by_cases h1 : o + 1 ≤ i ∧ i < o + 1 + r.length
    · rw [if_pos h1, if_pos (by omega), show i - o = (i - (o + 1)) + 1 by omega]
      rfl
    · rw [if_neg h1]
      by_cases h2 : i = o
      · subst h2
        rw [if_pos (by omega)]
        simp [show i < cur.size by omega]
      · rw [if_neg (by omega)]
        rw [Array.getElem?_setIfInBounds_ne (fun e => h2 e.symm)]
theorem Blk.setCells {g : Nat} {t : TypeId} : ∀ (vs : List Value) {w : World} {cur : Array Value} (o : Nat), Blk w g t cur → Blk (w.setCells g o vs) g t (setL cur o vs)
  | [], _, _, _, h => h
  | v :: r, _, _, o, h => Blk.setCells r (o + 1) (h.set o v)
theorem Only.setCells (g : Nat) : ∀ (vs : List Value) (w : World) (o : Nat), Only (· = g) w (w.setCells g o vs)
  | [], w, _ => Only.refl _ w
  | v :: r, w, o => (Only.setCell w ⟨g, o, none⟩ v).trans (Only.setCells g r _ (o + 1))
/-- The row when its first j elements of two cells are gone, and the rest is laid to the front. -/
theorem setL_front (cur : Array Value) (xs z : List Value) (n j : Nat) (hx : cur.toList.take n = xs) (hxn : xs.length = n) (hc : n ≤ cur.size) (hj : j ≤ n) (hz : z.length = j) :
    (setL (setL cur 0 (xs.drop j)) (n - j) z).toList.take (n - j) = xs.drop j := by
  apply List.ext_getElem?
  intro i
  rw [List.getElem?_take]
  have l1 : (xs.drop j).length = n - j := by simp [hxn]
  by_cases hi : i < n - j
  · rw [if_pos hi, Array.getElem?_toList, setL_get _ _ _ _ (by rw [setL_size, hz]; omega), if_neg (by omega), setL_get _ _ _ _ (by rw [l1]; omega), if_pos (by rw [l1]; omega), Nat.sub_zero]
  · rw [if_neg hi, List.getElem?_eq_none (by rw [l1]; omega)]

section
variable {P : Program}
/-- clear(s), whatever the elements. -/
theorem run_clear_any (w : World) (t e ty : TypeId) (z : Value) (vs : List Value) (ht : P.underlying t = some (.slice e)) (hv : ∀ w, (zeroValue e).run P w = .ok z w) (b o n c : Nat) (hn : 0 < n) (hvs : (Builtin.zeroCells z.cells n).toList = vs) (h1 : ∀ v ∈ vs, v.oneCell' = true)
    (hc : ∀ j, j < vs.length → (w.cell? ⟨b, o + j, none⟩).isSome = true) (hf : ∀ j, j < vs.length → w.frozen? ⟨b, o + j, none⟩ = false) :
    (Builtin.clear_ #[t] ty #[.slice (some ⟨b, o, none⟩) n c]).run P w = .ok (.tuple #[]) (w.setCells b o vs) := by
  have hst := run_storeCells_cells (P := P) b o vs 0 w (by simpa using hc) (by simpa using hf) h1
  simp only [Nat.add_zero] at hst
  obtain ⟨m, rfl⟩ : ∃ m, n = m + 1 := ⟨n - 1, by omega⟩
  simp [Builtin.clear_, run_underlying ht, hv, hvs, hst]
end
/-! A table. -/
structure TabAt (w : World) (base p : Nat) (v : Value) (fs : List FldT) (lim : Int) : Prop where
  blk : Blk w p 60 #[v, .int .i64 (tz fs), .int .i64 lim]
  own : Own w base 31 2 v fs.length (rowD fs)
def DelP (w : World) (base : Nat) (v : Value) (fs : List FldT) (j : Nat) (e : Ending) (w' : World) : Prop :=
  ∃ v', e = .returned v' ∧ Own w' base 31 2 v' (fs.length - j) (rowD (fs.drop j)) ∧ v'.ownBlock = v.ownBlock ∧ Only (fun k => v.ownBlock = some k) w w'
theorem fld_info : (Try.prog.info? 31).map (fun i => (i.zero, i.size, i.bytes)) = some (some (.agg #[.string ByteArray.empty, .string ByteArray.empty]), 2, 32) := by kernel_rfl
end Go.Proofs.Ythjajipagfojoaa
