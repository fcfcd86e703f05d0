/-
  Texts laid together: Stat2 Stat3 Stat4 Stat5.
-/
import Derived.Test.YtffdhegflnhfjaaStat
import Derived.RangeFuncNested
import Derived.RangeFuncBound
import Derived.RangeFuncCalls
import Derived.RangeFuncLeaves
import Derived.Shelf.Abstract
import Derived.Shelf.RegionOpen
import Derived.WalkKit
import Derived.OwnWalkIn
import Derived.TacticsInMore
import Derived.LoopNIn
import Derived.LoopIn
import Derived.RangeFuncBox
import Derived.RangeFuncWrites
import Derived.Test.YtffdhegflnhfjaaChain
import Derived.Test.YtffdhegflnhfjaaMake
import Derived.Deep.Draws
import Derived.BigQuiet
import Derived.Test.YtffdhegflnhfjaaShapeW
import Derived.Deep.RegionHeld3
/-
  Contracts of package static: the iterator over the table.
-/
namespace Go.Proofs.Ytffdhegflnhfjaa
set_option linter.unusedVariables false
open Go.RowKit Go.Shelf

attribute [local go_sem] Oper.semAt_some

abbrev Fld := ByteArray × ByteArray
def fldAt (k : Nat) : Fld := tblF.getD k (⟨#[]⟩, ⟨#[]⟩)
def fldV (p : Fld) : Value := .agg #[.string p.1, .string p.2]
def upSt (k : Nat) : List (Nat × Fld) := (List.range k).map fun j => (j, fldAt j)
theorem upSt_succ (k : Nat) : upSt (k + 1) = upSt k ++ [(k, fldAt k)] := by simp [upSt, List.range_succ]
theorem upSt_length (k : Nat) : (upSt k).length = k := by simp [upSt]
def encF (x : Nat × Fld) : Array Value := #[.int .i64 ((x.1 : Int) + 1), .agg #[.string x.2.1, .string x.2.2]]
theorem flat2_get (L : List Fld) (k : Nat) (h : k < L.length) : ((L.flatMap fldC).drop (k * 2)).take 2 = fldC L[k] := by
  induction L generalizing k with
  | nil => simp at h
  | cons p L ih =>
    cases k with
    | zero => simp [fldC]
    | succ k =>
      have h2 : (fldC p).length = 2 := rfl
      rw [List.flatMap_cons, List.drop_append, h2, show (k + 1) * 2 - 2 = k * 2 by omega, List.drop_eq_nil_of_le (by rw [h2]; omega), List.nil_append, ih k (by simpa using h)]
      simp
theorem tblF_len : tblF.length = 61 := by rfl
theorem tbl_cut (k : Nat) (hk : k < 61) : tblC.extract (k * 2) (k * 2 + 2) = #[.string (fldAt k).1, .string (fldAt k).2] := by
  have h := flat2_get tblF k (by rw [tblF_len]; exact hk)
  apply Array.toList_inj.1
  rw [Array.toList_extract]
  have e : tblC.toList = tblF.flatMap fldC := rfl
  rw [e]
  simp only [List.extract, Nat.add_sub_cancel_left]
  rw [h]
  have : fldAt k = tblF[k]'(by rw [tblF_len]; exact hk) := by simp [fldAt, tblF_len, hk]
  rw [this]
  rfl
theorem run_index_agg {P : Program} {w : World} {t e : TypeId} {n k sz : Nat} {cs : Array Value} {fs : Array Field} {i : TypeInfo} (ht : P.underlying t = some (.array n e)) (he : P.underlying e = some (.struct fs)) (hi : P.info? e = some i) (hs : i.size = sz) (hk : k < n) :
    (Instr.index t (.agg cs) (.int .i64 (k : Int))).run P w = .ok (.agg (cs.extract (k * sz) (k * sz + sz))) w := by
  have h1 : (0 : Int) ≤ (k : Int) ∧ (k : Int) < (n : Int) := by omega
  simp [Instr.index, run_underlying ht, run_underlying he, asIntOf, h1, part, isAgg, sizeOf, typeInfo, hi, hs, hk, go_sem]
theorem ix_tbl (k : Nat) (hk : k < 61) (W : World) : (Instr.index 103 (.agg tblC) (.int .i64 (k : Int))).run Try.prog W = .ok (.agg #[.string (fldAt k).1, .string (fldAt k).2]) W := by
  obtain ⟨i, hi, his⟩ : ∃ i, Try.prog.info? 46 = some i ∧ i.size = 2 := by
    have h : (Try.prog.info? 46).map (·.size) = some 2 := by kernel_rfl
    cases hh : Try.prog.info? 46 with
    | none => rw [hh] at h; cases h
    | some i => rw [hh] at h; exact ⟨i, rfl, by simpa using h⟩
  rw [run_index_agg Try.underlying103 Try.underlying46 hi his hk, tbl_cut k hk]
theorem Fresh.grown {w w' : World} (h : Fresh w w') : w.grownBy w' none := ⟨Below.os h, Below.tape h, Below.output h, Below.size h, fun k hk _ => Below.block h k hk⟩
end Go.Proofs.Ytffdhegflnhfjaa

/-
  Contracts of package static: the first entry that is as asked.
-/
namespace Go.Proofs.Ytffdhegflnhfjaa
set_option linter.unusedVariables false
open Go.RowKit Go.Shelf

attribute [local go_sem] Oper.semAt_some

def FstIx (pr : Fld → Bool) (z : Int) : Prop := (z = 0 ∧ ∀ j, j < 61 → pr (fldAt j) = false) ∨ (∃ k : Nat, k < 61 ∧ z = (k : Int) + 1 ∧ pr (fldAt k) = true ∧ ∀ j, j < k → pr (fldAt j) = false)
def FstP (pr : Fld → Bool) (w : World) (e : Ending) (w' : World) : Prop := ∃ z, e = .returned (.int .i64 z) ∧ FstIx pr z ∧ Below w.heap.size w w'
theorem Below.grown_none {B : Nat} {w W W' : World} {row : Option Nat} (h : Below B w W) (hg : W.grownBy W' row) (hr : ∀ r, row = some r → B ≤ r) (hB : B ≤ W.heap.size) : Below B w W' := h.grown hg hB hr
end Go.Proofs.Ytffdhegflnhfjaa

/-
  Contracts of package static: Get, Name, Find, Size.
-/
namespace Go.Proofs.Ytffdhegflnhfjaa
set_option linter.unusedVariables false
open Go.RowKit

theorem st_size (p : Fld) (w : World) (h1 : p.1.size ≤ 4611686018427387000) (h2 : p.2.size ≤ 4611686018427387000) :
    Calls Try.prog 16 #[.agg #[.string p.1, .string p.2]] w fun e w' => e = .returned (.int .i64 ((p.1.size : Int) + (p.2.size : Int) + 32)) ∧ Fresh w w' := by
  have e1 : IntKind.i64.wrap ((p.1.size : Int) + (p.2.size : Int)) = (p.1.size : Int) + (p.2.size : Int) := by rw [IntKind.wrap_i64]; omega
  have e2 : IntKind.i64.wrap ((p.1.size : Int) + (p.2.size : Int) + 32) = (p.1.size : Int) + (p.2.size : Int) + 32 := by rw [IntKind.wrap_i64]; omega
  go_enter Try.func16, Try.ntmps16
  go_wp2
  go_ret
  exact ⟨rfl, Fresh.alloc _ _⟩
theorem st_get_no (i : Int) (w : World) (h : i < 1 ∨ 61 < i) :
    Calls Try.prog 52 #[.int .i64 i] w fun e w' => e = .returned (.tuple #[.agg #[.string ⟨#[]⟩, .string ⟨#[]⟩], .int .i64 23]) ∧ Fresh w w' := by
  rcases h with h | h
  · go_enter Try.func52, Try.ntmps52
    go_wp2
    go_returns
    exact ⟨rfl, by repeat (first | with_reducible exact Fresh.refl _ | with_reducible apply Fresh.drewS | with_reducible apply Fresh.allocS)⟩
  · have h0 : decide (i < 1) = false := by simp; omega
    go_enter Try.func52, Try.ntmps52
    go_wp2
    go_returns
    exact ⟨rfl, by repeat (first | with_reducible exact Fresh.refl _ | with_reducible apply Fresh.drewS | with_reducible apply Fresh.allocS)⟩
theorem st_get (k : Nat) (i : Int) (w : World) (h : i = (k : Int) + 1) (hk : k < 61) :
    Calls Try.prog 52 #[.int .i64 i] w fun e w' => e = .returned (.tuple #[.agg #[.string (fldAt k).1, .string (fldAt k).2], .int .i64 0]) ∧ Fresh w w' := by
  subst h
  have d0 : decide ((k : Int) + 1 < 1) = false := by simp; omega
  have d1 : decide ((61 : Int) < (k : Int) + 1) = false := by simp; omega
  have hw : IntKind.i64.wrap ((k : Int) + 1 - 1) = (k : Int) := by rw [IntKind.wrap_i64]; omega
  have HIX := Lib.hid (ix_tbl k hk)
  generalize fldAt k = fk at *
  go_enter Try.func52, Try.ntmps52
  go_wp2_with fail
  with_reducible refine (st_table _).mono ?_
  rintro e w1 ⟨rfl, hf1⟩
  have HF := Lib.hid hf1
  have hb := (Blk.new w 46 #[.string ⟨#[]⟩, .string ⟨#[]⟩]).fresh hf1
  obtain ⟨y0, y1⟩ := hb.c2
  have z0 := hb.frozen 0
  have z1 := hb.frozen 1
  have hix := HIX.out
  clear hf1 hb
  go_wp2
  refine bodyPost_ret (v := .tuple #[.agg #[.string fk.1, .string fk.2], .int .i64 0]) (by simp [results, Try.results52, go_sem, y0, y1]) rfl ⟨rfl, ?_⟩
  have := (Fresh.alloc w (.cells #[.string ⟨#[]⟩, .string ⟨#[]⟩] 46)).trans HF.out
  repeat (first | with_reducible exact this | (with_reducible refine Fresh.step2 (Nat.le_refl _) ?_))
def NmP (nm : ByteArray) (w : World) (e : Ending) (w' : World) : Prop := ∃ z, e = .returned (.int .i64 z) ∧ FstIx (fun p => p.1.toList == nm.toList) z ∧ Fresh w w'
def prF (q : Fld) (p : Fld) : Bool := p.1.toList == q.1.toList && p.2.toList == q.2.toList
def FindP (q : Fld) (w : World) (e : Ending) (w' : World) : Prop :=
  ∃ z ex, e = .returned (.tuple #[.int .i64 z, .bool ex]) ∧ ((∃ k : Nat, k < 61 ∧ z = (k : Int) + 1 ∧ ex = true ∧ prF q (fldAt k) = true ∧ ∀ j, j < k → prF q (fldAt j) = false) ∨ (ex = false ∧ (∀ j, j < 61 → prF q (fldAt j) = false) ∧ FstIx (fun p => p.1.toList == q.1.toList) z)) ∧ Fresh w w'
theorem FstIx.at {pr : Fld → Bool} {z : Int} (h : FstIx pr z) (k : Nat) (hk : k < 61) (hy : pr (fldAt k) = true) (hn : ∀ j, j < k → pr (fldAt j) = false) : z = (k : Int) + 1 := by
  rcases h with ⟨_, hno⟩ | ⟨k', hk', rfl, hy', hn'⟩
  · rw [hno k hk] at hy; cases hy
  · rcases Nat.lt_trichotomy k k' with h | h | h
    · rw [hn' k h] at hy; cases hy
    · rw [h]
    · rw [hn k' h] at hy'; cases hy'
theorem toList_data (a : ByteArray) : a.toList = a.data.toList := ByteArray.toList_eq ..
def eqD (a b : ByteArray) : Bool := decide (a.data.toList = b.data.toList)
theorem eqD_eq (a b : ByteArray) : (a.toList == b.toList) = eqD a b := by
  rw [toList_data, toList_data, eqD]
  rw [Bool.eq_iff_iff]
  simp only [beq_iff_eq, decide_eq_true_eq]
end Go.Proofs.Ytffdhegflnhfjaa

/-
  The law StaticSizes.
-/
namespace Go.Proofs.Ytffdhegflnhfjaa
set_option maxRecDepth 100000
set_option linter.unusedVariables false
open Go.RowKit Go.ChangeShapes Go.WideShapes Go.Deep

theorem opens_field : Opens Try.prog 46 (fun w cs => ∃ p : Fld, cs = fldC p ∧ p.1.size ≤ maxLen ∧ p.2.size ≤ maxLen) :=
  (opens_struct (sz := 2) [(0, 1, QStr), (1, 1, QStr)] Try.underlying46 (by kernel_rfl) (by
    intro p hp
    simp only [List.mem_cons, List.not_mem_nil, or_false] at hp
    rcases hp with rfl | rfl
    · exact ⟨0, _, rfl, rfl, by kernel_rfl, opens_str Try.underlying9⟩
    · exact ⟨1, _, rfl, rfl, by kernel_rfl, opens_str Try.underlying9⟩)).mono (by
    intro w cs ⟨hl, h⟩
    match cs, hl with
    | [c0, c1], _ =>
      obtain ⟨s0, e0, l0⟩ := h _ (List.mem_cons_self ..)
      obtain ⟨s1, e1, l1⟩ := h _ (List.mem_cons_of_mem _ (List.mem_cons_self ..))
      simp at e0 e1
      subst e0 e1
      exact ⟨(s0, s1), rfl, l0, l1⟩)
structure FldsV where
  (A : Option Addr) (c : Nat) (xs : List Fld)
structure FldsV.Ok (w : World) (s : FldsV) : Prop where
  le : s.xs.length ≤ s.c
  max : s.c ≤ maxLen
  rows : Many fldC 2 w s.A s.xs
section
variable {H : Type} {enc : TypeId × Value → H} {w : World} {base : Nat} {spare : Nat → Bool} {held : Bool} {v : Value} {d : DataW H} {p : List MemPlace} {r : Reach} {b0 : Nat}
theorem open_field (hv : Value.okWide Try.prog w r b0 46 v) (hd : DataW.Trod enc Try.prog w base spare held 46 v d p) :
    ∃ q : Fld, v = .agg #[.string q.1, .string q.2] ∧ q.1.size ≤ maxLen ∧ q.2.size ≤ maxLen := by
  obtain ⟨cs, rfl, f, hc, hf⟩ := opens_field.agg Try.underlying46 hv hd
  refine ⟨f, ?_, hf⟩
  congr 1
  apply Array.toList_inj.1
  rw [hc]
  rfl
theorem open_fields (hv : Value.okWide Try.prog w r b0 43 v) (hd : DataW.Trod enc Try.prog w base spare held 43 v d p) :
    ∃ s : FldsV, v = .slice s.A s.xs.length s.c ∧ s.Ok w := by
  have h := (opens_slice (sz := 2) Try.underlying43 opens_field (by kernel_rfl) (by omega)).sl Try.underlying43 hv hd
  obtain ⟨A, xs, c, e, h1, h2, h3, _⟩ := h.rows (R := fun _ _ => True) (f := fldC) (fun _ ⟨q, e, _⟩ => ⟨q, e, trivial⟩)
  simp at e
  exact ⟨⟨A, c, xs⟩, e, h1, h2, h3⟩
end
theorem Many.at2 {w : World} {A : Option Addr} {xs : List Fld} (h : Many fldC 2 w A xs) (k : Nat) (x : Fld) (hx : xs[k]? = some x) :
    ∃ b o, A = some ⟨b, o, none⟩ ∧ b < w.heap.size ∧ w.cell? ⟨b, o + k * 2, none⟩ = some (.string x.1) ∧ w.cell? ⟨b, o + k * 2 + 1, none⟩ = some (.string x.2) := by
  obtain ⟨hk, rfl⟩ := List.getElem?_eq_some_iff.1 hx
  obtain ⟨b, o, e, hb, hc⟩ := h (by omega)
  exact ⟨b, o, e, hb, hc k hk 0 (by omega), hc k hk 1 (by omega)⟩
theorem wrap_eq64 (n : Int) : IntKind.i64.wrap n = wrap64 n := by
  unfold wrap64
  exact IntKind.wrap_i64 n
def szF (p : Fld) : Int := wrap64 (wrap64 ((p.1.size : Int) + (p.2.size : Int)) + 32)
theorem st_sizeW (p : Fld) (z : Int) (hz : szF p = z) (w : World) :
    Calls Try.prog 16 #[.agg #[.string p.1, .string p.2]] w fun e w' => e = .returned (.int .i64 z) ∧ Fresh w w' := by
  subst hz
  unfold szF
  go_enter Try.func16, Try.ntmps16
  go_wp2
  go_ret
  exact ⟨rfl, Fresh.alloc _ _⟩
def sumF (xs : List Fld) : Int := xs.foldl (fun n p => wrap64 (n + szF p)) 0
theorem sumF_succ (xs : List Fld) (k : Nat) (p : Fld) (h : xs[k]? = some p) : sumF (xs.take (k + 1)) = wrap64 (sumF (xs.take k) + szF p) := by
  obtain ⟨hk, rfl⟩ := List.getElem?_eq_some_iff.1 h
  rw [List.take_succ_eq_append_getElem hk, sumF, List.foldl_append]
  rfl
def LwP (w : World) (e : Ending) (w' : World) : Prop := e = .returned (.bool true) ∧ Fresh w w'
end Go.Proofs.Ytffdhegflnhfjaa

