/-
  Texts laid together: Stat Stat2 Stat3 Stat4 Stat5 Stat6.
-/
import Derived.Test.YtginhebfjbhmnaaGreatG03
import Derived.Handy
import Derived.Deep.Cut
import Derived.Laws.Tables
import Derived.RangeFuncNested
import Derived.RangeFuncBound
import Derived.RangeFuncCalls
import Derived.RangeFuncLeaves
import Derived.Shelf.Abstract
import Derived.Shelf.RegionOpen
import Derived.WalkKit
import Derived.OwnWalkIn
import Derived.TacticsInMore
import Derived.LoopNIn
import Derived.LoopIn
import Derived.RangeFuncBox
import Derived.RangeFuncWrites
import Derived.Test.YtginhebfjbhmnaaGreatG05
import Derived.Deep.Draws
import Derived.BigQuiet
import Derived.Test.YtginhebfjbhmnaaGreatG17
import Derived.Deep.RegionHeld3
/-
  Contracts of package static: the table.
-/
namespace Go.Proofs.YtginhebfjbhmnaaGreat
set_option maxRecDepth 100000
set_option linter.unusedVariables false
open Go.RowKit

/-- What a row of literals makes, with no look at the world. -/
def pureStep (P : Program) (a : Act) (o : Oper) : Option Act :=
  match o.guard, o.op with
  | none, .build t parts => (P.built t (parts.map fun (i, x) => (i, a.eval x)).toList).map fun cs => a.put o.dst (.agg cs)
  | _, _ => none
def pureRun (P : Program) : Act → List Oper → Option Act
  | a, [] => some a
  | a, o :: l => match pureStep P a o with
    | some a' => pureRun P a' l
    | none => none
theorem wpList_pures {P : Program} {ops : Array Oper} {Q : Exit → Act → World → Prop} {w : World} {rest : List Oper} : ∀ (l : List Oper) (a a' : Act), pureRun P a l = some a' → wpList P ops Q rest a' w → wpList P ops Q (l ++ rest) a w
  | [], a, a', h, hr => by
    cases h
    exact hr
  | o :: l, a, a', h, hr => by
    unfold pureRun at h
    cases hs : pureStep P a o with
    | none => rw [hs] at h; cases h
    | some b =>
      rw [hs] at h
      have ih := wpList_pures l b a' h hr
      unfold pureStep at hs
      split at hs
      · rename_i t parts hg ho
        cases hb : P.built t (parts.map fun (i, x) => (i, a.eval x)).toList with
        | none => rw [hb] at hs; cases hs
        | some cs =>
          rw [hb] at hs
          cases hs
          rw [List.cons_append]
          refine wpList_build hg t parts ho (by rw [hb]; rfl) ?_
          rw [hb]
          exact ih
      · cases hs
theorem wpList_part {P : Program} {ops : Array Oper} {Q : Exit → Act → World → Prop} {w : World} {a : Act} (n : Nat) (l : List Oper) (a' : Act) (h : pureRun P a (l.take n) = some a') (hr : wpList P ops Q (l.drop n) a' w) : wpList P ops Q l a w := by
  have := wpList_pures (ops := ops) (Q := Q) (w := w) (rest := l.drop n) (l.take n) a a' h hr
  rwa [List.take_append_drop] at this
def tblF : List (ByteArray × ByteArray) := [
  (⟨#[58, 97, 117, 116, 104, 111, 114, 105, 116, 121]⟩, ⟨#[]⟩),
  (⟨#[58, 109, 101, 116, 104, 111, 100]⟩, ⟨#[71, 69, 84]⟩),
  (⟨#[58, 109, 101, 116, 104, 111, 100]⟩, ⟨#[80, 79, 83, 84]⟩),
  (⟨#[58, 112, 97, 116, 104]⟩, ⟨#[47]⟩),
  (⟨#[58, 112, 97, 116, 104]⟩, ⟨#[47, 105, 110, 100, 101, 120, 46, 104, 116, 109, 108]⟩),
  (⟨#[58, 115, 99, 104, 101, 109, 101]⟩, ⟨#[104, 116, 116, 112]⟩),
  (⟨#[58, 115, 99, 104, 101, 109, 101]⟩, ⟨#[104, 116, 116, 112, 115]⟩),
  (⟨#[58, 115, 116, 97, 116, 117, 115]⟩, ⟨#[50, 48, 48]⟩),
  (⟨#[58, 115, 116, 97, 116, 117, 115]⟩, ⟨#[50, 48, 52]⟩),
  (⟨#[58, 115, 116, 97, 116, 117, 115]⟩, ⟨#[50, 48, 54]⟩),
  (⟨#[58, 115, 116, 97, 116, 117, 115]⟩, ⟨#[51, 48, 52]⟩),
  (⟨#[58, 115, 116, 97, 116, 117, 115]⟩, ⟨#[52, 48, 48]⟩),
  (⟨#[58, 115, 116, 97, 116, 117, 115]⟩, ⟨#[52, 48, 52]⟩),
  (⟨#[58, 115, 116, 97, 116, 117, 115]⟩, ⟨#[53, 48, 48]⟩),
  (⟨#[97, 99, 99, 101, 112, 116, 45, 99, 104, 97, 114, 115, 101, 116]⟩, ⟨#[]⟩),
  (⟨#[97, 99, 99, 101, 112, 116, 45, 101, 110, 99, 111, 100, 105, 110, 103]⟩, ⟨#[103, 122, 105, 112, 44, 32, 100, 101, 102, 108, 97, 116, 101]⟩),
  (⟨#[97, 99, 99, 101, 112, 116, 45, 108, 97, 110, 103, 117, 97, 103, 101]⟩, ⟨#[]⟩),
  (⟨#[97, 99, 99, 101, 112, 116, 45, 114, 97, 110, 103, 101, 115]⟩, ⟨#[]⟩),
  (⟨#[97, 99, 99, 101, 112, 116]⟩, ⟨#[]⟩),
  (⟨#[97, 99, 99, 101, 115, 115, 45, 99, 111, 110, 116, 114, 111, 108, 45, 97, 108, 108, 111, 119, 45, 111, 114, 105, 103, 105, 110]⟩, ⟨#[]⟩),
  (⟨#[97, 103, 101]⟩, ⟨#[]⟩),
  (⟨#[97, 108, 108, 111, 119]⟩, ⟨#[]⟩),
  (⟨#[97, 117, 116, 104, 111, 114, 105, 122, 97, 116, 105, 111, 110]⟩, ⟨#[]⟩),
  (⟨#[99, 97, 99, 104, 101, 45, 99, 111, 110, 116, 114, 111, 108]⟩, ⟨#[]⟩),
  (⟨#[99, 111, 110, 116, 101, 110, 116, 45, 100, 105, 115, 112, 111, 115, 105, 116, 105, 111, 110]⟩, ⟨#[]⟩),
  (⟨#[99, 111, 110, 116, 101, 110, 116, 45, 101, 110, 99, 111, 100, 105, 110, 103]⟩, ⟨#[]⟩),
  (⟨#[99, 111, 110, 116, 101, 110, 116, 45, 108, 97, 110, 103, 117, 97, 103, 101]⟩, ⟨#[]⟩),
  (⟨#[99, 111, 110, 116, 101, 110, 116, 45, 108, 101, 110, 103, 116, 104]⟩, ⟨#[]⟩),
  (⟨#[99, 111, 110, 116, 101, 110, 116, 45, 108, 111, 99, 97, 116, 105, 111, 110]⟩, ⟨#[]⟩),
  (⟨#[99, 111, 110, 116, 101, 110, 116, 45, 114, 97, 110, 103, 101]⟩, ⟨#[]⟩),
  (⟨#[99, 111, 110, 116, 101, 110, 116, 45, 116, 121, 112, 101]⟩, ⟨#[]⟩),
  (⟨#[99, 111, 111, 107, 105, 101]⟩, ⟨#[]⟩),
  (⟨#[100, 97, 116, 101]⟩, ⟨#[]⟩),
  (⟨#[101, 116, 97, 103]⟩, ⟨#[]⟩),
  (⟨#[101, 120, 112, 101, 99, 116]⟩, ⟨#[]⟩),
  (⟨#[101, 120, 112, 105, 114, 101, 115]⟩, ⟨#[]⟩),
  (⟨#[102, 114, 111, 109]⟩, ⟨#[]⟩),
  (⟨#[104, 111, 115, 116]⟩, ⟨#[]⟩),
  (⟨#[105, 102, 45, 109, 97, 116, 99, 104]⟩, ⟨#[]⟩),
  (⟨#[105, 102, 45, 109, 111, 100, 105, 102, 105, 101, 100, 45, 115, 105, 110, 99, 101]⟩, ⟨#[]⟩),
  (⟨#[105, 102, 45, 110, 111, 110, 101, 45, 109, 97, 116, 99, 104]⟩, ⟨#[]⟩),
  (⟨#[105, 102, 45, 114, 97, 110, 103, 101]⟩, ⟨#[]⟩),
  (⟨#[105, 102, 45, 117, 110, 109, 111, 100, 105, 102, 105, 101, 100, 45, 115, 105, 110, 99, 101]⟩, ⟨#[]⟩),
  (⟨#[108, 97, 115, 116, 45, 109, 111, 100, 105, 102, 105, 101, 100]⟩, ⟨#[]⟩),
  (⟨#[108, 105, 110, 107]⟩, ⟨#[]⟩),
  (⟨#[108, 111, 99, 97, 116, 105, 111, 110]⟩, ⟨#[]⟩),
  (⟨#[109, 97, 120, 45, 102, 111, 114, 119, 97, 114, 100, 115]⟩, ⟨#[]⟩),
  (⟨#[112, 114, 111, 120, 121, 45, 97, 117, 116, 104, 101, 110, 116, 105, 99, 97, 116, 101]⟩, ⟨#[]⟩),
  (⟨#[112, 114, 111, 120, 121, 45, 97, 117, 116, 104, 111, 114, 105, 122, 97, 116, 105, 111, 110]⟩, ⟨#[]⟩),
  (⟨#[114, 97, 110, 103, 101]⟩, ⟨#[]⟩),
  (⟨#[114, 101, 102, 101, 114, 101, 114]⟩, ⟨#[]⟩),
  (⟨#[114, 101, 102, 114, 101, 115, 104]⟩, ⟨#[]⟩),
  (⟨#[114, 101, 116, 114, 121, 45, 97, 102, 116, 101, 114]⟩, ⟨#[]⟩),
  (⟨#[115, 101, 114, 118, 101, 114]⟩, ⟨#[]⟩),
  (⟨#[115, 101, 116, 45, 99, 111, 111, 107, 105, 101]⟩, ⟨#[]⟩),
  (⟨#[115, 116, 114, 105, 99, 116, 45, 116, 114, 97, 110, 115, 112, 111, 114, 116, 45, 115, 101, 99, 117, 114, 105, 116, 121]⟩, ⟨#[]⟩),
  (⟨#[116, 114, 97, 110, 115, 102, 101, 114, 45, 101, 110, 99, 111, 100, 105, 110, 103]⟩, ⟨#[]⟩),
  (⟨#[117, 115, 101, 114, 45, 97, 103, 101, 110, 116]⟩, ⟨#[]⟩),
  (⟨#[118, 97, 114, 121]⟩, ⟨#[]⟩),
  (⟨#[118, 105, 97]⟩, ⟨#[]⟩),
  (⟨#[119, 119, 119, 45, 97, 117, 116, 104, 101, 110, 116, 105, 99, 97, 116, 101]⟩, ⟨#[]⟩)]
def fldC (p : ByteArray × ByteArray) : List Value := [.string p.1, .string p.2]
def tblC : Array Value := (tblF.flatMap fldC).toArray
theorem results_cell1 {P : Program} {fn : Func} {tmps : Array Value} {t : Nat} {ty : TypeId} {g : Nat} {v : Value} {W : World} (hr : fn.results = #[.cell t ty]) (ht : tmps.getD t undef = .pointer (some ⟨g, 0, none⟩)) (hl : (loadVar ty ⟨g, 0, none⟩).run P W = .ok v W) : (results fn tmps).run P W = .ok v W := by
  have h1 : (do loadVar ty (← asAddr (tmps.getD t undef)) : Sem Value).run P W = .ok v W := by
    rw [ht]
    simp [asAddr, hl]
  unfold results
  rw [hr]
  simp only [List.mapM_toArray, List.mapM_cons, List.mapM_nil, Sem.run_bind, Functor.map] at h1 ⊢
  erw [Sem.run_bind]
  simp only [Sem.run_bind, h1, Result.andThen_ok, Sem.run_pure]
  rfl
def TblP (w : World) (e : Ending) (w' : World) : Prop := e = .returned (.agg tblC) ∧ Fresh w w'
set_option maxRecDepth 100000 in
set_option maxHeartbeats 6400000 in
theorem st_table (w : World) : Calls Tryz.prog 95 #[] w (TblP w) := by
  obtain ⟨Z, hZ⟩ : ∃ Z : Array Value, Z = Array.replicate 122 (.string ByteArray.empty) := ⟨_, rfl⟩
  have HZ := Lib.hid hZ
  have hz : ∀ W : World, (zeroValue 156).run Tryz.prog W = .ok (.agg Z) W := fun W => by rw [hZ]; kernel_rfl
  clear hZ
  go_enter Tryz.func95, Tryz.ntmps95
  go_upto_region 1 with fail
  refine wp_region_list ?_
  have hb := Blk.new w 156 Z
  refine wpList_part 62 _ (Option.get _ (by as_aux_lemma => kernel_rfl)) (Option.some_get _).symm ?_
  refine wpList_store_row rfl 156 (.tmp 0) (.tmp 62) rfl w.heap.size tblC (by as_aux_lemma => kernel_rfl) (by as_aux_lemma => kernel_rfl) 156 Z hb (by kernel_rfl) (by rw [HZ.out]; kernel_rfl) (by kernel_rfl) ?_
  refine wpList_nil ?_
  rename_i K hK
  refine hK _ _ ?_
  have hb2 : Blk ((w.alloc (.cells Z 156)).setRow w.heap.size tblC) w.heap.size 156 tblC := setRow_heap _ _ Z tblC _ _ hb
  have hf : Fresh w ((w.alloc (.cells Z 156)).setRow w.heap.size tblC) := Only.fresh (S := fun k => k = w.heap.size) ((Only.of_fresh (Fresh.alloc _ _)).trans ⟨rfl, rfl, rfl, by simp [World.setRow], fun k _ hk => setRow_other _ _ k _ hk⟩) (fun k hk e => by omega)
  generalize (w.alloc (.cells Z 156)).setRow w.heap.size tblC = W at *
  refine wp_ret ?_
  have hl : (loadVar 156 ⟨w.heap.size, 0, none⟩).run Tryz.prog W = .ok (.agg tblC) W := run_loadVar_row (P := Tryz.prog) W w.heap.size 156 156 tblC (0, 0) _ hb2 Tryz.underlying156 rfl (by kernel_rfl)
  refine bodyPost_ret (v := .agg tblC) (results_cell1 (by rfl) (by as_aux_lemma => kernel_rfl) hl) (by as_aux_lemma => kernel_rfl) ⟨rfl, hf⟩
end Go.Proofs.YtginhebfjbhmnaaGreat

/-
  Contracts of package static: the iterator over the table.
-/
namespace Go.Proofs.YtginhebfjbhmnaaGreat
set_option maxRecDepth 100000
set_option linter.unusedVariables false
open Go.RowKit Go.Shelf

attribute [local go_sem] Oper.semAt_some

abbrev Fld := ByteArray × ByteArray
def fldAt (k : Nat) : Fld := tblF.getD k (⟨#[]⟩, ⟨#[]⟩)
def fldV (p : Fld) : Value := .agg #[.string p.1, .string p.2]
def upSt (k : Nat) : List (Nat × Fld) := (List.range k).map fun j => (j, fldAt j)
theorem upSt_succ (k : Nat) : upSt (k + 1) = upSt k ++ [(k, fldAt k)] := by simp [upSt, List.range_succ]
theorem upSt_length (k : Nat) : (upSt k).length = k := by simp [upSt]
def encF (x : Nat × Fld) : Array Value := #[.int .i64 ((x.1 : Int) + 1), .agg #[.string x.2.1, .string x.2.2]]
theorem flat2_get (L : List Fld) (k : Nat) (h : k < L.length) : ((L.flatMap fldC).drop (k * 2)).take 2 = fldC L[k] := by
  induction L generalizing k with
  | nil => simp at h
  | cons p L ih =>
    cases k with
    | zero => simp [fldC]
    | succ k =>
      have h2 : (fldC p).length = 2 := rfl
      rw [List.flatMap_cons, List.drop_append, h2, show (k + 1) * 2 - 2 = k * 2 by omega, List.drop_eq_nil_of_le (by rw [h2]; omega), List.nil_append, ih k (by simpa using h)]
      simp
theorem tblF_len : tblF.length = 61 := by rfl
theorem tbl_cut (k : Nat) (hk : k < 61) : tblC.extract (k * 2) (k * 2 + 2) = #[.string (fldAt k).1, .string (fldAt k).2] := by
  have h := flat2_get tblF k (by rw [tblF_len]; exact hk)
  apply Array.toList_inj.1
  rw [Array.toList_extract]
  have e : tblC.toList = tblF.flatMap fldC := rfl
  rw [e]
  simp only [List.extract, Nat.add_sub_cancel_left]
  rw [h]
  have : fldAt k = tblF[k]'(by rw [tblF_len]; exact hk) := by simp [fldAt, tblF_len, hk]
  rw [this]
  rfl
theorem run_index_agg {P : Program} {w : World} {t e : TypeId} {n k sz : Nat} {cs : Array Value} {fs : Array Field} {i : TypeInfo} (ht : P.underlying t = some (.array n e)) (he : P.underlying e = some (.struct fs)) (hi : P.info? e = some i) (hs : i.size = sz) (hk : k < n) :
    (Instr.index t (.agg cs) (.int .i64 (k : Int))).run P w = .ok (.agg (cs.extract (k * sz) (k * sz + sz))) w := by
  have h1 : (0 : Int) ≤ (k : Int) ∧ (k : Int) < (n : Int) := by omega
  simp [Instr.index, run_underlying ht, run_underlying he, asIntOf, h1, part, isAgg, sizeOf, typeInfo, hi, hs, hk, go_sem]
theorem ix_tbl (k : Nat) (hk : k < 61) (W : World) : (Instr.index 156 (.agg tblC) (.int .i64 (k : Int))).run Tryz.prog W = .ok (.agg #[.string (fldAt k).1, .string (fldAt k).2]) W := by
  obtain ⟨i, hi, his⟩ : ∃ i, Tryz.prog.info? 62 = some i ∧ i.size = 2 := by
    have h : (Tryz.prog.info? 62).map (·.size) = some 2 := by kernel_rfl
    cases hh : Tryz.prog.info? 62 with
    | none => rw [hh] at h; cases h
    | some i => rw [hh] at h; exact ⟨i, rfl, by simpa using h⟩
  rw [run_index_agg Tryz.underlying156 Tryz.underlying62 hi his hk, tbl_cut k hk]
theorem Fresh.grown {w w' : World} (h : Fresh w w') : w.grownBy w' none := ⟨Below.os h, Below.tape h, Below.output h, Below.size h, fun k hk _ => Below.block h k hk⟩
end Go.Proofs.YtginhebfjbhmnaaGreat

/-
  Contracts of package static: the first entry that is as asked.
-/
namespace Go.Proofs.YtginhebfjbhmnaaGreat
set_option maxRecDepth 100000
set_option linter.unusedVariables false
open Go.RowKit Go.Shelf

attribute [local go_sem] Oper.semAt_some

def FstIx (pr : Fld → Bool) (z : Int) : Prop := (z = 0 ∧ ∀ j, j < 61 → pr (fldAt j) = false) ∨ (∃ k : Nat, k < 61 ∧ z = (k : Int) + 1 ∧ pr (fldAt k) = true ∧ ∀ j, j < k → pr (fldAt j) = false)
def FstP (pr : Fld → Bool) (w : World) (e : Ending) (w' : World) : Prop := ∃ z, e = .returned (.int .i64 z) ∧ FstIx pr z ∧ Below w.heap.size w w'
theorem Below.grown_none {B : Nat} {w W W' : World} {row : Option Nat} (h : Below B w W) (hg : W.grownBy W' row) (hr : ∀ r, row = some r → B ≤ r) (hB : B ≤ W.heap.size) : Below B w W' := h.grown hg hB hr
end Go.Proofs.YtginhebfjbhmnaaGreat

/-
  Contracts of package static: Get, Name, Find, Size.
-/
namespace Go.Proofs.YtginhebfjbhmnaaGreat
set_option maxRecDepth 100000
set_option linter.unusedVariables false
open Go.RowKit

theorem st_size (p : Fld) (w : World) (h1 : p.1.size ≤ 4611686018427387000) (h2 : p.2.size ≤ 4611686018427387000) :
    Calls Tryz.prog 83 #[.agg #[.string p.1, .string p.2]] w fun e w' => e = .returned (.int .i64 ((p.1.size : Int) + (p.2.size : Int) + 32)) ∧ Fresh w w' := by
  have e1 : IntKind.i64.wrap ((p.1.size : Int) + (p.2.size : Int)) = (p.1.size : Int) + (p.2.size : Int) := by rw [IntKind.wrap_i64]; omega
  have e2 : IntKind.i64.wrap ((p.1.size : Int) + (p.2.size : Int) + 32) = (p.1.size : Int) + (p.2.size : Int) + 32 := by rw [IntKind.wrap_i64]; omega
  go_enter Tryz.func83, Tryz.ntmps83
  go_wp2
  go_ret
  exact ⟨rfl, Fresh.alloc _ _⟩
theorem st_get_no (i : Int) (w : World) (h : i < 1 ∨ 61 < i) :
    Calls Tryz.prog 91 #[.int .i64 i] w fun e w' => e = .returned (.tuple #[.agg #[.string ⟨#[]⟩, .string ⟨#[]⟩], .int .i64 23]) ∧ Fresh w w' := by
  rcases h with h | h
  · go_enter Tryz.func91, Tryz.ntmps91
    go_wp2
    go_returns
    exact ⟨rfl, by repeat (first | with_reducible exact Fresh.refl _ | with_reducible apply Fresh.drewS | with_reducible apply Fresh.allocS)⟩
  · have h0 : decide (i < 1) = false := by simp; omega
    go_enter Tryz.func91, Tryz.ntmps91
    go_wp2
    go_returns
    exact ⟨rfl, by repeat (first | with_reducible exact Fresh.refl _ | with_reducible apply Fresh.drewS | with_reducible apply Fresh.allocS)⟩
theorem st_get (k : Nat) (i : Int) (w : World) (h : i = (k : Int) + 1) (hk : k < 61) :
    Calls Tryz.prog 91 #[.int .i64 i] w fun e w' => e = .returned (.tuple #[.agg #[.string (fldAt k).1, .string (fldAt k).2], .int .i64 0]) ∧ Fresh w w' := by
  subst h
  have d0 : decide ((k : Int) + 1 < 1) = false := by simp; omega
  have d1 : decide ((61 : Int) < (k : Int) + 1) = false := by simp; omega
  have hw : IntKind.i64.wrap ((k : Int) + 1 - 1) = (k : Int) := by rw [IntKind.wrap_i64]; omega
  have HIX := Lib.hid (ix_tbl k hk)
  generalize fldAt k = fk at *
  go_enter Tryz.func91, Tryz.ntmps91
  go_wp2_with fail
  with_reducible refine (st_table _).mono ?_
  rintro e w1 ⟨rfl, hf1⟩
  have HF := Lib.hid hf1
  have hb := (Blk.new w 62 #[.string ⟨#[]⟩, .string ⟨#[]⟩]).fresh hf1
  obtain ⟨y0, y1⟩ := hb.c2
  have z0 := hb.frozen 0
  have z1 := hb.frozen 1
  have hix := HIX.out
  clear hf1 hb
  go_wp2
  refine bodyPost_ret (v := .tuple #[.agg #[.string fk.1, .string fk.2], .int .i64 0]) (by simp [results, Tryz.results91, go_sem, y0, y1]) rfl ⟨rfl, ?_⟩
  have := (Fresh.alloc w (.cells #[.string ⟨#[]⟩, .string ⟨#[]⟩] 62)).trans HF.out
  repeat (first | with_reducible exact this | (with_reducible refine Fresh.step2 (Nat.le_refl _) ?_))
def NmP (nm : ByteArray) (w : World) (e : Ending) (w' : World) : Prop := ∃ z, e = .returned (.int .i64 z) ∧ FstIx (fun p => p.1.toList == nm.toList) z ∧ Fresh w w'
def prF (q : Fld) (p : Fld) : Bool := p.1.toList == q.1.toList && p.2.toList == q.2.toList
def FindP (q : Fld) (w : World) (e : Ending) (w' : World) : Prop :=
  ∃ z ex, e = .returned (.tuple #[.int .i64 z, .bool ex]) ∧ ((∃ k : Nat, k < 61 ∧ z = (k : Int) + 1 ∧ ex = true ∧ prF q (fldAt k) = true ∧ ∀ j, j < k → prF q (fldAt j) = false) ∨ (ex = false ∧ (∀ j, j < 61 → prF q (fldAt j) = false) ∧ FstIx (fun p => p.1.toList == q.1.toList) z)) ∧ Fresh w w'
theorem FstIx.at {pr : Fld → Bool} {z : Int} (h : FstIx pr z) (k : Nat) (hk : k < 61) (hy : pr (fldAt k) = true) (hn : ∀ j, j < k → pr (fldAt j) = false) : z = (k : Int) + 1 := by
  rcases h with ⟨_, hno⟩ | ⟨k', hk', rfl, hy', hn'⟩
  · rw [hno k hk] at hy; cases hy
  · rcases Nat.lt_trichotomy k k' with h | h | h
    · rw [hn' k h] at hy; cases hy
    · rw [h]
    · rw [hn k' h] at hy'; cases hy'
theorem toList_data (a : ByteArray) : a.toList = a.data.toList := ByteArray.toList_eq ..
def eqD (a b : ByteArray) : Bool := decide (a.data.toList = b.data.toList)
theorem eqD_eq (a b : ByteArray) : (a.toList == b.toList) = eqD a b := by
  rw [toList_data, toList_data, eqD]
  rw [Bool.eq_iff_iff]
  simp only [beq_iff_eq, decide_eq_true_eq]
end Go.Proofs.YtginhebfjbhmnaaGreat

/-
  The law StaticSizes.
-/
namespace Go.Proofs.YtginhebfjbhmnaaGreat
set_option maxRecDepth 100000
set_option maxRecDepth 100000
set_option linter.unusedVariables false
open Go.RowKit Go.ChangeShapes Go.WideShapes Go.Deep

theorem opens_field : Opens Tryz.prog 62 (fun w cs => ∃ p : Fld, cs = fldC p ∧ p.1.size ≤ maxLen ∧ p.2.size ≤ maxLen) :=
  (opens_struct (sz := 2) [(0, 1, QStr), (1, 1, QStr)] Tryz.underlying62 (by kernel_rfl) (by
    intro p hp
    simp only [List.mem_cons, List.not_mem_nil, or_false] at hp
    rcases hp with rfl | rfl
    · exact ⟨0, _, rfl, rfl, by kernel_rfl, opens_str Tryz.underlying9⟩
    · exact ⟨1, _, rfl, rfl, by kernel_rfl, opens_str Tryz.underlying9⟩)).mono (by
    intro w cs ⟨hl, h⟩
    match cs, hl with
    | [c0, c1], _ =>
      obtain ⟨s0, e0, l0⟩ := h _ (List.mem_cons_self ..)
      obtain ⟨s1, e1, l1⟩ := h _ (List.mem_cons_of_mem _ (List.mem_cons_self ..))
      simp at e0 e1
      subst e0 e1
      exact ⟨(s0, s1), rfl, l0, l1⟩)
structure FldsV where
  (A : Option Addr) (c : Nat) (xs : List Fld)
structure FldsV.Ok (w : World) (s : FldsV) : Prop where
  le : s.xs.length ≤ s.c
  max : s.c ≤ maxLen
  rows : Many fldC 2 w s.A s.xs
section
variable {H : Type} {enc : TypeId × Value → H} {w : World} {base : Nat} {spare : Nat → Bool} {held : Bool} {v : Value} {d : DataW H} {p : List MemPlace} {r : Reach} {b0 : Nat}
theorem open_field (hv : Value.okWide Tryz.prog w r b0 62 v) (hd : DataW.Trod enc Tryz.prog w base spare held 62 v d p) :
    ∃ q : Fld, v = .agg #[.string q.1, .string q.2] ∧ q.1.size ≤ maxLen ∧ q.2.size ≤ maxLen := by
  obtain ⟨cs, rfl, f, hc, hf⟩ := opens_field.agg Tryz.underlying62 hv hd
  refine ⟨f, ?_, hf⟩
  congr 1
  apply Array.toList_inj.1
  rw [hc]
  rfl
theorem open_fields (hv : Value.okWide Tryz.prog w r b0 109 v) (hd : DataW.Trod enc Tryz.prog w base spare held 109 v d p) :
    ∃ s : FldsV, v = .slice s.A s.xs.length s.c ∧ s.Ok w := by
  have h := (opens_slice (sz := 2) Tryz.underlying109 opens_field (by kernel_rfl) (by omega)).sl Tryz.underlying109 hv hd
  obtain ⟨A, xs, c, e, h1, h2, h3, _⟩ := h.rows (R := fun _ _ => True) (f := fldC) (fun _ ⟨q, e, _⟩ => ⟨q, e, trivial⟩)
  simp at e
  exact ⟨⟨A, c, xs⟩, e, h1, h2, h3⟩
end
theorem Many.at2 {w : World} {A : Option Addr} {xs : List Fld} (h : Many fldC 2 w A xs) (k : Nat) (x : Fld) (hx : xs[k]? = some x) :
    ∃ b o, A = some ⟨b, o, none⟩ ∧ b < w.heap.size ∧ w.cell? ⟨b, o + k * 2, none⟩ = some (.string x.1) ∧ w.cell? ⟨b, o + k * 2 + 1, none⟩ = some (.string x.2) := by
  obtain ⟨hk, rfl⟩ := List.getElem?_eq_some_iff.1 hx
  obtain ⟨b, o, e, hb, hc⟩ := h (by omega)
  exact ⟨b, o, e, hb, hc k hk 0 (by omega), hc k hk 1 (by omega)⟩
theorem wrap_eq64 (n : Int) : IntKind.i64.wrap n = wrap64 n := by
  unfold wrap64
  exact IntKind.wrap_i64 n
def szF (p : Fld) : Int := wrap64 (wrap64 ((p.1.size : Int) + (p.2.size : Int)) + 32)
theorem st_sizeW (p : Fld) (z : Int) (hz : szF p = z) (w : World) :
    Calls Tryz.prog 83 #[.agg #[.string p.1, .string p.2]] w fun e w' => e = .returned (.int .i64 z) ∧ Fresh w w' := by
  subst hz
  unfold szF
  go_enter Tryz.func83, Tryz.ntmps83
  go_wp2
  go_ret
  exact ⟨rfl, Fresh.alloc _ _⟩
def sumF (xs : List Fld) : Int := xs.foldl (fun n p => wrap64 (n + szF p)) 0
theorem sumF_succ (xs : List Fld) (k : Nat) (p : Fld) (h : xs[k]? = some p) : sumF (xs.take (k + 1)) = wrap64 (sumF (xs.take k) + szF p) := by
  obtain ⟨hk, rfl⟩ := List.getElem?_eq_some_iff.1 h
  rw [List.take_succ_eq_append_getElem hk, sumF, List.foldl_append]
  rfl
def LwP (w : World) (e : Ending) (w' : World) : Prop := e = .returned (.bool true) ∧ Fresh w w'
end Go.Proofs.YtginhebfjbhmnaaGreat

/-
  The document's entries; the law StaticGets.
-/
namespace Go.Proofs.YtginhebfjbhmnaaGreat
set_option maxRecDepth 100000
set_option maxRecDepth 100000
set_option linter.unusedVariables false
open Go.RowKit

theorem wpList_alloc {P : Program} {ops : Array Oper} {Q : Exit → Act → World → Prop} {w : World} {a : Act} {o : Oper} {rest : List Oper} (hg : o.guard = none) (t : TypeId) (ho : o.op = .alloc t) (Z : Array Value) (hz : (zeroValue t).run P w = .ok (.agg Z) w)
    (h : wpList P ops Q rest (a.put o.dst (.pointer (some ⟨w.heap.size, 0, none⟩))) (w.alloc (.cells Z t))) : wpList P ops Q (o :: rest) a w :=
  wpList_plain hg fun K hK => by
    unfold Oper.wp
    simp [execOp, ho, go_sem, hz, Result.andThen]
    exact hK _ _ h
theorem wpList_part_x {P : Program} {ops : Array Oper} {Q : Exit → Act → World → Prop} {w : World} {a : Act} (n : Nat) (l : List Oper) (hs : (pureRun P a (l.take n)).isSome = true) (h : ∀ a', pureRun P a (l.take n) = some a' → wpList P ops Q (l.drop n) a' w) : wpList P ops Q l a w := by
  obtain ⟨a', ha⟩ := Option.isSome_iff_exists.1 hs
  exact wpList_part n l a' ha (h a' ha)
theorem list70 : ∀ l : List Value, l.length = 70 → ∃ x0 x1 x2 x3 x4 x5 x6 x7 x8 x9 x10 x11 x12 x13 x14 x15 x16 x17 x18 x19 x20 x21 x22 x23 x24 x25 x26 x27 x28 x29 x30 x31 x32 x33 x34 x35 x36 x37 x38 x39 x40 x41 x42 x43 x44 x45 x46 x47 x48 x49 x50 x51 x52 x53 x54 x55 x56 x57 x58 x59 x60 x61 x62 x63 x64 x65 x66 x67 x68 x69, l = [x0, x1, x2, x3, x4, x5, x6, x7, x8, x9, x10, x11, x12, x13, x14, x15, x16, x17, x18, x19, x20, x21, x22, x23, x24, x25, x26, x27, x28, x29, x30, x31, x32, x33, x34, x35, x36, x37, x38, x39, x40, x41, x42, x43, x44, x45, x46, x47, x48, x49, x50, x51, x52, x53, x54, x55, x56, x57, x58, x59, x60, x61, x62, x63, x64, x65, x66, x67, x68, x69]
  | x0 :: x1 :: x2 :: x3 :: x4 :: x5 :: x6 :: x7 :: x8 :: x9 :: x10 :: x11 :: x12 :: x13 :: x14 :: x15 :: x16 :: x17 :: x18 :: x19 :: x20 :: x21 :: x22 :: x23 :: x24 :: x25 :: x26 :: x27 :: x28 :: x29 :: x30 :: x31 :: x32 :: x33 :: x34 :: x35 :: x36 :: x37 :: x38 :: x39 :: x40 :: x41 :: x42 :: x43 :: x44 :: x45 :: x46 :: x47 :: x48 :: x49 :: x50 :: x51 :: x52 :: x53 :: x54 :: x55 :: x56 :: x57 :: x58 :: x59 :: x60 :: x61 :: x62 :: x63 :: x64 :: x65 :: x66 :: x67 :: x68 :: x69 :: [], _ => ⟨x0, x1, x2, x3, x4, x5, x6, x7, x8, x9, x10, x11, x12, x13, x14, x15, x16, x17, x18, x19, x20, x21, x22, x23, x24, x25, x26, x27, x28, x29, x30, x31, x32, x33, x34, x35, x36, x37, x38, x39, x40, x41, x42, x43, x44, x45, x46, x47, x48, x49, x50, x51, x52, x53, x54, x55, x56, x57, x58, x59, x60, x61, x62, x63, x64, x65, x66, x67, x68, x69, rfl⟩
theorem arr70 (a : Array Value) (h : a.size = 70) : ∃ x0 x1 x2 x3 x4 x5 x6 x7 x8 x9 x10 x11 x12 x13 x14 x15 x16 x17 x18 x19 x20 x21 x22 x23 x24 x25 x26 x27 x28 x29 x30 x31 x32 x33 x34 x35 x36 x37 x38 x39 x40 x41 x42 x43 x44 x45 x46 x47 x48 x49 x50 x51 x52 x53 x54 x55 x56 x57 x58 x59 x60 x61 x62 x63 x64 x65 x66 x67 x68 x69, a = #[x0, x1, x2, x3, x4, x5, x6, x7, x8, x9, x10, x11, x12, x13, x14, x15, x16, x17, x18, x19, x20, x21, x22, x23, x24, x25, x26, x27, x28, x29, x30, x31, x32, x33, x34, x35, x36, x37, x38, x39, x40, x41, x42, x43, x44, x45, x46, x47, x48, x49, x50, x51, x52, x53, x54, x55, x56, x57, x58, x59, x60, x61, x62, x63, x64, x65, x66, x67, x68, x69] := by
  obtain ⟨x0, x1, x2, x3, x4, x5, x6, x7, x8, x9, x10, x11, x12, x13, x14, x15, x16, x17, x18, x19, x20, x21, x22, x23, x24, x25, x26, x27, x28, x29, x30, x31, x32, x33, x34, x35, x36, x37, x38, x39, x40, x41, x42, x43, x44, x45, x46, x47, x48, x49, x50, x51, x52, x53, x54, x55, x56, x57, x58, x59, x60, x61, x62, x63, x64, x65, x66, x67, x68, x69, e⟩ := list70 a.toList (by simpa using h)
  exact ⟨x0, x1, x2, x3, x4, x5, x6, x7, x8, x9, x10, x11, x12, x13, x14, x15, x16, x17, x18, x19, x20, x21, x22, x23, x24, x25, x26, x27, x28, x29, x30, x31, x32, x33, x34, x35, x36, x37, x38, x39, x40, x41, x42, x43, x44, x45, x46, x47, x48, x49, x50, x51, x52, x53, x54, x55, x56, x57, x58, x59, x60, x61, x62, x63, x64, x65, x66, x67, x68, x69, by apply Array.toList_inj.1; rw [e]⟩
theorem tbl_at (k : Nat) (hk : k < 61) : tblC[k * 2]? = some (.string (fldAt k).1) ∧ tblC[k * 2 + 1]? = some (.string (fldAt k).2) := by
  have h := tbl_cut k hk
  have h0 := congrArg (fun a : Array Value => a[0]?) h
  have h1 := congrArg (fun a : Array Value => a[1]?) h
  have hs : tblC.size = 122 := by rfl
  simp only [Array.getElem?_extract] at h0 h1
  rw [if_pos (by rw [hs]; omega)] at h0 h1
  exact ⟨h0, h1⟩
def EntP (k : Nat) (w : World) (e : Ending) (w' : World) : Prop := e = .returned (.agg #[.string (fldAt k).1, .string (fldAt k).2]) ∧ Fresh w w'
end Go.Proofs.YtginhebfjbhmnaaGreat

