/-
  Contracts of package static: the table.
-/
import Derived.Test.YtapikjhfgcbifaaGreatDoorRet
import Derived.Handy
import Derived.Deep.Cut
import Derived.Laws.Tables
namespace Go.Proofs.YtapikjhfgcbifaaGreatDoor
set_option linter.unusedVariables false
open Go.RowKit

/-- What a row of literals makes, with no look at the world. -/
def pureStep (P : Program) (a : Act) (o : Oper) : Option Act :=
  match o.guard, o.op with
  | none, .build t parts => (P.built t (parts.map fun (i, x) => (i, a.eval x)).toList).map fun cs => a.put o.dst (.agg cs)
  | _, _ => none
def pureRun (P : Program) : Act → List Oper → Option Act
  | a, [] => some a
  | a, o :: l => match pureStep P a o with
    | some a' => pureRun P a' l
    | none => none
theorem wpList_pures {P : Program} {ops : Array Oper} {Q : Exit → Act → World → Prop} {w : World} {rest : List Oper} : ∀ (l : List Oper) (a a' : Act), pureRun P a l = some a' → wpList P ops Q rest a' w → wpList P ops Q (l ++ rest) a w
  | [], a, a', h, hr => by
    cases h
    exact hr
  | o :: l, a, a', h, hr => by
    unfold pureRun at h
    cases hs : pureStep P a o with
    | none => rw [hs] at h; cases h
    | some b =>
      rw [hs] at h
      have ih := wpList_pures l b a' h hr
      unfold pureStep at hs
      split at hs
      · rename_i t parts hg ho
        cases hb : P.built t (parts.map fun (i, x) => (i, a.eval x)).toList with
        | none => rw [hb] at hs; cases hs
        | some cs =>
          rw [hb] at hs
          cases hs
          rw [List.cons_append]
          refine wpList_build hg t parts ho (by rw [hb]; rfl) ?_
          rw [hb]
          exact ih
      · cases hs
theorem wpList_part {P : Program} {ops : Array Oper} {Q : Exit → Act → World → Prop} {w : World} {a : Act} (n : Nat) (l : List Oper) (a' : Act) (h : pureRun P a (l.take n) = some a') (hr : wpList P ops Q (l.drop n) a' w) : wpList P ops Q l a w := by
  have := wpList_pures (ops := ops) (Q := Q) (w := w) (rest := l.drop n) (l.take n) a a' h hr
  rwa [List.take_append_drop] at this
def tblF : List (ByteArray × ByteArray) := [
  (⟨#[58, 97, 117, 116, 104, 111, 114, 105, 116, 121]⟩, ⟨#[]⟩),
  (⟨#[58, 109, 101, 116, 104, 111, 100]⟩, ⟨#[71, 69, 84]⟩),
  (⟨#[58, 109, 101, 116, 104, 111, 100]⟩, ⟨#[80, 79, 83, 84]⟩),
  (⟨#[58, 112, 97, 116, 104]⟩, ⟨#[47]⟩),
  (⟨#[58, 112, 97, 116, 104]⟩, ⟨#[47, 105, 110, 100, 101, 120, 46, 104, 116, 109, 108]⟩),
  (⟨#[58, 115, 99, 104, 101, 109, 101]⟩, ⟨#[104, 116, 116, 112]⟩),
  (⟨#[58, 115, 99, 104, 101, 109, 101]⟩, ⟨#[104, 116, 116, 112, 115]⟩),
  (⟨#[58, 115, 116, 97, 116, 117, 115]⟩, ⟨#[50, 48, 48]⟩),
  (⟨#[58, 115, 116, 97, 116, 117, 115]⟩, ⟨#[50, 48, 52]⟩),
  (⟨#[58, 115, 116, 97, 116, 117, 115]⟩, ⟨#[50, 48, 54]⟩),
  (⟨#[58, 115, 116, 97, 116, 117, 115]⟩, ⟨#[51, 48, 52]⟩),
  (⟨#[58, 115, 116, 97, 116, 117, 115]⟩, ⟨#[52, 48, 48]⟩),
  (⟨#[58, 115, 116, 97, 116, 117, 115]⟩, ⟨#[52, 48, 52]⟩),
  (⟨#[58, 115, 116, 97, 116, 117, 115]⟩, ⟨#[53, 48, 48]⟩),
  (⟨#[97, 99, 99, 101, 112, 116, 45, 99, 104, 97, 114, 115, 101, 116]⟩, ⟨#[]⟩),
  (⟨#[97, 99, 99, 101, 112, 116, 45, 101, 110, 99, 111, 100, 105, 110, 103]⟩, ⟨#[103, 122, 105, 112, 44, 32, 100, 101, 102, 108, 97, 116, 101]⟩),
  (⟨#[97, 99, 99, 101, 112, 116, 45, 108, 97, 110, 103, 117, 97, 103, 101]⟩, ⟨#[]⟩),
  (⟨#[97, 99, 99, 101, 112, 116, 45, 114, 97, 110, 103, 101, 115]⟩, ⟨#[]⟩),
  (⟨#[97, 99, 99, 101, 112, 116]⟩, ⟨#[]⟩),
  (⟨#[97, 99, 99, 101, 115, 115, 45, 99, 111, 110, 116, 114, 111, 108, 45, 97, 108, 108, 111, 119, 45, 111, 114, 105, 103, 105, 110]⟩, ⟨#[]⟩),
  (⟨#[97, 103, 101]⟩, ⟨#[]⟩),
  (⟨#[97, 108, 108, 111, 119]⟩, ⟨#[]⟩),
  (⟨#[97, 117, 116, 104, 111, 114, 105, 122, 97, 116, 105, 111, 110]⟩, ⟨#[]⟩),
  (⟨#[99, 97, 99, 104, 101, 45, 99, 111, 110, 116, 114, 111, 108]⟩, ⟨#[]⟩),
  (⟨#[99, 111, 110, 116, 101, 110, 116, 45, 100, 105, 115, 112, 111, 115, 105, 116, 105, 111, 110]⟩, ⟨#[]⟩),
  (⟨#[99, 111, 110, 116, 101, 110, 116, 45, 101, 110, 99, 111, 100, 105, 110, 103]⟩, ⟨#[]⟩),
  (⟨#[99, 111, 110, 116, 101, 110, 116, 45, 108, 97, 110, 103, 117, 97, 103, 101]⟩, ⟨#[]⟩),
  (⟨#[99, 111, 110, 116, 101, 110, 116, 45, 108, 101, 110, 103, 116, 104]⟩, ⟨#[]⟩),
  (⟨#[99, 111, 110, 116, 101, 110, 116, 45, 108, 111, 99, 97, 116, 105, 111, 110]⟩, ⟨#[]⟩),
  (⟨#[99, 111, 110, 116, 101, 110, 116, 45, 114, 97, 110, 103, 101]⟩, ⟨#[]⟩),
  (⟨#[99, 111, 110, 116, 101, 110, 116, 45, 116, 121, 112, 101]⟩, ⟨#[]⟩),
  (⟨#[99, 111, 111, 107, 105, 101]⟩, ⟨#[]⟩),
  (⟨#[100, 97, 116, 101]⟩, ⟨#[]⟩),
  (⟨#[101, 116, 97, 103]⟩, ⟨#[]⟩),
  (⟨#[101, 120, 112, 101, 99, 116]⟩, ⟨#[]⟩),
  (⟨#[101, 120, 112, 105, 114, 101, 115]⟩, ⟨#[]⟩),
  (⟨#[102, 114, 111, 109]⟩, ⟨#[]⟩),
  (⟨#[104, 111, 115, 116]⟩, ⟨#[]⟩),
  (⟨#[105, 102, 45, 109, 97, 116, 99, 104]⟩, ⟨#[]⟩),
  (⟨#[105, 102, 45, 109, 111, 100, 105, 102, 105, 101, 100, 45, 115, 105, 110, 99, 101]⟩, ⟨#[]⟩),
  (⟨#[105, 102, 45, 110, 111, 110, 101, 45, 109, 97, 116, 99, 104]⟩, ⟨#[]⟩),
  (⟨#[105, 102, 45, 114, 97, 110, 103, 101]⟩, ⟨#[]⟩),
  (⟨#[105, 102, 45, 117, 110, 109, 111, 100, 105, 102, 105, 101, 100, 45, 115, 105, 110, 99, 101]⟩, ⟨#[]⟩),
  (⟨#[108, 97, 115, 116, 45, 109, 111, 100, 105, 102, 105, 101, 100]⟩, ⟨#[]⟩),
  (⟨#[108, 105, 110, 107]⟩, ⟨#[]⟩),
  (⟨#[108, 111, 99, 97, 116, 105, 111, 110]⟩, ⟨#[]⟩),
  (⟨#[109, 97, 120, 45, 102, 111, 114, 119, 97, 114, 100, 115]⟩, ⟨#[]⟩),
  (⟨#[112, 114, 111, 120, 121, 45, 97, 117, 116, 104, 101, 110, 116, 105, 99, 97, 116, 101]⟩, ⟨#[]⟩),
  (⟨#[112, 114, 111, 120, 121, 45, 97, 117, 116, 104, 111, 114, 105, 122, 97, 116, 105, 111, 110]⟩, ⟨#[]⟩),
  (⟨#[114, 97, 110, 103, 101]⟩, ⟨#[]⟩),
  (⟨#[114, 101, 102, 101, 114, 101, 114]⟩, ⟨#[]⟩),
  (⟨#[114, 101, 102, 114, 101, 115, 104]⟩, ⟨#[]⟩),
  (⟨#[114, 101, 116, 114, 121, 45, 97, 102, 116, 101, 114]⟩, ⟨#[]⟩),
  (⟨#[115, 101, 114, 118, 101, 114]⟩, ⟨#[]⟩),
  (⟨#[115, 101, 116, 45, 99, 111, 111, 107, 105, 101]⟩, ⟨#[]⟩),
  (⟨#[115, 116, 114, 105, 99, 116, 45, 116, 114, 97, 110, 115, 112, 111, 114, 116, 45, 115, 101, 99, 117, 114, 105, 116, 121]⟩, ⟨#[]⟩),
  (⟨#[116, 114, 97, 110, 115, 102, 101, 114, 45, 101, 110, 99, 111, 100, 105, 110, 103]⟩, ⟨#[]⟩),
  (⟨#[117, 115, 101, 114, 45, 97, 103, 101, 110, 116]⟩, ⟨#[]⟩),
  (⟨#[118, 97, 114, 121]⟩, ⟨#[]⟩),
  (⟨#[118, 105, 97]⟩, ⟨#[]⟩),
  (⟨#[119, 119, 119, 45, 97, 117, 116, 104, 101, 110, 116, 105, 99, 97, 116, 101]⟩, ⟨#[]⟩)]
def fldC (p : ByteArray × ByteArray) : List Value := [.string p.1, .string p.2]
def tblC : Array Value := (tblF.flatMap fldC).toArray
theorem results_cell1 {P : Program} {fn : Func} {tmps : Array Value} {t : Nat} {ty : TypeId} {g : Nat} {v : Value} {W : World} (hr : fn.results = #[.cell t ty]) (ht : tmps.getD t undef = .pointer (some ⟨g, 0, none⟩)) (hl : (loadVar ty ⟨g, 0, none⟩).run P W = .ok v W) : (results fn tmps).run P W = .ok v W := by
  have h1 : (do loadVar ty (← asAddr (tmps.getD t undef)) : Sem Value).run P W = .ok v W := by
    rw [ht]
    simp [asAddr, hl]
  unfold results
  rw [hr]
  simp only [List.mapM_toArray, List.mapM_cons, List.mapM_nil, Sem.run_bind, Functor.map] at h1 ⊢
  erw [Sem.run_bind]
  simp only [Sem.run_bind, h1, Result.andThen_ok, Sem.run_pure]
  rfl
def TblP (w : World) (e : Ending) (w' : World) : Prop := e = .returned (.agg tblC) ∧ Fresh w w'
set_option maxRecDepth 100000 in
set_option maxHeartbeats 6400000 in
theorem st_table (w : World) : Calls Tryz.prog 110 #[] w (TblP w) := by
  obtain ⟨Z, hZ⟩ : ∃ Z : Array Value, Z = Array.replicate 122 (.string ByteArray.empty) := ⟨_, rfl⟩
  have HZ := Lib.hid hZ
  have hz : ∀ W : World, (zeroValue 139).run Tryz.prog W = .ok (.agg Z) W := fun W => by rw [hZ]; kernel_rfl
  clear hZ
  go_enter Tryz.func110, Tryz.ntmps110
  go_upto_region 1 with fail
  refine wp_region_list ?_
  have hb := Blk.new w 139 Z
  refine wpList_part 62 _ (Option.get _ (by as_aux_lemma => kernel_rfl)) (Option.some_get _).symm ?_
  refine wpList_store_row rfl 139 (.tmp 0) (.tmp 62) rfl w.heap.size tblC (by as_aux_lemma => kernel_rfl) (by as_aux_lemma => kernel_rfl) 139 Z hb (by kernel_rfl) (by rw [HZ.out]; kernel_rfl) (by kernel_rfl) ?_
  refine wpList_nil ?_
  rename_i K hK
  refine hK _ _ ?_
  have hb2 : Blk ((w.alloc (.cells Z 139)).setRow w.heap.size tblC) w.heap.size 139 tblC := setRow_heap _ _ Z tblC _ _ hb
  have hf : Fresh w ((w.alloc (.cells Z 139)).setRow w.heap.size tblC) := Only.fresh (S := fun k => k = w.heap.size) ((Only.of_fresh (Fresh.alloc _ _)).trans ⟨rfl, rfl, rfl, by simp [World.setRow], fun k _ hk => setRow_other _ _ k _ hk⟩) (fun k hk e => by omega)
  generalize (w.alloc (.cells Z 139)).setRow w.heap.size tblC = W at *
  refine wp_ret ?_
  have hl : (loadVar 139 ⟨w.heap.size, 0, none⟩).run Tryz.prog W = .ok (.agg tblC) W := run_loadVar_row (P := Tryz.prog) W w.heap.size 139 139 tblC (0, 0) _ hb2 Tryz.underlying139 rfl (by kernel_rfl)
  refine bodyPost_ret (v := .agg tblC) (results_cell1 (by rfl) (by as_aux_lemma => kernel_rfl) hl) (by as_aux_lemma => kernel_rfl) ⟨rfl, hf⟩
end Go.Proofs.YtapikjhfgcbifaaGreatDoor

