/-
  The document's code: a symbol's bits.
-/
import Derived.Test.YtdoddpigiencjaaHufB
import Derived.Test.YtdoddpigiencjaaRet
import Derived.Test.YtdoddpigiencjaaGen
import Derived.Handy
import Derived.Deep.Cut
import Derived.Laws.Tables
namespace Go.Proofs.Ytdoddpigiencjaa
set_option linter.unusedVariables false
open Go.RowKit
/-- What a row of literals makes, with no look at the world. -/
def pureStepA (P : Program) (a : Act) (o : Oper) : Option Act :=
  match o.guard, o.op with
  | none, .build t parts => (P.built t (parts.map fun (i, x) => (i, a.eval x)).toList).map fun cs => a.put o.dst (.agg cs)
  | _, _ => none
theorem wpList_built {P : Program} {ops : Array Oper} {Q : Exit → Act → World → Prop} {w : World} {a : Act} (l : List Oper) (d : Nat) (cs : Array Value) (h : (l.head?).bind (pureStepA P a) = some (a.put (some d) (.agg cs))) (hr : wpList P ops Q (l.drop 1) (a.put (some d) (.agg cs)) w) : wpList P ops Q l a w := by
  cases l with
  | nil => cases h
  | cons o r =>
    simp only [List.head?_cons, Option.bind_some] at h
    unfold pureStepA at h
    split at h
    · rename_i t parts hg ho
      cases hb : P.built t (parts.map fun (i, x) => (i, a.eval x)).toList with
      | none => rw [hb] at h; cases h
      | some cs =>
        rw [hb] at h
        have h2 := Option.some.inj h
        rw [← h2] at hr
        refine wpList_build hg t parts ho (by rw [hb]; rfl) ?_
        rw [hb]
        exact hr
    · cases h
theorem wpList_allocZ {P : Program} {ops : Array Oper} {Q : Exit → Act → World → Prop} {rest : List Oper} {o : Oper} {w : World} {a : Act} (hgd : o.guard = none) (t : TypeId) (ho : o.op = .alloc t) (cells : Array Value) (hz : (zeroValue t).run P w = .ok (.agg cells) w) (h : wpList P ops Q rest (a.put o.dst (.pointer (some ⟨w.heap.size, 0, none⟩))) (w.alloc (.cells cells t))) : wpList P ops Q (o :: rest) a w :=
  wpList_plain hgd fun _ hK => by
    have := hK _ _ h
    unfold Oper.wp execOp
    simp [ho, go_sem, hz]
    exact this
def lnC : Array Value := (lnL.map fun (n : Nat) => Value.int .i64 (n : Int)).toArray
theorem lnC_get {s : Nat} (h : s < 257) : lnC[s]? = some (.int .i64 (ln s : Int)) := by
  have hk : s < lnL.length := by rw [lnL_length]; exact h
  have e : ln s = lnL[s] := by simp [ln, List.getD, List.getElem?_eq_getElem hk]
  simp [lnC, List.getElem?_eq_getElem hk, e]
set_option maxRecDepth 100000 in
set_option maxHeartbeats 6400000 in
theorem rf_len (w : World) (s : Nat) (hs : s < 257) : Calls Try.prog 84 #[.int .i64 (s : Int)] w fun e w' => e = .returned (.int .i64 (ln s : Int)) ∧ Fresh w w' := by
  obtain ⟨Z, hZ⟩ : ∃ Z : Array Value, Z = Array.replicate 257 (.int .i64 0) := ⟨_, rfl⟩
  have HZ := Lib.hid hZ
  have hz : ∀ W : World, (zeroValue 134).run Try.prog W = .ok (.agg Z) W := fun W => by rw [hZ]; kernel_rfl
  clear hZ
  go_enter Try.func84, Try.ntmps84
  go_upto_region 1 with fail
  refine wp_region_list ?_
  have hb := Blk.new w 134 Z
  refine wpList_built _ 4 lnC (by as_aux_lemma => kernel_rfl) ?_
  refine wpList_allocZ rfl 134 rfl Z (hz _) ?_
  refine wpList_store_row rfl 134 (.tmp 3) (.tmp 4) rfl w.heap.size lnC (by as_aux_lemma => kernel_rfl) (by as_aux_lemma => kernel_rfl) 134 Z hb (by kernel_rfl) (by rw [HZ.out]; kernel_rfl) (by kernel_rfl) ?_
  refine wpList_nil ?_
  rename_i K hK
  refine hK _ _ ?_
  have hb2 : Blk ((w.alloc (.cells Z 134)).setRow w.heap.size lnC) w.heap.size 134 lnC := setRow_heap _ _ Z lnC _ _ hb
  have hf : Fresh w ((w.alloc (.cells Z 134)).setRow w.heap.size lnC) := Only.fresh (S := fun k => k = w.heap.size) ((Only.of_fresh (Fresh.alloc _ _)).trans ⟨rfl, rfl, rfl, by simp [World.setRow], fun k _ hk => setRow_other _ _ k _ hk⟩) (fun k hk h => by omega)
  have hc := (hb2.cell s).trans (lnC_get hs)
  generalize (w.alloc (.cells Z 134)).setRow w.heap.size lnC = W at *
  generalize w.heap.size = b at *
  have HF := Lib.hid hf
  clear hf hb hb2 hz HZ Z K hK
  go_wp2
  exact bodyPost_ret (v := .int .i64 (ln s : Int)) (by simp [results, Try.f84, go_sem]) rfl ⟨rfl, HF.out⟩
end Go.Proofs.Ytdoddpigiencjaa

