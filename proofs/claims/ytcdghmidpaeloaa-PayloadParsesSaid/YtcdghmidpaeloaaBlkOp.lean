/-
  A struct's variable, loaded and stored whole.
-/
import Derived.Test.YtcdghmidpaeloaaGen
import Derived.Laws.IdiomCopy
namespace Go.Proofs.Ytcdghmidpaeloaa
set_option linter.unusedVariables false
open Go.RowKit
theorem addr_off (b k : Nat) : (⟨b, 0, none⟩ : Addr).add k = ⟨b, k, none⟩ := by unfold Addr.add; split <;> simp_all
theorem blk_setCells {t : TypeId} {b : Nat} : ∀ (vs : List Value) (i : Nat) (cs : List Value) (w : World), Blk w b t cs.toArray → i + vs.length = cs.length → Blk (w.setCells b i vs) b t (cs.take i ++ vs).toArray ∧ Only (· = b) w (w.setCells b i vs)
  | [], i, cs, w, h, hl => ⟨by simpa [World.setCells, List.take_of_length_le (show cs.length ≤ i by simpa using Nat.le_of_eq hl.symm)] using h, Only.refl _ _⟩
  | v :: r, i, cs, w, h, hl => by
    have hil : i < cs.length := by simp at hl; omega
    have h1 : Blk (w.setCell ⟨b, i, none⟩ v) b t (cs.set i v).toArray := by
      have := h.set i v
      rwa [show cs.toArray.setIfInBounds i v = (cs.set i v).toArray by simp] at this
    obtain ⟨h2, h3⟩ := blk_setCells r (i + 1) (cs.set i v) _ h1 (by simp at hl ⊢; omega)
    refine ⟨?_, (Only.setCell w ⟨b, i, none⟩ v).trans h3⟩
    rw [show (cs.take i ++ v :: r) = (cs.set i v).take (i + 1) ++ r by
      rw [List.take_set, List.take_succ_eq_append_getElem hil]
      rw [List.set_append_right _ _ (by simp; omega)]
      simp [Nat.min_eq_left (Nat.le_of_lt hil)]]
    exact h2
theorem run_storeVarB {P : Program} {w : World} {b : Nat} {t t' : TypeId} {cs ds : Array Value} (h : Blk w b t' cs) (hi : (P.info? t).map (·.size) = some ds.size) (hl : ds.size = cs.size) (h1 : ds.all (·.oneCell') = true) :
    ∃ w', (storeVar t ⟨b, 0, none⟩ (.agg ds)).run P w = .ok () w' ∧ Blk w' b t' ds ∧ Only (· = b) w w' := by
  obtain ⟨i, hi1, hi2⟩ := Option.map_eq_some_iff.1 hi
  have hst := run_storeCells_cells (P := P) b 0 ds.toList 0 w (fun j hj => by
    rw [Nat.add_zero, Nat.zero_add, h.cell, Array.getElem?_eq_getElem (by simp at hj; omega)]; rfl) (fun j hj => h.frozen _) (by
    rw [Array.all_eq_true_iff_forall_mem] at h1
    intro v hv
    exact h1 v (by simpa using hv))
  have h2 := blk_setCells ds.toList 0 cs.toList w (by simpa using h) (by simpa using hl)
  refine ⟨w.setCells b 0 ds.toList, ?_, by simpa using h2.1, h2.2⟩
  rw [storeVar]
  simp [Value.cells, sizeOf, typeInfo, hi1, hi2, Result.andThen]
  simpa using hst
theorem run_loadVarB {P : Program} {w : World} {b : Nat} {t t' : TypeId} {cs : Array Value} (h : Blk w b t' cs) (hi : (P.info? t).map (·.size) = some cs.size) (ha : (isAgg t).run P w = .ok true w) :
    (loadVar t ⟨b, 0, none⟩).run P w = .ok (.agg cs) w := by
  obtain ⟨i, hi1, hi2⟩ := Option.map_eq_some_iff.1 hi
  have hld := run_loadCells_list (P := P) (w := w) ⟨b, 0, none⟩ cs.toList (fun j v hv => by rw [addr_off, h.cell]; simpa using hv)
  rw [loadVar]
  simp [ha, Result.andThen, sizeOf, typeInfo, hi1, hi2]
  simp at hld
  rw [hld]
theorem wp_loadB {P : Program} {w : World} {ops : Array Oper} {rest : List Oper} {o : Oper} {a : Act} {Q : Exit → Act → World → Prop} (hgd : o.guard = none) (x : Operand) (t : TypeId)
    (ho : o.op = .load t x) {b : Nat} {t' : TypeId} {cs : Array Value} (hx : a.eval x = .pointer (some ⟨b, 0, none⟩)) (hB : Blk w b t' cs) (hi : (P.info? t).map (·.size) = some cs.size) (ha : ∀ w, (isAgg t).run P w = .ok true w)
    (h : wpList P ops Q rest (a.put o.dst (.agg cs)) w) : wpList P ops Q (o :: rest) a w := by
  have hrun := run_loadVarB hB hi (ha w)
  refine wpList_plain hgd fun K hK => ?_
  unfold Oper.wp
  simp [execOp, ho, hx, Instr.loadAt, Instr.sureAddr, hrun, Result.andThen]
  exact hK _ _ h
theorem wp_storeB {P : Program} {w : World} {ops : Array Oper} {rest : List Oper} {o : Oper} {a : Act} {Q : Exit → Act → World → Prop} (hgd : o.guard = none) (x y : Operand) (t : TypeId)
    (ho : o.op = .store t x y) {b : Nat} {t' : TypeId} {cs ds : Array Value} (hx : a.eval x = .pointer (some ⟨b, 0, none⟩)) (hy : a.eval y = .agg ds) (hB : Blk w b t' cs) (hi : (P.info? t).map (·.size) = some ds.size) (hl : ds.size = cs.size) (h1 : ds.all (·.oneCell') = true)
    (h : ∀ w', Blk w' b t' ds → Only (· = b) w w' → wpList P ops Q rest (a.put o.dst undef) w') : wpList P ops Q (o :: rest) a w := by
  obtain ⟨w', hrun, hb, ho'⟩ := run_storeVarB hB hi hl h1
  refine wpList_plain hgd fun K hK => ?_
  unfold Oper.wp
  simp [execOp, ho, hx, hy, Instr.storeAt, Instr.sureAddr, hrun, Result.andThen]
  exact hK _ _ (h w' hb ho')
section
variable {P : Program} {fn : Func} {ts : Array Value} {w : World} {b i : Nat} {t t' : TypeId} {cs : Array Value}
/-- Results, the first of which lives in a struct's variable. -/
theorem results_c0 (hr : fn.results = #[.cell i t]) (hi : ts[i]? = some (.pointer (some ⟨b, 0, none⟩))) (hB : Blk w b t' cs) (hI : (P.info? t).map (·.size) = some cs.size) (hG : ∀ w, (isAgg t).run P w = .ok true w) : (results fn ts).run P w = .ok (.agg cs) w := by
  have hld := run_loadVarB hB hI (hG w)
  simp [results, hr, hi, asAddr, hld, Result.andThen]
theorem results_c1 {j : Nat} {v : Value} (hr : fn.results = #[.cell i t, .tmp j]) (hi : ts[i]? = some (.pointer (some ⟨b, 0, none⟩))) (hj : ts[j]? = some v) (hB : Blk w b t' cs) (hI : (P.info? t).map (·.size) = some cs.size) (hG : ∀ w, (isAgg t).run P w = .ok true w) : (results fn ts).run P w = .ok (.tuple #[.agg cs, v]) w := by
  have hld := run_loadVarB hB hI (hG w)
  simp [results, hr, hi, hj, asAddr, hld, Result.andThen]
theorem results_c2 {j k : Nat} {v u : Value} (hr : fn.results = #[.cell i t, .tmp j, .tmp k]) (hi : ts[i]? = some (.pointer (some ⟨b, 0, none⟩))) (hj : ts[j]? = some v) (hk : ts[k]? = some u) (hB : Blk w b t' cs) (hI : (P.info? t).map (·.size) = some cs.size) (hG : ∀ w, (isAgg t).run P w = .ok true w) : (results fn ts).run P w = .ok (.tuple #[.agg cs, v, u]) w := by
  have hld := run_loadVarB hB hI (hG w)
  simp [results, hr, hi, hj, hk, asAddr, hld, Result.andThen]
theorem results_cc {b2 j : Nat} {t2 t2' : TypeId} {ds : Array Value} (hr : fn.results = #[.cell i t, .cell j t2]) (hi : ts[i]? = some (.pointer (some ⟨b, 0, none⟩))) (hj : ts[j]? = some (.pointer (some ⟨b2, 0, none⟩))) (hB : Blk w b t' cs) (hI : (P.info? t).map (·.size) = some cs.size) (hG : ∀ w, (isAgg t).run P w = .ok true w) (hB2 : Blk w b2 t2' ds) (hI2 : (P.info? t2).map (·.size) = some ds.size) (hG2 : ∀ w, (isAgg t2).run P w = .ok true w) : (results fn ts).run P w = .ok (.tuple #[.agg cs, .agg ds]) w := by
  have hld := run_loadVarB hB hI (hG w)
  have hld2 := run_loadVarB hB2 hI2 (hG2 w)
  simp [results, hr, hi, hj, asAddr, hld, hld2, Result.andThen]
theorem results_tc {j : Nat} {v : Value} (hr : fn.results = #[.tmp j, .cell i t]) (hi : ts[i]? = some (.pointer (some ⟨b, 0, none⟩))) (hj : ts[j]? = some v) (hB : Blk w b t' cs) (hI : (P.info? t).map (·.size) = some cs.size) (hG : ∀ w, (isAgg t).run P w = .ok true w) : (results fn ts).run P w = .ok (.tuple #[v, .agg cs]) w := by
  have hld := run_loadVarB hB hI (hG w)
  simp [results, hr, hi, hj, asAddr, hld, Result.andThen]
end
end Go.Proofs.Ytcdghmidpaeloaa

