/-
  Texts laid together: PayT BlkOp LnEq Lnd.
-/
import Derived.Test.YtginhebfjbhmnaaGreatG09
import Derived.Test.YtginhebfjbhmnaaGreatG03
import Derived.Laws.IdiomCopy
import Derived.Test.YtginhebfjbhmnaaGreatG01
import Derived.Laws.StructEq
import Derived.ChangeKeysEq
import Derived.Test.YtginhebfjbhmnaaGreatG02
import Derived.Test.YtginhebfjbhmnaaGreatG05
import Derived.Deep.RegionLaw
import Derived.Deep.Cut
/-
  Parse by its fault's number; OK (as XPayH has them, without what needs Equal).
-/
namespace Go.Proofs.YtginhebfjbhmnaaGreat
set_option maxRecDepth 100000
set_option linter.unusedVariables false
open Go.RowKit

def ItV.agg (x : ItV) : Value := .agg #[.int .i64 x.ty, .int .i64 x.st, .slice x.A x.l.length x.c, .bool x.en, .bool x.eh, .bool x.ak, .int .i64 x.fl, .int .i64 x.co, .int .i64 x.la, .int .i64 x.inc, .int .i64 x.de, .int .i64 x.we, .bool x.wd, .bool x.ex, .slice x.PA x.ps.length x.pc]
theorem FirstB.eq {ty fl st : Int} {l : List UInt8} {k k' : Nat} (h : FirstB ty fl st l k) (h' : FirstB ty fl st l k') : k = k' := by
  obtain ⟨h1, h2, h3⟩ := h
  obtain ⟨g1, g2, g3⟩ := h'
  rcases Nat.lt_trichotomy k k' with h | h | h
  · have a := g2 k h
    have b := h3 (by omega)
    rw [a] at b
    cases b
  · exact h
  · have a := h2 k' h
    have b := g3 (by omega)
    rw [a] at b
    cases b
def ToldP (ty st f0 : Int) (q : PR × Int × Bool) (w : World) (e : Ending) (w' : World) : Prop :=
  ∃ x : ItV, e = .returned (.tuple #[x.agg, .agg #[.int .i64 q.2.1, .bool q.2.2]]) ∧ x.Ok w' ∧ Says x q.1 ∧ (x.ty = ty ∧ x.st = st ∧ x.fl = f0) ∧ (∀ b o, x.A = some ⟨b, o, none⟩ → w.heap.size ≤ b) ∧ (∀ b o, x.PA = some ⟨b, o, none⟩ → w.heap.size ≤ b) ∧ Fresh w w'
theorem pparse_at (k : Nat) (ty fl st : Int) (A : Option Addr) (c : Nat) (l : List UInt8) (w : World) (hA : BS w A l) (hlc : l.length ≤ c) (hcm : c ≤ maxLen) (hmx : l.length ≤ 1000000) (hk : FirstB ty fl st l k) (q : PR × Int × Bool) (hq : prsF ty fl st l k = q) :
    Calls Tryz.prog 40 #[.agg #[.int .i64 ty, .int .i64 fl, .int .i64 st, .slice A l.length c]] w (ToldP ty st (flowN ty l.length) q w) := by
  refine (pparse ty fl st A c l w hA hlc hcm hmx).mono ?_
  rintro e w' ⟨x, k', rfl, hk', hok, hs, hb, h1, h2, hf⟩
  obtain rfl := hk.eq hk'
  rw [hq] at hs ⊢
  exact ⟨x, rfl, hok, hs, hb, h1, h2, hf⟩
theorem pok (co : Int) (cn : Bool) (r : Bool) (hr : decide (co = 0 ∧ cn = false) = r) (w : World) : Calls Tryz.prog 11 #[.agg #[.int .i64 co, .bool cn]] w fun e w' => e = .returned (.bool r) ∧ Fresh w w' := by
  subst hr
  by_cases h : co = 0
  · subst h
    cases cn
    · go_enter Tryz.func11, Tryz.ntmps11
      go_wp2
      go_ret
      exact ⟨rfl, by repeat (first | with_reducible exact Fresh.refl _ | with_reducible apply Fresh.drewS | with_reducible apply Fresh.allocS)⟩
    · go_enter Tryz.func11, Tryz.ntmps11
      go_wp2
      go_ret
      exact ⟨rfl, by repeat (first | with_reducible exact Fresh.refl _ | with_reducible apply Fresh.drewS | with_reducible apply Fresh.allocS)⟩
  · have e : decide (co = 0 ∧ cn = false) = false := by simp [h]
    have a : (co == 0) = false := by simpa using h
    rw [e]
    clear e h
    go_enter Tryz.func11, Tryz.ntmps11
    go_wp2
    go_ret
    exact ⟨rfl, by repeat (first | with_reducible exact Fresh.refl _ | with_reducible apply Fresh.drewS | with_reducible apply Fresh.allocS)⟩
end Go.Proofs.YtginhebfjbhmnaaGreat

/-
  A struct's variable, loaded and stored whole.
-/
namespace Go.Proofs.YtginhebfjbhmnaaGreat
set_option maxRecDepth 100000
set_option linter.unusedVariables false
open Go.RowKit
theorem addr_off (b k : Nat) : (⟨b, 0, none⟩ : Addr).add k = ⟨b, k, none⟩ := by unfold Addr.add; split <;> simp_all
theorem blk_setCells {t : TypeId} {b : Nat} : ∀ (vs : List Value) (i : Nat) (cs : List Value) (w : World), Blk w b t cs.toArray → i + vs.length = cs.length → Blk (w.setCells b i vs) b t (cs.take i ++ vs).toArray ∧ Only (· = b) w (w.setCells b i vs)
  | [], i, cs, w, h, hl => ⟨by simpa [World.setCells, List.take_of_length_le (show cs.length ≤ i by simpa using Nat.le_of_eq hl.symm)] using h, Only.refl _ _⟩
  | v :: r, i, cs, w, h, hl => by
    have hil : i < cs.length := by simp at hl; omega
    have h1 : Blk (w.setCell ⟨b, i, none⟩ v) b t (cs.set i v).toArray := by
      have := h.set i v
      rwa [show cs.toArray.setIfInBounds i v = (cs.set i v).toArray by simp] at this
    obtain ⟨h2, h3⟩ := blk_setCells r (i + 1) (cs.set i v) _ h1 (by simp at hl ⊢; omega)
    refine ⟨?_, (Only.setCell w ⟨b, i, none⟩ v).trans h3⟩
    rw [show (cs.take i ++ v :: r) = (cs.set i v).take (i + 1) ++ r by
      rw [List.take_set, List.take_succ_eq_append_getElem hil]
      rw [List.set_append_right _ _ (by simp; omega)]
      simp [Nat.min_eq_left (Nat.le_of_lt hil)]]
    exact h2
theorem run_storeVarB {P : Program} {w : World} {b : Nat} {t t' : TypeId} {cs ds : Array Value} (h : Blk w b t' cs) (hi : (P.info? t).map (·.size) = some ds.size) (hl : ds.size = cs.size) (h1 : ds.all (·.oneCell') = true) :
    ∃ w', (storeVar t ⟨b, 0, none⟩ (.agg ds)).run P w = .ok () w' ∧ Blk w' b t' ds ∧ Only (· = b) w w' := by
  obtain ⟨i, hi1, hi2⟩ := Option.map_eq_some_iff.1 hi
  have hst := run_storeCells_cells (P := P) b 0 ds.toList 0 w (fun j hj => by
    rw [Nat.add_zero, Nat.zero_add, h.cell, Array.getElem?_eq_getElem (by simp at hj; omega)]; rfl) (fun j hj => h.frozen _) (by
    rw [Array.all_eq_true_iff_forall_mem] at h1
    intro v hv
    exact h1 v (by simpa using hv))
  have h2 := blk_setCells ds.toList 0 cs.toList w (by simpa using h) (by simpa using hl)
  refine ⟨w.setCells b 0 ds.toList, ?_, by simpa using h2.1, h2.2⟩
  rw [storeVar]
  simp [Value.cells, sizeOf, typeInfo, hi1, hi2, Result.andThen]
  simpa using hst
theorem run_loadVarB {P : Program} {w : World} {b : Nat} {t t' : TypeId} {cs : Array Value} (h : Blk w b t' cs) (hi : (P.info? t).map (·.size) = some cs.size) (ha : (isAgg t).run P w = .ok true w) :
    (loadVar t ⟨b, 0, none⟩).run P w = .ok (.agg cs) w := by
  obtain ⟨i, hi1, hi2⟩ := Option.map_eq_some_iff.1 hi
  have hld := run_loadCells_list (P := P) (w := w) ⟨b, 0, none⟩ cs.toList (fun j v hv => by rw [addr_off, h.cell]; simpa using hv)
  rw [loadVar]
  simp [ha, Result.andThen, sizeOf, typeInfo, hi1, hi2]
  simp at hld
  rw [hld]
theorem wp_loadB {P : Program} {w : World} {ops : Array Oper} {rest : List Oper} {o : Oper} {a : Act} {Q : Exit → Act → World → Prop} (hgd : o.guard = none) (x : Operand) (t : TypeId)
    (ho : o.op = .load t x) {b : Nat} {t' : TypeId} {cs : Array Value} (hx : a.eval x = .pointer (some ⟨b, 0, none⟩)) (hB : Blk w b t' cs) (hi : (P.info? t).map (·.size) = some cs.size) (ha : ∀ w, (isAgg t).run P w = .ok true w)
    (h : wpList P ops Q rest (a.put o.dst (.agg cs)) w) : wpList P ops Q (o :: rest) a w := by
  have hrun := run_loadVarB hB hi (ha w)
  refine wpList_plain hgd fun K hK => ?_
  unfold Oper.wp
  simp [execOp, ho, hx, Instr.loadAt, Instr.sureAddr, hrun, Result.andThen]
  exact hK _ _ h
theorem wp_storeB {P : Program} {w : World} {ops : Array Oper} {rest : List Oper} {o : Oper} {a : Act} {Q : Exit → Act → World → Prop} (hgd : o.guard = none) (x y : Operand) (t : TypeId)
    (ho : o.op = .store t x y) {b : Nat} {t' : TypeId} {cs ds : Array Value} (hx : a.eval x = .pointer (some ⟨b, 0, none⟩)) (hy : a.eval y = .agg ds) (hB : Blk w b t' cs) (hi : (P.info? t).map (·.size) = some ds.size) (hl : ds.size = cs.size) (h1 : ds.all (·.oneCell') = true)
    (h : ∀ w', Blk w' b t' ds → Only (· = b) w w' → wpList P ops Q rest (a.put o.dst undef) w') : wpList P ops Q (o :: rest) a w := by
  obtain ⟨w', hrun, hb, ho'⟩ := run_storeVarB hB hi hl h1
  refine wpList_plain hgd fun K hK => ?_
  unfold Oper.wp
  simp [execOp, ho, hx, hy, Instr.storeAt, Instr.sureAddr, hrun, Result.andThen]
  exact hK _ _ (h w' hb ho')
/-- The same, as steps of a region that draws its order. -/
theorem step_storeB {P : Program} {ops : Array Oper} {o : Oper} {a : Act} {w : World} {K : Act → World → Prop} {Q : Exit → Act → World → Prop} {E : Prop} (hgd : o.guard = none) (x y : Operand) (t : TypeId)
    (ho : o.op = .store t x y) {b : Nat} {t' : TypeId} {cs ds : Array Value} (hx : a.eval x = .pointer (some ⟨b, 0, none⟩)) (hy : a.eval y = .agg ds) (hB : Blk w b t' cs) (hi : (P.info? t).map (·.size) = some ds.size) (hl : ds.size = cs.size) (h1 : ds.all (·.oneCell') = true)
    (h : ∀ w', Blk w' b t' ds → Only (· = b) w w' → K (a.put o.dst undef) w') : if Region.wanted o (yielded ops a.tmps) = true then Oper.wp P o a w K Q else E := by
  have hw : Region.wanted o (yielded ops a.tmps) = true := by simp [Region.wanted, hgd]
  rw [if_pos hw]
  obtain ⟨w', hrun, hb, ho'⟩ := run_storeVarB hB hi hl h1
  unfold Oper.wp
  simp [execOp, ho, hx, hy, Instr.storeAt, Instr.sureAddr, hrun, Result.andThen]
  exact h w' hb ho'
theorem step_loadB {P : Program} {ops : Array Oper} {o : Oper} {a : Act} {w : World} {K : Act → World → Prop} {Q : Exit → Act → World → Prop} {E : Prop} (hgd : o.guard = none) (x : Operand) (t : TypeId)
    (ho : o.op = .load t x) {b : Nat} {t' : TypeId} {cs : Array Value} (hx : a.eval x = .pointer (some ⟨b, 0, none⟩)) (hB : Blk w b t' cs) (hi : (P.info? t).map (·.size) = some cs.size) (ha : ∀ w, (isAgg t).run P w = .ok true w)
    (h : K (a.put o.dst (.agg cs)) w) : if Region.wanted o (yielded ops a.tmps) = true then Oper.wp P o a w K Q else E := by
  have hw : Region.wanted o (yielded ops a.tmps) = true := by simp [Region.wanted, hgd]
  rw [if_pos hw]
  have hrun := run_loadVarB hB hi (ha w)
  unfold Oper.wp
  simp [execOp, ho, hx, Instr.loadAt, Instr.sureAddr, hrun, Result.andThen]
  exact h
/-- The same, as operations. -/
theorem op_storeB {P : Program} {o : Oper} {a : Act} {w : World} {K : Act → World → Prop} {Q : Exit → Act → World → Prop} (x y : Operand) (t : TypeId)
    (ho : o.op = .store t x y) {b : Nat} {t' : TypeId} {cs ds : Array Value} (hx : a.eval x = .pointer (some ⟨b, 0, none⟩)) (hy : a.eval y = .agg ds) (hB : Blk w b t' cs) (hi : (P.info? t).map (·.size) = some ds.size) (hl : ds.size = cs.size) (h1 : ds.all (·.oneCell') = true)
    (h : ∀ w', Blk w' b t' ds → Only (· = b) w w' → K (a.put o.dst undef) w') : Oper.wp P o a w K Q := by
  obtain ⟨w', hrun, hb, ho'⟩ := run_storeVarB hB hi hl h1
  unfold Oper.wp
  simp [execOp, ho, hx, hy, Instr.storeAt, Instr.sureAddr, hrun, Result.andThen]
  exact h w' hb ho'
section
variable {P : Program} {fn : Func} {ts : Array Value} {w : World} {b i : Nat} {t t' : TypeId} {cs : Array Value}
/-- Results, the first of which lives in a struct's variable. -/
theorem results_c0 (hr : fn.results = #[.cell i t]) (hi : ts[i]? = some (.pointer (some ⟨b, 0, none⟩))) (hB : Blk w b t' cs) (hI : (P.info? t).map (·.size) = some cs.size) (hG : ∀ w, (isAgg t).run P w = .ok true w) : (results fn ts).run P w = .ok (.agg cs) w := by
  have hld := run_loadVarB hB hI (hG w)
  simp [results, hr, hi, asAddr, hld, Result.andThen]
theorem results_c1 {j : Nat} {v : Value} (hr : fn.results = #[.cell i t, .tmp j]) (hi : ts[i]? = some (.pointer (some ⟨b, 0, none⟩))) (hj : ts[j]? = some v) (hB : Blk w b t' cs) (hI : (P.info? t).map (·.size) = some cs.size) (hG : ∀ w, (isAgg t).run P w = .ok true w) : (results fn ts).run P w = .ok (.tuple #[.agg cs, v]) w := by
  have hld := run_loadVarB hB hI (hG w)
  simp [results, hr, hi, hj, asAddr, hld, Result.andThen]
theorem results_c2 {j k : Nat} {v u : Value} (hr : fn.results = #[.cell i t, .tmp j, .tmp k]) (hi : ts[i]? = some (.pointer (some ⟨b, 0, none⟩))) (hj : ts[j]? = some v) (hk : ts[k]? = some u) (hB : Blk w b t' cs) (hI : (P.info? t).map (·.size) = some cs.size) (hG : ∀ w, (isAgg t).run P w = .ok true w) : (results fn ts).run P w = .ok (.tuple #[.agg cs, v, u]) w := by
  have hld := run_loadVarB hB hI (hG w)
  simp [results, hr, hi, hj, hk, asAddr, hld, Result.andThen]
theorem results_cc {b2 j : Nat} {t2 t2' : TypeId} {ds : Array Value} (hr : fn.results = #[.cell i t, .cell j t2]) (hi : ts[i]? = some (.pointer (some ⟨b, 0, none⟩))) (hj : ts[j]? = some (.pointer (some ⟨b2, 0, none⟩))) (hB : Blk w b t' cs) (hI : (P.info? t).map (·.size) = some cs.size) (hG : ∀ w, (isAgg t).run P w = .ok true w) (hB2 : Blk w b2 t2' ds) (hI2 : (P.info? t2).map (·.size) = some ds.size) (hG2 : ∀ w, (isAgg t2).run P w = .ok true w) : (results fn ts).run P w = .ok (.tuple #[.agg cs, .agg ds]) w := by
  have hld := run_loadVarB hB hI (hG w)
  have hld2 := run_loadVarB hB2 hI2 (hG2 w)
  simp [results, hr, hi, hj, asAddr, hld, hld2, Result.andThen]
theorem results_tc {j : Nat} {v : Value} (hr : fn.results = #[.tmp j, .cell i t]) (hi : ts[i]? = some (.pointer (some ⟨b, 0, none⟩))) (hj : ts[j]? = some v) (hB : Blk w b t' cs) (hI : (P.info? t).map (·.size) = some cs.size) (hG : ∀ w, (isAgg t).run P w = .ok true w) : (results fn ts).run P w = .ok (.tuple #[v, .agg cs]) w := by
  have hld := run_loadVarB hB hI (hG w)
  simp [results, hr, hi, hj, asAddr, hld, Result.andThen]
end
end Go.Proofs.YtginhebfjbhmnaaGreat

/-
  '==' between lines.
-/
namespace Go.Proofs.YtginhebfjbhmnaaGreat
set_option maxRecDepth 100000
set_option maxRecDepth 100000
set_option linter.unusedVariables false
set_option linter.unusedSimpArgs false
open Go.RowKit
theorem ln_fields : (Tryz.prog.fieldsOf 64).toList.map (fun f => (f.type, f.offset, f.name == "_")) = [(62, 0, false), (4, 2, false)] := by kernel_rfl
theorem fd_fields : (Tryz.prog.fieldsOf 62).toList.map (fun f => (f.type, f.offset, f.name == "_")) = [(9, 0, false), (9, 1, false)] := by kernel_rfl
theorem two_fields {l : List Field} {a b : TypeId} {i j : Nat} (h : l.map (fun f => (f.type, f.offset, f.name == "_")) = [(a, i, false), (b, j, false)]) : ∃ f g, l = [f, g] ∧ f.type = a ∧ f.offset = i ∧ f.name ≠ "_" ∧ g.type = b ∧ g.offset = j ∧ g.name ≠ "_" := by
  rcases l with _ | ⟨f, _ | ⟨g, _ | ⟨k, l⟩⟩⟩
  · simp at h
  · simp at h
  · simp at h
    obtain ⟨⟨h1, h2, h3⟩, h4, h5, h6⟩ := h
    exact ⟨f, g, rfl, h1, h2, h3, h4, h5, h6⟩
  · simp at h
theorem run_eq_fld (d : Nat) (a b : ByteArray) (W : World) : (Op.equalIn (d + 2) 62 (.agg #[.string a, .string b]) (.agg #[.string a, .string b])).run Tryz.prog W = .ok true W := by
  rw [run_equalIn_struct W (d + 1) 62 _ _ (by kernel_rfl) (by kernel_rfl)]
  obtain ⟨f, g, hl, h1, h2, h3, h4, h5, h6⟩ := two_fields fd_fields
  rw [hl]
  have hk : Tryz.prog.plainKey 9 = true := by kernel_rfl
  have p1 := run_part_plain (P := Tryz.prog) W (e := 9) hk (xs := #[.string a, .string b]) (off := 0) (v := .string a) rfl
  have p2 := run_part_plain (P := Tryz.prog) W (e := 9) hk (xs := #[.string a, .string b]) (off := 1) (v := .string b) rfl
  simp only [Op.eqFields, h1, h2, h3, h4, h5, h6, ne_eq, not_false_eq_true, if_true, Sem.run_bind, p1, p2, Result.andThen_ok, run_equalIn_string W d 9 _ _ Tryz.underlying9]
  simp only [beq_self_eq_true, Bool.not_true, Bool.false_eq_true, if_false, Sem.run_bind, p2, Result.andThen_ok, run_equalIn_string W d 9 _ _ Tryz.underlying9, Sem.run_pure]
theorem run_eq_line (a b : ByteArray) (c : Bool) (W : World) : (Op.equalIn 10000 64 (.agg #[.string a, .string b, .bool c]) (.agg #[.string a, .string b, .bool c])).run Tryz.prog W = .ok true W := by
  rw [run_equalIn_struct W 9999 64 _ _ (by kernel_rfl) (by kernel_rfl)]
  obtain ⟨f, g, hl, h1, h2, h3, h4, h5, h6⟩ := two_fields ln_fields
  rw [hl]
  have hk : Tryz.prog.plainKey 4 = true := by kernel_rfl
  have p1 : (part 62 #[.string a, .string b, .bool c] 0).run Tryz.prog W = .ok (.agg #[.string a, .string b]) W := by
    simp [go_sem, part]
  have p2 := run_part_plain (P := Tryz.prog) W (e := 4) hk (xs := #[.string a, .string b, .bool c]) (off := 2) (v := .bool c) rfl
  have q1 := run_eq_fld 9997 a b W
  simp only [Op.eqFields, h1, h2, h3, h4, h5, h6, ne_eq, not_false_eq_true, if_true, Sem.run_bind, p1, p2, Result.andThen_ok, q1]
  simp only [beq_self_eq_true, Bool.not_true, Bool.false_eq_true, if_false, Sem.run_bind, p2, Result.andThen_ok, run_equalIn_bool' W 9998 4 c c Tryz.underlying4, Sem.run_pure]
end Go.Proofs.YtginhebfjbhmnaaGreat

/-
  Fields and lines: rows of them; package decode's Fields.
-/
namespace Go.Proofs.YtginhebfjbhmnaaGreat
set_option maxRecDepth 100000
set_option maxRecDepth 100000
set_option linter.unusedVariables false
set_option linter.unusedSimpArgs false
open Go.RowKit

abbrev FldT := ByteArray × ByteArray
def fldD (p : FldT) : List Value := [.string p.1, .string p.2]
def rowD (l : List FldT) : List Value := l.flatMap fldD
theorem rowD_length (l : List FldT) : (rowD l).length = l.length * 2 := by
  induction l with
  | nil => rfl
  | cons f r ih => simp only [rowD, List.flatMap_cons, List.length_append, List.length_cons] at ih ⊢; rw [ih]; simp [fldD]; omega
theorem fld_info : (Tryz.prog.info? 62).map (fun i => (i.zero, i.size, i.bytes)) = some (some (.agg #[.string ByteArray.empty, .string ByteArray.empty]), 2, 32) := by kernel_rfl
/-- A line: its field, and whether it is never to be kept. -/
abbrev LnD := FldT × Bool
def lnD (x : LnD) : List Value := [.string x.1.1, .string x.1.2, .bool x.2]
def rowL (l : List LnD) : List Value := l.flatMap lnD
theorem rowL_length (l : List LnD) : (rowL l).length = l.length * 3 := by
  induction l with
  | nil => rfl
  | cons x r ih => unfold rowL at *; rw [List.flatMap_cons, List.length_append, ih, List.length_cons]; simp [lnD]; omega
theorem lnd_info : (Tryz.prog.info? 64).map (fun i => (i.zero, i.size, i.bytes)) = some (some (.agg #[.string ⟨#[]⟩, .string ⟨#[]⟩, .bool false]), 3, 40) := by kernel_rfl
theorem info_parts3D {P : Program} {E : TypeId} {z : Value} {sz by_ : Nat} (h : (P.info? E).map (fun i => (i.zero, i.size, i.bytes)) = some (some z, sz, by_)) : ∃ i, P.info? E = some i ∧ i.zero = some z ∧ i.size = sz ∧ i.bytes = by_ := by
  cases hi : P.info? E with
  | none => rw [hi] at h; cases h
  | some i =>
    rw [hi] at h
    simp at h
    exact ⟨i, rfl, h.1, h.2.1, h.2.2⟩
theorem ln_push {w : World} {base : Nat} {v : Value} {xs : List LnD} (h : Own w base 64 3 v xs.length (rowL xs)) (hb : base ≤ w.heap.size) (x : LnD) (hn : (xs.length + 1) * 40 ≤ 140737488355328) (g : Nat) (hg : w.heap.size = g) :
    ∃ A' c' w', (Builtin.append_ #[39, 39] 39 #[v, .slice (some ⟨g, 0, none⟩) 1 1]).run Tryz.prog (w.alloc (.cells #[.string x.1.1, .string x.1.2, .bool x.2] 64)) = .ok (.slice A' (xs.length + 1) c') w' ∧ Own w' base 64 3 (.slice A' (xs.length + 1) c') (xs ++ [x]).length (rowL (xs ++ [x])) ∧ Only (fun k => v.ownBlock = some k) w w' ∧
      (∀ k, (Value.slice A' (xs.length + 1) c').ownBlock = some k → v.ownBlock = some k ∨ w.heap.size < k) := by
  subst hg
  obtain ⟨i, hi, hiz, his, hib⟩ := info_parts3D lnd_info
  obtain ⟨v', w', hr, ho, hgr, _, hat⟩ := run_append_own_at (P := Tryz.prog) (w.alloc (.cells #[.string x.1.1, .string x.1.2, .bool x.2] 64)) base 39 39 64 i _ 3 40 Tryz.underlying39 hi hiz his hib rfl (by omega) v xs.length _ (h.fresh (Fresh.alloc _ _)) ⟨w.heap.size, 0, none⟩ 1 1 [.string x.1.1, .string x.1.2, .bool x.2] rfl
    (fun j u hj => by
      rw [add_eq _ _ rfl]
      simp only [Nat.zero_add]
      rw [(Blk.new w 64 #[.string x.1.1, .string x.1.2, .bool x.2]).cell]
      simpa using hj) (by
    intro u hu
    simp only [List.mem_cons, List.not_mem_nil, or_false] at hu
    rcases hu with rfl | rfl | rfl <;> rfl) (by unfold maxLen; omega) hn (by simp; omega)
  obtain ⟨A', c', rfl, _⟩ := Own.slice (show Own w' base _ 3 v' _ _ from ho)
  have hO : Only (fun k => v.ownBlock = some k) (w.alloc (.cells #[.string x.1.1, .string x.1.2, .bool x.2] 64)) w' := ⟨hgr.os, hgr.tape, hgr.output, hgr.size, fun k hk hne => hgr.block k hk (fun e => hne e.symm)⟩
  have hO2 : Only (fun k => v.ownBlock = some k) w w' := (Only.of_fresh (Fresh.alloc _ _)).trans hO
  refine ⟨A', c', w', hr, ?_, hO2, fun k hk => ?_⟩
  · have : Own w' base 64 3 (.slice A' (xs.length + 1) c') (xs.length + 1) _ := ho
    simpa [rowL, lnD] using this
  · rcases hat with e | e
    · rw [e] at hk; exact .inl hk
    · rw [e] at hk; simp at hk; right; omega
theorem Many.lnAt {w : World} {A : Option Addr} {xs : List LnD} (h : Many lnD 3 w A xs) (k : Nat) (x : LnD) (hx : xs[k]? = some x) :
    ∃ b o, A = some ⟨b, o, none⟩ ∧ b < w.heap.size ∧ w.cell? ⟨b, o + k * 3, none⟩ = some (.string x.1.1) ∧ w.cell? ⟨b, o + k * 3 + 1, none⟩ = some (.string x.1.2) ∧ w.cell? ⟨b, o + k * 3 + 2, none⟩ = some (.bool x.2) := by
  obtain ⟨hk, rfl⟩ := List.getElem?_eq_some_iff.1 hx
  obtain ⟨b, o, e, hb, hc⟩ := h (by omega)
  exact ⟨b, o, e, hb, by have := hc k hk 0 (by omega); simpa [lnD] using this, by have := hc k hk 1 (by omega); simpa [lnD] using this, by have := hc k hk 2 (by omega); simpa [lnD] using this⟩
theorem rowL_at {x : LnD} {k : Nat} {xs : List LnD} (hf : xs[k]? = some x) : ∀ j, j < 3 → (rowL xs)[k * 3 + j]? = (lnD x)[j]? := by
  intro j hj
  induction xs generalizing k with
  | nil => cases hf
  | cons y r ih =>
    unfold rowL at *
    cases k with
    | zero =>
      simp only [List.getElem?_cons_zero, Option.some.injEq] at hf
      subst hf
      rw [List.flatMap_cons, List.getElem?_append_left (by simp [lnD]; omega)]
      simp
    | succ k =>
      rw [List.flatMap_cons, List.getElem?_append_right (by simp [lnD]; omega)]
      have := ih (k := k) (by simpa using hf)
      rw [show (k + 1) * 3 + j - (lnD y).length = k * 3 + j by simp [lnD]; omega]
      exact this
theorem own_manyL {w : World} {base n c : Nat} {E : TypeId} {A : Option Addr} {xs : List LnD} (h : Own w base E 3 (.slice A n c) n (rowL xs)) : Many lnD 3 w A xs := by
  intro hn
  have hl := h.length
  rw [rowL_length] at hl
  rcases h.form with ⟨_, h0, _⟩ | ⟨g, cap, e, hb, hlt, _, _, hc⟩
  · omega
  · injection e with e1
    refine ⟨g, 0, e1, hlt, fun k hk j hj => ?_⟩
    have := rowL_at (List.getElem?_eq_getElem hk) j hj
    rw [Nat.zero_add, (hc _ (by rw [rowL_length]; omega)).1, this]
/-- A row of fields that is written field by field. -/
structure FdR (w : World) (p n : Nat) (xs : List FldT) (j : Nat) (wr : World) : Prop where
  row : ∃ cs : Array Value, cs.size = n * 2 ∧ Blk wr p 62 cs ∧ ∀ (i : Nat) (f : FldT), i < j → xs[i]? = some f → cs[i * 2]? = some (.string f.1) ∧ cs[i * 2 + 1]? = some (.string f.2)
  fr : Fresh w wr
  hp : w.heap.size ≤ p
theorem FdR.fresh {w wr wx : World} {p n j : Nat} {xs : List FldT} (h : FdR w p n xs j wr) (hf : Fresh wr wx) : FdR w p n xs j wx := by
  obtain ⟨⟨cs, h1, h2, h3⟩, h4, h5⟩ := h
  exact ⟨⟨cs, h1, h2.fresh hf, h3⟩, h4.trans hf, h5⟩
theorem FdR.step {w wr : World} {p n j : Nat} {xs : List FldT} (h : FdR w p n xs j wr) (hj : j < n) (f : FldT) (hv : xs[j]? = some f) : FdR w p n xs (j + 1) ((wr.setCell ⟨p, j * 2, none⟩ (.string f.1)).setCell ⟨p, j * 2 + 1, none⟩ (.string f.2)) := by
  obtain ⟨⟨cs, h1, h2, h3⟩, h4, h5⟩ := h
  refine ⟨⟨(cs.setIfInBounds (j * 2) (.string f.1)).setIfInBounds (j * 2 + 1) (.string f.2), by simpa using h1, (h2.set (j * 2) _).set (j * 2 + 1) _, fun i g hi hg => ?_⟩, (h4.step _ _ h5).step _ _ h5, h5⟩
  by_cases e : i = j
  · subst e
    rw [hv] at hg
    cases hg
    refine ⟨?_, ?_⟩
    · rw [Array.getElem?_setIfInBounds_ne (by omega)]
      simp [Array.getElem?_setIfInBounds, h1]
      omega
    · simp [Array.getElem?_setIfInBounds, h1]
      omega
  · have := h3 i g (by omega) hg
    refine ⟨?_, ?_⟩
    · rw [Array.getElem?_setIfInBounds_ne (by omega), Array.getElem?_setIfInBounds_ne (by omega)]
      exact this.1
    · rw [Array.getElem?_setIfInBounds_ne (by omega), Array.getElem?_setIfInBounds_ne (by omega)]
      exact this.2
/-- The fields of lines. -/
def FldsP (xs : List LnD) (w : World) (e : Ending) (w' : World) : Prop := ∃ p, e = .returned (.slice (some ⟨p, 0, none⟩) xs.length xs.length) ∧ w.heap.size ≤ p ∧ Many fldD 2 w' (some ⟨p, 0, none⟩) (xs.map (·.1)) ∧ Fresh w w'
end Go.Proofs.YtginhebfjbhmnaaGreat

