/-
  Tables at package level: what a listed variable's datum says of its cells.
-/
import Derived.Test.YtjediikcfhdgiaaDoorOwn
import Derived.LaidMore
import Derived.MakeChecks
import Derived.Stop.Joined
namespace Go.Proofs.YtjediikcfhdgiaaDoor
set_option linter.unusedVariables false
open Go.RowKit Go.ChangeShapes Go.WideShapes Go.Deep

theorem laidVars_mem {P : Program} {w : World} : ∀ {l : List (String × DataW Unit)} {ps : List MemPlace}, DataW.LaidVars P w l ps → ∀ {n : String} {d : DataW Unit}, (n, d) ∈ l →
    ∃ g t cs fuel p, P.globalNamed n = some g ∧ (P.globals[g]?).map (·.type) = some t ∧ w.var? P n = some cs ∧ DataW.trod (fun _ => ()) P w 0 (fun _ => true) false fuel t cs.toList = some (d, p)
  | [], _, _, _, _, hm => by cases hm
  | (n0, d0) :: r, ps, h, n, d, hm => by
    obtain ⟨g, t, cs, fuel, p, q, h1, h2, h3, h4, h5, _⟩ := h
    rcases List.mem_cons.1 hm with e | e
    · cases e
      exact ⟨g, t, cs, fuel, p, h1, h2, h3, h4⟩
    · exact laidVars_mem h5 e
/-- A listed variable's cells, and how they read. -/
theorem laid_cells {P : Program} {w : World} {l : List (String × DataW Unit)} (hL : laidMetH P l w) (hp : (l.all fun x => x.2.handleName?.isNone) = true) {n : String} {d : DataW Unit} (hm : (n, d) ∈ l) {g : Nat} {t : TypeId}
    (hg : P.globalNamed n = some g) (ht : (P.globals[g]?).map (·.type) = some t) :
    ∃ (cs : List Value) (fuel : Nat) (p : List MemPlace), (∀ i, i < cs.length → w.cell? ⟨g, i, none⟩ = cs[i]?) ∧ DataW.trod (fun _ => ()) P w 0 (fun _ => true) false fuel t cs = some (d, p) := by
  rw [MakeChecks.laidMetH_plain _ _ _ hp] at hL
  obtain ⟨ps, hv, _, _⟩ := hL
  obtain ⟨g', t', cs, fuel, p, h1, h2, h3, h4⟩ := laidVars_mem hv hm
  obtain rfl := Option.some.inj (hg.symm.trans h1)
  obtain rfl := Option.some.inj (ht.symm.trans h2)
  refine ⟨cs.toList, fuel, p, fun i hi => ?_, h4⟩
  have := World.var?_cell hg h3 i
  rw [Array.getElem?_toList]
  exact this

section
variable {H : Type} {enc : TypeId × Value → H} {P : Program} {w : World} {base : Nat} {spare : Nat → Bool} {held : Bool} {t e : TypeId} {fuel : Nat} {cs : List Value} {p : List MemPlace}
theorem trod_intL {k : IntKind} {z : Int} (he : P.underlying e = some (.int k)) (h : DataW.trod enc P w base spare held fuel e cs = some (.lit (.int k z), p)) : cs = [.int k z] := by
  obtain ⟨n, e1, e2, _⟩ := DataW.trod_int he h
  simp at e2
  obtain ⟨rfl, _⟩ := e2
  exact e1
/-- A row of data, each of which fixes its cells. -/
theorem trod_rows {sz n : Nat} (ht : P.underlying t = some (.array n e)) (hE : P.cellsOf e = sz) (hC : P.cellsOf t = n * sz) {ds : List (DataW H)} {f : Nat → List Value}
    (h : DataW.trod enc P w base spare held fuel t cs = some (.agg ds, p)) (hf : ∀ i d, ds[i]? = some d → ∀ (fu : Nat) (c : List Value) (q : List MemPlace), DataW.trod enc P w base spare held fu e c = some (d, q) → c = f i) :
    cs.length = n * sz ∧ ∀ i j, i < n → j < sz → cs[i * sz + j]? = (f i)[j]? := by
  obtain ⟨xs, m, _, hx, hlen, hxl, hel⟩ := DataW.trod_array ht h
  simp only [Prod.mk.injEq, DataW.agg.injEq] at hx
  refine ⟨hlen.trans hC, fun i j hi hj => ?_⟩
  have h1 := hel i hi
  rw [List.getElem?_eq_getElem (by omega), hE] at h1
  have h2 := hf i (xs[i]'(by omega)).1 (by rw [hx.1]; simp [List.getElem?_map, List.getElem?_eq_getElem (show i < xs.length by omega)]) _ _ _ h1
  rw [← h2, List.getElem?_take_of_lt hj, List.getElem?_drop]
theorem trod_ints {k : IntKind} {n : Nat} (ht : P.underlying t = some (.array n e)) (he : P.underlying e = some (.int k)) (hE : P.cellsOf e = 1) (hC : P.cellsOf t = n) {zs : List Int} (hn : zs.length = n)
    (h : DataW.trod enc P w base spare held fuel t cs = some (.agg (zs.map fun z => .lit (.int k z)), p)) : cs = zs.map (Value.int k) := by
  obtain ⟨hl, hi⟩ := trod_rows (f := fun i => [.int k (zs.getD i 0)]) ht hE (by omega) h (fun i d hd fu c q hc => by
    rw [List.getElem?_map] at hd
    cases hz : zs[i]? with
    | none => rw [hz] at hd; cases hd
    | some z =>
      rw [hz] at hd
      cases hd
      rw [trod_intL he hc]
      simp [List.getD, hz])
  apply List.ext_getElem?
  intro i
  by_cases hin : i < n
  · have := hi i 0 hin (by omega)
    rw [Nat.mul_one, Nat.add_zero] at this
    rw [this]
    simp [List.getElem?_map, List.getD, List.getElem?_eq_getElem (show i < zs.length by omega)]
  · rw [List.getElem?_eq_none (by omega), List.getElem?_eq_none (by simp; omega)]
end
end Go.Proofs.YtjediikcfhdgiaaDoor

