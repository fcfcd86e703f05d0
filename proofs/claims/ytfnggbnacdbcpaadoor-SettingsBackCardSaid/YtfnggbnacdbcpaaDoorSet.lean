/-
  Layer 16: settings: plain functions, and the contracts of package settings.
-/
import Derived.Test.YtfnggbnacdbcpaaDoorLaid
import Derived.Test.YtfnggbnacdbcpaaDoorItem
import Derived.Test.YtfnggbnacdbcpaaDoorGen
import Derived.Handy
namespace Go.Proofs.YtfnggbnacdbcpaaDoor
set_option linter.unusedVariables false
open Go.RowKit Go.ChangeShapes Go.WideShapes Go.Deep

/-- A struct of whole numbers, read as such. -/
theorem trod_intsS {H : Type} {enc : TypeId × Value → H} {P : Program} {w : World} {base : Nat} {spare : Nat → Bool} {held : Bool} {e : TypeId} {fuel : Nat} {cs : List Value} {p : List MemPlace} {fs : Array Field} {zs : List Int} (he : P.underlying e = some (.struct fs)) (hone : oneCellFields P fs = true)
    (hint : ∀ (j : Nat) (f : Field), fs[j]? = some f → P.underlying f.type = some (.int .i64)) (hC : P.cellsOf e = fs.size) (hz : zs.length = fs.size)
    (h : DataW.trod enc P w base spare held fuel e cs = some (.agg (zs.map fun z => .lit (.int .i64 z)), p)) : cs = zs.map (Value.int .i64) := by
  obtain ⟨ys, n', hn', hy, hlen, hyl, hfld⟩ := DataW.trod_struct he h
  simp only [Prod.mk.injEq, DataW.agg.injEq] at hy
  apply List.ext_getElem?
  intro j
  by_cases hj : j < fs.size
  · have hfj : fs[j]? = some fs[j] := Array.getElem?_eq_getElem hj
    obtain ⟨ho, hk⟩ := hone_of hone j _ hfj
    have h1 := hfld j _ hfj
    rw [ho, hk] at h1
    have hys : ys[j]? = some (ys[j]'(by omega)) := List.getElem?_eq_getElem (by omega)
    have hd : (cs.drop j).take 1 = [cs[j]'(by omega)] := by
      rw [List.drop_eq_getElem_cons (by omega)]; rfl
    rw [hd, hys] at h1
    obtain ⟨z, hz1, hz2, _⟩ := DataW.trod_int (hint j _ hfj) h1
    have h3 : (zs.map fun z => (DataW.lit (.int .i64 z) : DataW H))[j]? = some (ys[j]'(by omega)).1 := by rw [hy.1, List.getElem?_map, hys]; rfl
    rw [List.getElem?_map, List.getElem?_eq_getElem (show j < zs.length by omega)] at h3
    have h4 : (DataW.lit (.int .i64 (zs[j]'(by omega))) : DataW H) = .lit (.int .i64 z) := by
      have := Option.some.inj h3
      rw [hz2] at this
      exact this
    simp at h4
    rw [List.getElem?_eq_getElem (by omega), List.getElem?_map, List.getElem?_eq_getElem (show j < zs.length by omega)]
    simp at hz1
    simp [hz1, h4]
  · rw [List.getElem?_eq_none (by omega), List.getElem?_eq_none (by simp; omega)]
def rulL : List (List Int) := [[2, 0, 1, 101], [4, 0, 2147483647, 103], [5, 16384, 16777215, 101]]
def rul (i j : Nat) : Int := (rulL.getD i []).getD j 0
def Rul (w : World) : Prop := ∀ s e, s < 3 → e < 4 → w.cell? ⟨0, s * 4 + e, none⟩ = some (.int .i64 (rul s e))
theorem Rul.lt {w : World} (h : Rul w) : 0 < w.heap.size := cell_block_lt (h 0 0 (by omega) (by omega))
theorem Rul.fresh {w w' : World} (h : Rul w) (hf : Fresh w w') : Rul w' := fun s e hs he => (hf.cell (p := ⟨_, _, none⟩) h.lt).trans (h s e hs he)
theorem Rul.laid {w : World} {l : List (String × DataW Unit)} (hL : laidMetH Tryd.prog l w) (hp : (l.all fun x => x.2.handleName?.isNone) = true) (hm : ("squint/settings.rules", Rows.laid_squint_settings_rules) ∈ l) : Rul w := by
  obtain ⟨cs, fuel, p, hc, ht⟩ := laid_cells (P := Tryd.prog) hL hp hm (g := 0) (t := 74) (by kernel_rfl) (by kernel_rfl)
  have ht' : DataW.trod (fun _ => ()) Tryd.prog w 0 (fun _ => true) false fuel 74 cs = some (.agg (rulL.map fun zs => .agg (zs.map fun z => .lit (.int .i64 z))), p) := ht
  obtain ⟨hl, hi⟩ := trod_rows (sz := 4) (n := 3) (f := fun i => (rulL.getD i []).map (Value.int .i64)) Tryd.underlying74 (by kernel_rfl) (by kernel_rfl) ht' (fun i d hd fu c q hq => by
    rw [List.getElem?_map] at hd
    have hlen : ∀ zs ∈ rulL, zs.length = 4 := by decide
    cases hz : rulL[i]? with
    | none => rw [hz] at hd; cases hd
    | some zs =>
      rw [hz] at hd
      cases hd
      have := trod_intsS Tryd.underlying73 (by kernel_rfl) (by
        intro j f hj
        match j, hj with
        | 0, hj => (simp at hj; subst hj; exact Tryd.underlying3)
        | 1, hj => (simp at hj; subst hj; exact Tryd.underlying3)
        | 2, hj => (simp at hj; subst hj; exact Tryd.underlying3)
        | 3, hj => (simp at hj; subst hj; exact Tryd.underlying36)) (by kernel_rfl) (hlen zs (List.mem_of_getElem? hz)) hq
      rw [this]
      simp [List.getD, hz])
  intro s e hs he
  rw [hc _ (by omega), hi s e hs he]
  have hlen : ∀ s, s < 3 → (rulL.getD s []).length = 4 := by decide
  rw [List.getElem?_map, List.getElem?_eq_getElem (by rw [hlen s hs]; exact he)]
  rw [Option.map_some]
  congr 2
  have e1 : ∀ (l : List Int) (h : e < l.length), l[e] = l.getD e 0 := fun l h => by simp [List.getD, h]
  exact e1 _ _
/-- All six settings. -/
structure SetV where
  (ta pu sm wi fr li : Int)
def SetV.val (s : SetV) : Value := .agg #[.int .i64 s.ta, .int .i64 s.pu, .int .i64 s.sm, .int .i64 s.wi, .int .i64 s.fr, .int .i64 s.li]
def SetV.cells (s : SetV) : Array Value := #[.int .i64 s.ta, .int .i64 s.pu, .int .i64 s.sm, .int .i64 s.wi, .int .i64 s.fr, .int .i64 s.li]
def set1 (s : SetV) (n v : Int) : SetV :=
  if n = 1 then { s with ta := v } else if n = 2 then { s with pu := v } else if n = 3 then { s with sm := v } else if n = 4 then { s with wi := v } else if n = 5 then { s with fr := v } else if n = 6 then { s with li := v } else s
def wrongC (n v : Int) : Int :=
  if v < 0 then 101 else if 4294967295 < v then 101 else if n = 2 ∧ 1 < v then 101 else if n = 4 ∧ 2147483647 < v then 103 else if n = 5 ∧ v < 16384 then 101 else if n = 5 ∧ 16777215 < v then 101 else 0
def fltC (c : Int) : Value := .agg #[.int .i64 c, .bool (decide (c ≠ 0))]
theorem run_index_agg {P : Program} {w : World} {t e : TypeId} {n k sz : Nat} {cs : Array Value} {fs : Array Field} {i : TypeInfo} (ht : P.underlying t = some (.array n e)) (he : P.underlying e = some (.struct fs)) (hi : P.info? e = some i) (hs : i.size = sz) (hk : k < n) :
    (Instr.index t (.agg cs) (.int .i64 (k : Int))).run P w = .ok (.agg (cs.extract (k * sz) (k * sz + sz))) w := by
  have h1 : (0 : Int) ≤ (k : Int) ∧ (k : Int) < (n : Int) := by omega
  simp [Instr.index, run_underlying ht, run_underlying he, asIntOf, h1, part, isAgg, sizeOf, typeInfo, hi, hs, hk, go_sem]
theorem ix_rule (k : Nat) (hk : k < 3) (cs : Array Value) (W : World) : (Instr.index 74 (.agg cs) (.int .i64 (k : Int))).run Tryd.prog W = .ok (.agg (cs.extract (k * 4) (k * 4 + 4))) W := by
  obtain ⟨i, hi, his⟩ : ∃ i, Tryd.prog.info? 73 = some i ∧ i.size = 4 := by
    have h : (Tryd.prog.info? 73).map (·.size) = some 4 := by kernel_rfl
    cases hh : Tryd.prog.info? 73 with
    | none => rw [hh] at h; cases h
    | some i => rw [hh] at h; exact ⟨i, rfl, by simpa using h⟩
  exact run_index_agg Tryd.underlying74 Tryd.underlying73 hi his hk
theorem ix_rule0 (W : World) : (Instr.index 74 (.agg #[.int .i64 2, .int .i64 0, .int .i64 1, .int .i64 101, .int .i64 4, .int .i64 0, .int .i64 2147483647, .int .i64 103, .int .i64 5, .int .i64 16384, .int .i64 16777215, .int .i64 101]) (.int .i64 0)).run Tryd.prog W = .ok (.agg #[.int .i64 2, .int .i64 0, .int .i64 1, .int .i64 101]) W := ix_rule 0 (by omega) _ W
theorem ix_rule1 (W : World) : (Instr.index 74 (.agg #[.int .i64 2, .int .i64 0, .int .i64 1, .int .i64 101, .int .i64 4, .int .i64 0, .int .i64 2147483647, .int .i64 103, .int .i64 5, .int .i64 16384, .int .i64 16777215, .int .i64 101]) (.int .i64 1)).run Tryd.prog W = .ok (.agg #[.int .i64 4, .int .i64 0, .int .i64 2147483647, .int .i64 103]) W := ix_rule 1 (by omega) _ W
theorem ix_rule2 (W : World) : (Instr.index 74 (.agg #[.int .i64 2, .int .i64 0, .int .i64 1, .int .i64 101, .int .i64 4, .int .i64 0, .int .i64 2147483647, .int .i64 103, .int .i64 5, .int .i64 16384, .int .i64 16777215, .int .i64 101]) (.int .i64 2)).run Tryd.prog W = .ok (.agg #[.int .i64 5, .int .i64 16384, .int .i64 16777215, .int .i64 101]) W := ix_rule 2 (by omega) _ W
set_option maxRecDepth 100000 in
set_option maxHeartbeats 1600000 in
theorem set_wrong (n v : Int) (w : World) (hR : Rul w) :
    Calls Tryd.prog 21 #[.int .i64 n, .int .i64 v] w fun en w' => en = .returned (fltC (wrongC n v)) ∧ Fresh w w' := by
  have HR := Lib.hid hR
  have hlt := hR.lt
  by_cases h0 : v < 0
  · have HC : Hid (wrongC n v = 101) := Lib.hid (by simp [wrongC, h0])
    clear hR
    have q1 : ¬ 0 ≤ v := by omega
    go_enter Tryd.func21, Tryd.ntmps21
    go_wp2_with (go_at_call 23; go_in)
    go_returns
    exact ⟨by rw [HC.out]; rfl, by repeat (first | with_reducible exact Fresh.refl _ | with_reducible apply Fresh.drewS | with_reducible apply Fresh.allocS | (with_reducible refine Fresh.step2 ?_ ?_; focus (simp only [World.size_alloc]; omega)))⟩
  by_cases h1 : 4294967295 < v
  · have HC : Hid (wrongC n v = 101) := Lib.hid (by simp [wrongC, h1])
    clear hR
    have q1 : ¬ v ≤ 4294967295 := by omega
    have q2 : 0 ≤ v := by omega
    go_enter Tryd.func21, Tryd.ntmps21
    go_wp2_with (go_at_call 23; go_in)
    go_returns
    exact ⟨by rw [HC.out]; rfl, by repeat (first | with_reducible exact Fresh.refl _ | with_reducible apply Fresh.drewS | with_reducible apply Fresh.allocS | (with_reducible refine Fresh.step2 ?_ ?_; focus (simp only [World.size_alloc]; omega)))⟩
  have g0 := hR 0 0 (by omega) (by omega)
  have g1 := hR 0 1 (by omega) (by omega)
  have g2 := hR 0 2 (by omega) (by omega)
  have g3 := hR 0 3 (by omega) (by omega)
  have g4 := hR 1 0 (by omega) (by omega)
  have g5 := hR 1 1 (by omega) (by omega)
  have g6 := hR 1 2 (by omega) (by omega)
  have g7 := hR 1 3 (by omega) (by omega)
  have g8 := hR 2 0 (by omega) (by omega)
  have g9 := hR 2 1 (by omega) (by omega)
  have g10 := hR 2 2 (by omega) (by omega)
  have g11 := hR 2 3 (by omega) (by omega)
  simp only [Nat.zero_mul, Nat.one_mul, Nat.zero_add, Nat.reduceAdd, Nat.reduceMul, Nat.add_zero] at g0 g1 g2 g3 g4 g5 g6 g7 g8 g9 g10 g11
  have hv : rul 0 0 = 2 ∧ rul 0 1 = 0 ∧ rul 0 2 = 1 ∧ rul 0 3 = 101 ∧ rul 1 0 = 4 ∧ rul 1 1 = 0 ∧ rul 1 2 = 2147483647 ∧ rul 1 3 = 103 ∧ rul 2 0 = 5 ∧ rul 2 1 = 16384 ∧ rul 2 2 = 16777215 ∧ rul 2 3 = 101 := by decide
  obtain ⟨v0, v1, v2, v3, v4, v5, v6, v7, v8, v9, v10, v11⟩ := hv
  rw [v0] at g0; rw [v1] at g1; rw [v2] at g2; rw [v3] at g3; rw [v4] at g4; rw [v5] at g5; rw [v6] at g6; rw [v7] at g7; rw [v8] at g8; rw [v9] at g9; rw [v10] at g10; rw [v11] at g11
  clear v0 v1 v2 v3 v4 v5 v6 v7 v8 v9 v10 v11 hR
  have q1 : v ≤ 4294967295 := by omega
  have q2 : 0 ≤ v := by omega
  have i0 := ix_rule0
  have i1 := ix_rule1
  have i2 := ix_rule2
  have q3 : ¬ v < 0 := h0
  have key : (n = 2 ∧ 1 < v ∧ wrongC n v = 101) ∨ (n = 2 ∧ ¬ 1 < v ∧ wrongC n v = 0) ∨ (n = 4 ∧ 2147483647 < v ∧ wrongC n v = 103) ∨ (n = 4 ∧ ¬ 2147483647 < v ∧ wrongC n v = 0) ∨
      (n = 5 ∧ v < 16384 ∧ wrongC n v = 101) ∨ (n = 5 ∧ ¬ v < 16384 ∧ 16777215 < v ∧ wrongC n v = 101) ∨ (n = 5 ∧ ¬ v < 16384 ∧ ¬ 16777215 < v ∧ wrongC n v = 0) ∨ ((2 == n) = false ∧ (4 == n) = false ∧ (5 == n) = false ∧ wrongC n v = 0) := by
    unfold wrongC
    rw [if_neg h0, if_neg h1]
    by_cases n2 : n = 2
    · subst n2; by_cases c : 1 < v <;> simp [c]
    by_cases n4 : n = 4
    · subst n4; by_cases c : 2147483647 < v <;> simp [c]
    by_cases n5 : n = 5
    · subst n5
      by_cases c : v < 16384
      · simp [c]
      · by_cases d : 16777215 < v <;> simp [c, d]
    simp [n2, n4, n5]
    omega
  clear h0 h1 HR
  rcases key with ⟨rfl, c1, hc⟩ | ⟨rfl, c1, hc⟩ | ⟨rfl, c1, hc⟩ | ⟨rfl, c1, hc⟩ | ⟨rfl, c1, hc⟩ | ⟨rfl, c1, c2, hc⟩ | ⟨rfl, c1, c2, hc⟩ | ⟨c1, c2, c3, hc⟩
  all_goals
    have HC := Lib.hid hc
    clear hc
    go_enter Tryd.func21, Tryd.ntmps21
    go_wp2_with (go_at_call 23; go_in)
    go_rounds 4
    go_returns
    exact ⟨by rw [HC.out]; rfl, by repeat (first | with_reducible exact Fresh.refl _ | with_reducible apply Fresh.drewS | with_reducible apply Fresh.allocS | (with_reducible refine Fresh.step2 ?_ ?_; focus (simp only [World.size_alloc]; omega)))⟩
end Go.Proofs.YtfnggbnacdbcpaaDoor
