/-
  Package reg: entries, Get, Fail; the streams and the document's list.
-/
import Derived.Test.YtjediikcfhdgiaaDoorRegB
import Derived.Test.YtjediikcfhdgiaaDoorSetL
namespace Go.Proofs.YtjediikcfhdgiaaDoor
set_option maxRecDepth 100000
set_option linter.unusedVariables false
set_option linter.unusedSimpArgs false
open Go.RowKit Go.Maps
open Go.ChangeMaps (setBlock heap_setBlock_same)
/-- The document's state of a live stream. -/
def stX (a : Int) : RS := if a = 1 then ⟨1, 1, 1, 0⟩ else if a = 2 then ⟨1, 1, 0, 0⟩ else ⟨1, 0, 1, 0⟩
def docS (n : Nat) (s : StD) : DSt := ⟨s.id, ownI n s.id, stX s.a⟩
def docL (n : Nat) (X : List StD) : List DSt := X.map (docS n)
theorem stX_ok : ∀ a : Fin 4, 1 ≤ a.val → stX (a.val : Int) ∈ rsL ∧ (stX (a.val : Int)).N = (a.val : Int) ∧ ∀ e : Fin 9, doA (a.val : Int) (e.val : Int) = (refX (stX (a.val : Int)) (e.val : Int)).N ∧ (doA (a.val : Int) (e.val : Int) ≠ 4 → refX (stX (a.val : Int)) (e.val : Int) = stX (doA (a.val : Int) (e.val : Int))) := by decide
theorem stX_in {a : Int} (h1 : 1 ≤ a) (h3 : a ≤ 3) : stX a ∈ rsL ∧ (stX a).N = a := by
  have := stX_ok ⟨a.toNat, by omega⟩ (by simp; omega)
  simp only at this
  rw [Int.toNat_of_nonneg (by omega)] at this
  exact ⟨this.1, this.2.1⟩
theorem stX_do {a e : Int} (h1 : 1 ≤ a) (h3 : a ≤ 3) (h0 : 0 ≤ e) (h8 : e ≤ 8) : doA a e = (refX (stX a) e).N ∧ (doA a e ≠ 4 → refX (stX a) e = stX (doA a e)) := by
  have := (stX_ok ⟨a.toNat, by omega⟩ (by simp; omega)).2.2 ⟨e.toNat, by omega⟩
  simp only at this
  rwa [Int.toNat_of_nonneg (by omega), Int.toNat_of_nonneg (by omega)] at this
theorem find_at {X : List StD} {id : Int} {s : StD} (h : X.find? (fun s => decide (s.id = id)) = some s) : ∃ k, X[k]? = some s ∧ s.id = id ∧ ∀ (j : Nat) (t : StD), j < k → X[j]? = some t → t.id ≠ id := by
  obtain ⟨hp, k, hk, hX, hn⟩ := List.find?_eq_some_iff_getElem.1 h
  refine ⟨k, by rw [List.getElem?_eq_getElem hk, hX], by simpa using hp, fun j t hj ht => ?_⟩
  have := hn j hj
  obtain ⟨hj2, rfl⟩ := List.getElem?_eq_some_iff.1 ht
  simpa using this
theorem fd_some {n : Nat} {X : List StD} {id : Int} {s : StD} {k : Nat} (hx : X[k]? = some s) (hs : s.id = id) (hn : ∀ (j : Nat) (t : StD), j < k → X[j]? = some t → t.id ≠ id) : fdD (docL n X) id = (k : Int) :=
  fdD_some (d := docS n s) (by unfold docL; rw [List.getElem?_map, hx]; rfl) hs (fun j d hj hd => by
    unfold docL at hd
    rw [List.getElem?_map] at hd
    cases ht : X[j]? with
    | none => rw [ht] at hd; cases hd
    | some t =>
      rw [ht] at hd
      simp only [Option.map_some, Option.some.injEq] at hd
      subst hd
      exact hn j t hj ht)
theorem fd_none {n : Nat} {X : List StD} {id : Int} (h : X.find? (fun s => decide (s.id = id)) = none) : fdD (docL n X) id = -1 :=
  fdD_none (fun j d hd => by
    unfold docL at hd
    rw [List.getElem?_map] at hd
    cases ht : X[j]? with
    | none => rw [ht] at hd; cases hd
    | some t =>
      rw [ht] at hd
      simp only [Option.map_some, Option.some.injEq] at hd
      subst hd
      have := List.find?_eq_none.1 h t (List.mem_of_getElem? ht)
      show t.id ≠ id
      simpa using this)
theorem gone_at {X : List StD} {k : Nat} {s : StD} (hr : X.Pairwise (fun s t => s.id < t.id)) (hx : X[k]? = some s) : gone s.id X = X.take k ++ X.drop (k + 1) := by
  obtain ⟨hk, e⟩ := List.getElem?_eq_some_iff.1 hx
  have hX : X = X.take k ++ (s :: X.drop (k + 1)) := by rw [← e, ← List.drop_eq_getElem_cons hk, List.take_append_drop]
  have h1 : ∀ t ∈ X.take k, t.id ≠ s.id := fun t ht => by
    rw [hX] at hr
    have := (List.pairwise_append.1 hr).2.2 t ht s (by simp)
    omega
  have h2 : ∀ t ∈ X.drop (k + 1), t.id ≠ s.id := fun t ht => by
    rw [hX] at hr
    have := (List.pairwise_cons.1 (List.pairwise_append.1 hr).2.1).1 t ht
    omega
  conv => lhs; rw [hX]
  unfold gone
  rw [List.filter_append, List.filter_cons, if_neg (by simp)]
  rw [show (X.take k).filter (fun t => decide (t.id ≠ s.id)) = X.take k from gone_none h1, show (X.drop (k + 1)).filter (fun t => decide (t.id ≠ s.id)) = X.drop (k + 1) from gone_none h2]
theorem led_at {X : List StD} {k : Nat} {s : StD} {a : Int} {cs : List Int} (hr : X.Pairwise (fun s t => s.id < t.id)) (hx : X[k]? = some s) : led s a cs X = X.take k ++ (⟨s.id, s.p, a, cs⟩ :: X.drop (k + 1)) := by
  obtain ⟨hk, e⟩ := List.getElem?_eq_some_iff.1 hx
  have hX : X = X.take k ++ (s :: X.drop (k + 1)) := by rw [← e, ← List.drop_eq_getElem_cons hk, List.take_append_drop]
  have h1 : ∀ t ∈ X.take k, t.id ≠ s.id := fun t ht => by
    rw [hX] at hr
    have := (List.pairwise_append.1 hr).2.2 t ht s (by simp)
    omega
  have h2 : ∀ t ∈ X.drop (k + 1), t.id ≠ s.id := fun t ht => by
    rw [hX] at hr
    have := (List.pairwise_cons.1 (List.pairwise_append.1 hr).2.1).1 t ht
    omega
  have h3 : ∀ Y : List StD, (∀ t ∈ Y, t.id ≠ s.id) → (Y.map fun t => if t.id = s.id then (⟨t.id, t.p, a, cs⟩ : StD) else t) = Y := fun Y hY => by
    conv => rhs; rw [← List.map_id Y]
    exact List.map_congr_left (fun t ht => by rw [if_neg (hY t ht)]; rfl)
  conv => lhs; rw [hX]
  unfold led
  rw [List.map_append, List.map_cons, h3 _ h1, h3 _ h2, if_pos rfl]
theorem doc_step {n : Nat} {X : List StD} {k : Nat} {s : StD} {e : Int} (hr : X.Pairwise (fun s t => s.id < t.id)) (hx : X[k]? = some s) (hf : X.find? (fun t => decide (t.id = s.id)) = some s) (h1 : 1 ≤ s.a) (h3 : s.a ≤ 3) (h0 : 0 ≤ e) (h8 : e ≤ 8) :
    doD (docL n X) k (docS n s) e = docL n (stepX X s.id e) := by
  have hd := stX_do h1 h3 h0 h8
  unfold stepX
  rw [hf]
  simp only
  unfold doD midD docS
  simp only
  rw [← hd.1]
  by_cases h4 : doA s.a e = 4
  · rw [if_pos h4, if_pos h4, gone_at hr hx]
    unfold docL
    rw [List.nil_append, List.map_append, List.map_take, List.map_drop]
  · rw [if_neg h4, if_neg h4, led_at hr hx, hd.2 h4]
    unfold docL
    rw [List.map_append, List.map_cons, List.map_take, List.map_drop]
    rfl
/-- An entry. -/
def entV (n : Nat) (s : StD) : Value := .agg #[.int .i64 s.id, .int .i64 (ownI n s.id : Int), .int .i64 s.a]
set_option maxHeartbeats 3200000 in
theorem l14_entry (n : Nat) (s : StD) (w : World) (h1 : 1 ≤ s.a) (h3 : s.a ≤ 3) : Calls Tryd.prog 14 #[.agg #[.int .i64 s.id, .int .i64 (ownI n s.id : Int), .int .i64 (stX s.a).b, .int .i64 (stX s.a).w, .int .i64 (stX s.a).t, .int .i64 (stX s.a).r]] w fun e w' => e = .returned (entV n s) ∧ Fresh w w' := by
  obtain ⟨hx, hN⟩ := stX_in h1 h3
  have HNU := Lib.hid (fun W => ref_num (stX s.a) W hx)
  rw [hN] at HNU
  unfold entV
  obtain ⟨X, hX⟩ : ∃ X, stX s.a = X := ⟨_, rfl⟩
  rw [hX] at HNU ⊢
  clear hx hN hX h1 h3
  obtain ⟨b, w', t, r⟩ := X
  simp only [RS.v] at HNU ⊢
  generalize s.a = a at *
  generalize s.id = id at *
  generalize (ownI n id : Int) = o at *
  have HFIN : Hid (∀ W, Fresh w W → (fun e w' => e = Ending.returned (.agg #[.int .i64 id, .int .i64 o, .int .i64 a]) ∧ Fresh w w') (.returned (.agg #[.int .i64 id, .int .i64 o, .int .i64 a])) W) := Lib.hid (fun W h => ⟨rfl, h⟩)
  generalize (fun (e : Ending) (w' : World) => e = Ending.returned (.agg #[.int .i64 id, .int .i64 o, .int .i64 a]) ∧ Fresh w w') = PP at *
  go_enter Tryd.func14, Tryd.ntmps14
  go_upto_region 1 with fail
  obtain ⟨d0, hd0⟩ : ∃ d0, w.heap.size = d0 := ⟨_, rfl⟩
  rw [hd0]
  refine wp_gen (fun W => Fresh w W ∧ Blk W d0 48 #[.int .i64 id, .int .i64 o, .int .i64 b, .int .i64 w', .int .i64 t, .int .i64 r] ∧ Blk W (d0 + 1) 41 #[.int .i64 0, .int .i64 0, .int .i64 0]) ⟨(Fresh.alloc _ _).allocS _, (Blk.mkAt hd0).alloc _, Blk.mkAt (by simp [hd0])⟩ ?_
  rintro W1 ⟨hf1, hb1, hb2⟩
  have HSK : Hid (∀ W, Fresh W1 W → (W.cell? ⟨d0, 0, none⟩ = some (.int .i64 id) ∧ W.cell? ⟨d0, 1, none⟩ = some (.int .i64 o) ∧ W.cell? ⟨d0, 2, none⟩ = some (.int .i64 b) ∧ W.cell? ⟨d0, 3, none⟩ = some (.int .i64 w') ∧ W.cell? ⟨d0, 4, none⟩ = some (.int .i64 t) ∧ W.cell? ⟨d0, 5, none⟩ = some (.int .i64 r)) ∧ (W.cell? ⟨d0 + 1, 0, none⟩ = some (.int .i64 0) ∧ W.cell? ⟨d0 + 1, 1, none⟩ = some (.int .i64 0) ∧ W.cell? ⟨d0 + 1, 2, none⟩ = some (.int .i64 0) ∧ W.frozen? ⟨d0 + 1, 0, none⟩ = false ∧ W.frozen? ⟨d0 + 1, 1, none⟩ = false ∧ W.frozen? ⟨d0 + 1, 2, none⟩ = false) ∧ Fresh W1 W) := Lib.hid (fun W hf => ⟨⟨(hb1.fresh hf).cell 0, (hb1.fresh hf).cell 1, (hb1.fresh hf).cell 2, (hb1.fresh hf).cell 3, (hb1.fresh hf).cell 4, (hb1.fresh hf).cell 5⟩, ⟨(hb2.fresh hf).cell 0, (hb2.fresh hf).cell 1, (hb2.fresh hf).cell 2, (hb2.fresh hf).frozen 0, (hb2.fresh hf).frozen 1, (hb2.fresh hf).frozen 2⟩, hf⟩)
  have HEND : Hid (∀ W, Fresh W1 W → Blk ((((W.setCell ⟨d0 + 1, 0, none⟩ (.int .i64 id)).setCell ⟨d0 + 1, 1, none⟩ (.int .i64 o)).setCell ⟨d0 + 1, 2, none⟩ (.int .i64 a))) (d0 + 1) 41 #[.int .i64 id, .int .i64 o, .int .i64 a] ∧ Fresh w ((((W.setCell ⟨d0 + 1, 0, none⟩ (.int .i64 id)).setCell ⟨d0 + 1, 1, none⟩ (.int .i64 o)).setCell ⟨d0 + 1, 2, none⟩ (.int .i64 a)))) := Lib.hid (fun W hf => by
    have h0 : Only (fun q => q = d0 + 1) W W := Only.refl _ _
    have h1 := Only.step2 (S := fun q => q = d0 + 1) (p := ⟨d0 + 1, 0, none⟩) (v := .int .i64 id) (.inl rfl) h0
    have h2 := Only.step2 (S := fun q => q = d0 + 1) (p := ⟨d0 + 1, 1, none⟩) (v := .int .i64 o) (.inl rfl) h1
    have h3 := Only.step2 (S := fun q => q = d0 + 1) (p := ⟨d0 + 1, 2, none⟩) (v := .int .i64 a) (.inl rfl) h2
    have hfw := hf1.trans hf
    exact ⟨by simpa using ((((hb2.fresh hf).set 0 (.int .i64 id)).set 1 (.int .i64 o)).set 2 (.int .i64 a)), Below.trans hfw (Only.below h3 hfw.size (fun q e => by omega))⟩)
  have HB1 := Lib.hid hb1
  clear hf1 hb1 hb2 hd0
  obtain ⟨⟨k0, k1, k2, k3, k4, k5⟩, _, _⟩ := HSK.out W1 (Fresh.refl _)
  go_region_law (go_simp; go_at_call 29; (with_reducible refine (HNU.out _).mono ?_); rintro e wa ⟨rfl, hfa⟩; have hga : Fresh W1 wa := (Fresh.drew W1).trans hfa; obtain ⟨⟨m0, m1, m2, m3, m4, m5⟩, ⟨n0, n1, n2, n3, n4, n5⟩, _⟩ := HSK.out wa hga)
  all_goals
    obtain ⟨hbE, hfE⟩ := HEND.out wa hga
    have u0 := hbE.cell 0
    have u1 := hbE.cell 1
    have u2 := hbE.cell 2
    simp at u0 u1 u2
    have HX := Lib.hid (HFIN.out _ hfE)
    clear hbE hfE
    go_wp2_with fail
    exact bodyPost_ret (v := .agg #[.int .i64 id, .int .i64 o, .int .i64 a]) (by simp [results, Tryd.results14, go_sem, u0, u1, u2]) rfl HX.out
end Go.Proofs.YtjediikcfhdgiaaDoor

