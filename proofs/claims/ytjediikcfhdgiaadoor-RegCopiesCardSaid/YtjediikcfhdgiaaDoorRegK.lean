/-
  Package reg: a copy: a run's twin; the map's entries one by one.
-/
import Derived.Test.YtjediikcfhdgiaaDoorRegI
import Derived.Test.YtjediikcfhdgiaaDoorReg8
import Derived.Maps.Ext
namespace Go.Proofs.YtjediikcfhdgiaaDoor
set_option maxRecDepth 100000
set_option linter.unusedVariables false
set_option linter.unusedSimpArgs false
open Go.RowKit Go.Maps
def TwP (w : World) (a : Int) (e : Ending) (w' : World) : Prop := ∃ p' cs', e = .returned (.pointer (some ⟨p', 0, none⟩)) ∧ RunAt w' p' a cs' ∧ w.heap.size ≤ p' ∧ (∀ c ∈ cs', c ≤ 2) ∧ Fresh w w'
theorem rg_twin (p : Nat) (a : Int) (cs : List Int) (w : World) (h : RunAt w p a cs) (hT : Tbl w) (h1 : 1 ≤ a) (h3 : a ≤ 3) : Calls Tryd.prog 36 #[.pointer (some ⟨p, 0, none⟩)] w (TwP w a) := by
  have HFIN : Hid (∀ W p' cs', RunAt W p' a cs' → w.heap.size ≤ p' → (∀ c ∈ cs', c ≤ 2) → Fresh w W → TwP w a (.returned (.pointer (some ⟨p', 0, none⟩))) W) := Lib.hid (fun W p' cs' a b c d => ⟨p', cs', rfl, a, b, c, d⟩)
  have H := Lib.hid h
  have HT := Lib.hid hT
  have HTL := Lib.hid hT.lt
  have HPL := Lib.hid h.blk.lt
  have ha : a = 1 ∨ a = 2 ∨ a = 3 := by omega
  have HRN := Lib.hid (run_new w)
  clear h hT h1 h3
  generalize TwP w a = PP at *
  go_enter Tryd.func36, Tryd.ntmps36
  go_wp2_with fail
  with_reducible refine HRN.out.mono ?_
  rintro e w1 ⟨p', rfl, hp', hr1, hf1⟩
  have HP := Lib.hid hp'
  have HF1 := Lib.hid hf1
  have HD1 := Lib.hid (rdo p' 0 0 _ w1 hr1 (HT.out.fresh hf1) (by decide) (by have := HTL.out; omega))
  clear hp' hr1 hf1
  go_wp2_with fail
  with_reducible refine HD1.out.mono ?_
  rintro e w2 ⟨rfl, hr2, ho2⟩
  have hf2 := fresh_only HF1.out ho2 (fun c e => by rw [e]; exact HP.out)
  rw [show doA 0 0 = 1 by decide, show doL 0 0 [0, 0, 0, 0, 0, 0, 0, 0, 0] = [1, 0, 0, 0, 0, 0, 0, 0, 0] by decide] at hr2
  have HF2 := Lib.hid hf2
  have HR2 := Lib.hid hr2
  have HAT := Lib.hid (run_at p a cs w2 ((H.out.only (S := fun _ => False) (Only.of_fresh HF1.out) id).only ho2 (by have := HPL.out; have := HP.out; omega)))
  clear hr2 hf2 ho2 HD1 HRN
  go_wp2_with fail
  with_reducible refine HAT.out.mono ?_
  rintro e w3 ⟨rfl, rfl⟩
  clear HAT
  rcases ha with rfl | rfl | rfl
  · go_wp2_with fail
    exact HFIN.out _ p' _ HR2.out HP.out (by decide) HF2.out
  · have HD3 := Lib.hid (rdo p' 1 6 _ w2 HR2.out (HT.out.fresh HF2.out) (by decide) (by have := HTL.out; have := HP.out; omega))
    go_wp2_with fail
    with_reducible refine HD3.out.mono ?_
    rintro e w4 ⟨rfl, hr4, ho4⟩
    rw [show doA 1 6 = 2 by decide, show doL 1 6 [1, 0, 0, 0, 0, 0, 0, 0, 0] = [1, 0, 0, 0, 0, 0, 1, 0, 0] by decide] at hr4
    have HR4 := Lib.hid hr4
    have HF4 := Lib.hid (fresh_only HF2.out ho4 (fun c e => by rw [e]; exact HP.out))
    clear hr4 ho4 HD3
    go_wp2_with fail
    exact HFIN.out _ p' _ HR4.out HP.out (by decide) HF4.out
  · have HD3 := Lib.hid (rdo p' 1 2 _ w2 HR2.out (HT.out.fresh HF2.out) (by decide) (by have := HTL.out; have := HP.out; omega))
    go_wp2_with fail
    with_reducible refine HD3.out.mono ?_
    rintro e w4 ⟨rfl, hr4, ho4⟩
    rw [show doA 1 2 = 3 by decide, show doL 1 2 [1, 0, 0, 0, 0, 0, 0, 0, 0] = [1, 0, 1, 0, 0, 0, 0, 0, 0] by decide] at hr4
    have HR4 := Lib.hid hr4
    have HF4 := Lib.hid (fresh_only HF2.out ho4 (fun c e => by rw [e]; exact HP.out))
    clear hr4 ho4 HD3
    go_wp2_with fail
    exact HFIN.out _ p' _ HR4.out HP.out (by decide) HF4.out
/-- The streams, each in a block of its own anew. -/
def twX (f : Int → Nat × List Int) (X : List StD) : List StD := X.map fun s => ⟨s.id, (f s.id).1, s.a, (f s.id).2⟩
def updF (f : Int → Nat × List Int) (id : Int) (z : Nat × List Int) : Int → Nat × List Int := fun j => if j = id then z else f j
theorem tw_has (f : Int → Nat × List Int) (X : List StD) (k : Lit) : Maps.has (dmX (twX f X)) k = Maps.has (dmX X) k := by
  unfold dmX twX
  rw [Maps.has_eq, Maps.has_eq, List.map_map, List.any_map, List.any_map]
  rfl
theorem tw_ids (f : Int → Nat × List Int) (X : List StD) : (twX f X).map (·.id) = X.map (·.id) := by
  unfold twX
  rw [List.map_map]
  rfl
theorem tw_docL (n : Nat) (f : Int → Nat × List Int) (X : List StD) : docL n (twX f X) = docL n X := by
  unfold docL twX
  rw [List.map_map]
  rfl
theorem tw_cnt (n : Nat) (f : Int → Nat × List Int) (X : List StD) : cntX n (twX f X) = cntX n X := cnt_same (tw_ids f X)
/-- Another choice at one key tells nothing of the other keys. -/
theorem tw_at {f g : Int → Nat × List Int} {X : List StD} {k : Lit} (z : DataW Unit) (h : ∀ s ∈ X, (keyX s.id).sameKey k = true → (f s.id).1 = (g s.id).1) : (dmX (twX f X)).atKey k z = (dmX (twX g X)).atKey k z := by
  induction X with
  | nil => rfl
  | cons s r ih =>
    have ih' := ih (fun t ht => h t (List.mem_cons_of_mem _ ht))
    by_cases hk : (keyX s.id).sameKey k = true
    · have e := h s List.mem_cons_self hk
      simp only [dmX, twX, List.map_cons, entX, DataW.atKey, List.find?_cons, hk] at ih' ⊢
      rw [e]
    · simp only [Bool.not_eq_true] at hk
      simp only [dmX, twX, List.map_cons, entX, DataW.atKey, List.find?_cons, hk] at ih' ⊢
      exact ih'
theorem agree_tw {f : Int → Nat × List Int} {X : List StD} {D : DataW Unit} {left : Lit → Bool} (h : Maps.Agree D (dmX (twX f X)) left) {id : Int} (hl : left (keyX id) = true) (z : Nat × List Int) : Maps.Agree D (dmX (twX (updF f id z) X)) left := by
  refine ⟨fun k => by rw [h.1 k, tw_has, tw_has], fun k y hk => ?_⟩
  rw [h.2 k y hk]
  refine tw_at y (fun s hs hsk => ?_)
  unfold updF
  by_cases e : s.id = id
  · have hk2 := h.1 k
    rw [hk] at hk2
    have : keyX s.id = k := WideAt.sameKey_eq hsk
    rw [← this, e, hl] at hk2
    simp at hk2
  · rw [if_neg e]
end Go.Proofs.YtjediikcfhdgiaaDoor

