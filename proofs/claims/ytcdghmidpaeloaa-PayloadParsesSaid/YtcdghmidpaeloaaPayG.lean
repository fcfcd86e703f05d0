/-
  Contracts of package payload: Equal.
-/
import Derived.Test.YtcdghmidpaeloaaPayF
namespace Go.Proofs.Ytcdghmidpaeloaa
set_option linter.unusedVariables false
open Go.RowKit

section
variable {P : Program} {t e : TypeId}
theorem run_eqItems_bools (he : P.underlying e = some .bool) (d : Nat) (xs ys : List Bool) (w : World) : ∀ (is : List Nat), (∀ i ∈ is, i < xs.length ∧ i < ys.length) →
    (Op.eqItems (d + 1) e 1 (xs.map Value.bool).toArray (ys.map Value.bool).toArray is).run P w = .ok (is.all fun i => xs.getD i false == ys.getD i false) w
  | [], _ => by simp [Op.eqItems]
  | i :: is, h => by
    have hi := h i (by simp)
    have hk : P.plainKey e = true := by simp [Program.plainKey, he]
    have p1 := run_part_plain (P := P) w (e := e) hk (xs := (xs.map Value.bool).toArray) (off := i * 1) (v := .bool (xs.getD i false)) (by simp [hi.1])
    have p2 := run_part_plain (P := P) w (e := e) hk (xs := (ys.map Value.bool).toArray) (off := i * 1) (v := .bool (ys.getD i false)) (by simp [hi.2])
    have ih := run_eqItems_bools he d xs ys w is (fun j hj => h j (by simp [hj]))
    simp only [Op.eqItems, Sem.run_bind, p1, p2, Result.andThen_ok, run_equalIn_bool w d e _ _ he, List.all_cons]
    cases hxy : (xs.getD i false == ys.getD i false) with
    | false => simp
    | true => simpa using ih
theorem listB_eq_all (xs ys : List Bool) (n : Nat) (hx : xs.length = n) (hy : ys.length = n) : ((List.range n).all fun i => xs.getD i false == ys.getD i false) = decide (xs = ys) := by
  rw [Bool.eq_iff_iff]
  simp only [List.all_eq_true, List.mem_range, beq_iff_eq, decide_eq_true_eq]
  constructor
  · intro h
    apply List.ext_getElem (by omega)
    intro i h1 h2
    have := h i (by omega)
    rw [List.getD_eq_getElem?_getD, List.getD_eq_getElem?_getD, List.getElem?_eq_getElem h1, List.getElem?_eq_getElem h2] at this
    simpa using this
  · rintro rfl i _
    rfl
theorem run_equalIn_bools {n : Nat} (ht : P.underlying t = some (.array n e)) (he : P.underlying e = some .bool) (hinfo : (P.info? e).map (·.size) = some 1) (d : Nat) (xs ys : List Bool) (hx : xs.length = n) (hy : ys.length = n) (w : World) :
    (Op.equalIn (d + 2) t (.agg (xs.map Value.bool).toArray) (.agg (ys.map Value.bool).toArray)).run P w = .ok (decide (xs = ys)) w := by
  obtain ⟨i, hi, hs⟩ : ∃ i, P.info? e = some i ∧ i.size = 1 := by
    cases h : P.info? e with
    | none => rw [h] at hinfo; simp at hinfo
    | some i => rw [h] at hinfo; exact ⟨i, rfl, by simpa using hinfo⟩
  rw [run_equalIn_array w (d + 1) _ _ ht hi]
  have hc : P.cellsOf e = 1 := by simp [Program.cellsOf, hi, hs]
  rw [hc, run_eqItems_bools he d xs ys w _ (fun j hj => by have := List.mem_range.1 hj; omega), listB_eq_all xs ys n hx hy]
end
def iEq (x y : ItV) : Bool := decide (x.nums = y.nums ∧ x.mks = y.mks ∧ x.l = y.l ∧ x.ps = y.ps)
def EqP (r : Bool) (w : World) (e : Ending) (w' : World) : Prop := e = .returned (.bool r) ∧ Fresh w w'
/-- Both boxes. -/
structure TwoIt (w : World) (b : Nat) (x y : ItV) (W : World) : Prop where
  b1 : Blk W b 28 x.cells.toArray
  b2 : Blk W (b + 1) 28 y.cells.toArray
  fr : Fresh w W
theorem TwoIt.start (w : World) (x y : ItV) : TwoIt w w.heap.size x y ((w.alloc (.cells x.cells.toArray 28)).alloc (.cells y.cells.toArray 28)) :=
  ⟨(Blk.new _ _ _).alloc _, Blk.mkAt (by simp), (Fresh.alloc _ _).allocS _⟩
set_option maxRecDepth 100000 in
set_option maxHeartbeats 6400000 in
theorem iequal_t (x y : ItV) (w : World) (hx : x.Ok w) (hy : y.Ok w) (hxp : x.ps.length ≤ 1000000) (hyp : y.ps.length ≤ 1000000) (hn : x.nums = y.nums) (hm : x.mks = y.mks) (hl : (x.l == y.l) = true) :
    Calls Try.prog 14 #[x.agg, y.agg] w (EqP (decide (x.ps = y.ps)) w) := by
  obtain ⟨r, hr⟩ : ∃ r, (decide (x.ps = y.ps)) = r := ⟨_, rfl⟩
  rw [hr]
  have HRR := Lib.hid hr
  clear hr
  obtain ⟨ty, st, A, c, l, en, eh, ak, fl, co, la, inc, de, we, wd, ex, PA, pc, ps⟩ := x
  obtain ⟨ty2, st2, A2, c2, l2, en2, eh2, ak2, fl2, co2, la2, inc2, de2, we2, wd2, ex2, PA2, pc2, ps2⟩ := y
  have hT := TwoIt.start w ⟨ty, st, A, c, l, en, eh, ak, fl, co, la, inc, de, we, wd, ex, PA, pc, ps⟩ ⟨ty2, st2, A2, c2, l2, en2, eh2, ak2, fl2, co2, la2, inc2, de2, we2, wd2, ex2, PA2, pc2, ps2⟩
  have HBX := Lib.hid hx.bs
  have HBY := Lib.hid hy.bs
  have HPX := Lib.hid hx.prs
  have HPY := Lib.hid hy.prs
  simp only [ItV.nums, ItV.mks, ItV.agg] at *
  have hN : ∀ W, (Op.equalIn 10000 53 (.agg #[.int .i64 ty, .int .i64 st, .int .i64 fl, .int .i64 co, .int .i64 la, .int .i64 inc, .int .i64 de, .int .i64 we]) (.agg #[.int .i64 ty2, .int .i64 st2, .int .i64 fl2, .int .i64 co2, .int .i64 la2, .int .i64 inc2, .int .i64 de2, .int .i64 we2])).run Try.prog W = .ok (decide ([ty, st, fl, co, la, inc, de, we] = [ty2, st2, fl2, co2, la2, inc2, de2, we2])) W := fun W =>
    run_equalIn_ints (P := Try.prog) Try.underlying53 Try.underlying3 (by kernel_rfl) 9998 [ty, st, fl, co, la, inc, de, we] [ty2, st2, fl2, co2, la2, inc2, de2, we2] rfl rfl W
  have hM : ∀ W, (Op.equalIn 10000 57 (.agg #[.bool en, .bool eh, .bool ak, .bool wd, .bool ex]) (.agg #[.bool en2, .bool eh2, .bool ak2, .bool wd2, .bool ex2])).run Try.prog W = .ok (decide ([en, eh, ak, wd, ex] = [en2, eh2, ak2, wd2, ex2])) W := fun W =>
    run_equalIn_bools (P := Try.prog) Try.underlying57 Try.underlying4 (by kernel_rfl) 9998 [en, eh, ak, wd, ex] [en2, eh2, ak2, wd2, ex2] rfl rfl W
  rw [decide_eq_true hn] at hN
  rw [decide_eq_true hm] at hM
  clear hx hy
  obtain ⟨Z, hZ⟩ : ∃ Z, (l == l2) = Z := ⟨_, rfl⟩
  rw [hZ] at hl
  subst hl
  go_enter Try.func14, Try.ntmps14
  go_wp2_with fail
  refine wp_gen (TwoIt w w.heap.size ⟨ty, st, A, c, l, en, eh, ak, fl, co, la, inc, de, we, wd, ex, PA, pc, ps⟩ ⟨ty2, st2, A2, c2, l2, en2, eh2, ak2, fl2, co2, la2, inc2, de2, we2, wd2, ex2, PA2, pc2, ps2⟩) hT ?_
  clear hT
  intro W hW
  obtain ⟨b, hb⟩ : ∃ b, w.heap.size = b := ⟨_, rfl⟩
  rw [hb] at hW ⊢
  have HSK : Hid (∀ w', Fresh W w' → w'.cell? ⟨b, 0, none⟩ = some (.int .i64 ty) ∧ w'.cell? ⟨b, 1, none⟩ = some (.int .i64 st) ∧ w'.cell? ⟨b, 2, none⟩ = some (.slice A l.length c) ∧ w'.cell? ⟨b, 3, none⟩ = some (.bool en) ∧ w'.cell? ⟨b, 4, none⟩ = some (.bool eh) ∧ w'.cell? ⟨b, 5, none⟩ = some (.bool ak) ∧ w'.cell? ⟨b, 6, none⟩ = some (.int .i64 fl) ∧ w'.cell? ⟨b, 7, none⟩ = some (.int .i64 co) ∧ w'.cell? ⟨b, 8, none⟩ = some (.int .i64 la) ∧ w'.cell? ⟨b, 9, none⟩ = some (.int .i64 inc) ∧ w'.cell? ⟨b, 10, none⟩ = some (.int .i64 de) ∧ w'.cell? ⟨b, 11, none⟩ = some (.int .i64 we) ∧ w'.cell? ⟨b, 12, none⟩ = some (.bool wd) ∧ w'.cell? ⟨b, 13, none⟩ = some (.bool ex) ∧ w'.cell? ⟨b, 14, none⟩ = some (.slice PA ps.length pc) ∧ w'.cell? ⟨b + 1, 0, none⟩ = some (.int .i64 ty2) ∧ w'.cell? ⟨b + 1, 1, none⟩ = some (.int .i64 st2) ∧ w'.cell? ⟨b + 1, 2, none⟩ = some (.slice A2 l2.length c2) ∧ w'.cell? ⟨b + 1, 3, none⟩ = some (.bool en2) ∧ w'.cell? ⟨b + 1, 4, none⟩ = some (.bool eh2) ∧ w'.cell? ⟨b + 1, 5, none⟩ = some (.bool ak2) ∧ w'.cell? ⟨b + 1, 6, none⟩ = some (.int .i64 fl2) ∧ w'.cell? ⟨b + 1, 7, none⟩ = some (.int .i64 co2) ∧ w'.cell? ⟨b + 1, 8, none⟩ = some (.int .i64 la2) ∧ w'.cell? ⟨b + 1, 9, none⟩ = some (.int .i64 inc2) ∧ w'.cell? ⟨b + 1, 10, none⟩ = some (.int .i64 de2) ∧ w'.cell? ⟨b + 1, 11, none⟩ = some (.int .i64 we2) ∧ w'.cell? ⟨b + 1, 12, none⟩ = some (.bool wd2) ∧ w'.cell? ⟨b + 1, 13, none⟩ = some (.bool ex2) ∧ w'.cell? ⟨b + 1, 14, none⟩ = some (.slice PA2 ps2.length pc2) ∧ Fresh W w') := Lib.hid (fun w' hw => by
    have h1 := hW.b1.fresh hw
    have h2 := hW.b2.fresh hw
    exact ⟨h1.cell 0, h1.cell 1, h1.cell 2, h1.cell 3, h1.cell 4, h1.cell 5, h1.cell 6, h1.cell 7, h1.cell 8, h1.cell 9, h1.cell 10, h1.cell 11, h1.cell 12, h1.cell 13, h1.cell 14, h2.cell 0, h2.cell 1, h2.cell 2, h2.cell 3, h2.cell 4, h2.cell 5, h2.cell 6, h2.cell 7, h2.cell 8, h2.cell 9, h2.cell 10, h2.cell 11, h2.cell 12, h2.cell 13, h2.cell 14, hw⟩)
  have HBE := Lib.hid (fun w' (hw : Fresh W w') => bequal A A2 l l2 c c2 w' (HBX.out.fresh (hW.fr.trans hw)) (HBY.out.fresh (hW.fr.trans hw)))
  rw [hZ] at HBE
  have HSE := Lib.hid (fun w' (hw : Fresh W w') => sequal PA PA2 ps ps2 pc pc2 w' (HPX.out.fresh (hW.fr.trans hw)) (HPY.out.fresh (hW.fr.trans hw)) hxp hyp)
  have HWF := Lib.hid hW.fr
  obtain ⟨x0, x1, x2, x3, x4, x5, x6, x7, x8, x9, x10, x11, x12, x13, x14, y0, y1, y2, y3, y4, y5, y6, y7, y8, y9, y10, y11, y12, y13, y14, hgz⟩ := HSK.out W (Fresh.refl _)
  clear hW
  go_region_held3 (fun w' => w'.cell? ⟨b, 0, none⟩ = some (.int .i64 ty) ∧ w'.cell? ⟨b, 1, none⟩ = some (.int .i64 st) ∧ w'.cell? ⟨b, 2, none⟩ = some (.slice A l.length c) ∧ w'.cell? ⟨b, 3, none⟩ = some (.bool en) ∧ w'.cell? ⟨b, 4, none⟩ = some (.bool eh) ∧ w'.cell? ⟨b, 5, none⟩ = some (.bool ak) ∧ w'.cell? ⟨b, 6, none⟩ = some (.int .i64 fl) ∧ w'.cell? ⟨b, 7, none⟩ = some (.int .i64 co) ∧ w'.cell? ⟨b, 8, none⟩ = some (.int .i64 la) ∧ w'.cell? ⟨b, 9, none⟩ = some (.int .i64 inc) ∧ w'.cell? ⟨b, 10, none⟩ = some (.int .i64 de) ∧ w'.cell? ⟨b, 11, none⟩ = some (.int .i64 we) ∧ w'.cell? ⟨b, 12, none⟩ = some (.bool wd) ∧ w'.cell? ⟨b, 13, none⟩ = some (.bool ex) ∧ w'.cell? ⟨b, 14, none⟩ = some (.slice PA ps.length pc) ∧ w'.cell? ⟨b + 1, 0, none⟩ = some (.int .i64 ty2) ∧ w'.cell? ⟨b + 1, 1, none⟩ = some (.int .i64 st2) ∧ w'.cell? ⟨b + 1, 2, none⟩ = some (.slice A2 l2.length c2) ∧ w'.cell? ⟨b + 1, 3, none⟩ = some (.bool en2) ∧ w'.cell? ⟨b + 1, 4, none⟩ = some (.bool eh2) ∧ w'.cell? ⟨b + 1, 5, none⟩ = some (.bool ak2) ∧ w'.cell? ⟨b + 1, 6, none⟩ = some (.int .i64 fl2) ∧ w'.cell? ⟨b + 1, 7, none⟩ = some (.int .i64 co2) ∧ w'.cell? ⟨b + 1, 8, none⟩ = some (.int .i64 la2) ∧ w'.cell? ⟨b + 1, 9, none⟩ = some (.int .i64 inc2) ∧ w'.cell? ⟨b + 1, 10, none⟩ = some (.int .i64 de2) ∧ w'.cell? ⟨b + 1, 11, none⟩ = some (.int .i64 we2) ∧ w'.cell? ⟨b + 1, 12, none⟩ = some (.bool wd2) ∧ w'.cell? ⟨b + 1, 13, none⟩ = some (.bool ex2) ∧ w'.cell? ⟨b + 1, 14, none⟩ = some (.slice PA2 ps2.length pc2) ∧ Fresh W w')
    ((refine HSK.out _ ?_; first | with_reducible assumption | with_reducible exact Fresh.drew _ | (with_reducible apply Fresh.drewS; with_reducible assumption)))
    (first
      | (go_at_call 21; (with_reducible refine (inumbers _ _ _ _ _ _ _ _ _ _ _ _ _ _ _ _).mono ?_); rintro e w2 ⟨rfl, hf2⟩; have hg2 : Fresh W w2 := Fresh.trans (by first | with_reducible assumption | with_reducible exact Fresh.drew _) hf2; clear hf2)
      | (go_at_call 22; (with_reducible refine (imarks _ _ _ _ _ _ _ _ _ _ _ _ _ _ _ _).mono ?_); rintro e w3 ⟨rfl, hf3⟩; have hg3 : Fresh W w3 := Fresh.trans (by first | with_reducible assumption | with_reducible exact Fresh.drew _) hf3; clear hf3)
      | (go_at_call 23; (with_reducible refine (HBE.out _ (by first | with_reducible assumption | with_reducible exact Fresh.drew _)).mono ?_); rintro e w4 ⟨rfl, rfl⟩)
      | (go_at_call 24; (with_reducible refine (HSE.out _ (by first | with_reducible assumption | with_reducible exact Fresh.drew _)).mono ?_); rintro e w5 ⟨rfl, hf5⟩; have hg5 : Fresh W w5 := Fresh.trans (by first | with_reducible assumption | with_reducible exact Fresh.drew _) hf5; clear hf5))
  go_wp2
  go_ret
  exact ⟨by rw [← HRR.out]; rfl, HWF.out.trans (by assumption)⟩
end Go.Proofs.Ytcdghmidpaeloaa

