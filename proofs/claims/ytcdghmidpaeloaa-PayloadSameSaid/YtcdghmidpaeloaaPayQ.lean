/-
  The law PayloadSame.
-/
import Derived.Test.YtcdghmidpaeloaaPayP
import Derived.Test.YtcdghmidpaeloaaPayJ
namespace Go.Proofs.Ytcdghmidpaeloaa
set_option linter.unusedVariables false
set_option linter.unusedSimpArgs false
open Go.RowKit

def ParseW (w : World) (e : Ending) (w' : World) : Prop := ∃ (x : ItV) (co : Int) (cn : Bool), e = .returned (.tuple #[x.agg, .agg #[.int .i64 co, .bool cn]]) ∧ x.Ok w' ∧ x.ps.length ≤ 1000000 ∧ Fresh w w'
theorem prsF_ps (ty fl st : Int) (l : List UInt8) (k : Nat) : (prsF ty fl st l k).1.ps.length ≤ l.length := by
  unfold prsF
  split
  · simp [PR0]
  · simp only [prOf]
    repeat (split; · simp [PR0, prsL_len] <;> omega)
    simp [PR0]
theorem pparse_w (ty fl st : Int) (A : Option Addr) (c : Nat) (l : List UInt8) (w : World) (hA : BS w A l) (hlc : l.length ≤ c) (hcm : c ≤ maxLen) (hmx : l.length ≤ 1000000) :
    Calls Try.prog 9 #[.agg #[.int .i64 ty, .int .i64 fl, .int .i64 st, .slice A l.length c]] w (ParseW w) :=
  (pparse ty fl st A c l w hA hlc hcm hmx).mono fun e w' ⟨x, k, he, _, hx, hs, _, _, _, hf⟩ => ⟨x, _, _, he, hx, by rw [hs.ps]; exact Nat.le_trans (prsF_ps ty fl st l k) hmx, hf⟩
theorem same_long (ty fl st ty2 fl2 st2 : Int) (A A2 : Option Addr) (c c2 n n2 : Nat) (w : World) (h : 200 < n ∨ 200 < n2) :
    Calls Try.prog 6 #[.agg #[.int .i64 ty, .int .i64 fl, .int .i64 st, .slice A n c], .agg #[.int .i64 ty2, .int .i64 fl2, .int .i64 st2, .slice A2 n2 c2]] w (LawP w) := by
  by_cases h1 : 200 < n
  · have d0 : (200 : Int) < (n : Int) := by omega
    clear h h1
    go_enter Try.func6, Try.ntmps6
    go_wp2_with fail
    with_reducible refine (pl_awake _).mono ?_
    rintro e w1 ⟨rfl, hf1⟩
    have HF1 := Lib.hid (((Fresh.alloc w _).allocS _).trans hf1)
    clear hf1
    go_wp2_with fail
    go_ret
    exact ⟨rfl, HF1.out⟩
  · have d0 : ¬ (200 : Int) < (n : Int) := by omega
    have d1 : (200 : Int) < (n2 : Int) := by omega
    clear h h1
    go_enter Try.func6, Try.ntmps6
    go_wp2_with fail
    with_reducible refine (pl_awake _).mono ?_
    rintro e w1 ⟨rfl, hf1⟩
    have HF1 := Lib.hid (((Fresh.alloc w _).allocS _).trans hf1)
    clear hf1
    go_wp2_with fail
    go_ret
    exact ⟨rfl, HF1.out⟩
def ieqB (x y : ItV) : Bool := decide (x.nums = y.nums) && (decide (x.mks = y.mks) && ((x.l == y.l) && decide (x.ps = y.ps)))
theorem ieqB_comm (x y : ItV) : ieqB y x = ieqB x y := by
  unfold ieqB
  rw [show decide (y.nums = x.nums) = decide (x.nums = y.nums) by congr 1; exact propext eq_comm, show decide (y.mks = x.mks) = decide (x.mks = y.mks) by congr 1; exact propext eq_comm, show decide (y.ps = x.ps) = decide (x.ps = y.ps) by congr 1; exact propext eq_comm, show (y.l == x.l) = (x.l == y.l) by rw [Bool.eq_iff_iff]; simp only [beq_iff_eq]; exact eq_comm]
theorem ieqB_true {x y : ItV} (h : ieqB x y = true) : x.ty = y.ty ∧ x.st = y.st ∧ x.l = y.l ∧ x.ps.length = y.ps.length := by
  simp only [ieqB, Bool.and_eq_true, decide_eq_true_eq, beq_iff_eq] at h
  obtain ⟨h1, _, h3, h4⟩ := h
  simp only [ItV.nums, List.cons.injEq] at h1
  exact ⟨h1.1, h1.2.1, h3, by rw [h4]⟩
structure CellsI (w : World) (b : Nat) (x : ItV) : Prop where
  c0 : w.cell? ⟨b, 0, none⟩ = some (.int .i64 x.ty)
  c1 : w.cell? ⟨b, 1, none⟩ = some (.int .i64 x.st)
  c2 : w.cell? ⟨b, 2, none⟩ = some (.slice x.A x.l.length x.c)
  c3 : w.cell? ⟨b, 3, none⟩ = some (.bool x.en)
  c4 : w.cell? ⟨b, 4, none⟩ = some (.bool x.eh)
  c5 : w.cell? ⟨b, 5, none⟩ = some (.bool x.ak)
  c6 : w.cell? ⟨b, 6, none⟩ = some (.int .i64 x.fl)
  c7 : w.cell? ⟨b, 7, none⟩ = some (.int .i64 x.co)
  c8 : w.cell? ⟨b, 8, none⟩ = some (.int .i64 x.la)
  c9 : w.cell? ⟨b, 9, none⟩ = some (.int .i64 x.inc)
  c10 : w.cell? ⟨b, 10, none⟩ = some (.int .i64 x.de)
  c11 : w.cell? ⟨b, 11, none⟩ = some (.int .i64 x.we)
  c12 : w.cell? ⟨b, 12, none⟩ = some (.bool x.wd)
  c13 : w.cell? ⟨b, 13, none⟩ = some (.bool x.ex)
  c14 : w.cell? ⟨b, 14, none⟩ = some (.slice x.PA x.ps.length x.pc)
theorem CellsI.mk' {w : World} {b : Nat} {x : ItV} {t : TypeId} (h : Blk w b t x.cells.toArray) : CellsI w b x :=
  ⟨h.cell 0, h.cell 1, h.cell 2, h.cell 3, h.cell 4, h.cell 5, h.cell 6, h.cell 7, h.cell 8, h.cell 9, h.cell 10, h.cell 11, h.cell 12, h.cell 13, h.cell 14⟩
set_option maxRecDepth 100000 in
set_option maxHeartbeats 12800000 in
theorem same_go (u0 u1 u2 v0 v1 v2 : Int) (B B2 : Option Addr) (k k2 n n2 : Nat) (w : World) (h1 : n ≤ 200) (h2 : n2 ≤ 200)
    (HP1 : Hid (∀ W, Fresh w W → Calls Try.prog 9 #[.agg #[.int .i64 u0, .int .i64 u1, .int .i64 u2, .slice B n k]] W (ParseW W)))
    (HP2 : Hid (∀ W, Fresh w W → Calls Try.prog 9 #[.agg #[.int .i64 v0, .int .i64 v1, .int .i64 v2, .slice B2 n2 k2]] W (ParseW W))) :
    Calls Try.prog 6 #[.agg #[.int .i64 u0, .int .i64 u1, .int .i64 u2, .slice B n k], .agg #[.int .i64 v0, .int .i64 v1, .int .i64 v2, .slice B2 n2 k2]] w (LawP w) := by
  have d0 : ¬ (200 : Int) < (n : Int) := by omega
  have d1 : ¬ (200 : Int) < (n2 : Int) := by omega
  clear h1 h2
  go_enter Try.func6, Try.ntmps6
  go_wp2_with fail
  with_reducible refine (HP1.out _ ((Fresh.alloc w _).allocS _)).mono ?_
  rintro e w1 ⟨x, q1, q2, rfl, hx, hxp, hf1⟩
  have hg := (Blk.mkAt (w := w.alloc (.cells #[.int .i64 u0, .int .i64 u1, .int .i64 u2, .slice B n k] 24)) (g := w.heap.size + 1) (t := 24) (cs := #[.int .i64 v0, .int .i64 v1, .int .i64 v2, .slice B2 n2 k2]) (by simp)).fresh hf1
  have hF1 := ((Fresh.alloc w _).allocS _).trans hf1
  obtain ⟨g, hgg⟩ : ∃ g, w.heap.size = g := ⟨_, rfl⟩
  obtain ⟨b, hb⟩ : ∃ b, w1.heap.size = b := ⟨_, rfl⟩
  rw [hgg] at hg ⊢
  have hlt := hg.lt
  rw [hb] at hlt
  have HG := Lib.hid hg
  have HX := Lib.hid hx
  have HF1 := Lib.hid hF1
  have HF1s := Lib.hid (show w.heap.size + 2 ≤ b by have := Below.size hf1; simp at this; omega)
  have HXP := Lib.hid hxp
  have HB := Lib.hid hb
  clear hf1 hg hx hF1 hxp hgg
  obtain ⟨ty, st, A, c, l, en, eh, ak, fl, co, la, inc, de, we, wd, ex, PA, pc, ps⟩ := x
  simp only [ItV.agg]
  go_upto_region 4 with fail
  refine wp_gen (fun W => Blk W (g + 1) 24 #[.int .i64 v0, .int .i64 v1, .int .i64 v2, .slice B2 n2 k2] ∧ Blk W b 28 (ItV.cells ⟨ty, st, A, c, l, en, eh, ak, fl, co, la, inc, de, we, wd, ex, PA, pc, ps⟩).toArray ∧ Fresh w1 W ∧ W.heap.size = b + 2) ?_ ?_
  · refine ⟨(HG.out.alloc _).alloc _, ?_, (Fresh.alloc _ _).allocS _, by simp [hb]⟩
    have := Blk.new w1 28 (ItV.cells ⟨ty, st, A, c, l, en, eh, ak, fl, co, la, inc, de, we, wd, ex, PA, pc, ps⟩).toArray
    rw [hb] at this
    exact this.alloc _
  clear hb
  rintro W2 ⟨p1, p2, hf2, hs2⟩
  obtain ⟨g1, g2, g3, g4⟩ := p1.c4
  have HF2 := Lib.hid (HF1.out.trans hf2)
  have HX2 := Lib.hid (HX.out.fresh hf2)
  have HB2 := Lib.hid p2
  clear p1 p2 hf2 HF1 HX
  go_wp2_with fail
  with_reducible refine (HP2.out _ HF2.out).mono ?_
  rintro e w3 ⟨y, q3, q4, rfl, hy, hyp, hf3⟩
  have HF3 := Lib.hid (HF2.out.trans hf3)
  have HX3 := Lib.hid (HX2.out.fresh hf3)
  have HB3 := Lib.hid (HB2.out.fresh hf3)
  have HY := Lib.hid hy
  have HYP := Lib.hid hyp
  obtain ⟨b3, hb3⟩ : ∃ b3, w3.heap.size = b3 := ⟨_, rfl⟩
  have HB33 := Lib.hid hb3
  have hlt3 : b + 2 ≤ b3 := by have := Below.size hf3; omega
  clear hf3 hy hyp HF2 HX2 HB2 g1 g2 g3 g4
  obtain ⟨ty2, st2, A2, c2, l2, en2, eh2, ak2, fl2, co2, la2, inc2, de2, we2, wd2, ex2, PA2, pc2, ps2⟩ := y
  simp only [ItV.agg]
  go_upto_region 5 with fail
  refine wp_gen (fun W => Blk W b 28 (ItV.cells ⟨ty, st, A, c, l, en, eh, ak, fl, co, la, inc, de, we, wd, ex, PA, pc, ps⟩).toArray ∧ Blk W b3 28 (ItV.cells ⟨ty2, st2, A2, c2, l2, en2, eh2, ak2, fl2, co2, la2, inc2, de2, we2, wd2, ex2, PA2, pc2, ps2⟩).toArray ∧ Fresh w3 W ∧ W.heap.size = b3 + 2) ?_ ?_
  · refine ⟨(HB3.out.alloc _).alloc _, ?_, (Fresh.alloc _ _).allocS _, by simp [hb3]⟩
    have := Blk.new w3 28 (ItV.cells ⟨ty2, st2, A2, c2, l2, en2, eh2, ak2, fl2, co2, la2, inc2, de2, we2, wd2, ex2, PA2, pc2, ps2⟩).toArray
    rw [hb3] at this
    exact this.alloc _
  clear hb3
  rintro W4 ⟨p1, p2, hf4, hs4⟩
  obtain ⟨x0, x1, x2, x3, x4, x5, x6, x7, x8, x9, x10, x11, x12, x13, x14⟩ : W4.cell? ⟨b, 0, none⟩ = some (.int .i64 ty) ∧ W4.cell? ⟨b, 1, none⟩ = some (.int .i64 st) ∧ W4.cell? ⟨b, 2, none⟩ = some (.slice A l.length c) ∧ W4.cell? ⟨b, 3, none⟩ = some (.bool en) ∧ W4.cell? ⟨b, 4, none⟩ = some (.bool eh) ∧ W4.cell? ⟨b, 5, none⟩ = some (.bool ak) ∧ W4.cell? ⟨b, 6, none⟩ = some (.int .i64 fl) ∧ W4.cell? ⟨b, 7, none⟩ = some (.int .i64 co) ∧ W4.cell? ⟨b, 8, none⟩ = some (.int .i64 la) ∧ W4.cell? ⟨b, 9, none⟩ = some (.int .i64 inc) ∧ W4.cell? ⟨b, 10, none⟩ = some (.int .i64 de) ∧ W4.cell? ⟨b, 11, none⟩ = some (.int .i64 we) ∧ W4.cell? ⟨b, 12, none⟩ = some (.bool wd) ∧ W4.cell? ⟨b, 13, none⟩ = some (.bool ex) ∧ W4.cell? ⟨b, 14, none⟩ = some (.slice PA ps.length pc) := ⟨p1.cell 0, p1.cell 1, p1.cell 2, p1.cell 3, p1.cell 4, p1.cell 5, p1.cell 6, p1.cell 7, p1.cell 8, p1.cell 9, p1.cell 10, p1.cell 11, p1.cell 12, p1.cell 13, p1.cell 14⟩
  have HF4 := Lib.hid (HF3.out.trans hf4)
  have HB4 := Lib.hid (And.intro p1 p2)
  have H34 := Lib.hid hf4
  clear p1 p2 hf4 HF3 HB3
  go_upto_region 6 with fail
  refine wp_gen (fun W => Blk W b 28 (ItV.cells ⟨ty, st, A, c, l, en, eh, ak, fl, co, la, inc, de, we, wd, ex, PA, pc, ps⟩).toArray ∧ Blk W b3 28 (ItV.cells ⟨ty2, st2, A2, c2, l2, en2, eh2, ak2, fl2, co2, la2, inc2, de2, we2, wd2, ex2, PA2, pc2, ps2⟩).toArray ∧ Blk W (b3 + 2) 28 (ItV.cells ⟨ty, st, A, c, l, en, eh, ak, fl, co, la, inc, de, we, wd, ex, PA, pc, ps⟩).toArray ∧ Fresh W4 W) ?_ ?_
  · refine ⟨HB4.out.1.alloc _, HB4.out.2.alloc _, ?_, Fresh.alloc _ _⟩
    have := Blk.new W4 28 (ItV.cells ⟨ty, st, A, c, l, en, eh, ak, fl, co, la, inc, de, we, wd, ex, PA, pc, ps⟩).toArray
    rw [hs4] at this
    exact this
  clear x0 x1 x2 x3 x4 x5 x6 x7 x8 x9 x10 x11 x12 x13 x14
  rintro W5 ⟨p1, p2, p3, hf5⟩
  have HF5 := Lib.hid (HF4.out.trans hf5)
  have H35 := Lib.hid (H34.out.trans hf5)
  have z8 : W5.cell? ⟨b3 + 2, 8, none⟩ = some (.int .i64 la) := p3.cell 8
  have f8 := p3.frozen 8
  have hsz5 : w.heap.size + 2 ≤ b3 := by have := HF1s.out; omega
  have HB5 := Lib.hid (And.intro p1 (And.intro p2 p3))
  clear p1 p2 p3 hf5 HF4 HB4 hs4 H34
  go_upto_region 7 with fail
  refine wp_gen (fun W => Blk W b 28 (ItV.cells ⟨ty, st, A, c, l, en, eh, ak, fl, co, la, inc, de, we, wd, ex, PA, pc, ps⟩).toArray ∧ Blk W b3 28 (ItV.cells ⟨ty2, st2, A2, c2, l2, en2, eh2, ak2, fl2, co2, la2, inc2, de2, we2, wd2, ex2, PA2, pc2, ps2⟩).toArray ∧ Blk W (b3 + 2) 28 (ItV.cells ⟨ty, st, A, c, l, en, eh, ak, fl, co, wrap64 (la + 1), inc, de, we, wd, ex, PA, pc, ps⟩).toArray ∧ Fresh w3 W ∧ Fresh w W) ?_ ?_
  · have := HB33.out
    refine ⟨HB5.out.1.far (by simp; omega) _, HB5.out.2.1.far (by simp) _, ?_, Fresh.step2 (by simp; omega) H35.out, Fresh.step2 (by simp; omega) HF5.out⟩
    exact HB5.out.2.2.set 8 _
  clear HB5 H35 HF5 z8 f8
  rintro W6 ⟨p1, p2, p3, hf36, hf6⟩
  have HWF := Lib.hid hf6
  have HX6 := Lib.hid (HX3.out.fresh hf36)
  have HY6 := Lib.hid (HY.out.fresh hf36)
  have HSK : Hid (∀ w', Fresh W6 w' → CellsI w' b ⟨ty, st, A, c, l, en, eh, ak, fl, co, la, inc, de, we, wd, ex, PA, pc, ps⟩ ∧ CellsI w' b3 ⟨ty2, st2, A2, c2, l2, en2, eh2, ak2, fl2, co2, la2, inc2, de2, we2, wd2, ex2, PA2, pc2, ps2⟩ ∧ CellsI w' (b3 + 2) ⟨ty, st, A, c, l, en, eh, ak, fl, co, wrap64 (la + 1), inc, de, we, wd, ex, PA, pc, ps⟩) := Lib.hid (fun w' hw => ⟨CellsI.mk' (p1.fresh hw), CellsI.mk' (p2.fresh hw), CellsI.mk' (p3.fresh hw)⟩)
  obtain ⟨zl, hzl⟩ : ∃ zl, wrap64 (la + 1) = zl := ⟨_, rfl⟩
  rw [hzl] at HSK
  obtain ⟨r, hr⟩ : ∃ r, ieqB ⟨ty, st, A, c, l, en, eh, ak, fl, co, la, inc, de, we, wd, ex, PA, pc, ps⟩ ⟨ty2, st2, A2, c2, l2, en2, eh2, ak2, fl2, co2, la2, inc2, de2, we2, wd2, ex2, PA2, pc2, ps2⟩ = r := ⟨_, rfl⟩
  have HXX : Hid (∀ w', Fresh W6 w' → Calls Try.prog 14 #[.agg #[.int .i64 ty, .int .i64 st, .slice A l.length c, .bool en, .bool eh, .bool ak, .int .i64 fl, .int .i64 co, .int .i64 la, .int .i64 inc, .int .i64 de, .int .i64 we, .bool wd, .bool ex, .slice PA ps.length pc], .agg #[.int .i64 ty, .int .i64 st, .slice A l.length c, .bool en, .bool eh, .bool ak, .int .i64 fl, .int .i64 co, .int .i64 la, .int .i64 inc, .int .i64 de, .int .i64 we, .bool wd, .bool ex, .slice PA ps.length pc]] w' (EqP true w')) := Lib.hid (fun w' hw => by
    have := iequal ⟨ty, st, A, c, l, en, eh, ak, fl, co, la, inc, de, we, wd, ex, PA, pc, ps⟩ ⟨ty, st, A, c, l, en, eh, ak, fl, co, la, inc, de, we, wd, ex, PA, pc, ps⟩ w' (HX6.out.fresh hw) (HX6.out.fresh hw) HXP.out HXP.out
    simpa [ItV.agg] using this)
  have HXY : Hid (∀ w', Fresh W6 w' → Calls Try.prog 14 #[.agg #[.int .i64 ty, .int .i64 st, .slice A l.length c, .bool en, .bool eh, .bool ak, .int .i64 fl, .int .i64 co, .int .i64 la, .int .i64 inc, .int .i64 de, .int .i64 we, .bool wd, .bool ex, .slice PA ps.length pc], .agg #[.int .i64 ty2, .int .i64 st2, .slice A2 l2.length c2, .bool en2, .bool eh2, .bool ak2, .int .i64 fl2, .int .i64 co2, .int .i64 la2, .int .i64 inc2, .int .i64 de2, .int .i64 we2, .bool wd2, .bool ex2, .slice PA2 ps2.length pc2]] w' (EqP r w')) := Lib.hid (fun w' hw => by
    have := iequal ⟨ty, st, A, c, l, en, eh, ak, fl, co, la, inc, de, we, wd, ex, PA, pc, ps⟩ ⟨ty2, st2, A2, c2, l2, en2, eh2, ak2, fl2, co2, la2, inc2, de2, we2, wd2, ex2, PA2, pc2, ps2⟩ w' (HX6.out.fresh hw) (HY6.out.fresh hw) HXP.out HYP.out
    have e : _ = r := hr
    unfold ieqB at e
    rw [e] at this
    exact this)
  have HYX : Hid (∀ w', Fresh W6 w' → Calls Try.prog 14 #[.agg #[.int .i64 ty2, .int .i64 st2, .slice A2 l2.length c2, .bool en2, .bool eh2, .bool ak2, .int .i64 fl2, .int .i64 co2, .int .i64 la2, .int .i64 inc2, .int .i64 de2, .int .i64 we2, .bool wd2, .bool ex2, .slice PA2 ps2.length pc2], .agg #[.int .i64 ty, .int .i64 st, .slice A l.length c, .bool en, .bool eh, .bool ak, .int .i64 fl, .int .i64 co, .int .i64 la, .int .i64 inc, .int .i64 de, .int .i64 we, .bool wd, .bool ex, .slice PA ps.length pc]] w' (EqP r w')) := Lib.hid (fun w' hw => by
    have := iequal ⟨ty2, st2, A2, c2, l2, en2, eh2, ak2, fl2, co2, la2, inc2, de2, we2, wd2, ex2, PA2, pc2, ps2⟩ ⟨ty, st, A, c, l, en, eh, ak, fl, co, la, inc, de, we, wd, ex, PA, pc, ps⟩ w' (HY6.out.fresh hw) (HX6.out.fresh hw) HYP.out HXP.out
    have e : _ = r := (ieqB_comm _ _).trans hr
    unfold ieqB at e
    rw [e] at this
    exact this)
  have HXZ : Hid (∀ w', Fresh W6 w' → Calls Try.prog 14 #[.agg #[.int .i64 ty, .int .i64 st, .slice A l.length c, .bool en, .bool eh, .bool ak, .int .i64 fl, .int .i64 co, .int .i64 la, .int .i64 inc, .int .i64 de, .int .i64 we, .bool wd, .bool ex, .slice PA ps.length pc], .agg #[.int .i64 ty, .int .i64 st, .slice A l.length c, .bool en, .bool eh, .bool ak, .int .i64 fl, .int .i64 co, .int .i64 zl, .int .i64 inc, .int .i64 de, .int .i64 we, .bool wd, .bool ex, .slice PA ps.length pc]] w' (EqP false w')) := Lib.hid (fun w' hw => by
    have hz := HX6.out.fresh hw
    have := iequal ⟨ty, st, A, c, l, en, eh, ak, fl, co, la, inc, de, we, wd, ex, PA, pc, ps⟩ ⟨ty, st, A, c, l, en, eh, ak, fl, co, zl, inc, de, we, wd, ex, PA, pc, ps⟩ w' (HX6.out.fresh hw) ⟨hz.le, hz.max, hz.bs, hz.ple, hz.pmax, hz.prs⟩ HXP.out HXP.out
    have hne : ¬ la = zl := by
      rw [← hzl]
      unfold wrap64
      omega
    have e : (ieqB ⟨ty, st, A, c, l, en, eh, ak, fl, co, la, inc, de, we, wd, ex, PA, pc, ps⟩ ⟨ty, st, A, c, l, en, eh, ak, fl, co, zl, inc, de, we, wd, ex, PA, pc, ps⟩) = false := by simp [ieqB, ItV.nums, hne]
    unfold ieqB at e
    rw [e] at this
    exact this)
  have HCX : Hid (∀ w', Fresh W6 w' → (convert 22 9 (.slice A l.length c)).run Try.prog w' = .ok (.string (strB l)) w') := Lib.hid (fun w' hw => run_str (HX6.out.fresh hw).bs _ _ 5 Try.underlying22 Try.underlying5 Try.underlying9 c)
  have HCY : Hid (∀ w', Fresh W6 w' → (convert 22 9 (.slice A2 l2.length c2)).run Try.prog w' = .ok (.string (strB l2)) w') := Lib.hid (fun w' hw => run_str (HY6.out.fresh hw).bs _ _ 5 Try.underlying22 Try.underlying5 Try.underlying9 c2)
  clear p1 p2 p3 hf36 hf6 HX6 HY6 HX3 HY HXP HYP
  cases r with
  | false =>
    clear hr HCX HCY
    refine wp_region_vals (by kernel_rfl) (by kernel_rfl) (by kernel_rfl) (by kernel_rfl) (by kernel_rfl) (fun i => ([.agg #[.int .i64 ty, .int .i64 st, .slice A l.length c, .bool en, .bool eh, .bool ak, .int .i64 fl, .int .i64 co, .int .i64 la, .int .i64 inc, .int .i64 de, .int .i64 we, .bool wd, .bool ex, .slice PA ps.length pc], .agg #[.int .i64 ty, .int .i64 st, .slice A l.length c, .bool en, .bool eh, .bool ak, .int .i64 fl, .int .i64 co, .int .i64 la, .int .i64 inc, .int .i64 de, .int .i64 we, .bool wd, .bool ex, .slice PA ps.length pc], .bool true, .bool true, .agg #[.int .i64 ty, .int .i64 st, .slice A l.length c, .bool en, .bool eh, .bool ak, .int .i64 fl, .int .i64 co, .int .i64 la, .int .i64 inc, .int .i64 de, .int .i64 we, .bool wd, .bool ex, .slice PA ps.length pc], .agg #[.int .i64 ty2, .int .i64 st2, .slice A2 l2.length c2, .bool en2, .bool eh2, .bool ak2, .int .i64 fl2, .int .i64 co2, .int .i64 la2, .int .i64 inc2, .int .i64 de2, .int .i64 we2, .bool wd2, .bool ex2, .slice PA2 ps2.length pc2], .bool false, .agg #[.int .i64 ty2, .int .i64 st2, .slice A2 l2.length c2, .bool en2, .bool eh2, .bool ak2, .int .i64 fl2, .int .i64 co2, .int .i64 la2, .int .i64 inc2, .int .i64 de2, .int .i64 we2, .bool wd2, .bool ex2, .slice PA2 ps2.length pc2], .agg #[.int .i64 ty, .int .i64 st, .slice A l.length c, .bool en, .bool eh, .bool ak, .int .i64 fl, .int .i64 co, .int .i64 la, .int .i64 inc, .int .i64 de, .int .i64 we, .bool wd, .bool ex, .slice PA ps.length pc], .bool false, .bool true, .bool true, .bool true, .agg #[.int .i64 ty, .int .i64 st, .slice A l.length c, .bool en, .bool eh, .bool ak, .int .i64 fl, .int .i64 co, .int .i64 la, .int .i64 inc, .int .i64 de, .int .i64 we, .bool wd, .bool ex, .slice PA ps.length pc], .agg #[.int .i64 ty, .int .i64 st, .slice A l.length c, .bool en, .bool eh, .bool ak, .int .i64 fl, .int .i64 co, .int .i64 zl, .int .i64 inc, .int .i64 de, .int .i64 we, .bool wd, .bool ex, .slice PA ps.length pc], .bool false, .bool true, .bool true, .bool true, .agg #[.int .i64 ty, .int .i64 st, .slice A l.length c, .bool en, .bool eh, .bool ak, .int .i64 fl, .int .i64 co, .int .i64 la, .int .i64 inc, .int .i64 de, .int .i64 we, .bool wd, .bool ex, .slice PA ps.length pc], .agg #[.int .i64 ty2, .int .i64 st2, .slice A2 l2.length c2, .bool en2, .bool eh2, .bool ak2, .int .i64 fl2, .int .i64 co2, .int .i64 la2, .int .i64 inc2, .int .i64 de2, .int .i64 we2, .bool wd2, .bool ex2, .slice PA2 ps2.length pc2], .bool false, .bool true, .bool true, undef, undef, undef, undef, undef, undef, undef, undef, undef, undef, undef, undef, undef, undef, undef, undef, undef, undef, undef, undef, undef, undef, undef, undef, undef, undef, undef, undef, undef, undef, .bool true, .bool true, .bool true, .bool true, .bool true, .bool true] : List Value).getD i undef) { tmps := #[Value.agg #[Value.int IntKind.i64 u0, Value.int IntKind.i64 u1, Value.int IntKind.i64 u2, Value.slice B n k], Value.agg #[Value.int IntKind.i64 v0, Value.int IntKind.i64 v1, Value.int IntKind.i64 v2, Value.slice B2 n2 k2], Value.pointer (some { block := g, off := 0 }), Value.pointer (some { block := g + 1, off := 0 }), .bool true, Value.pointer (some { block := b, off := 0 }), Value.pointer (some { block := b + 1, off := 0 }), Value.pointer (some { block := b3, off := 0 }), Value.pointer (some { block := b3 + 1, off := 0 }), Value.pointer (some { block := b3 + 2, off := 0 }), Value.pointer (some { block := g, off := 3 }), Value.slice B n k, Value.int IntKind.i64 ↑n, Value.bool false, Value.bool false, Value.pointer (some { block := g + 1, off := 3 }), Value.slice B2 n2 k2, Value.int IntKind.i64 ↑n2, Value.bool false, Value.bool false, undef, Value.tuple #[Value.agg #[Value.int IntKind.i64 ty, Value.int IntKind.i64 st, Value.slice A l.length c, Value.bool en, Value.bool eh, Value.bool ak, Value.int IntKind.i64 fl, Value.int IntKind.i64 co, Value.int IntKind.i64 la, Value.int IntKind.i64 inc, Value.int IntKind.i64 de, Value.int IntKind.i64 we, Value.bool wd, Value.bool ex, Value.slice PA ps.length pc], Value.agg #[Value.int IntKind.i64 q1, Value.bool q2]], Value.agg #[Value.int IntKind.i64 u0, Value.int IntKind.i64 u1, Value.int IntKind.i64 u2, Value.slice B n k], Value.tuple #[Value.agg #[Value.int IntKind.i64 ty, Value.int IntKind.i64 st, Value.slice A l.length c, Value.bool en, Value.bool eh, Value.bool ak, Value.int IntKind.i64 fl, Value.int IntKind.i64 co, Value.int IntKind.i64 la, Value.int IntKind.i64 inc, Value.int IntKind.i64 de, Value.int IntKind.i64 we, Value.bool wd, Value.bool ex, Value.slice PA ps.length pc], Value.agg #[Value.int IntKind.i64 q1, Value.bool q2]], Value.agg #[Value.int IntKind.i64 ty, Value.int IntKind.i64 st, Value.slice A l.length c, Value.bool en, Value.bool eh, Value.bool ak, Value.int IntKind.i64 fl, Value.int IntKind.i64 co, Value.int IntKind.i64 la, Value.int IntKind.i64 inc, Value.int IntKind.i64 de, Value.int IntKind.i64 we, Value.bool wd, Value.bool ex, Value.slice PA ps.length pc], Value.agg #[Value.int IntKind.i64 q1, Value.bool q2], Value.tuple #[Value.agg #[Value.int IntKind.i64 ty2, Value.int IntKind.i64 st2, Value.slice A2 l2.length c2, Value.bool en2, Value.bool eh2, Value.bool ak2, Value.int IntKind.i64 fl2, Value.int IntKind.i64 co2, Value.int IntKind.i64 la2, Value.int IntKind.i64 inc2, Value.int IntKind.i64 de2, Value.int IntKind.i64 we2, Value.bool wd2, Value.bool ex2, Value.slice PA2 ps2.length pc2], Value.agg #[Value.int IntKind.i64 q3, Value.bool q4]], Value.agg #[Value.int IntKind.i64 v0, Value.int IntKind.i64 v1, Value.int IntKind.i64 v2, Value.slice B2 n2 k2], Value.tuple #[Value.agg #[Value.int IntKind.i64 ty2, Value.int IntKind.i64 st2, Value.slice A2 l2.length c2, Value.bool en2, Value.bool eh2, Value.bool ak2, Value.int IntKind.i64 fl2, Value.int IntKind.i64 co2, Value.int IntKind.i64 la2, Value.int IntKind.i64 inc2, Value.int IntKind.i64 de2, Value.int IntKind.i64 we2, Value.bool wd2, Value.bool ex2, Value.slice PA2 ps2.length pc2], Value.agg #[Value.int IntKind.i64 q3, Value.bool q4]], Value.agg #[Value.int IntKind.i64 ty2, Value.int IntKind.i64 st2, Value.slice A2 l2.length c2, Value.bool en2, Value.bool eh2, Value.bool ak2, Value.int IntKind.i64 fl2, Value.int IntKind.i64 co2, Value.int IntKind.i64 la2, Value.int IntKind.i64 inc2, Value.int IntKind.i64 de2, Value.int IntKind.i64 we2, Value.bool wd2, Value.bool ex2, Value.slice PA2 ps2.length pc2], Value.agg #[Value.int IntKind.i64 q3, Value.bool q4], Value.agg #[Value.int IntKind.i64 ty, Value.int IntKind.i64 st, Value.slice A l.length c, Value.bool en, Value.bool eh, Value.bool ak, Value.int IntKind.i64 fl, Value.int IntKind.i64 co, Value.int IntKind.i64 la, Value.int IntKind.i64 inc, Value.int IntKind.i64 de, Value.int IntKind.i64 we, Value.bool wd, Value.bool ex, Value.slice PA ps.length pc], Value.pointer (some { block := b3 + 2, off := 8 }), Value.int IntKind.i64 la, Value.int IntKind.i64 (wrap64 (la + 1)), Value.pointer (some { block := b3 + 2, off := 8 }), .agg #[.int .i64 ty, .int .i64 st, .slice A l.length c, .bool en, .bool eh, .bool ak, .int .i64 fl, .int .i64 co, .int .i64 la, .int .i64 inc, .int .i64 de, .int .i64 we, .bool wd, .bool ex, .slice PA ps.length pc], .agg #[.int .i64 ty, .int .i64 st, .slice A l.length c, .bool en, .bool eh, .bool ak, .int .i64 fl, .int .i64 co, .int .i64 la, .int .i64 inc, .int .i64 de, .int .i64 we, .bool wd, .bool ex, .slice PA ps.length pc], .bool true, .bool true, .agg #[.int .i64 ty, .int .i64 st, .slice A l.length c, .bool en, .bool eh, .bool ak, .int .i64 fl, .int .i64 co, .int .i64 la, .int .i64 inc, .int .i64 de, .int .i64 we, .bool wd, .bool ex, .slice PA ps.length pc], .agg #[.int .i64 ty2, .int .i64 st2, .slice A2 l2.length c2, .bool en2, .bool eh2, .bool ak2, .int .i64 fl2, .int .i64 co2, .int .i64 la2, .int .i64 inc2, .int .i64 de2, .int .i64 we2, .bool wd2, .bool ex2, .slice PA2 ps2.length pc2], .bool false, .agg #[.int .i64 ty2, .int .i64 st2, .slice A2 l2.length c2, .bool en2, .bool eh2, .bool ak2, .int .i64 fl2, .int .i64 co2, .int .i64 la2, .int .i64 inc2, .int .i64 de2, .int .i64 we2, .bool wd2, .bool ex2, .slice PA2 ps2.length pc2], .agg #[.int .i64 ty, .int .i64 st, .slice A l.length c, .bool en, .bool eh, .bool ak, .int .i64 fl, .int .i64 co, .int .i64 la, .int .i64 inc, .int .i64 de, .int .i64 we, .bool wd, .bool ex, .slice PA ps.length pc], .bool false, .bool true, .bool true, .bool true, .agg #[.int .i64 ty, .int .i64 st, .slice A l.length c, .bool en, .bool eh, .bool ak, .int .i64 fl, .int .i64 co, .int .i64 la, .int .i64 inc, .int .i64 de, .int .i64 we, .bool wd, .bool ex, .slice PA ps.length pc], .agg #[.int .i64 ty, .int .i64 st, .slice A l.length c, .bool en, .bool eh, .bool ak, .int .i64 fl, .int .i64 co, .int .i64 zl, .int .i64 inc, .int .i64 de, .int .i64 we, .bool wd, .bool ex, .slice PA ps.length pc], .bool false, .bool true, .bool true, .bool true, .agg #[.int .i64 ty, .int .i64 st, .slice A l.length c, .bool en, .bool eh, .bool ak, .int .i64 fl, .int .i64 co, .int .i64 la, .int .i64 inc, .int .i64 de, .int .i64 we, .bool wd, .bool ex, .slice PA ps.length pc], .agg #[.int .i64 ty2, .int .i64 st2, .slice A2 l2.length c2, .bool en2, .bool eh2, .bool ak2, .int .i64 fl2, .int .i64 co2, .int .i64 la2, .int .i64 inc2, .int .i64 de2, .int .i64 we2, .bool wd2, .bool ex2, .slice PA2 ps2.length pc2], .bool false, .bool true, .bool true, undef, undef, undef, undef, undef, undef, undef, undef, undef, undef, undef, undef, undef, undef, undef, undef, undef, undef, undef, undef, undef, undef, undef, undef, undef, undef, undef, undef, undef, undef, .bool true, .bool true, .bool true, .bool true, .bool true], defers := [] } (by kernel_rfl) (fun w2 => Fresh W6 w2) (Fresh.drew W6) ⟨?_, ?_, ?_, ?_, ?_, ?_, ?_, ?_, ?_, ?_, ?_, ?_, ?_, ?_, ?_, ?_, ?_, ?_, ?_, ?_, ?_, ?_, ?_, ?_, ?_, ?_, ?_, ?_, ?_, ?_, ?_, ?_, ?_, ?_, ?_, ?_, ?_, ?_, ?_, ?_, ?_, ?_, ?_, ?_, ?_, ?_, ?_, ?_, ?_, ?_, ?_, ?_, ?_, ?_, ?_, ?_, ?_, ?_, ?_, ?_, trivial⟩ ?_
    · refine .inl ⟨by kernel_rfl, ?_⟩
      as_aux_lemma =>
        intro w2 hf
        obtain ⟨x0, x1, x2, x3, x4, x5, x6, x7, x8, x9, x10, x11, x12, x13, x14⟩ := (HSK.out w2 hf).1
        simp only at x0 x1 x2 x3 x4 x5 x6 x7 x8 x9 x10 x11 x12 x13 x14
        exact .val _ (by simp [execOp, Act.eval, x0, x1, x2, x3, x4, x5, x6, x7, x8, x9, x10, x11, x12, x13, x14, go_sem]) hf
    · refine .inl ⟨by kernel_rfl, ?_⟩
      as_aux_lemma =>
        intro w2 hf
        obtain ⟨x0, x1, x2, x3, x4, x5, x6, x7, x8, x9, x10, x11, x12, x13, x14⟩ := (HSK.out w2 hf).1
        simp only at x0 x1 x2 x3 x4 x5 x6 x7 x8 x9 x10 x11 x12 x13 x14
        exact .val _ (by simp [execOp, Act.eval, x0, x1, x2, x3, x4, x5, x6, x7, x8, x9, x10, x11, x12, x13, x14, go_sem]) hf
    · refine .inl ⟨by kernel_rfl, ?_⟩
      as_aux_lemma =>
        intro w2 hf
        exact .call _ _ w2 (by simp [execOp, Act.eval, go_sem]; first | rfl | done) ((HXX.out w2 hf).mono fun e w3 h => ⟨h.1, hf.trans h.2⟩)
    · refine .inl ⟨by kernel_rfl, ?_⟩
      as_aux_lemma =>
        intro w2 hf
        exact .val _ (by simp [execOp, Act.eval, go_sem]) hf
    · refine .inl ⟨by kernel_rfl, ?_⟩
      as_aux_lemma =>
        intro w2 hf
        obtain ⟨x0, x1, x2, x3, x4, x5, x6, x7, x8, x9, x10, x11, x12, x13, x14⟩ := (HSK.out w2 hf).1
        simp only at x0 x1 x2 x3 x4 x5 x6 x7 x8 x9 x10 x11 x12 x13 x14
        exact .val _ (by simp [execOp, Act.eval, x0, x1, x2, x3, x4, x5, x6, x7, x8, x9, x10, x11, x12, x13, x14, go_sem]) hf
    · refine .inl ⟨by kernel_rfl, ?_⟩
      as_aux_lemma =>
        intro w2 hf
        obtain ⟨x0, x1, x2, x3, x4, x5, x6, x7, x8, x9, x10, x11, x12, x13, x14⟩ := (HSK.out w2 hf).2.1
        simp only at x0 x1 x2 x3 x4 x5 x6 x7 x8 x9 x10 x11 x12 x13 x14
        exact .val _ (by simp [execOp, Act.eval, x0, x1, x2, x3, x4, x5, x6, x7, x8, x9, x10, x11, x12, x13, x14, go_sem]) hf
    · refine .inl ⟨by kernel_rfl, ?_⟩
      as_aux_lemma =>
        intro w2 hf
        exact .call _ _ w2 (by simp [execOp, Act.eval, go_sem]; first | rfl | done) ((HXY.out w2 hf).mono fun e w3 h => ⟨h.1, hf.trans h.2⟩)
    · refine .inl ⟨by kernel_rfl, ?_⟩
      as_aux_lemma =>
        intro w2 hf
        obtain ⟨x0, x1, x2, x3, x4, x5, x6, x7, x8, x9, x10, x11, x12, x13, x14⟩ := (HSK.out w2 hf).2.1
        simp only at x0 x1 x2 x3 x4 x5 x6 x7 x8 x9 x10 x11 x12 x13 x14
        exact .val _ (by simp [execOp, Act.eval, x0, x1, x2, x3, x4, x5, x6, x7, x8, x9, x10, x11, x12, x13, x14, go_sem]) hf
    · refine .inl ⟨by kernel_rfl, ?_⟩
      as_aux_lemma =>
        intro w2 hf
        obtain ⟨x0, x1, x2, x3, x4, x5, x6, x7, x8, x9, x10, x11, x12, x13, x14⟩ := (HSK.out w2 hf).1
        simp only at x0 x1 x2 x3 x4 x5 x6 x7 x8 x9 x10 x11 x12 x13 x14
        exact .val _ (by simp [execOp, Act.eval, x0, x1, x2, x3, x4, x5, x6, x7, x8, x9, x10, x11, x12, x13, x14, go_sem]) hf
    · refine .inl ⟨by kernel_rfl, ?_⟩
      as_aux_lemma =>
        intro w2 hf
        exact .call _ _ w2 (by simp [execOp, Act.eval, go_sem]; first | rfl | done) ((HYX.out w2 hf).mono fun e w3 h => ⟨h.1, hf.trans h.2⟩)
    · refine .inl ⟨by kernel_rfl, ?_⟩
      as_aux_lemma =>
        intro w2 hf
        exact .val _ (by simp [execOp, Act.eval, go_sem]) hf
    · refine .inl ⟨by kernel_rfl, ?_⟩
      as_aux_lemma =>
        intro w2 hf
        exact .val _ (by simp [execOp, Act.eval, go_sem]) hf
    · refine .inl ⟨by kernel_rfl, ?_⟩
      as_aux_lemma =>
        intro w2 hf
        exact .val _ (by simp [execOp, Act.eval, go_sem]) hf
    · refine .inl ⟨by kernel_rfl, ?_⟩
      as_aux_lemma =>
        intro w2 hf
        obtain ⟨x0, x1, x2, x3, x4, x5, x6, x7, x8, x9, x10, x11, x12, x13, x14⟩ := (HSK.out w2 hf).1
        simp only at x0 x1 x2 x3 x4 x5 x6 x7 x8 x9 x10 x11 x12 x13 x14
        exact .val _ (by simp [execOp, Act.eval, x0, x1, x2, x3, x4, x5, x6, x7, x8, x9, x10, x11, x12, x13, x14, go_sem]) hf
    · refine .inl ⟨by kernel_rfl, ?_⟩
      as_aux_lemma =>
        intro w2 hf
        obtain ⟨x0, x1, x2, x3, x4, x5, x6, x7, x8, x9, x10, x11, x12, x13, x14⟩ := (HSK.out w2 hf).2.2
        simp only at x0 x1 x2 x3 x4 x5 x6 x7 x8 x9 x10 x11 x12 x13 x14
        exact .val _ (by simp [execOp, Act.eval, x0, x1, x2, x3, x4, x5, x6, x7, x8, x9, x10, x11, x12, x13, x14, go_sem]) hf
    · refine .inl ⟨by kernel_rfl, ?_⟩
      as_aux_lemma =>
        intro w2 hf
        exact .call _ _ w2 (by simp [execOp, Act.eval, go_sem]; first | rfl | done) ((HXZ.out w2 hf).mono fun e w3 h => ⟨h.1, hf.trans h.2⟩)
    · refine .inl ⟨by kernel_rfl, ?_⟩
      as_aux_lemma =>
        intro w2 hf
        exact .val _ (by simp [execOp, Act.eval, go_sem]) hf
    · refine .inl ⟨by kernel_rfl, ?_⟩
      as_aux_lemma =>
        intro w2 hf
        exact .val _ (by simp [execOp, Act.eval, go_sem]) hf
    · refine .inl ⟨by kernel_rfl, ?_⟩
      as_aux_lemma =>
        intro w2 hf
        exact .val _ (by simp [execOp, Act.eval, go_sem]) hf
    · refine .inl ⟨by kernel_rfl, ?_⟩
      as_aux_lemma =>
        intro w2 hf
        obtain ⟨x0, x1, x2, x3, x4, x5, x6, x7, x8, x9, x10, x11, x12, x13, x14⟩ := (HSK.out w2 hf).1
        simp only at x0 x1 x2 x3 x4 x5 x6 x7 x8 x9 x10 x11 x12 x13 x14
        exact .val _ (by simp [execOp, Act.eval, x0, x1, x2, x3, x4, x5, x6, x7, x8, x9, x10, x11, x12, x13, x14, go_sem]) hf
    · refine .inl ⟨by kernel_rfl, ?_⟩
      as_aux_lemma =>
        intro w2 hf
        obtain ⟨x0, x1, x2, x3, x4, x5, x6, x7, x8, x9, x10, x11, x12, x13, x14⟩ := (HSK.out w2 hf).2.1
        simp only at x0 x1 x2 x3 x4 x5 x6 x7 x8 x9 x10 x11 x12 x13 x14
        exact .val _ (by simp [execOp, Act.eval, x0, x1, x2, x3, x4, x5, x6, x7, x8, x9, x10, x11, x12, x13, x14, go_sem]) hf
    · refine .inl ⟨by kernel_rfl, ?_⟩
      as_aux_lemma =>
        intro w2 hf
        exact .call _ _ w2 (by simp [execOp, Act.eval, go_sem]; first | rfl | done) ((HXY.out w2 hf).mono fun e w3 h => ⟨h.1, hf.trans h.2⟩)
    · refine .inl ⟨by kernel_rfl, ?_⟩
      as_aux_lemma =>
        intro w2 hf
        exact .val _ (by simp [execOp, Act.eval, go_sem]) hf
    · refine .inl ⟨by kernel_rfl, ?_⟩
      as_aux_lemma =>
        intro w2 hf
        exact .val _ (by simp [execOp, Act.eval, go_sem]) hf
    · exact .inr ⟨by kernel_rfl, rfl⟩
    · exact .inr ⟨by kernel_rfl, rfl⟩
    · exact .inr ⟨by kernel_rfl, rfl⟩
    · exact .inr ⟨by kernel_rfl, rfl⟩
    · exact .inr ⟨by kernel_rfl, rfl⟩
    · exact .inr ⟨by kernel_rfl, rfl⟩
    · exact .inr ⟨by kernel_rfl, rfl⟩
    · exact .inr ⟨by kernel_rfl, rfl⟩
    · exact .inr ⟨by kernel_rfl, rfl⟩
    · exact .inr ⟨by kernel_rfl, rfl⟩
    · exact .inr ⟨by kernel_rfl, rfl⟩
    · exact .inr ⟨by kernel_rfl, rfl⟩
    · exact .inr ⟨by kernel_rfl, rfl⟩
    · exact .inr ⟨by kernel_rfl, rfl⟩
    · exact .inr ⟨by kernel_rfl, rfl⟩
    · exact .inr ⟨by kernel_rfl, rfl⟩
    · exact .inr ⟨by kernel_rfl, rfl⟩
    · exact .inr ⟨by kernel_rfl, rfl⟩
    · exact .inr ⟨by kernel_rfl, rfl⟩
    · exact .inr ⟨by kernel_rfl, rfl⟩
    · exact .inr ⟨by kernel_rfl, rfl⟩
    · exact .inr ⟨by kernel_rfl, rfl⟩
    · exact .inr ⟨by kernel_rfl, rfl⟩
    · exact .inr ⟨by kernel_rfl, rfl⟩
    · exact .inr ⟨by kernel_rfl, rfl⟩
    · exact .inr ⟨by kernel_rfl, rfl⟩
    · exact .inr ⟨by kernel_rfl, rfl⟩
    · exact .inr ⟨by kernel_rfl, rfl⟩
    · exact .inr ⟨by kernel_rfl, rfl⟩
    · exact .inr ⟨by kernel_rfl, rfl⟩
    · refine .inl ⟨by kernel_rfl, ?_⟩
      as_aux_lemma =>
        intro w2 hf
        exact .val _ (by simp [execOp, Act.eval, go_sem]) hf
    · refine .inl ⟨by kernel_rfl, ?_⟩
      as_aux_lemma =>
        intro w2 hf
        exact .val _ (by simp [execOp, Act.eval, go_sem]) hf
    · refine .inl ⟨by kernel_rfl, ?_⟩
      as_aux_lemma =>
        intro w2 hf
        exact .val _ (by simp [execOp, Act.eval, go_sem]) hf
    · refine .inl ⟨by kernel_rfl, ?_⟩
      as_aux_lemma =>
        intro w2 hf
        exact .call _ #[] w2 (by simp [execOp, Act.eval, go_sem]) ((pl_awake w2).mono fun e w3 h => ⟨h.1, hf.trans h.2⟩)
    · refine .inl ⟨by kernel_rfl, ?_⟩
      as_aux_lemma =>
        intro w2 hf
        exact .val _ (by simp [execOp, Act.eval, go_sem]) hf
    · refine .inl ⟨by kernel_rfl, ?_⟩
      as_aux_lemma =>
        intro w2 hf
        exact .val _ (by simp [execOp, Act.eval, go_sem]) hf
    intro w7 hf
    have HF := Lib.hid (HWF.out.trans hf)
    clear hf
    go_wp2
    go_ret
    exact ⟨rfl, HF.out⟩
  | true =>
    obtain ⟨t1, t2, t3, t4⟩ := ieqB_true hr
    simp only at t1 t2 t3 t4
    subst t1 t2 t3
    clear hr
    have m1 : ((ps.length : Int) == (ps2.length : Int)) = true := by rw [t4]; simp
    clear t4
    refine wp_region_vals (by kernel_rfl) (by kernel_rfl) (by kernel_rfl) (by kernel_rfl) (by kernel_rfl) (fun i => ([.agg #[.int .i64 ty, .int .i64 st, .slice A l.length c, .bool en, .bool eh, .bool ak, .int .i64 fl, .int .i64 co, .int .i64 la, .int .i64 inc, .int .i64 de, .int .i64 we, .bool wd, .bool ex, .slice PA ps.length pc], .agg #[.int .i64 ty, .int .i64 st, .slice A l.length c, .bool en, .bool eh, .bool ak, .int .i64 fl, .int .i64 co, .int .i64 la, .int .i64 inc, .int .i64 de, .int .i64 we, .bool wd, .bool ex, .slice PA ps.length pc], .bool true, .bool true, .agg #[.int .i64 ty, .int .i64 st, .slice A l.length c, .bool en, .bool eh, .bool ak, .int .i64 fl, .int .i64 co, .int .i64 la, .int .i64 inc, .int .i64 de, .int .i64 we, .bool wd, .bool ex, .slice PA ps.length pc], .agg #[.int .i64 ty, .int .i64 st, .slice A2 l.length c2, .bool en2, .bool eh2, .bool ak2, .int .i64 fl2, .int .i64 co2, .int .i64 la2, .int .i64 inc2, .int .i64 de2, .int .i64 we2, .bool wd2, .bool ex2, .slice PA2 ps2.length pc2], .bool true, .agg #[.int .i64 ty, .int .i64 st, .slice A2 l.length c2, .bool en2, .bool eh2, .bool ak2, .int .i64 fl2, .int .i64 co2, .int .i64 la2, .int .i64 inc2, .int .i64 de2, .int .i64 we2, .bool wd2, .bool ex2, .slice PA2 ps2.length pc2], .agg #[.int .i64 ty, .int .i64 st, .slice A l.length c, .bool en, .bool eh, .bool ak, .int .i64 fl, .int .i64 co, .int .i64 la, .int .i64 inc, .int .i64 de, .int .i64 we, .bool wd, .bool ex, .slice PA ps.length pc], .bool true, .bool true, .bool true, .bool true, .agg #[.int .i64 ty, .int .i64 st, .slice A l.length c, .bool en, .bool eh, .bool ak, .int .i64 fl, .int .i64 co, .int .i64 la, .int .i64 inc, .int .i64 de, .int .i64 we, .bool wd, .bool ex, .slice PA ps.length pc], .agg #[.int .i64 ty, .int .i64 st, .slice A l.length c, .bool en, .bool eh, .bool ak, .int .i64 fl, .int .i64 co, .int .i64 zl, .int .i64 inc, .int .i64 de, .int .i64 we, .bool wd, .bool ex, .slice PA ps.length pc], .bool false, .bool true, .bool true, .bool true, .agg #[.int .i64 ty, .int .i64 st, .slice A l.length c, .bool en, .bool eh, .bool ak, .int .i64 fl, .int .i64 co, .int .i64 la, .int .i64 inc, .int .i64 de, .int .i64 we, .bool wd, .bool ex, .slice PA ps.length pc], .agg #[.int .i64 ty, .int .i64 st, .slice A2 l.length c2, .bool en2, .bool eh2, .bool ak2, .int .i64 fl2, .int .i64 co2, .int .i64 la2, .int .i64 inc2, .int .i64 de2, .int .i64 we2, .bool wd2, .bool ex2, .slice PA2 ps2.length pc2], .bool true, .bool false, .bool false, .pointer (some ⟨b, 2, none⟩), .slice A l.length c, .string (strB l), .pointer (some ⟨b3, 2, none⟩), .slice A2 l.length c2, .string (strB l), .bool true, .bool true, .pointer (some ⟨b, 0, none⟩), .int .i64 ty, .pointer (some ⟨b3, 0, none⟩), .int .i64 ty, .bool true, .bool true, .bool true, .pointer (some ⟨b, 1, none⟩), .int .i64 st, .pointer (some ⟨b3, 1, none⟩), .int .i64 st, .bool true, .bool true, .bool true, .pointer (some ⟨b, 14, none⟩), .slice PA ps.length pc, .int .i64 ps.length, .pointer (some ⟨b3, 14, none⟩), .slice PA2 ps2.length pc2, .int .i64 ps2.length, .bool true, .bool true, .bool true, .bool true, .bool true, .bool true, .bool true, .bool true] : List Value).getD i undef) { tmps := #[Value.agg #[Value.int IntKind.i64 u0, Value.int IntKind.i64 u1, Value.int IntKind.i64 u2, Value.slice B n k], Value.agg #[Value.int IntKind.i64 v0, Value.int IntKind.i64 v1, Value.int IntKind.i64 v2, Value.slice B2 n2 k2], Value.pointer (some { block := g, off := 0 }), Value.pointer (some { block := g + 1, off := 0 }), .bool true, Value.pointer (some { block := b, off := 0 }), Value.pointer (some { block := b + 1, off := 0 }), Value.pointer (some { block := b3, off := 0 }), Value.pointer (some { block := b3 + 1, off := 0 }), Value.pointer (some { block := b3 + 2, off := 0 }), Value.pointer (some { block := g, off := 3 }), Value.slice B n k, Value.int IntKind.i64 ↑n, Value.bool false, Value.bool false, Value.pointer (some { block := g + 1, off := 3 }), Value.slice B2 n2 k2, Value.int IntKind.i64 ↑n2, Value.bool false, Value.bool false, undef, Value.tuple #[Value.agg #[Value.int IntKind.i64 ty, Value.int IntKind.i64 st, Value.slice A l.length c, Value.bool en, Value.bool eh, Value.bool ak, Value.int IntKind.i64 fl, Value.int IntKind.i64 co, Value.int IntKind.i64 la, Value.int IntKind.i64 inc, Value.int IntKind.i64 de, Value.int IntKind.i64 we, Value.bool wd, Value.bool ex, Value.slice PA ps.length pc], Value.agg #[Value.int IntKind.i64 q1, Value.bool q2]], Value.agg #[Value.int IntKind.i64 u0, Value.int IntKind.i64 u1, Value.int IntKind.i64 u2, Value.slice B n k], Value.tuple #[Value.agg #[Value.int IntKind.i64 ty, Value.int IntKind.i64 st, Value.slice A l.length c, Value.bool en, Value.bool eh, Value.bool ak, Value.int IntKind.i64 fl, Value.int IntKind.i64 co, Value.int IntKind.i64 la, Value.int IntKind.i64 inc, Value.int IntKind.i64 de, Value.int IntKind.i64 we, Value.bool wd, Value.bool ex, Value.slice PA ps.length pc], Value.agg #[Value.int IntKind.i64 q1, Value.bool q2]], Value.agg #[Value.int IntKind.i64 ty, Value.int IntKind.i64 st, Value.slice A l.length c, Value.bool en, Value.bool eh, Value.bool ak, Value.int IntKind.i64 fl, Value.int IntKind.i64 co, Value.int IntKind.i64 la, Value.int IntKind.i64 inc, Value.int IntKind.i64 de, Value.int IntKind.i64 we, Value.bool wd, Value.bool ex, Value.slice PA ps.length pc], Value.agg #[Value.int IntKind.i64 q1, Value.bool q2], Value.tuple #[Value.agg #[Value.int IntKind.i64 ty, Value.int IntKind.i64 st, Value.slice A2 l.length c2, Value.bool en2, Value.bool eh2, Value.bool ak2, Value.int IntKind.i64 fl2, Value.int IntKind.i64 co2, Value.int IntKind.i64 la2, Value.int IntKind.i64 inc2, Value.int IntKind.i64 de2, Value.int IntKind.i64 we2, Value.bool wd2, Value.bool ex2, Value.slice PA2 ps2.length pc2], Value.agg #[Value.int IntKind.i64 q3, Value.bool q4]], Value.agg #[Value.int IntKind.i64 v0, Value.int IntKind.i64 v1, Value.int IntKind.i64 v2, Value.slice B2 n2 k2], Value.tuple #[Value.agg #[Value.int IntKind.i64 ty, Value.int IntKind.i64 st, Value.slice A2 l.length c2, Value.bool en2, Value.bool eh2, Value.bool ak2, Value.int IntKind.i64 fl2, Value.int IntKind.i64 co2, Value.int IntKind.i64 la2, Value.int IntKind.i64 inc2, Value.int IntKind.i64 de2, Value.int IntKind.i64 we2, Value.bool wd2, Value.bool ex2, Value.slice PA2 ps2.length pc2], Value.agg #[Value.int IntKind.i64 q3, Value.bool q4]], Value.agg #[Value.int IntKind.i64 ty, Value.int IntKind.i64 st, Value.slice A2 l.length c2, Value.bool en2, Value.bool eh2, Value.bool ak2, Value.int IntKind.i64 fl2, Value.int IntKind.i64 co2, Value.int IntKind.i64 la2, Value.int IntKind.i64 inc2, Value.int IntKind.i64 de2, Value.int IntKind.i64 we2, Value.bool wd2, Value.bool ex2, Value.slice PA2 ps2.length pc2], Value.agg #[Value.int IntKind.i64 q3, Value.bool q4], Value.agg #[Value.int IntKind.i64 ty, Value.int IntKind.i64 st, Value.slice A l.length c, Value.bool en, Value.bool eh, Value.bool ak, Value.int IntKind.i64 fl, Value.int IntKind.i64 co, Value.int IntKind.i64 la, Value.int IntKind.i64 inc, Value.int IntKind.i64 de, Value.int IntKind.i64 we, Value.bool wd, Value.bool ex, Value.slice PA ps.length pc], Value.pointer (some { block := b3 + 2, off := 8 }), Value.int IntKind.i64 la, Value.int IntKind.i64 (wrap64 (la + 1)), Value.pointer (some { block := b3 + 2, off := 8 }), .agg #[.int .i64 ty, .int .i64 st, .slice A l.length c, .bool en, .bool eh, .bool ak, .int .i64 fl, .int .i64 co, .int .i64 la, .int .i64 inc, .int .i64 de, .int .i64 we, .bool wd, .bool ex, .slice PA ps.length pc], .agg #[.int .i64 ty, .int .i64 st, .slice A l.length c, .bool en, .bool eh, .bool ak, .int .i64 fl, .int .i64 co, .int .i64 la, .int .i64 inc, .int .i64 de, .int .i64 we, .bool wd, .bool ex, .slice PA ps.length pc], .bool true, .bool true, .agg #[.int .i64 ty, .int .i64 st, .slice A l.length c, .bool en, .bool eh, .bool ak, .int .i64 fl, .int .i64 co, .int .i64 la, .int .i64 inc, .int .i64 de, .int .i64 we, .bool wd, .bool ex, .slice PA ps.length pc], .agg #[.int .i64 ty, .int .i64 st, .slice A2 l.length c2, .bool en2, .bool eh2, .bool ak2, .int .i64 fl2, .int .i64 co2, .int .i64 la2, .int .i64 inc2, .int .i64 de2, .int .i64 we2, .bool wd2, .bool ex2, .slice PA2 ps2.length pc2], .bool true, .agg #[.int .i64 ty, .int .i64 st, .slice A2 l.length c2, .bool en2, .bool eh2, .bool ak2, .int .i64 fl2, .int .i64 co2, .int .i64 la2, .int .i64 inc2, .int .i64 de2, .int .i64 we2, .bool wd2, .bool ex2, .slice PA2 ps2.length pc2], .agg #[.int .i64 ty, .int .i64 st, .slice A l.length c, .bool en, .bool eh, .bool ak, .int .i64 fl, .int .i64 co, .int .i64 la, .int .i64 inc, .int .i64 de, .int .i64 we, .bool wd, .bool ex, .slice PA ps.length pc], .bool true, .bool true, .bool true, .bool true, .agg #[.int .i64 ty, .int .i64 st, .slice A l.length c, .bool en, .bool eh, .bool ak, .int .i64 fl, .int .i64 co, .int .i64 la, .int .i64 inc, .int .i64 de, .int .i64 we, .bool wd, .bool ex, .slice PA ps.length pc], .agg #[.int .i64 ty, .int .i64 st, .slice A l.length c, .bool en, .bool eh, .bool ak, .int .i64 fl, .int .i64 co, .int .i64 zl, .int .i64 inc, .int .i64 de, .int .i64 we, .bool wd, .bool ex, .slice PA ps.length pc], .bool false, .bool true, .bool true, .bool true, .agg #[.int .i64 ty, .int .i64 st, .slice A l.length c, .bool en, .bool eh, .bool ak, .int .i64 fl, .int .i64 co, .int .i64 la, .int .i64 inc, .int .i64 de, .int .i64 we, .bool wd, .bool ex, .slice PA ps.length pc], .agg #[.int .i64 ty, .int .i64 st, .slice A2 l.length c2, .bool en2, .bool eh2, .bool ak2, .int .i64 fl2, .int .i64 co2, .int .i64 la2, .int .i64 inc2, .int .i64 de2, .int .i64 we2, .bool wd2, .bool ex2, .slice PA2 ps2.length pc2], .bool true, .bool false, .bool false, .pointer (some ⟨b, 2, none⟩), .slice A l.length c, .string (strB l), .pointer (some ⟨b3, 2, none⟩), .slice A2 l.length c2, .string (strB l), .bool true, .bool true, .pointer (some ⟨b, 0, none⟩), .int .i64 ty, .pointer (some ⟨b3, 0, none⟩), .int .i64 ty, .bool true, .bool true, .bool true, .pointer (some ⟨b, 1, none⟩), .int .i64 st, .pointer (some ⟨b3, 1, none⟩), .int .i64 st, .bool true, .bool true, .bool true, .pointer (some ⟨b, 14, none⟩), .slice PA ps.length pc, .int .i64 ps.length, .pointer (some ⟨b3, 14, none⟩), .slice PA2 ps2.length pc2, .int .i64 ps2.length, .bool true, .bool true, .bool true, .bool true, .bool true, .bool true, .bool true], defers := [] } (by kernel_rfl) (fun w2 => Fresh W6 w2) (Fresh.drew W6) ⟨?_, ?_, ?_, ?_, ?_, ?_, ?_, ?_, ?_, ?_, ?_, ?_, ?_, ?_, ?_, ?_, ?_, ?_, ?_, ?_, ?_, ?_, ?_, ?_, ?_, ?_, ?_, ?_, ?_, ?_, ?_, ?_, ?_, ?_, ?_, ?_, ?_, ?_, ?_, ?_, ?_, ?_, ?_, ?_, ?_, ?_, ?_, ?_, ?_, ?_, ?_, ?_, ?_, ?_, ?_, ?_, ?_, ?_, ?_, ?_, trivial⟩ ?_
    · refine .inl ⟨by kernel_rfl, ?_⟩
      as_aux_lemma =>
        intro w2 hf
        obtain ⟨x0, x1, x2, x3, x4, x5, x6, x7, x8, x9, x10, x11, x12, x13, x14⟩ := (HSK.out w2 hf).1
        simp only at x0 x1 x2 x3 x4 x5 x6 x7 x8 x9 x10 x11 x12 x13 x14
        exact .val _ (by simp [execOp, Act.eval, x0, x1, x2, x3, x4, x5, x6, x7, x8, x9, x10, x11, x12, x13, x14, go_sem]) hf
    · refine .inl ⟨by kernel_rfl, ?_⟩
      as_aux_lemma =>
        intro w2 hf
        obtain ⟨x0, x1, x2, x3, x4, x5, x6, x7, x8, x9, x10, x11, x12, x13, x14⟩ := (HSK.out w2 hf).1
        simp only at x0 x1 x2 x3 x4 x5 x6 x7 x8 x9 x10 x11 x12 x13 x14
        exact .val _ (by simp [execOp, Act.eval, x0, x1, x2, x3, x4, x5, x6, x7, x8, x9, x10, x11, x12, x13, x14, go_sem]) hf
    · refine .inl ⟨by kernel_rfl, ?_⟩
      as_aux_lemma =>
        intro w2 hf
        exact .call _ _ w2 (by simp [execOp, Act.eval, go_sem]; first | rfl | done) ((HXX.out w2 hf).mono fun e w3 h => ⟨h.1, hf.trans h.2⟩)
    · refine .inl ⟨by kernel_rfl, ?_⟩
      as_aux_lemma =>
        intro w2 hf
        exact .val _ (by simp [execOp, Act.eval, go_sem]) hf
    · refine .inl ⟨by kernel_rfl, ?_⟩
      as_aux_lemma =>
        intro w2 hf
        obtain ⟨x0, x1, x2, x3, x4, x5, x6, x7, x8, x9, x10, x11, x12, x13, x14⟩ := (HSK.out w2 hf).1
        simp only at x0 x1 x2 x3 x4 x5 x6 x7 x8 x9 x10 x11 x12 x13 x14
        exact .val _ (by simp [execOp, Act.eval, x0, x1, x2, x3, x4, x5, x6, x7, x8, x9, x10, x11, x12, x13, x14, go_sem]) hf
    · refine .inl ⟨by kernel_rfl, ?_⟩
      as_aux_lemma =>
        intro w2 hf
        obtain ⟨x0, x1, x2, x3, x4, x5, x6, x7, x8, x9, x10, x11, x12, x13, x14⟩ := (HSK.out w2 hf).2.1
        simp only at x0 x1 x2 x3 x4 x5 x6 x7 x8 x9 x10 x11 x12 x13 x14
        exact .val _ (by simp [execOp, Act.eval, x0, x1, x2, x3, x4, x5, x6, x7, x8, x9, x10, x11, x12, x13, x14, go_sem]) hf
    · refine .inl ⟨by kernel_rfl, ?_⟩
      as_aux_lemma =>
        intro w2 hf
        exact .call _ _ w2 (by simp [execOp, Act.eval, go_sem]; first | rfl | done) ((HXY.out w2 hf).mono fun e w3 h => ⟨h.1, hf.trans h.2⟩)
    · refine .inl ⟨by kernel_rfl, ?_⟩
      as_aux_lemma =>
        intro w2 hf
        obtain ⟨x0, x1, x2, x3, x4, x5, x6, x7, x8, x9, x10, x11, x12, x13, x14⟩ := (HSK.out w2 hf).2.1
        simp only at x0 x1 x2 x3 x4 x5 x6 x7 x8 x9 x10 x11 x12 x13 x14
        exact .val _ (by simp [execOp, Act.eval, x0, x1, x2, x3, x4, x5, x6, x7, x8, x9, x10, x11, x12, x13, x14, go_sem]) hf
    · refine .inl ⟨by kernel_rfl, ?_⟩
      as_aux_lemma =>
        intro w2 hf
        obtain ⟨x0, x1, x2, x3, x4, x5, x6, x7, x8, x9, x10, x11, x12, x13, x14⟩ := (HSK.out w2 hf).1
        simp only at x0 x1 x2 x3 x4 x5 x6 x7 x8 x9 x10 x11 x12 x13 x14
        exact .val _ (by simp [execOp, Act.eval, x0, x1, x2, x3, x4, x5, x6, x7, x8, x9, x10, x11, x12, x13, x14, go_sem]) hf
    · refine .inl ⟨by kernel_rfl, ?_⟩
      as_aux_lemma =>
        intro w2 hf
        exact .call _ _ w2 (by simp [execOp, Act.eval, go_sem]; first | rfl | done) ((HYX.out w2 hf).mono fun e w3 h => ⟨h.1, hf.trans h.2⟩)
    · refine .inl ⟨by kernel_rfl, ?_⟩
      as_aux_lemma =>
        intro w2 hf
        exact .val _ (by simp [execOp, Act.eval, go_sem]) hf
    · refine .inl ⟨by kernel_rfl, ?_⟩
      as_aux_lemma =>
        intro w2 hf
        exact .val _ (by simp [execOp, Act.eval, go_sem]) hf
    · refine .inl ⟨by kernel_rfl, ?_⟩
      as_aux_lemma =>
        intro w2 hf
        exact .val _ (by simp [execOp, Act.eval, go_sem]) hf
    · refine .inl ⟨by kernel_rfl, ?_⟩
      as_aux_lemma =>
        intro w2 hf
        obtain ⟨x0, x1, x2, x3, x4, x5, x6, x7, x8, x9, x10, x11, x12, x13, x14⟩ := (HSK.out w2 hf).1
        simp only at x0 x1 x2 x3 x4 x5 x6 x7 x8 x9 x10 x11 x12 x13 x14
        exact .val _ (by simp [execOp, Act.eval, x0, x1, x2, x3, x4, x5, x6, x7, x8, x9, x10, x11, x12, x13, x14, go_sem]) hf
    · refine .inl ⟨by kernel_rfl, ?_⟩
      as_aux_lemma =>
        intro w2 hf
        obtain ⟨x0, x1, x2, x3, x4, x5, x6, x7, x8, x9, x10, x11, x12, x13, x14⟩ := (HSK.out w2 hf).2.2
        simp only at x0 x1 x2 x3 x4 x5 x6 x7 x8 x9 x10 x11 x12 x13 x14
        exact .val _ (by simp [execOp, Act.eval, x0, x1, x2, x3, x4, x5, x6, x7, x8, x9, x10, x11, x12, x13, x14, go_sem]) hf
    · refine .inl ⟨by kernel_rfl, ?_⟩
      as_aux_lemma =>
        intro w2 hf
        exact .call _ _ w2 (by simp [execOp, Act.eval, go_sem]; first | rfl | done) ((HXZ.out w2 hf).mono fun e w3 h => ⟨h.1, hf.trans h.2⟩)
    · refine .inl ⟨by kernel_rfl, ?_⟩
      as_aux_lemma =>
        intro w2 hf
        exact .val _ (by simp [execOp, Act.eval, go_sem]) hf
    · refine .inl ⟨by kernel_rfl, ?_⟩
      as_aux_lemma =>
        intro w2 hf
        exact .val _ (by simp [execOp, Act.eval, go_sem]) hf
    · refine .inl ⟨by kernel_rfl, ?_⟩
      as_aux_lemma =>
        intro w2 hf
        exact .val _ (by simp [execOp, Act.eval, go_sem]) hf
    · refine .inl ⟨by kernel_rfl, ?_⟩
      as_aux_lemma =>
        intro w2 hf
        obtain ⟨x0, x1, x2, x3, x4, x5, x6, x7, x8, x9, x10, x11, x12, x13, x14⟩ := (HSK.out w2 hf).1
        simp only at x0 x1 x2 x3 x4 x5 x6 x7 x8 x9 x10 x11 x12 x13 x14
        exact .val _ (by simp [execOp, Act.eval, x0, x1, x2, x3, x4, x5, x6, x7, x8, x9, x10, x11, x12, x13, x14, go_sem]) hf
    · refine .inl ⟨by kernel_rfl, ?_⟩
      as_aux_lemma =>
        intro w2 hf
        obtain ⟨x0, x1, x2, x3, x4, x5, x6, x7, x8, x9, x10, x11, x12, x13, x14⟩ := (HSK.out w2 hf).2.1
        simp only at x0 x1 x2 x3 x4 x5 x6 x7 x8 x9 x10 x11 x12 x13 x14
        exact .val _ (by simp [execOp, Act.eval, x0, x1, x2, x3, x4, x5, x6, x7, x8, x9, x10, x11, x12, x13, x14, go_sem]) hf
    · refine .inl ⟨by kernel_rfl, ?_⟩
      as_aux_lemma =>
        intro w2 hf
        exact .call _ _ w2 (by simp [execOp, Act.eval, go_sem]; first | rfl | done) ((HXY.out w2 hf).mono fun e w3 h => ⟨h.1, hf.trans h.2⟩)
    · refine .inl ⟨by kernel_rfl, ?_⟩
      as_aux_lemma =>
        intro w2 hf
        exact .val _ (by simp [execOp, Act.eval, go_sem]) hf
    · refine .inl ⟨by kernel_rfl, ?_⟩
      as_aux_lemma =>
        intro w2 hf
        exact .val _ (by simp [execOp, Act.eval, go_sem]) hf
    · refine .inl ⟨by kernel_rfl, ?_⟩
      as_aux_lemma =>
        intro w2 hf
        exact .val _ (by simp [execOp, Act.eval, go_sem]) hf
    · refine .inl ⟨by kernel_rfl, ?_⟩
      as_aux_lemma =>
        intro w2 hf
        have xx := (HSK.out w2 hf).1.c2
        simp only at xx
        exact .val _ (by simp [execOp, Act.eval, xx, go_sem]) hf
    · refine .inl ⟨by kernel_rfl, ?_⟩
      as_aux_lemma =>
        intro w2 hf
        exact .val _ (by simp [execOp, Act.eval, HCX.out w2 hf, go_sem]) hf
    · refine .inl ⟨by kernel_rfl, ?_⟩
      as_aux_lemma =>
        intro w2 hf
        exact .val _ (by simp [execOp, Act.eval, go_sem]) hf
    · refine .inl ⟨by kernel_rfl, ?_⟩
      as_aux_lemma =>
        intro w2 hf
        have xx := (HSK.out w2 hf).2.1.c2
        simp only at xx
        exact .val _ (by simp [execOp, Act.eval, xx, go_sem]) hf
    · refine .inl ⟨by kernel_rfl, ?_⟩
      as_aux_lemma =>
        intro w2 hf
        exact .val _ (by simp [execOp, Act.eval, HCY.out w2 hf, go_sem]) hf
    · refine .inl ⟨by kernel_rfl, ?_⟩
      as_aux_lemma =>
        intro w2 hf
        exact .val _ (by simp [execOp, Act.eval, go_sem]) hf
    · refine .inl ⟨by kernel_rfl, ?_⟩
      as_aux_lemma =>
        intro w2 hf
        exact .val _ (by simp [execOp, Act.eval, go_sem]) hf
    · refine .inl ⟨by kernel_rfl, ?_⟩
      as_aux_lemma =>
        intro w2 hf
        exact .val _ (by simp [execOp, Act.eval, go_sem]) hf
    · refine .inl ⟨by kernel_rfl, ?_⟩
      as_aux_lemma =>
        intro w2 hf
        have xx := (HSK.out w2 hf).1.c0
        simp only at xx
        exact .val _ (by simp [execOp, Act.eval, xx, go_sem]) hf
    · refine .inl ⟨by kernel_rfl, ?_⟩
      as_aux_lemma =>
        intro w2 hf
        exact .val _ (by simp [execOp, Act.eval, go_sem]) hf
    · refine .inl ⟨by kernel_rfl, ?_⟩
      as_aux_lemma =>
        intro w2 hf
        have xx := (HSK.out w2 hf).2.1.c0
        simp only at xx
        exact .val _ (by simp [execOp, Act.eval, xx, go_sem]) hf
    · refine .inl ⟨by kernel_rfl, ?_⟩
      as_aux_lemma =>
        intro w2 hf
        exact .val _ (by simp [execOp, Act.eval, go_sem]) hf
    · refine .inl ⟨by kernel_rfl, ?_⟩
      as_aux_lemma =>
        intro w2 hf
        exact .val _ (by simp [execOp, Act.eval, go_sem]) hf
    · refine .inl ⟨by kernel_rfl, ?_⟩
      as_aux_lemma =>
        intro w2 hf
        exact .val _ (by simp [execOp, Act.eval, go_sem]) hf
    · refine .inl ⟨by kernel_rfl, ?_⟩
      as_aux_lemma =>
        intro w2 hf
        exact .val _ (by simp [execOp, Act.eval, go_sem]) hf
    · refine .inl ⟨by kernel_rfl, ?_⟩
      as_aux_lemma =>
        intro w2 hf
        have xx := (HSK.out w2 hf).1.c1
        simp only at xx
        exact .val _ (by simp [execOp, Act.eval, xx, go_sem]) hf
    · refine .inl ⟨by kernel_rfl, ?_⟩
      as_aux_lemma =>
        intro w2 hf
        exact .val _ (by simp [execOp, Act.eval, go_sem]) hf
    · refine .inl ⟨by kernel_rfl, ?_⟩
      as_aux_lemma =>
        intro w2 hf
        have xx := (HSK.out w2 hf).2.1.c1
        simp only at xx
        exact .val _ (by simp [execOp, Act.eval, xx, go_sem]) hf
    · refine .inl ⟨by kernel_rfl, ?_⟩
      as_aux_lemma =>
        intro w2 hf
        exact .val _ (by simp [execOp, Act.eval, go_sem]) hf
    · refine .inl ⟨by kernel_rfl, ?_⟩
      as_aux_lemma =>
        intro w2 hf
        exact .val _ (by simp [execOp, Act.eval, go_sem]) hf
    · refine .inl ⟨by kernel_rfl, ?_⟩
      as_aux_lemma =>
        intro w2 hf
        exact .val _ (by simp [execOp, Act.eval, go_sem]) hf
    · refine .inl ⟨by kernel_rfl, ?_⟩
      as_aux_lemma =>
        intro w2 hf
        exact .val _ (by simp [execOp, Act.eval, go_sem]) hf
    · refine .inl ⟨by kernel_rfl, ?_⟩
      as_aux_lemma =>
        intro w2 hf
        have xx := (HSK.out w2 hf).1.c14
        simp only at xx
        exact .val _ (by simp [execOp, Act.eval, xx, go_sem]) hf
    · refine .inl ⟨by kernel_rfl, ?_⟩
      as_aux_lemma =>
        intro w2 hf
        exact .val _ (by simp [execOp, Act.eval, go_sem]) hf
    · refine .inl ⟨by kernel_rfl, ?_⟩
      as_aux_lemma =>
        intro w2 hf
        exact .val _ (by simp [execOp, Act.eval, go_sem]) hf
    · refine .inl ⟨by kernel_rfl, ?_⟩
      as_aux_lemma =>
        intro w2 hf
        have xx := (HSK.out w2 hf).2.1.c14
        simp only at xx
        exact .val _ (by simp [execOp, Act.eval, xx, go_sem]) hf
    · refine .inl ⟨by kernel_rfl, ?_⟩
      as_aux_lemma =>
        intro w2 hf
        exact .val _ (by simp [execOp, Act.eval, go_sem]) hf
    · refine .inl ⟨by kernel_rfl, ?_⟩
      as_aux_lemma =>
        intro w2 hf
        exact .val _ (by simp [execOp, Act.eval, m1, go_sem]) hf
    · refine .inl ⟨by kernel_rfl, ?_⟩
      as_aux_lemma =>
        intro w2 hf
        exact .val _ (by simp [execOp, Act.eval, go_sem]) hf
    · refine .inl ⟨by kernel_rfl, ?_⟩
      as_aux_lemma =>
        intro w2 hf
        exact .val _ (by simp [execOp, Act.eval, go_sem]) hf
    · refine .inl ⟨by kernel_rfl, ?_⟩
      as_aux_lemma =>
        intro w2 hf
        exact .val _ (by simp [execOp, Act.eval, go_sem]) hf
    · refine .inl ⟨by kernel_rfl, ?_⟩
      as_aux_lemma =>
        intro w2 hf
        exact .val _ (by simp [execOp, Act.eval, go_sem]) hf
    · refine .inl ⟨by kernel_rfl, ?_⟩
      as_aux_lemma =>
        intro w2 hf
        exact .call _ #[] w2 (by simp [execOp, Act.eval, go_sem]) ((pl_awake w2).mono fun e w3 h => ⟨h.1, hf.trans h.2⟩)
    · refine .inl ⟨by kernel_rfl, ?_⟩
      as_aux_lemma =>
        intro w2 hf
        exact .val _ (by simp [execOp, Act.eval, go_sem]) hf
    · refine .inl ⟨by kernel_rfl, ?_⟩
      as_aux_lemma =>
        intro w2 hf
        exact .val _ (by simp [execOp, Act.eval, go_sem]) hf
    intro w7 hf
    have HF := Lib.hid (HWF.out.trans hf)
    clear hf
    go_wp2
    go_ret
    exact ⟨rfl, HF.out⟩
end Go.Proofs.Ytcdghmidpaeloaa
