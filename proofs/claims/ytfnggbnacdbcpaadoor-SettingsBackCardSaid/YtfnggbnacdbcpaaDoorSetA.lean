/-
  Layer 16: the law SettingsBack.
-/
import Derived.Test.YtfnggbnacdbcpaaDoorSet4
import Derived.Test.YtfnggbnacdbcpaaDoorSet6
import Derived.Test.YtfnggbnacdbcpaaDoorBox
import Derived.Deep.Cut
namespace Go.Proofs.YtfnggbnacdbcpaaDoor
set_option linter.unusedVariables false
set_option linter.unusedSimpArgs false
open Go.RowKit Go.ChangeShapes Go.WideShapes Go.Deep

theorem set_pairsB (ta pu sm wi fr li : Int) (w : World) : Calls Tryd.prog 19 #[.agg #[.int .i64 ta, .int .i64 pu, .int .i64 sm, .int .i64 wi, .int .i64 fr, .int .i64 li]] w fun en w' => ∃ g, en = .returned (.slice (some ⟨g, 0, none⟩) 6 6) ∧ w.heap.size ≤ g ∧ Blk w' g 31 #[.int .i64 1, .int .i64 ta, .int .i64 2, .int .i64 pu, .int .i64 3, .int .i64 sm, .int .i64 4, .int .i64 wi, .int .i64 5, .int .i64 fr, .int .i64 6, .int .i64 li] ∧ Fresh w w' := by
  go_enter Tryd.func19, Tryd.ntmps19
  go_wp2
  go_ret
  exact ⟨w.heap.size + 1, rfl, by omega, Blk.mkAt (by simp), (Fresh.alloc _ _).allocS _⟩
theorem many_pairs {w : World} {g : Nat} {ta pu sm wi fr li : Int} (hb : Blk w g 31 #[.int .i64 1, .int .i64 ta, .int .i64 2, .int .i64 pu, .int .i64 3, .int .i64 sm, .int .i64 4, .int .i64 wi, .int .i64 5, .int .i64 fr, .int .i64 6, .int .i64 li]) : Many pairC 2 w (some ⟨g, 0, none⟩) (pairsL ⟨ta, pu, sm, wi, fr, li⟩) := by
  intro _
  refine ⟨_, 0, rfl, hb.lt, fun k hk j hj => ?_⟩
  rw [hb.cell]
  simp only [pairsL, List.length_cons, List.length_nil] at hk
  have hk' : k = 0 ∨ k = 1 ∨ k = 2 ∨ k = 3 ∨ k = 4 ∨ k = 5 := by omega
  have hj' : j = 0 ∨ j = 1 := by omega
  rcases hk' with rfl | rfl | rfl | rfl | rfl | rfl <;> rcases hj' with rfl | rfl <;> rfl
/-- All that is set is right. -/
structure RightS (s : SetV) : Prop where
  h1 : wrongC 1 s.ta = 0
  h2 : wrongC 2 s.pu = 0
  h3 : wrongC 3 s.sm = 0
  h4 : wrongC 4 s.wi = 0
  h5 : wrongC 5 s.fr = 0
  h6 : wrongC 6 s.li = 0
theorem set1_right {s : SetV} {n v : Int} (h : RightS s) (hv : wrongC n v = 0) : RightS (set1 s n v) := by
  unfold set1
  by_cases e1 : n = 1
  · subst e1; rw [if_pos rfl]; exact ⟨hv, h.h2, h.h3, h.h4, h.h5, h.h6⟩
  by_cases e2 : n = 2
  · subst e2; rw [if_neg (by omega)]; rw [if_pos rfl]; exact ⟨h.h1, hv, h.h3, h.h4, h.h5, h.h6⟩
  by_cases e3 : n = 3
  · subst e3; rw [if_neg (by omega)]; rw [if_neg (by omega)]; rw [if_pos rfl]; exact ⟨h.h1, h.h2, hv, h.h4, h.h5, h.h6⟩
  by_cases e4 : n = 4
  · subst e4; rw [if_neg (by omega)]; rw [if_neg (by omega)]; rw [if_neg (by omega)]; rw [if_pos rfl]; exact ⟨h.h1, h.h2, h.h3, hv, h.h5, h.h6⟩
  by_cases e5 : n = 5
  · subst e5; rw [if_neg (by omega)]; rw [if_neg (by omega)]; rw [if_neg (by omega)]; rw [if_neg (by omega)]; rw [if_pos rfl]; exact ⟨h.h1, h.h2, h.h3, h.h4, hv, h.h6⟩
  by_cases e6 : n = 6
  · subst e6; rw [if_neg (by omega)]; rw [if_neg (by omega)]; rw [if_neg (by omega)]; rw [if_neg (by omega)]; rw [if_neg (by omega)]; rw [if_pos rfl]; exact ⟨h.h1, h.h2, h.h3, h.h4, h.h5, hv⟩
  rw [if_neg e1, if_neg e2, if_neg e3, if_neg e4, if_neg e5, if_neg e6]
  exact h
theorem setsS_right : ∀ (ps : List (Int × Int)) (s : SetV), RightS s → (∀ p ∈ ps, wrongC p.1 p.2 = 0) → RightS (setsS s ps)
  | [], s, h, _ => h
  | p :: ps, s, h, hp => by
    show RightS (setsS (set1 s p.1 p.2) ps)
    exact setsS_right ps _ (set1_right h (hp p (by simp))) (fun q hq => hp q (by simp [hq]))
theorem first_right : RightS firstV := by refine ⟨?_, ?_, ?_, ?_, ?_, ?_⟩ <;> decide +kernel
theorem apply_back (ps : List (Int × Int)) (t : SetV) (hc : codeS ps = 0) : applyR t (pairsL (setsS firstV ps)) = (setsS firstV ps, t.wi, (setsS firstV ps).wi, 0) := by
  have hr := setsS_right ps firstV first_right (codeS_good.1 hc)
  generalize setsS firstV ps = s at *
  obtain ⟨ta, pu, sm, wi, fr, li⟩ := s
  have h0 : codeS (pairsL ⟨ta, pu, sm, wi, fr, li⟩) = 0 := codeS_good.2 (fun p hp => by
    simp only [pairsL, List.mem_cons, List.not_mem_nil, or_false] at hp
    rcases hp with rfl | rfl | rfl | rfl | rfl | rfl
    · exact hr.h1
    · exact hr.h2
    · exact hr.h3
    · exact hr.h4
    · exact hr.h5
    · exact hr.h6)
  have e : setsS t (pairsL ⟨ta, pu, sm, wi, fr, li⟩) = ⟨ta, pu, sm, wi, fr, li⟩ := by
    obtain ⟨a, b, c, d, e, f⟩ := t
    simp [setsS, pairsL, set1]
  unfold applyR
  rw [if_pos h0, e]
set_option maxRecDepth 100000 in
set_option maxHeartbeats 12800000 in
theorem SettingsBack_any (x y : PsV) (w : World) (hx : x.Ok w) (hy : y.Ok w) (hR : Rul w) :
    Calls Tryd.prog 5 #[.slice x.A x.ps.length x.c, .slice y.A y.ps.length y.c] w fun en w' => en = .returned (.bool true) ∧ Below w.heap.size w w' := by
  obtain ⟨A, c, ps⟩ := x
  obtain ⟨A2, c2, ps2⟩ := y
  have hle := hx.le
  have hmax := hx.max
  have hle2 := hy.le
  have hmax2 := hy.max
  have HX := Lib.hid hx
  have HY := Lib.hid hy
  have HR := Lib.hid hR
  simp only at hle hmax hle2 hmax2 ⊢
  unfold maxLen at hmax hmax2
  have fin : ∀ W, Fresh w W → Calls Tryd.prog 8 #[] W fun en w' => en = .returned (.bool true) ∧ Fresh w w' := fun W h => (set_awake W (HR.out.fresh h)).mono fun e w' h2 => ⟨h2.1, h.trans h2.2⟩
  have FIN := Lib.hid fin
  clear fin
  clear hx hy hR
  by_cases hl : 100 < ps.length
  · have hl' : (100 : Int) < (ps.length : Int) := by omega
    clear hl
    go_enter Tryd.func5, Tryd.ntmps5
    go_wp2_with fail
    with_reducible refine (FIN.out _ (Fresh.refl _)).mono ?_
    rintro e w1 ⟨rfl, hf1⟩
    have HF1 := Lib.hid hf1
    clear hf1
    go_wp2
    go_ret
    exact ⟨rfl, HF1.out⟩
  have hl' : ¬ (100 : Int) < (ps.length : Int) := by omega
  by_cases hm : 100 < ps2.length
  · have hm' : (100 : Int) < (ps2.length : Int) := by omega
    clear hl hm
    go_enter Tryd.func5, Tryd.ntmps5
    go_wp2_with fail
    with_reducible refine (FIN.out _ (Fresh.refl _)).mono ?_
    rintro e w1 ⟨rfl, hf1⟩
    have HF1 := Lib.hid hf1
    clear hf1
    go_wp2
    go_ret
    exact ⟨rfl, HF1.out⟩
  have hm' : ¬ (100 : Int) < (ps2.length : Int) := by omega
  clear hl hm
  obtain ⟨r, hr⟩ : ∃ r, applyR firstV ps = r := ⟨_, rfl⟩
  obtain ⟨r2, hr2⟩ : ∃ r, applyR firstV ps2 = r := ⟨_, rfl⟩
  have HRR := Lib.hid hr
  have HRS := Lib.hid hr2
  clear hr hr2
  obtain ⟨⟨ta, pu, sm, wi, fr, li⟩, a1, a2, cc⟩ := r
  obtain ⟨⟨tb, qu, tm, vi, gr, mi⟩, b1, b2, dd⟩ := r2
  go_enter Tryd.func5, Tryd.ntmps5
  go_wp2_with fail
  with_reducible refine (set_first _).mono ?_
  rintro e w1 ⟨rfl, hf1⟩
  have HF1 := Lib.hid hf1
  have HAP := Lib.hid (set_apply firstV A ps c w1 (⟨ta, pu, sm, wi, fr, li⟩, a1, a2, cc) (HR.out.fresh HF1.out) HX.out.le HX.out.max (HX.out.fresh HF1.out).row HRR.out)
  clear hf1
  dsimp only [firstV, SetV.val, fltC] at HAP ⊢
  obtain ⟨cb, hcb⟩ : ∃ cb, decide (cc ≠ 0) = cb := ⟨_, rfl⟩
  rw [hcb] at HAP
  have HCB := Lib.hid hcb
  clear hcb
  go_wp2_with fail
  with_reducible refine HAP.out.mono ?_
  rintro e w2 ⟨rfl, hf2⟩
  have HF2 := Lib.hid (HF1.out.trans hf2)
  clear hf2 HAP HF1
  go_upto_region 4 with fail
  obtain ⟨g, hg⟩ : ∃ g, w2.heap.size = g := ⟨_, rfl⟩
  rw [hg]
  refine wp_gen (fun W => Fresh w2 W ∧ Trip g ⟨ta, pu, sm, wi, fr, li⟩ a1 a2 cc cb W) ⟨((Fresh.alloc _ _).allocS _).allocS _, by rw [← hg]; exact Trip.mk' _ _ _ _ _ _⟩ ?_
  intro W1 ⟨hf, hT⟩
  have HG1 := Lib.hid (HF2.out.trans hf)
  have HT1 := Lib.hid hT
  clear hf hT HF2 hg
  go_wp2_with fail
  with_reducible refine (set_first _).mono ?_
  rintro e w3 ⟨rfl, hf3⟩
  have HF3 := Lib.hid (HG1.out.trans hf3)
  have HT3 := Lib.hid (HT1.out.fresh hf3)
  have HAP := Lib.hid (set_apply firstV A2 ps2 c2 w3 (⟨tb, qu, tm, vi, gr, mi⟩, b1, b2, dd) (HR.out.fresh HF3.out) HY.out.le HY.out.max (HY.out.fresh HF3.out).row HRS.out)
  clear hf3 HG1 HT1
  dsimp only [firstV, SetV.val, fltC] at HAP ⊢
  obtain ⟨db, hdb⟩ : ∃ db, decide (dd ≠ 0) = db := ⟨_, rfl⟩
  rw [hdb] at HAP
  have HDB := Lib.hid hdb
  clear hdb
  go_wp2_with fail
  with_reducible refine HAP.out.mono ?_
  rintro e w4 ⟨rfl, hf4⟩
  have HF4 := Lib.hid (HF3.out.trans hf4)
  have HT4 := Lib.hid (HT3.out.fresh hf4)
  clear hf4 HAP HF3 HT3
  go_upto_region 5 with fail
  obtain ⟨k, hk⟩ : ∃ k, w4.heap.size = k := ⟨_, rfl⟩
  rw [hk]
  refine wp_gen (fun W => Fresh w4 W ∧ Trip k ⟨tb, qu, tm, vi, gr, mi⟩ b1 b2 dd db W) ⟨((Fresh.alloc _ _).allocS _).allocS _, by rw [← hk]; exact Trip.mk' _ _ _ _ _ _⟩ ?_
  intro W5 ⟨hf, hT⟩
  have HF5 := Lib.hid (HF4.out.trans hf)
  have HTA := Lib.hid (HT4.out.fresh hf)
  have HTB := Lib.hid hT
  obtain ⟨f0, f1⟩ := HTA.out.hf.c2
  clear hf hT HF4 HT4 hk
  by_cases hcc : cc = 0
  rotate_left
  · have hcc' : (cc == 0) = false := by simpa using hcc
    clear hcc
    go_wp2_with fail
    with_reducible refine (okF cc cb _ hcc').mono ?_
    rintro e w6 ⟨rfl, hf6⟩
    have HF6 := Lib.hid (HF5.out.trans hf6)
    clear hf6 f0 f1
    go_wp2_with fail
    with_reducible refine (FIN.out _ HF6.out).mono ?_
    rintro e w7 ⟨rfl, hf7⟩
    have HF7 := Lib.hid hf7
    clear hf7
    go_wp2
    go_ret
    exact ⟨rfl, HF7.out⟩
  subst hcc
  obtain ⟨hc1, hc2⟩ := applyR_code HRR.out rfl
  simp only [Prod.mk.injEq] at hc2
  obtain ⟨hc3, hc4, hc5, _⟩ := hc2
  have HBK := Lib.hid (apply_back ps ⟨tb, qu, tm, vi, gr, mi⟩ hc1)
  rw [← hc3] at HBK
  clear hc1 hc3 hc4 hc5
  obtain rfl : cb = false := by have := HCB.out; simpa using this.symm
  obtain ⟨g0, g1⟩ := HTB.out.hf.c2
  have hcc' : ((0 : Int) == 0) = true := rfl
  by_cases hdd : dd = 0
  rotate_left
  · have hdd' : (dd == 0) = false := by simpa using hdd
    clear hdd
    go_wp2_with fail
    with_reducible refine (okT _).mono ?_
    rintro e w6 ⟨rfl, hf6⟩
    have HF6 := Lib.hid (HF5.out.trans hf6)
    obtain ⟨g0', g1'⟩ := (HTB.out.hf.fresh hf6).c2
    clear hf6 f0 f1 g0 g1
    go_wp2_with fail
    with_reducible refine (okF dd db _ hdd').mono ?_
    rintro e w7 ⟨rfl, hf7⟩
    have HF7 := Lib.hid (HF6.out.trans hf7)
    clear hf7 g0' g1'
    go_wp2_with fail
    with_reducible refine (FIN.out _ HF7.out).mono ?_
    rintro e w8 ⟨rfl, hf8⟩
    have HF8 := Lib.hid hf8
    clear hf8
    go_wp2
    go_ret
    exact ⟨rfl, HF8.out⟩
  subst hdd
  obtain rfl : db = false := by have := HDB.out; simpa using this.symm
  go_wp2_with fail
  with_reducible refine (okT _).mono ?_
  rintro e w6 ⟨rfl, hf6⟩
  have HF6 := Lib.hid (HF5.out.trans hf6)
  have HA6 := Lib.hid (HTA.out.fresh hf6)
  have HB6 := Lib.hid (HTB.out.fresh hf6)
  obtain ⟨g0', g1'⟩ := HB6.out.hf.c2
  clear hf6 f0 f1 g0 g1 HTA HTB HF5
  go_wp2_with fail
  with_reducible refine (okT _).mono ?_
  rintro e w7 ⟨rfl, hf7⟩
  have HF7 := Lib.hid (HF6.out.trans hf7)
  have HA7 := Lib.hid (HA6.out.fresh hf7)
  have HB7 := Lib.hid (HB6.out.fresh hf7)
  clear hf7 g0' g1' HA6 HB6 HF6
  go_upto_region 7 with fail
  refine wp_region_boxes (by kernel_rfl) (by kernel_rfl) (by kernel_rfl) (by kernel_rfl) (by kernel_rfl) [fun _ => .agg #[.int .i64 tb, .int .i64 qu, .int .i64 tm, .int .i64 vi, .int .i64 gr, .int .i64 mi], fun _ => .agg #[.int .i64 ta, .int .i64 pu, .int .i64 sm, .int .i64 wi, .int .i64 fr, .int .i64 li], fun p => .slice (some ⟨p, 0, none⟩) 6 6, fun _ => .tuple #[.agg #[.int .i64 ta, .int .i64 pu, .int .i64 sm, .int .i64 wi, .int .i64 fr, .int .i64 li], .agg #[.int .i64 vi, .int .i64 wi], .agg #[.int .i64 0, .bool false]], fun _ => .tuple #[.agg #[.int .i64 ta, .int .i64 pu, .int .i64 sm, .int .i64 wi, .int .i64 fr, .int .i64 li], .agg #[.int .i64 vi, .int .i64 wi], .agg #[.int .i64 0, .bool false]], fun _ => .agg #[.int .i64 ta, .int .i64 pu, .int .i64 sm, .int .i64 wi, .int .i64 fr, .int .i64 li], fun _ => .agg #[.int .i64 vi, .int .i64 wi], fun _ => .agg #[.int .i64 0, .bool false], fun p => .pointer (some ⟨p, 0, none⟩), fun p => .pointer (some ⟨p, 0, none⟩), fun p => .pointer (some ⟨p, 0, none⟩), fun _ => undef, fun _ => undef, fun _ => undef] [⟨2, 1000, 31, #[.int .i64 1, .int .i64 ta, .int .i64 2, .int .i64 pu, .int .i64 3, .int .i64 sm, .int .i64 4, .int .i64 wi, .int .i64 5, .int .i64 fr, .int .i64 6, .int .i64 li], #[.int .i64 1, .int .i64 ta, .int .i64 2, .int .i64 pu, .int .i64 3, .int .i64 sm, .int .i64 4, .int .i64 wi, .int .i64 5, .int .i64 fr, .int .i64 6, .int .i64 li]⟩, ⟨8, 11, 26, #[.int .i64 0, .int .i64 0, .int .i64 0, .int .i64 0, .int .i64 0, .int .i64 0], #[.int .i64 ta, .int .i64 pu, .int .i64 sm, .int .i64 wi, .int .i64 fr, .int .i64 li]⟩, ⟨9, 12, 35, #[.int .i64 0, .int .i64 0], #[.int .i64 vi, .int .i64 wi]⟩, ⟨10, 13, 38, #[.int .i64 0, .bool false], #[.int .i64 0, .bool false]⟩] (by kernel_rfl) (by kernel_rfl) (fun s => { tmps := #[Value.slice A ps.length c, Value.slice A2 ps2.length c2, undef, undef, Value.bool false, Value.pointer (some { block := g, off := 0 }), Value.pointer (some { block := g + 1, off := 0 }), Value.pointer (some { block := g + 1 + 1, off := 0 }), Value.pointer (some { block := k, off := 0 }), Value.pointer (some { block := k + 1, off := 0 }), Value.pointer (some { block := k + 1 + 1, off := 0 }), .pointer (some ⟨s 8, 0, none⟩), .pointer (some ⟨s 9, 0, none⟩), .pointer (some ⟨s 10, 0, none⟩), Value.slice A ps.length c, Value.int IntKind.i64 ↑ps.length, Value.bool false, Value.bool false, Value.slice A2 ps2.length c2, Value.int IntKind.i64 ↑ps2.length, Value.bool false, Value.bool false, undef, Value.tuple #[Value.agg #[Value.int IntKind.i64 ta, Value.int IntKind.i64 pu, Value.int IntKind.i64 sm, Value.int IntKind.i64 wi, Value.int IntKind.i64 fr, Value.int IntKind.i64 li], Value.agg #[Value.int IntKind.i64 a1, Value.int IntKind.i64 a2], Value.agg #[Value.int IntKind.i64 0, Value.bool false]], Value.agg #[Value.int IntKind.i64 4096, Value.int IntKind.i64 1, Value.int IntKind.i64 4294967295, Value.int IntKind.i64 65535, Value.int IntKind.i64 16384, Value.int IntKind.i64 4294967295], Value.slice A ps.length c, Value.tuple #[Value.agg #[Value.int IntKind.i64 ta, Value.int IntKind.i64 pu, Value.int IntKind.i64 sm, Value.int IntKind.i64 wi, Value.int IntKind.i64 fr, Value.int IntKind.i64 li], Value.agg #[Value.int IntKind.i64 a1, Value.int IntKind.i64 a2], Value.agg #[Value.int IntKind.i64 0, Value.bool false]], Value.agg #[Value.int IntKind.i64 ta, Value.int IntKind.i64 pu, Value.int IntKind.i64 sm, Value.int IntKind.i64 wi, Value.int IntKind.i64 fr, Value.int IntKind.i64 li], Value.agg #[Value.int IntKind.i64 a1, Value.int IntKind.i64 a2], Value.agg #[Value.int IntKind.i64 0, Value.bool false], Value.tuple #[Value.agg #[Value.int IntKind.i64 tb, Value.int IntKind.i64 qu, Value.int IntKind.i64 tm, Value.int IntKind.i64 vi, Value.int IntKind.i64 gr, Value.int IntKind.i64 mi], Value.agg #[Value.int IntKind.i64 b1, Value.int IntKind.i64 b2], Value.agg #[Value.int IntKind.i64 0, Value.bool false]], Value.agg #[Value.int IntKind.i64 4096, Value.int IntKind.i64 1, Value.int IntKind.i64 4294967295, Value.int IntKind.i64 65535, Value.int IntKind.i64 16384, Value.int IntKind.i64 4294967295], Value.slice A2 ps2.length c2, Value.tuple #[Value.agg #[Value.int IntKind.i64 tb, Value.int IntKind.i64 qu, Value.int IntKind.i64 tm, Value.int IntKind.i64 vi, Value.int IntKind.i64 gr, Value.int IntKind.i64 mi], Value.agg #[Value.int IntKind.i64 b1, Value.int IntKind.i64 b2], Value.agg #[Value.int IntKind.i64 0, Value.bool false]], Value.agg #[Value.int IntKind.i64 tb, Value.int IntKind.i64 qu, Value.int IntKind.i64 tm, Value.int IntKind.i64 vi, Value.int IntKind.i64 gr, Value.int IntKind.i64 mi], Value.agg #[Value.int IntKind.i64 b1, Value.int IntKind.i64 b2], Value.agg #[Value.int IntKind.i64 0, Value.bool false], Value.agg #[Value.int IntKind.i64 0, Value.bool false], Value.bool true, Value.bool false, Value.bool false, Value.agg #[Value.int IntKind.i64 0, Value.bool false], Value.bool true, Value.bool false, Value.bool false, undef, .tuple #[.agg #[.int .i64 ta, .int .i64 pu, .int .i64 sm, .int .i64 wi, .int .i64 fr, .int .i64 li], .agg #[.int .i64 vi, .int .i64 wi], .agg #[.int .i64 0, .bool false]], .agg #[.int .i64 tb, .int .i64 qu, .int .i64 tm, .int .i64 vi, .int .i64 gr, .int .i64 mi], .agg #[.int .i64 ta, .int .i64 pu, .int .i64 sm, .int .i64 wi, .int .i64 fr, .int .i64 li], .slice (some ⟨s 2, 0, none⟩) 6 6, .tuple #[.agg #[.int .i64 ta, .int .i64 pu, .int .i64 sm, .int .i64 wi, .int .i64 fr, .int .i64 li], .agg #[.int .i64 vi, .int .i64 wi], .agg #[.int .i64 0, .bool false]], .agg #[.int .i64 ta, .int .i64 pu, .int .i64 sm, .int .i64 wi, .int .i64 fr, .int .i64 li], .agg #[.int .i64 vi, .int .i64 wi], .agg #[.int .i64 0, .bool false], undef, undef, undef, undef, undef, undef, undef, undef, undef, undef, undef, undef, undef, undef, undef, undef, undef, undef, undef], defers := [] }) (fun s => by kernel_rfl) ⟨?_, ?_, ?_, ?_, ?_, ?_, ?_, ?_, ?_, ?_, ?_, ?_, ?_, ?_, trivial⟩ ⟨⟨?_, ?_⟩, ⟨?_, ?_⟩, ⟨?_, ?_⟩, ⟨?_, ?_⟩, trivial⟩ ?_
  · refine .inr ?_
    intro listed s w2 hR hD
    refine .inl ⟨by kernel_rfl, ?_⟩
    as_aux_lemma =>
      have h := HB7.out.hs.fresh hR.fr
      simp only [SetV.cells] at h
      exact .val _ (by simp [execOp, Act.eval, h.cell 0, h.cell 1, h.cell 2, h.cell 3, h.cell 4, h.cell 5, Vx, go_sem]) (Fresh.refl _)
  · refine .inr ?_
    intro listed s w2 hR hD
    refine .inl ⟨by kernel_rfl, ?_⟩
    as_aux_lemma =>
      have h := HA7.out.hs.fresh hR.fr
      simp only [SetV.cells] at h
      exact .val _ (by simp [execOp, Act.eval, h.cell 0, h.cell 1, h.cell 2, h.cell 3, h.cell 4, h.cell 5, Vx, go_sem]) (Fresh.refl _)
  · exact .inl (by kernel_rfl)
  · refine .inr ?_
    intro listed s w2 hR hD
    refine .inl ⟨by kernel_rfl, ?_⟩
    as_aux_lemma =>
      have hl := hD ⟨2, .data⟩ (by simp) rfl
      have hb := (hR.box _ (List.mem_cons_self ..) hl).2
      simp only [ite_self] at hb
      exact .call _ _ w2 (by simp [execOp, Act.eval, go_sem]) ((set_applyN tb qu tm vi gr mi (some ⟨s 2, 0, none⟩) (pairsL ⟨ta, pu, sm, wi, fr, li⟩) 6 6 w2 _ ((HR.out.fresh HF7.out).fresh hR.fr) rfl (by omega) (by simp [maxLen]) (many_pairs hb) HBK.out).mono fun e w3 h => ⟨h.1, h.2⟩)
  · refine .inr ?_
    intro listed s w2 hR hD
    refine .inl ⟨by kernel_rfl, ?_⟩
    as_aux_lemma =>
      exact .val _ (by simp [execOp, Act.eval, Vx, go_sem]) (Fresh.refl _)
  · refine .inr ?_
    intro listed s w2 hR hD
    refine .inl ⟨by kernel_rfl, ?_⟩
    as_aux_lemma =>
      exact .val _ (by simp [execOp, Act.eval, Vx, go_sem]) (Fresh.refl _)
  · refine .inr ?_
    intro listed s w2 hR hD
    refine .inl ⟨by kernel_rfl, ?_⟩
    as_aux_lemma =>
      exact .val _ (by simp [execOp, Act.eval, Vx, go_sem]) (Fresh.refl _)
  · refine .inr ?_
    intro listed s w2 hR hD
    refine .inl ⟨by kernel_rfl, ?_⟩
    as_aux_lemma =>
      exact .val _ (by simp [execOp, Act.eval, Vx, go_sem]) (Fresh.refl _)
  · exact .inl (by kernel_rfl)
  · exact .inl (by kernel_rfl)
  · exact .inl (by kernel_rfl)
  · exact .inl (by kernel_rfl)
  · exact .inl (by kernel_rfl)
  · exact .inl (by kernel_rfl)
  · refine ⟨_, rfl, rfl, ?_⟩
    intro listed s w2 hR hD
    as_aux_lemma =>
      exact .call _ _ (by simp [execOp, Act.eval, go_sem]) (set_pairsB ta pu sm wi fr li w2)
  · exact .inl (by simp)
  · refine ⟨_, rfl, rfl, ?_⟩
    intro listed s w2 hR hD
    as_aux_lemma =>
      exact .alloc (by simp [execOp, go_sem])
  · refine .inr ⟨_, rfl, rfl, by kernel_rfl, ?_⟩
    intro listed s w2 hR hD hB
    refine ⟨rfl, ?_⟩
    as_aux_lemma =>
      refine ⟨((((((w2).setCell ⟨s 8, 0, none⟩ (.int .i64 ta)).setCell ⟨s 8, 1, none⟩ (.int .i64 pu)).setCell ⟨s 8, 2, none⟩ (.int .i64 sm)).setCell ⟨s 8, 3, none⟩ (.int .i64 wi)).setCell ⟨s 8, 4, none⟩ (.int .i64 fr)).setCell ⟨s 8, 5, none⟩ (.int .i64 li), by simp [execOp, Act.eval, hB.cell 0, hB.frozen 0, hB.cell 1, hB.frozen 1, hB.cell 2, hB.frozen 2, hB.cell 3, hB.frozen 3, hB.cell 4, hB.frozen 4, hB.cell 5, hB.frozen 5, go_sem], ((((((hB).set 0 (.int .i64 ta)).set 1 (.int .i64 pu)).set 2 (.int .i64 sm)).set 3 (.int .i64 wi)).set 4 (.int .i64 fr)).set 5 (.int .i64 li), ((((((Only.refl (· = s 8) w2).step ⟨s 8, 0, none⟩ (.int .i64 ta) (.inl rfl)).step ⟨s 8, 1, none⟩ (.int .i64 pu) (.inl rfl)).step ⟨s 8, 2, none⟩ (.int .i64 sm) (.inl rfl)).step ⟨s 8, 3, none⟩ (.int .i64 wi) (.inl rfl)).step ⟨s 8, 4, none⟩ (.int .i64 fr) (.inl rfl)).step ⟨s 8, 5, none⟩ (.int .i64 li) (.inl rfl)⟩
  · refine ⟨_, rfl, rfl, ?_⟩
    intro listed s w2 hR hD
    as_aux_lemma =>
      exact .alloc (by simp [execOp, go_sem])
  · refine .inr ⟨_, rfl, rfl, by kernel_rfl, ?_⟩
    intro listed s w2 hR hD hB
    refine ⟨rfl, ?_⟩
    as_aux_lemma =>
      refine ⟨((w2).setCell ⟨s 9, 0, none⟩ (.int .i64 vi)).setCell ⟨s 9, 1, none⟩ (.int .i64 wi), by simp [execOp, Act.eval, hB.cell 0, hB.frozen 0, hB.cell 1, hB.frozen 1, go_sem], ((hB).set 0 (.int .i64 vi)).set 1 (.int .i64 wi), ((Only.refl (· = s 9) w2).step ⟨s 9, 0, none⟩ (.int .i64 vi) (.inl rfl)).step ⟨s 9, 1, none⟩ (.int .i64 wi) (.inl rfl)⟩
  · refine ⟨_, rfl, rfl, ?_⟩
    intro listed s w2 hR hD
    as_aux_lemma =>
      exact .alloc (by simp [execOp, go_sem])
  · refine .inr ⟨_, rfl, rfl, by kernel_rfl, ?_⟩
    intro listed s w2 hR hD hB
    refine ⟨rfl, ?_⟩
    as_aux_lemma =>
      refine ⟨((w2).setCell ⟨s 10, 0, none⟩ (.int .i64 0)).setCell ⟨s 10, 1, none⟩ (.bool false), by simp [execOp, Act.eval, hB.cell 0, hB.frozen 0, hB.cell 1, hB.frozen 1, go_sem], ((hB).set 0 (.int .i64 0)).set 1 (.bool false), ((Only.refl (· = s 10) w2).step ⟨s 10, 0, none⟩ (.int .i64 0) (.inl rfl)).step ⟨s 10, 1, none⟩ (.bool false) (.inl rfl)⟩
  intro listed s W8 hl hR
  have hall : ∀ i, i < 14 → listed.getD i false = true := hl
  have hb1 := (hR.box _ (List.mem_cons_of_mem _ (List.mem_cons_self ..)) (hall 8 (by decide))).2
  have hb2 := (hR.box _ (List.mem_cons_of_mem _ (List.mem_cons_of_mem _ (List.mem_cons_self ..))) (hall 9 (by decide))).2
  have hb3 := (hR.box _ (List.mem_cons_of_mem _ (List.mem_cons_of_mem _ (List.mem_cons_of_mem _ (List.mem_cons_self ..)))) (hall 10 (by decide))).2
  simp only [hall 11 (by decide), hall 12 (by decide), hall 13 (by decide), if_true] at hb1 hb2 hb3
  have HF8 := Lib.hid (HF7.out.trans hR.fr)
  have HA8 := Lib.hid (HA7.out.fresh hR.fr)
  have HB8 := Lib.hid (HB7.out.fresh hR.fr)
  clear hR hl hall HF7 HA7 HB7
  dsimp only
  generalize s 8 = p1 at *
  generalize s 9 = p2 at *
  generalize s 10 = p3 at *
  generalize s 2 = p0 at *
  clear s listed
  obtain ⟨x0, x1⟩ := hb3.c2
  have HB1 := Lib.hid hb1
  have HB2 := Lib.hid hb2
  clear hb1 hb2 hb3
  go_wp2_with fail
  with_reducible refine (okT _).mono ?_
  rintro e w9 ⟨rfl, hf9⟩
  have HF9 := Lib.hid (HF8.out.trans hf9)
  obtain ⟨y0, y1, y2, y3, y4, y5⟩ := (HB1.out.fresh hf9).c6
  obtain ⟨z0, z1⟩ := (HB2.out.fresh hf9).c2
  obtain ⟨u0, u1, u2, u3, u4, u5⟩ := (HA8.out.hs.fresh hf9).c6
  obtain ⟨v0, v1, v2, v3, v4, v5⟩ := (HB8.out.hs.fresh hf9).c6
  clear hf9 x0 x1 HA8 HB8 HB1 HB2 HF8
  go_wp2_with fail
  with_reducible refine (FIN.out _ HF9.out).mono ?_
  rintro e w10 ⟨rfl, hf10⟩
  have HF10 := Lib.hid hf10
  clear hf10 y0 y1 y2 y3 y4 y5 z0 z1 u0 u1 u2 u3 u4 u5 v0 v1 v2 v3 v4 v5
  go_wp2
  go_ret
  exact ⟨rfl, HF10.out⟩
end Go.Proofs.YtfnggbnacdbcpaaDoor
