/-
  The law PayloadOther.
-/
import Derived.Test.YtcdghmidpaeloaaPayJ
import Derived.Deep.RegionHeld3
namespace Go.Proofs.Ytcdghmidpaeloaa
set_option linter.unusedVariables false
open Go.RowKit

section
variable {fl st : Int} {A : Option Addr} {c : Nat} {l : List UInt8} {w : World}
set_option maxRecDepth 100000 in
set_option maxHeartbeats 6400000 in
theorem oth_a1 (ty : Int) (hl : 300 < l.length) (h : ty < 0) :
    Calls Try.prog 5 #[.agg #[.int .i64 ty, .int .i64 fl, .int .i64 st, .slice A l.length c]] w (LawP w) := by
  have HK : Hid (∀ w, Calls Try.prog 13 #[.int .i64 ty] w fun e w' => e = .returned (.bool false) ∧ w = w') := Lib.hid (fun w => by
    have := pknown ty w
    rwa [show decide (0 ≤ ty ∧ ty ≤ 9) = false by simp; omega] at this)
  have d0 : (300 : Int) < (l.length : Int) := by omega
  have g0 : decide (0 ≤ ty) = false := by simp; omega
  clear hl h
  go_enter Try.func5, Try.ntmps5
  go_upto_region 2 with fail
  refine wp_gen (fun W => Blk W w.heap.size 24 #[.int .i64 ty, .int .i64 fl, .int .i64 st, .slice A l.length c] ∧ Fresh w W) ⟨Blk.new _ _ _, Fresh.alloc _ _⟩ ?_
  intro W ⟨hb, hfw⟩
  have HFW := Lib.hid hfw
  generalize w.heap.size = b at *
  have HSK : Hid (∀ w', Fresh W w' → w'.cell? ⟨b, 0, none⟩ = some (.int .i64 ty) ∧ Fresh W w') := Lib.hid (fun w' hw => ⟨(hb.fresh hw).cell 0, hw⟩)
  obtain ⟨hcw, _⟩ := HSK.out W (Fresh.refl _)
  clear hfw hb
  first
  | go_region_with (first
        | (go_at_call 13; (with_reducible refine (HK.out _).mono ?_); rintro e w2 ⟨rfl, rfl⟩)
        | (go_at_call 8; (with_reducible refine (pl_awake _).mono ?_); rintro e w3 ⟨rfl, hf3⟩; have hg3 : Fresh W w3 := Fresh.trans (by first | with_reducible assumption | with_reducible exact Fresh.drew _) hf3; clear hf3))
  | fail
  all_goals
    go_wp2
    go_ret
    exact ⟨rfl, HFW.out.trans (by assumption)⟩
set_option maxRecDepth 100000 in
set_option maxHeartbeats 6400000 in
theorem oth_a2 (ty : Int) (hl : 300 < l.length) (h : 0 ≤ ty) (h' : ty ≤ 9) :
    Calls Try.prog 5 #[.agg #[.int .i64 ty, .int .i64 fl, .int .i64 st, .slice A l.length c]] w (LawP w) := by
  have HK : Hid (∀ w, Calls Try.prog 13 #[.int .i64 ty] w fun e w' => e = .returned (.bool true) ∧ w = w') := Lib.hid (fun w => by
    have := pknown ty w
    rwa [show decide (0 ≤ ty ∧ ty ≤ 9) = true by simp; omega] at this)
  have d0 : (300 : Int) < (l.length : Int) := by omega
  have g0 : decide (0 ≤ ty) = true := by simp; omega
  have g1 : decide (ty ≤ 9) = true := by simp; omega
  clear hl h h'
  go_enter Try.func5, Try.ntmps5
  go_upto_region 2 with fail
  refine wp_gen (fun W => Blk W w.heap.size 24 #[.int .i64 ty, .int .i64 fl, .int .i64 st, .slice A l.length c] ∧ Fresh w W) ⟨Blk.new _ _ _, Fresh.alloc _ _⟩ ?_
  intro W ⟨hb, hfw⟩
  have HFW := Lib.hid hfw
  generalize w.heap.size = b at *
  have HSK : Hid (∀ w', Fresh W w' → w'.cell? ⟨b, 0, none⟩ = some (.int .i64 ty) ∧ Fresh W w') := Lib.hid (fun w' hw => ⟨(hb.fresh hw).cell 0, hw⟩)
  clear hfw hb
  first
  | go_region_held3 (fun w' => w'.cell? ⟨b, 0, none⟩ = some (.int .i64 ty) ∧ Fresh W w')
      ((refine HSK.out _ ?_; first | with_reducible assumption | with_reducible exact Fresh.drew _))
      (first
        | (go_at_call 13; (with_reducible refine (HK.out _).mono ?_); rintro e w2 ⟨rfl, rfl⟩)
        | (go_at_call 8; (with_reducible refine (pl_awake _).mono ?_); rintro e w3 ⟨rfl, hf3⟩; have hg3 : Fresh W w3 := Fresh.trans (by first | with_reducible assumption | with_reducible exact Fresh.drew _) hf3; clear hf3))
  | fail
  all_goals
    go_wp2
    go_ret
    exact ⟨rfl, HFW.out.trans (by assumption)⟩
set_option maxRecDepth 100000 in
set_option maxHeartbeats 6400000 in
theorem oth_a3 (ty : Int) (hl : 300 < l.length) (h : 9 < ty) :
    Calls Try.prog 5 #[.agg #[.int .i64 ty, .int .i64 fl, .int .i64 st, .slice A l.length c]] w (LawP w) := by
  have HK : Hid (∀ w, Calls Try.prog 13 #[.int .i64 ty] w fun e w' => e = .returned (.bool false) ∧ w = w') := Lib.hid (fun w => by
    have := pknown ty w
    rwa [show decide (0 ≤ ty ∧ ty ≤ 9) = false by simp; omega] at this)
  have d0 : (300 : Int) < (l.length : Int) := by omega
  have g0 : decide (0 ≤ ty) = true := by simp; omega
  have g1 : decide (ty ≤ 9) = false := by simp; omega
  clear hl h
  go_enter Try.func5, Try.ntmps5
  go_upto_region 2 with fail
  refine wp_gen (fun W => Blk W w.heap.size 24 #[.int .i64 ty, .int .i64 fl, .int .i64 st, .slice A l.length c] ∧ Fresh w W) ⟨Blk.new _ _ _, Fresh.alloc _ _⟩ ?_
  intro W ⟨hb, hfw⟩
  have HFW := Lib.hid hfw
  generalize w.heap.size = b at *
  have HSK : Hid (∀ w', Fresh W w' → w'.cell? ⟨b, 0, none⟩ = some (.int .i64 ty) ∧ Fresh W w') := Lib.hid (fun w' hw => ⟨(hb.fresh hw).cell 0, hw⟩)
  clear hfw hb
  first
  | go_region_held3 (fun w' => w'.cell? ⟨b, 0, none⟩ = some (.int .i64 ty) ∧ Fresh W w')
      ((refine HSK.out _ ?_; first | with_reducible assumption | with_reducible exact Fresh.drew _))
      (first
        | (go_at_call 13; (with_reducible refine (HK.out _).mono ?_); rintro e w2 ⟨rfl, rfl⟩)
        | (go_at_call 8; (with_reducible refine (pl_awake _).mono ?_); rintro e w3 ⟨rfl, hf3⟩; have hg3 : Fresh W w3 := Fresh.trans (by first | with_reducible assumption | with_reducible exact Fresh.drew _) hf3; clear hf3))
  | fail
  all_goals
    go_wp2
    go_ret
    exact ⟨rfl, HFW.out.trans (by assumption)⟩
set_option maxRecDepth 100000 in
set_option maxHeartbeats 6400000 in
theorem oth_b1 (ty : Int) (hl : l.length ≤ 300) (h : ty < 0) :
    Calls Try.prog 5 #[.agg #[.int .i64 ty, .int .i64 fl, .int .i64 st, .slice A l.length c]] w (LawP w) := by
  have HK : Hid (∀ w, Calls Try.prog 13 #[.int .i64 ty] w fun e w' => e = .returned (.bool false) ∧ w = w') := Lib.hid (fun w => by
    have := pknown ty w
    rwa [show decide (0 ≤ ty ∧ ty ≤ 9) = false by simp; omega] at this)
  have d0 : decide ((300 : Int) < (l.length : Int)) = false := by simp; omega
  have g0 : decide (0 ≤ ty) = false := by simp; omega
  have t0 : decide (ty < 10) = true := by simp; omega
  clear hl h
  go_enter Try.func5, Try.ntmps5
  go_upto_region 2 with fail
  refine wp_gen (fun W => Blk W w.heap.size 24 #[.int .i64 ty, .int .i64 fl, .int .i64 st, .slice A l.length c] ∧ Fresh w W) ⟨Blk.new _ _ _, Fresh.alloc _ _⟩ ?_
  intro W ⟨hb, hfw⟩
  have HFW := Lib.hid hfw
  generalize w.heap.size = b at *
  have HSK : Hid (∀ w', Fresh W w' → w'.cell? ⟨b, 0, none⟩ = some (.int .i64 ty) ∧ Fresh W w') := Lib.hid (fun w' hw => ⟨(hb.fresh hw).cell 0, hw⟩)
  obtain ⟨hcw, _⟩ := HSK.out W (Fresh.refl _)
  clear hfw hb
  first
  | go_region_with (first
        | (go_at_call 13; (with_reducible refine (HK.out _).mono ?_); rintro e w2 ⟨rfl, rfl⟩)
        | (go_at_call 8; (with_reducible refine (pl_awake _).mono ?_); rintro e w3 ⟨rfl, hf3⟩; have hg3 : Fresh W w3 := Fresh.trans (by first | with_reducible assumption | with_reducible exact Fresh.drew _) hf3; clear hf3))
  | fail
  all_goals
    go_wp2
    go_ret
    exact ⟨rfl, HFW.out.trans (by assumption)⟩
set_option maxRecDepth 100000 in
set_option maxHeartbeats 6400000 in
theorem oth_b2 (ty : Int) (hl : l.length ≤ 300) (h : 0 ≤ ty) (h' : ty ≤ 9) :
    Calls Try.prog 5 #[.agg #[.int .i64 ty, .int .i64 fl, .int .i64 st, .slice A l.length c]] w (LawP w) := by
  have HK : Hid (∀ w, Calls Try.prog 13 #[.int .i64 ty] w fun e w' => e = .returned (.bool true) ∧ w = w') := Lib.hid (fun w => by
    have := pknown ty w
    rwa [show decide (0 ≤ ty ∧ ty ≤ 9) = true by simp; omega] at this)
  have d0 : decide ((300 : Int) < (l.length : Int)) = false := by simp; omega
  have g0 : decide (0 ≤ ty) = true := by simp; omega
  have g1 : decide (ty ≤ 9) = true := by simp; omega
  have t0 : decide (ty < 10) = true := by simp; omega
  clear hl h h'
  go_enter Try.func5, Try.ntmps5
  go_upto_region 2 with fail
  refine wp_gen (fun W => Blk W w.heap.size 24 #[.int .i64 ty, .int .i64 fl, .int .i64 st, .slice A l.length c] ∧ Fresh w W) ⟨Blk.new _ _ _, Fresh.alloc _ _⟩ ?_
  intro W ⟨hb, hfw⟩
  have HFW := Lib.hid hfw
  generalize w.heap.size = b at *
  have HSK : Hid (∀ w', Fresh W w' → w'.cell? ⟨b, 0, none⟩ = some (.int .i64 ty) ∧ Fresh W w') := Lib.hid (fun w' hw => ⟨(hb.fresh hw).cell 0, hw⟩)
  clear hfw hb
  first
  | go_region_held3 (fun w' => w'.cell? ⟨b, 0, none⟩ = some (.int .i64 ty) ∧ Fresh W w')
      ((refine HSK.out _ ?_; first | with_reducible assumption | with_reducible exact Fresh.drew _))
      (first
        | (go_at_call 13; (with_reducible refine (HK.out _).mono ?_); rintro e w2 ⟨rfl, rfl⟩)
        | (go_at_call 8; (with_reducible refine (pl_awake _).mono ?_); rintro e w3 ⟨rfl, hf3⟩; have hg3 : Fresh W w3 := Fresh.trans (by first | with_reducible assumption | with_reducible exact Fresh.drew _) hf3; clear hf3))
  | fail
  all_goals
    go_wp2
    go_ret
    exact ⟨rfl, HFW.out.trans (by assumption)⟩
set_option maxRecDepth 100000 in
set_option maxHeartbeats 6400000 in
theorem oth_c (ty : Int) (hl : l.length ≤ 300) (h : 255 < ty) :
    Calls Try.prog 5 #[.agg #[.int .i64 ty, .int .i64 fl, .int .i64 st, .slice A l.length c]] w (LawP w) := by
  have HK : Hid (∀ w, Calls Try.prog 13 #[.int .i64 ty] w fun e w' => e = .returned (.bool false) ∧ w = w') := Lib.hid (fun w => by
    have := pknown ty w
    rwa [show decide (0 ≤ ty ∧ ty ≤ 9) = false by simp; omega] at this)
  have d0 : decide ((300 : Int) < (l.length : Int)) = false := by simp; omega
  have g0 : decide (0 ≤ ty) = true := by simp; omega
  have g1 : decide (ty ≤ 9) = false := by simp; omega
  have t0 : decide (ty < 10) = false := by simp; omega
  have t1 : decide (255 < ty) = true := by simp; omega
  clear hl h
  go_enter Try.func5, Try.ntmps5
  go_upto_region 2 with fail
  refine wp_gen (fun W => Blk W w.heap.size 24 #[.int .i64 ty, .int .i64 fl, .int .i64 st, .slice A l.length c] ∧ Fresh w W) ⟨Blk.new _ _ _, Fresh.alloc _ _⟩ ?_
  intro W ⟨hb, hfw⟩
  have HFW := Lib.hid hfw
  generalize w.heap.size = b at *
  have HSK : Hid (∀ w', Fresh W w' → w'.cell? ⟨b, 0, none⟩ = some (.int .i64 ty) ∧ Fresh W w') := Lib.hid (fun w' hw => ⟨(hb.fresh hw).cell 0, hw⟩)
  clear hfw hb
  first
  | go_region_held3 (fun w' => w'.cell? ⟨b, 0, none⟩ = some (.int .i64 ty) ∧ Fresh W w')
      ((refine HSK.out _ ?_; first | with_reducible assumption | with_reducible exact Fresh.drew _))
      (first
        | (go_at_call 13; (with_reducible refine (HK.out _).mono ?_); rintro e w2 ⟨rfl, rfl⟩)
        | (go_at_call 8; (with_reducible refine (pl_awake _).mono ?_); rintro e w3 ⟨rfl, hf3⟩; have hg3 : Fresh W w3 := Fresh.trans (by first | with_reducible assumption | with_reducible exact Fresh.drew _) hf3; clear hf3))
  | fail
  all_goals
    go_wp2
    go_ret
    exact ⟨rfl, HFW.out.trans (by assumption)⟩
set_option maxRecDepth 100000 in
set_option maxHeartbeats 6400000 in
theorem oth_ok (ty : Int) (hl : l.length ≤ 300) (h : 10 ≤ ty) (h' : ty ≤ 255)
    (hP : ∀ W, Fresh w W → Calls Try.prog 9 #[.agg #[.int .i64 ty, .int .i64 fl, .int .i64 st, .slice A l.length c]] W (FaultTold ty st 0 0 false W)) :
    Calls Try.prog 5 #[.agg #[.int .i64 ty, .int .i64 fl, .int .i64 st, .slice A l.length c]] w (LawP w) := by
  have d0 : decide ((300 : Int) < (l.length : Int)) = false := by simp; omega
  have t0 : decide (ty < 10) = false := by simp; omega
  have t1 : decide (255 < ty) = false := by simp; omega
  have HK : Hid (∀ w, Calls Try.prog 13 #[.int .i64 ty] w fun e w' => e = .returned (.bool false) ∧ w = w') := Lib.hid (fun w => by
    have := pknown ty w
    rwa [show decide (0 ≤ ty ∧ ty ≤ 9) = false by simp; omega] at this)
  have HP := Lib.hid hP
  have HO := Lib.hid (fun w => pok 0 false true (by decide) w)
  clear hP h h'
  go_enter Try.func5, Try.ntmps5
  go_wp2_with fail
  with_reducible refine (HP.out _ (Fresh.alloc _ _)).mono ?_
  rintro e w1 ⟨A1, c1', P1, q1, rfl, hcm, hpm, hf1⟩
  have hb := (Blk.new w 24 #[.int .i64 ty, .int .i64 fl, .int .i64 st, .slice A l.length c]).fresh hf1
  have HF1 := Lib.hid hf1.tA
  have HEQ := Lib.hid (fun w => equal_bare ty st 0 A1 P1 c1' q1 w hcm hpm)
  have HB := Lib.hid hb
  clear hb hf1 hcm hpm HP
  generalize w.heap.size = b0 at *
  go_upto_region 4 with fail
  refine wp_gen (fun W => Blk W b0 24 #[.int .i64 ty, .int .i64 fl, .int .i64 st, .slice A l.length c] ∧ Blk W w1.heap.size 28 #[.int .i64 ty, .int .i64 st, .slice A1 0 c1', .bool false, .bool false, .bool false, .int .i64 0, .int .i64 0, .int .i64 0, .int .i64 0, .int .i64 0, .int .i64 0, .bool false, .bool false, .slice P1 0 q1] ∧ Blk W (w1.heap.size + 1) 31 #[.int .i64 0, .bool false] ∧ Fresh w1 W) ?_ ?_
  focus
    exact ⟨(HB.out.alloc _).alloc _, (Blk.new _ _ _).alloc _, Blk.mkAt (by simp), (Fresh.alloc _ _).allocS _⟩
  intro W ⟨hb1, hb2, hb3, hfw⟩
  obtain ⟨z0, z1⟩ := hb3.c2
  have HB1 := Lib.hid hb1
  have HB2 := Lib.hid hb2
  have HFW := Lib.hid (HF1.out.trans hfw)
  generalize w1.heap.size = g1 at *
  clear hb1 hb2 hb3 hfw HF1 HB
  go_wp2_with fail
  with_reducible refine (HO.out _).mono ?_
  rintro e w2 ⟨rfl, hf2⟩
  have hb := HB2.out.fresh hf2
  have x0 := hb.cell 0
  have x1 := hb.cell 1
  have x2 := hb.cell 2
  have x3 := hb.cell 3
  have x4 := hb.cell 4
  have x5 := hb.cell 5
  have x6 := hb.cell 6
  have x7 := hb.cell 7
  have x8 := hb.cell 8
  have x9 := hb.cell 9
  have x10 := hb.cell 10
  have x11 := hb.cell 11
  have x12 := hb.cell 12
  have x13 := hb.cell 13
  have x14 := hb.cell 14
  simp only [List.getElem?_toArray, List.getElem?_cons_zero, List.getElem?_cons_succ] at x0 x1 x2 x3 x4 x5 x6 x7 x8 x9 x10 x11 x12 x13 x14
  obtain ⟨f0, f1, f2, f3⟩ := (HB1.out.fresh hf2).c4
  have HF2 := Lib.hid (HFW.out.trans hf2)
  have HB1' := Lib.hid (HB1.out.fresh hf2)
  clear hb hf2 HB1 HB2 HFW
  go_wp2_with fail
  with_reducible refine (HEQ.out _).mono ?_
  rintro e w3 ⟨rfl, hf3⟩
  obtain ⟨f0, f1, f2, f3⟩ := (HB1'.out.fresh hf3).c4
  have HF3 := Lib.hid (HF2.out.trans hf3)
  clear hf3
  go_wp2_with fail
  with_reducible refine (HK.out _).mono ?_
  rintro e w3 ⟨rfl, rfl⟩
  go_wp2_with fail
  with_reducible refine (pl_awake _).mono ?_
  rintro e w4 ⟨rfl, hf4⟩
  have HF4 := Lib.hid (HF3.out.trans hf4)
  clear hf4
  go_wp2_with fail
  go_ret
  exact ⟨rfl, HF4.out⟩
end
theorem PayloadOther_any (f : FrV) (w : World) (hf : f.Ok w) :
    Calls Try.prog 5 #[.agg #[.int .i64 f.ty, .int .i64 f.fl, .int .i64 f.st, .slice f.A f.l.length f.c]] w fun e w' => e = .returned (.bool true) ∧ Below w.heap.size w w' := by
  obtain ⟨ty, fl, st, A, c, l⟩ := f
  obtain ⟨_, _, _, hle, hmax, hbs⟩ := hf
  simp only at *
  show Calls _ _ _ _ (LawP w)
  by_cases hl : 300 < l.length
  · by_cases h0 : ty < 0
    · exact oth_a1 ty hl h0
    by_cases h9 : ty ≤ 9
    · exact oth_a2 ty hl (by omega) h9
    · exact oth_a3 ty hl (by omega)
  have hl' : l.length ≤ 300 := by omega
  by_cases h0 : ty < 0
  · exact oth_b1 ty hl' h0
  by_cases h9 : ty ≤ 9
  · exact oth_b2 ty hl' (by omega) h9
  by_cases h2 : 255 < ty
  · exact oth_c ty hl' h2
  have hP : ∀ W, Fresh w W → Calls Try.prog 9 #[.agg #[.int .i64 ty, .int .i64 fl, .int .i64 st, .slice A l.length c]] W (FaultTold ty st (flowN ty l.length) 0 false W) := fun W hw => by
    have n0 : ¬ ty = 0 := by omega
    have n1 : ¬ ty = 1 := by omega
    have n2 : ¬ ty = 2 := by omega
    have n3 : ¬ ty = 3 := by omega
    have n4 : ¬ ty = 4 := by omega
    have n5 : ¬ ty = 5 := by omega
    have n6 : ¬ ty = 6 := by omega
    have n7 : ¬ ty = 7 := by omega
    have n8 : ¬ ty = 8 := by omega
    have n9 : ¬ ty = 9 := by omega
    have hpd : pdB ty fl = false := by simp [pdB, n0, n1]
    have hwg : wgB ty fl = false := by simp [wgB, n1, n2]
    have hah : aheadN ty fl = 0 := by simp [aheadN, hpd, hwg]
    have hpn : padN ty fl l = 0 := by simp [padN, hpd]
    refine parse_fault ty fl st A c l 0 false 6 W (hbs.fresh hw) hle hmax (by omega) ⟨by omega, fun j hj => ?_, fun h => absurd h (by omega)⟩ ?_
    · match j, hj with
      | 0, _ => simp [lookB, srB, n0, n1, n2, n3, n4, n5, n6, n7, n9]
      | 1, _ => simp [lookB, szB, hah, n3, n4, n6, n7, n8]
      | 2, _ => simp [lookB, hah, hpn]
      | 3, _ => simp [lookB, n2]
      | 4, _ => simp [lookB, hwg]
      | 5, _ => simp [lookB, n8]
    · rw [prsF, if_neg (by omega)]
      simp [prOf, n0, n1, n2, n3, n4, n6, n7, n8, n9]
  rw [show flowN ty l.length = 0 from if_neg (by omega)] at hP
  exact oth_ok ty hl' (by omega) (by omega) hP
end Go.Proofs.Ytcdghmidpaeloaa
