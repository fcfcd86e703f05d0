/-
  The laws PayloadFaults and PayloadOther.
-/
import Derived.Test.YtcdghmidpaeloaaPayI
import Derived.Test.YtcdghmidpaeloaaFrA
namespace Go.Proofs.Ytcdghmidpaeloaa
set_option linter.unusedVariables false
open Go.RowKit

theorem equal_bare (ty st f0 : Int) (A PA : Option Addr) (c pc : Nat) (w : World) (hc : c ≤ maxLen) (hp : pc ≤ maxLen) :
    Calls Try.prog 14 #[.agg #[.int .i64 ty, .int .i64 st, .slice A 0 c, .bool false, .bool false, .bool false, .int .i64 f0, .int .i64 0, .int .i64 0, .int .i64 0, .int .i64 0, .int .i64 0, .bool false, .bool false, .slice PA 0 pc],
      .agg #[.int .i64 ty, .int .i64 st, .slice none 0 0, .bool false, .bool false, .bool false, .int .i64 f0, .int .i64 0, .int .i64 0, .int .i64 0, .int .i64 0, .int .i64 0, .bool false, .bool false, .slice none 0 0]] w fun e w' => e = .returned (.bool true) ∧ Fresh w w' :=
  iequal_t ⟨ty, st, A, c, [], false, false, false, f0, 0, 0, 0, 0, 0, false, false, PA, pc, []⟩ (bareI ty st f0) w ⟨by simp, hc, BS.nil _ _, by simp, hp, Many.nil _ _ _ _⟩ ⟨by simp [bareI], by simp [bareI, maxLen], BS.nil _ _, by simp [bareI], by simp [bareI, maxLen], Many.nil _ _ _ _⟩ (by simp) (by simp [bareI]) rfl rfl rfl
def LawP (w : World) (e : Ending) (w' : World) : Prop := e = .returned (.bool true) ∧ Fresh w w'
theorem fault_like {ty fl st : Int} {l : List UInt8} {k : Nat} (h : FirstB ty fl st l k) (hk : k < 6) :
    ∃ co cn, prsF ty fl st l k = (PR0, co, cn) ∧ ¬ co = 0 ∧ (cn = true ∨ (cn = false ∧ ¬ st = 0 ∧ (ty = 1 ∨ ty = 2 ∨ ty = 8))) := by
  refine ⟨lkC k, lkD k (st == 0), by rw [prsF, if_pos hk], by unfold lkC; split <;> decide, ?_⟩
  obtain ⟨_, hn, hy⟩ := h
  have hy := hy hk
  by_cases h3 : k < 3
  · left; simp [lkD, h3]
  have h0 := hn 0 (by omega)
  by_cases hs : st = 0
  · match k, hk, h3 with
    | 3, _, _ => simp [lookB] at hy; obtain ⟨rfl, _⟩ := hy; simp [lookB, srB, hs] at h0
    | 4, _, _ =>
      simp [lookB, wgB] at hy
      rcases hy.1 with rfl | ⟨rfl, _⟩
      · simp [lookB, srB, hs] at h0
      · simp [lookB, srB, hs] at h0
    | 5, _, _ => left; simp [lkD, hs]
  · right
    match k, hk, h3 with
    | 3, _, _ => simp [lookB] at hy; exact ⟨rfl, hs, .inr (.inl hy.1)⟩
    | 4, _, _ =>
      simp [lookB, wgB] at hy
      rcases hy.1 with rfl | ⟨rfl, _⟩
      · exact ⟨rfl, hs, .inr (.inl rfl)⟩
      · exact ⟨rfl, hs, .inl rfl⟩
    | 5, _, _ => simp [lookB] at hy; exact ⟨by simp [lkD, hs], hs, .inr (.inr hy.1)⟩
theorem firstB_ex (ty fl st : Int) (l : List UInt8) : ∃ k, FirstB ty fl st l k := by
  have : ∀ n, n ≤ 6 → (∃ k, k < n ∧ (∀ j, j < k → lookB ty fl st l j = false) ∧ lookB ty fl st l k = true) ∨ (∀ j, j < n → lookB ty fl st l j = false) := by
    intro n
    induction n with
    | zero => intro _; right; intro j hj; omega
    | succ n ih =>
      intro hn
      rcases ih (by omega) with ⟨k, hk, h1, h2⟩ | h
      · left; exact ⟨k, by omega, h1, h2⟩
      · cases hb : lookB ty fl st l n with
        | true => left; exact ⟨n, by omega, h, hb⟩
        | false =>
          right
          intro j hj
          rcases Nat.lt_or_ge j n with h' | h'
          · exact h j h'
          · obtain rfl : j = n := by omega
            exact hb
  rcases this 6 (Nat.le_refl _) with ⟨k, hk, h1, h2⟩ | h
  · exact ⟨k, by omega, h1, fun _ => h2⟩
  · exact ⟨6, Nat.le_refl _, h, fun h => absurd h (by omega)⟩
section
variable {fl st : Int} {A : Option Addr} {c : Nat} {l : List UInt8} {w : World}
set_option maxRecDepth 100000 in
set_option maxHeartbeats 6400000 in
theorem faults_a0 (co : Int) (hl : l.length ≤ 300) (hco : ¬ co = 0) 
    (hP : ∀ W, Fresh w W → Calls Try.prog 9 #[.agg #[.int .i64 0, .int .i64 fl, .int .i64 st, .slice A l.length c]] W (FaultTold 0 st ((l.length : Int)) co true W)) :
    Calls Try.prog 7 #[.agg #[.int .i64 0, .int .i64 fl, .int .i64 st, .slice A l.length c]] w (LawP w) := by
  have d0 : decide ((300 : Int) < (l.length : Int)) = false := by simp; omega
  have c0 : (co == 0) = false := by simpa using hco
  have c1 : (co != 0) = true := by simpa using hco
  have HP := Lib.hid hP
  have HO := Lib.hid (fun w => pok co true false (by simp [hco]) w)
  clear hP hco
  go_enter Try.func7, Try.ntmps7
  go_wp2_with fail
  with_reducible refine (HP.out _ (Fresh.alloc _ _)).mono ?_
  rintro e w1 ⟨A1, c1', P1, q1, rfl, hcm, hpm, hf1⟩
  have hb := (Blk.new w 24 #[.int .i64 0, .int .i64 fl, .int .i64 st, .slice A l.length c]).fresh hf1
  have HF1 := Lib.hid hf1.tA
  have HEQ := Lib.hid (fun w => equal_bare 0 st ((l.length : Int)) A1 P1 c1' q1 w hcm hpm)
  have HB := Lib.hid hb
  clear hb hf1 hcm hpm HP
  generalize w.heap.size = b0 at *
  go_upto_region 4 with fail
  refine wp_gen (fun W => Blk W b0 24 #[.int .i64 0, .int .i64 fl, .int .i64 st, .slice A l.length c] ∧ Blk W w1.heap.size 28 #[.int .i64 0, .int .i64 st, .slice A1 0 c1', .bool false, .bool false, .bool false, .int .i64 ((l.length : Int)), .int .i64 0, .int .i64 0, .int .i64 0, .int .i64 0, .int .i64 0, .bool false, .bool false, .slice P1 0 q1] ∧ Blk W (w1.heap.size + 1) 31 #[.int .i64 co, .bool true] ∧ Fresh w1 W) ?_ ?_
  focus
    exact ⟨(HB.out.alloc _).alloc _, (Blk.new _ _ _).alloc _, Blk.mkAt (by simp), (Fresh.alloc _ _).allocS _⟩
  intro W ⟨hb1, hb2, hb3, hfw⟩
  obtain ⟨z0, z1⟩ := hb3.c2
  have HB1 := Lib.hid hb1
  have HB2 := Lib.hid hb2
  have HB3 := Lib.hid hb3
  have HFW := Lib.hid (HF1.out.trans hfw)
  generalize w1.heap.size = g1 at *
  clear hb1 hb2 hb3 hfw HF1 HB
  go_wp2_with fail
  with_reducible refine (HO.out _).mono ?_
  rintro e w2 ⟨rfl, hf2⟩
  obtain ⟨y0, y1⟩ := (HB3.out.fresh hf2).c2
  have hb := HB2.out.fresh hf2
  have x0 := hb.cell 0
  have x1 := hb.cell 1
  have x2 := hb.cell 2
  have x3 := hb.cell 3
  have x4 := hb.cell 4
  have x5 := hb.cell 5
  have x6 := hb.cell 6
  have x7 := hb.cell 7
  have x8 := hb.cell 8
  have x9 := hb.cell 9
  have x10 := hb.cell 10
  have x11 := hb.cell 11
  have x12 := hb.cell 12
  have x13 := hb.cell 13
  have x14 := hb.cell 14
  simp only [List.getElem?_toArray, List.getElem?_cons_zero, List.getElem?_cons_succ] at x0 x1 x2 x3 x4 x5 x6 x7 x8 x9 x10 x11 x12 x13 x14
  obtain ⟨f0, f1, f2, f3⟩ := (HB1.out.fresh hf2).c4
  have HF2 := Lib.hid (HFW.out.trans hf2)
  clear hb hf2 HB1 HB2 HB3 HFW
  go_wp2_with fail
  with_reducible refine (HEQ.out _).mono ?_
  rintro e w3 ⟨rfl, hf3⟩
  have HF3 := Lib.hid (HF2.out.trans hf3)
  clear hf3
  go_wp2_with fail
  with_reducible refine (pl_awake _).mono ?_
  rintro e w4 ⟨rfl, hf4⟩
  have HF4 := Lib.hid (HF3.out.trans hf4)
  clear hf4
  go_wp2_with fail
  go_ret
  exact ⟨rfl, HF4.out⟩
set_option maxRecDepth 100000 in
set_option maxHeartbeats 6400000 in
theorem faults_a1 (ty : Int) (co : Int) (hl : l.length ≤ 300) (hco : ¬ co = 0) (hty : ¬ ty = 0)
    (hP : ∀ W, Fresh w W → Calls Try.prog 9 #[.agg #[.int .i64 ty, .int .i64 fl, .int .i64 st, .slice A l.length c]] W (FaultTold ty st (0) co true W)) :
    Calls Try.prog 7 #[.agg #[.int .i64 ty, .int .i64 fl, .int .i64 st, .slice A l.length c]] w (LawP w) := by
  have d0 : decide ((300 : Int) < (l.length : Int)) = false := by simp; omega
  have c0 : (co == 0) = false := by simpa using hco
  have c1 : (co != 0) = true := by simpa using hco
  have t0 : (ty == 0) = false := by simpa using hty
  have HP := Lib.hid hP
  have HO := Lib.hid (fun w => pok co true false (by simp [hco]) w)
  clear hP hco
  go_enter Try.func7, Try.ntmps7
  go_wp2_with fail
  with_reducible refine (HP.out _ (Fresh.alloc _ _)).mono ?_
  rintro e w1 ⟨A1, c1', P1, q1, rfl, hcm, hpm, hf1⟩
  have hb := (Blk.new w 24 #[.int .i64 ty, .int .i64 fl, .int .i64 st, .slice A l.length c]).fresh hf1
  have HF1 := Lib.hid hf1.tA
  have HEQ := Lib.hid (fun w => equal_bare ty st (0) A1 P1 c1' q1 w hcm hpm)
  have HB := Lib.hid hb
  clear hb hf1 hcm hpm HP
  generalize w.heap.size = b0 at *
  go_upto_region 4 with fail
  refine wp_gen (fun W => Blk W b0 24 #[.int .i64 ty, .int .i64 fl, .int .i64 st, .slice A l.length c] ∧ Blk W w1.heap.size 28 #[.int .i64 ty, .int .i64 st, .slice A1 0 c1', .bool false, .bool false, .bool false, .int .i64 (0), .int .i64 0, .int .i64 0, .int .i64 0, .int .i64 0, .int .i64 0, .bool false, .bool false, .slice P1 0 q1] ∧ Blk W (w1.heap.size + 1) 31 #[.int .i64 co, .bool true] ∧ Fresh w1 W) ?_ ?_
  focus
    exact ⟨(HB.out.alloc _).alloc _, (Blk.new _ _ _).alloc _, Blk.mkAt (by simp), (Fresh.alloc _ _).allocS _⟩
  intro W ⟨hb1, hb2, hb3, hfw⟩
  obtain ⟨z0, z1⟩ := hb3.c2
  have HB1 := Lib.hid hb1
  have HB2 := Lib.hid hb2
  have HB3 := Lib.hid hb3
  have HFW := Lib.hid (HF1.out.trans hfw)
  generalize w1.heap.size = g1 at *
  clear hb1 hb2 hb3 hfw HF1 HB
  go_wp2_with fail
  with_reducible refine (HO.out _).mono ?_
  rintro e w2 ⟨rfl, hf2⟩
  obtain ⟨y0, y1⟩ := (HB3.out.fresh hf2).c2
  have hb := HB2.out.fresh hf2
  have x0 := hb.cell 0
  have x1 := hb.cell 1
  have x2 := hb.cell 2
  have x3 := hb.cell 3
  have x4 := hb.cell 4
  have x5 := hb.cell 5
  have x6 := hb.cell 6
  have x7 := hb.cell 7
  have x8 := hb.cell 8
  have x9 := hb.cell 9
  have x10 := hb.cell 10
  have x11 := hb.cell 11
  have x12 := hb.cell 12
  have x13 := hb.cell 13
  have x14 := hb.cell 14
  simp only [List.getElem?_toArray, List.getElem?_cons_zero, List.getElem?_cons_succ] at x0 x1 x2 x3 x4 x5 x6 x7 x8 x9 x10 x11 x12 x13 x14
  obtain ⟨f0, f1, f2, f3⟩ := (HB1.out.fresh hf2).c4
  have HF2 := Lib.hid (HFW.out.trans hf2)
  clear hb hf2 HB1 HB2 HB3 HFW
  go_wp2_with fail
  with_reducible refine (HEQ.out _).mono ?_
  rintro e w3 ⟨rfl, hf3⟩
  have HF3 := Lib.hid (HF2.out.trans hf3)
  clear hf3
  go_wp2_with fail
  with_reducible refine (pl_awake _).mono ?_
  rintro e w4 ⟨rfl, hf4⟩
  have HF4 := Lib.hid (HF3.out.trans hf4)
  clear hf4
  go_wp2_with fail
  go_ret
  exact ⟨rfl, HF4.out⟩
set_option maxRecDepth 100000 in
set_option maxHeartbeats 6400000 in
theorem faults_b (co : Int) (hl : l.length ≤ 300) (hco : ¬ co = 0) (hst : ¬ st = 0)
    (hP : ∀ W, Fresh w W → Calls Try.prog 9 #[.agg #[.int .i64 1, .int .i64 fl, .int .i64 st, .slice A l.length c]] W (FaultTold 1 st (0) co false W)) :
    Calls Try.prog 7 #[.agg #[.int .i64 1, .int .i64 fl, .int .i64 st, .slice A l.length c]] w (LawP w) := by
  have d0 : decide ((300 : Int) < (l.length : Int)) = false := by simp; omega
  have c0 : (co == 0) = false := by simpa using hco
  have c1 : (co != 0) = true := by simpa using hco
  have s0 : (st == 0) = false := by simpa using hst
  have s1 : (st != 0) = true := by simpa using hst
  clear hst
  have HP := Lib.hid hP
  have HO := Lib.hid (fun w => pok co false false (by simp [hco]) w)
  clear hP hco
  go_enter Try.func7, Try.ntmps7
  go_wp2_with fail
  with_reducible refine (HP.out _ (Fresh.alloc _ _)).mono ?_
  rintro e w1 ⟨A1, c1', P1, q1, rfl, hcm, hpm, hf1⟩
  have hb := (Blk.new w 24 #[.int .i64 1, .int .i64 fl, .int .i64 st, .slice A l.length c]).fresh hf1
  have HF1 := Lib.hid hf1.tA
  have HEQ := Lib.hid (fun w => equal_bare 1 st (0) A1 P1 c1' q1 w hcm hpm)
  have HB := Lib.hid hb
  clear hb hf1 hcm hpm HP
  generalize w.heap.size = b0 at *
  go_upto_region 4 with fail
  refine wp_gen (fun W => Blk W b0 24 #[.int .i64 1, .int .i64 fl, .int .i64 st, .slice A l.length c] ∧ Blk W w1.heap.size 28 #[.int .i64 1, .int .i64 st, .slice A1 0 c1', .bool false, .bool false, .bool false, .int .i64 (0), .int .i64 0, .int .i64 0, .int .i64 0, .int .i64 0, .int .i64 0, .bool false, .bool false, .slice P1 0 q1] ∧ Blk W (w1.heap.size + 1) 31 #[.int .i64 co, .bool false] ∧ Fresh w1 W) ?_ ?_
  focus
    exact ⟨(HB.out.alloc _).alloc _, (Blk.new _ _ _).alloc _, Blk.mkAt (by simp), (Fresh.alloc _ _).allocS _⟩
  intro W ⟨hb1, hb2, hb3, hfw⟩
  obtain ⟨z0, z1⟩ := hb3.c2
  have HB1 := Lib.hid hb1
  have HB2 := Lib.hid hb2
  have HB3 := Lib.hid hb3
  have HFW := Lib.hid (HF1.out.trans hfw)
  generalize w1.heap.size = g1 at *
  clear hb1 hb2 hb3 hfw HF1 HB
  go_wp2_with fail
  with_reducible refine (HO.out _).mono ?_
  rintro e w2 ⟨rfl, hf2⟩
  obtain ⟨y0, y1⟩ := (HB3.out.fresh hf2).c2
  have hb := HB2.out.fresh hf2
  have x0 := hb.cell 0
  have x1 := hb.cell 1
  have x2 := hb.cell 2
  have x3 := hb.cell 3
  have x4 := hb.cell 4
  have x5 := hb.cell 5
  have x6 := hb.cell 6
  have x7 := hb.cell 7
  have x8 := hb.cell 8
  have x9 := hb.cell 9
  have x10 := hb.cell 10
  have x11 := hb.cell 11
  have x12 := hb.cell 12
  have x13 := hb.cell 13
  have x14 := hb.cell 14
  simp only [List.getElem?_toArray, List.getElem?_cons_zero, List.getElem?_cons_succ] at x0 x1 x2 x3 x4 x5 x6 x7 x8 x9 x10 x11 x12 x13 x14
  obtain ⟨f0, f1, f2, f3⟩ := (HB1.out.fresh hf2).c4
  have HF2 := Lib.hid (HFW.out.trans hf2)
  clear hb hf2 HB1 HB2 HB3 HFW
  go_wp2_with fail
  with_reducible refine (HEQ.out _).mono ?_
  rintro e w3 ⟨rfl, hf3⟩
  have HF3 := Lib.hid (HF2.out.trans hf3)
  clear hf3
  go_wp2_with fail
  with_reducible refine (pl_awake _).mono ?_
  rintro e w4 ⟨rfl, hf4⟩
  have HF4 := Lib.hid (HF3.out.trans hf4)
  clear hf4
  go_wp2_with fail
  go_ret
  exact ⟨rfl, HF4.out⟩
set_option maxRecDepth 100000 in
set_option maxHeartbeats 6400000 in
theorem faults_c (co : Int) (hl : l.length ≤ 300) (hco : ¬ co = 0) (hst : ¬ st = 0)
    (hP : ∀ W, Fresh w W → Calls Try.prog 9 #[.agg #[.int .i64 2, .int .i64 fl, .int .i64 st, .slice A l.length c]] W (FaultTold 2 st (0) co false W)) :
    Calls Try.prog 7 #[.agg #[.int .i64 2, .int .i64 fl, .int .i64 st, .slice A l.length c]] w (LawP w) := by
  have d0 : decide ((300 : Int) < (l.length : Int)) = false := by simp; omega
  have c0 : (co == 0) = false := by simpa using hco
  have c1 : (co != 0) = true := by simpa using hco
  have s0 : (st == 0) = false := by simpa using hst
  have s1 : (st != 0) = true := by simpa using hst
  clear hst
  have HP := Lib.hid hP
  have HO := Lib.hid (fun w => pok co false false (by simp [hco]) w)
  clear hP hco
  go_enter Try.func7, Try.ntmps7
  go_wp2_with fail
  with_reducible refine (HP.out _ (Fresh.alloc _ _)).mono ?_
  rintro e w1 ⟨A1, c1', P1, q1, rfl, hcm, hpm, hf1⟩
  have hb := (Blk.new w 24 #[.int .i64 2, .int .i64 fl, .int .i64 st, .slice A l.length c]).fresh hf1
  have HF1 := Lib.hid hf1.tA
  have HEQ := Lib.hid (fun w => equal_bare 2 st (0) A1 P1 c1' q1 w hcm hpm)
  have HB := Lib.hid hb
  clear hb hf1 hcm hpm HP
  generalize w.heap.size = b0 at *
  go_upto_region 4 with fail
  refine wp_gen (fun W => Blk W b0 24 #[.int .i64 2, .int .i64 fl, .int .i64 st, .slice A l.length c] ∧ Blk W w1.heap.size 28 #[.int .i64 2, .int .i64 st, .slice A1 0 c1', .bool false, .bool false, .bool false, .int .i64 (0), .int .i64 0, .int .i64 0, .int .i64 0, .int .i64 0, .int .i64 0, .bool false, .bool false, .slice P1 0 q1] ∧ Blk W (w1.heap.size + 1) 31 #[.int .i64 co, .bool false] ∧ Fresh w1 W) ?_ ?_
  focus
    exact ⟨(HB.out.alloc _).alloc _, (Blk.new _ _ _).alloc _, Blk.mkAt (by simp), (Fresh.alloc _ _).allocS _⟩
  intro W ⟨hb1, hb2, hb3, hfw⟩
  obtain ⟨z0, z1⟩ := hb3.c2
  have HB1 := Lib.hid hb1
  have HB2 := Lib.hid hb2
  have HB3 := Lib.hid hb3
  have HFW := Lib.hid (HF1.out.trans hfw)
  generalize w1.heap.size = g1 at *
  clear hb1 hb2 hb3 hfw HF1 HB
  go_wp2_with fail
  with_reducible refine (HO.out _).mono ?_
  rintro e w2 ⟨rfl, hf2⟩
  obtain ⟨y0, y1⟩ := (HB3.out.fresh hf2).c2
  have hb := HB2.out.fresh hf2
  have x0 := hb.cell 0
  have x1 := hb.cell 1
  have x2 := hb.cell 2
  have x3 := hb.cell 3
  have x4 := hb.cell 4
  have x5 := hb.cell 5
  have x6 := hb.cell 6
  have x7 := hb.cell 7
  have x8 := hb.cell 8
  have x9 := hb.cell 9
  have x10 := hb.cell 10
  have x11 := hb.cell 11
  have x12 := hb.cell 12
  have x13 := hb.cell 13
  have x14 := hb.cell 14
  simp only [List.getElem?_toArray, List.getElem?_cons_zero, List.getElem?_cons_succ] at x0 x1 x2 x3 x4 x5 x6 x7 x8 x9 x10 x11 x12 x13 x14
  obtain ⟨f0, f1, f2, f3⟩ := (HB1.out.fresh hf2).c4
  have HF2 := Lib.hid (HFW.out.trans hf2)
  clear hb hf2 HB1 HB2 HB3 HFW
  go_wp2_with fail
  with_reducible refine (HEQ.out _).mono ?_
  rintro e w3 ⟨rfl, hf3⟩
  have HF3 := Lib.hid (HF2.out.trans hf3)
  clear hf3
  go_wp2_with fail
  with_reducible refine (pl_awake _).mono ?_
  rintro e w4 ⟨rfl, hf4⟩
  have HF4 := Lib.hid (HF3.out.trans hf4)
  clear hf4
  go_wp2_with fail
  go_ret
  exact ⟨rfl, HF4.out⟩
set_option maxRecDepth 100000 in
set_option maxHeartbeats 6400000 in
theorem faults_d (co : Int) (hl : l.length ≤ 300) (hco : ¬ co = 0) (hst : ¬ st = 0)
    (hP : ∀ W, Fresh w W → Calls Try.prog 9 #[.agg #[.int .i64 8, .int .i64 fl, .int .i64 st, .slice A l.length c]] W (FaultTold 8 st (0) co false W)) :
    Calls Try.prog 7 #[.agg #[.int .i64 8, .int .i64 fl, .int .i64 st, .slice A l.length c]] w (LawP w) := by
  have d0 : decide ((300 : Int) < (l.length : Int)) = false := by simp; omega
  have c0 : (co == 0) = false := by simpa using hco
  have c1 : (co != 0) = true := by simpa using hco
  have s0 : (st == 0) = false := by simpa using hst
  have s1 : (st != 0) = true := by simpa using hst
  clear hst
  have HP := Lib.hid hP
  have HO := Lib.hid (fun w => pok co false false (by simp [hco]) w)
  clear hP hco
  go_enter Try.func7, Try.ntmps7
  go_wp2_with fail
  with_reducible refine (HP.out _ (Fresh.alloc _ _)).mono ?_
  rintro e w1 ⟨A1, c1', P1, q1, rfl, hcm, hpm, hf1⟩
  have hb := (Blk.new w 24 #[.int .i64 8, .int .i64 fl, .int .i64 st, .slice A l.length c]).fresh hf1
  have HF1 := Lib.hid hf1.tA
  have HEQ := Lib.hid (fun w => equal_bare 8 st (0) A1 P1 c1' q1 w hcm hpm)
  have HB := Lib.hid hb
  clear hb hf1 hcm hpm HP
  generalize w.heap.size = b0 at *
  go_upto_region 4 with fail
  refine wp_gen (fun W => Blk W b0 24 #[.int .i64 8, .int .i64 fl, .int .i64 st, .slice A l.length c] ∧ Blk W w1.heap.size 28 #[.int .i64 8, .int .i64 st, .slice A1 0 c1', .bool false, .bool false, .bool false, .int .i64 (0), .int .i64 0, .int .i64 0, .int .i64 0, .int .i64 0, .int .i64 0, .bool false, .bool false, .slice P1 0 q1] ∧ Blk W (w1.heap.size + 1) 31 #[.int .i64 co, .bool false] ∧ Fresh w1 W) ?_ ?_
  focus
    exact ⟨(HB.out.alloc _).alloc _, (Blk.new _ _ _).alloc _, Blk.mkAt (by simp), (Fresh.alloc _ _).allocS _⟩
  intro W ⟨hb1, hb2, hb3, hfw⟩
  obtain ⟨z0, z1⟩ := hb3.c2
  have HB1 := Lib.hid hb1
  have HB2 := Lib.hid hb2
  have HB3 := Lib.hid hb3
  have HFW := Lib.hid (HF1.out.trans hfw)
  generalize w1.heap.size = g1 at *
  clear hb1 hb2 hb3 hfw HF1 HB
  go_wp2_with fail
  with_reducible refine (HO.out _).mono ?_
  rintro e w2 ⟨rfl, hf2⟩
  obtain ⟨y0, y1⟩ := (HB3.out.fresh hf2).c2
  have hb := HB2.out.fresh hf2
  have x0 := hb.cell 0
  have x1 := hb.cell 1
  have x2 := hb.cell 2
  have x3 := hb.cell 3
  have x4 := hb.cell 4
  have x5 := hb.cell 5
  have x6 := hb.cell 6
  have x7 := hb.cell 7
  have x8 := hb.cell 8
  have x9 := hb.cell 9
  have x10 := hb.cell 10
  have x11 := hb.cell 11
  have x12 := hb.cell 12
  have x13 := hb.cell 13
  have x14 := hb.cell 14
  simp only [List.getElem?_toArray, List.getElem?_cons_zero, List.getElem?_cons_succ] at x0 x1 x2 x3 x4 x5 x6 x7 x8 x9 x10 x11 x12 x13 x14
  obtain ⟨f0, f1, f2, f3⟩ := (HB1.out.fresh hf2).c4
  have HF2 := Lib.hid (HFW.out.trans hf2)
  clear hb hf2 HB1 HB2 HB3 HFW
  go_wp2_with fail
  with_reducible refine (HEQ.out _).mono ?_
  rintro e w3 ⟨rfl, hf3⟩
  have HF3 := Lib.hid (HF2.out.trans hf3)
  clear hf3
  go_wp2_with fail
  with_reducible refine (pl_awake _).mono ?_
  rintro e w4 ⟨rfl, hf4⟩
  have HF4 := Lib.hid (HF3.out.trans hf4)
  clear hf4
  go_wp2_with fail
  go_ret
  exact ⟨rfl, HF4.out⟩
set_option maxRecDepth 100000 in
set_option maxHeartbeats 6400000 in
theorem faults_long (ty : Int) (hl : 300 < l.length) : Calls Try.prog 7 #[.agg #[.int .i64 ty, .int .i64 fl, .int .i64 st, .slice A l.length c]] w (LawP w) := by
  have d0 : (300 : Int) < (l.length : Int) := by omega
  clear hl
  go_enter Try.func7, Try.ntmps7
  go_wp2_with fail
  with_reducible refine (pl_awake _).mono ?_
  rintro e w1 ⟨rfl, hf1⟩
  have HF1 := Lib.hid hf1.tA
  clear hf1
  go_wp2_with fail
  go_ret
  exact ⟨rfl, HF1.out⟩
set_option maxRecDepth 100000 in
set_option maxHeartbeats 6400000 in
theorem faults_ok (ty : Int) (hl : l.length ≤ 300)
    (hP : ∀ W, Fresh w W → Calls Try.prog 9 #[.agg #[.int .i64 ty, .int .i64 fl, .int .i64 st, .slice A l.length c]] W fun e w' => ∃ x : ItV, e = .returned (.tuple #[x.agg, .agg #[.int .i64 0, .bool false]]) ∧ Fresh W w') :
    Calls Try.prog 7 #[.agg #[.int .i64 ty, .int .i64 fl, .int .i64 st, .slice A l.length c]] w (LawP w) := by
  have d0 : decide ((300 : Int) < (l.length : Int)) = false := by simp; omega
  have HP := Lib.hid hP
  have HO := Lib.hid (fun w => pok 0 false true (by decide) w)
  clear hP
  go_enter Try.func7, Try.ntmps7
  go_wp2_with fail
  with_reducible refine (HP.out _ (Fresh.alloc _ _)).mono ?_
  rintro e w1 ⟨⟨xt, xs, xA, xc, xl, xen, xeh, xak, xfl, xco, xla, xinc, xde, xwe, xwd, xex, xPA, xpc, xps⟩, rfl, hf1⟩
  have HF1 := Lib.hid hf1.tA
  clear hf1 HP
  unfold ItV.agg
  go_upto_region 4 with fail
  refine wp_gen (fun W => Blk W (w1.heap.size + 1) 31 #[.int .i64 0, .bool false] ∧ Fresh w1 W) ?_ ?_
  focus
    exact ⟨Blk.mkAt (by simp), (Fresh.alloc _ _).allocS _⟩
  intro W ⟨hb3, hfw⟩
  obtain ⟨z0, z1⟩ := hb3.c2
  have HB3 := Lib.hid hb3
  have HFW := Lib.hid (HF1.out.trans hfw)
  generalize w1.heap.size = g1 at *
  clear hb3 hfw HF1
  go_wp2_with fail
  with_reducible refine (HO.out _).mono ?_
  rintro e w2 ⟨rfl, hf2⟩
  obtain ⟨y0, y1⟩ := (HB3.out.fresh hf2).c2
  have HF2 := Lib.hid (HFW.out.trans hf2)
  clear hf2 HB3 HFW
  go_wp2_with fail
  with_reducible refine (pl_awake _).mono ?_
  rintro e w4 ⟨rfl, hf4⟩
  have HF4 := Lib.hid (HF2.out.trans hf4)
  clear hf4
  go_wp2_with fail
  go_ret
  exact ⟨rfl, HF4.out⟩
end
theorem PayloadFaults_any (f : FrV) (w : World) (hf : f.Ok w) :
    Calls Try.prog 7 #[.agg #[.int .i64 f.ty, .int .i64 f.fl, .int .i64 f.st, .slice f.A f.l.length f.c]] w fun e w' => e = .returned (.bool true) ∧ Below w.heap.size w w' := by
  obtain ⟨ty, fl, st, A, c, l⟩ := f
  obtain ⟨_, _, _, hle, hmax, hbs⟩ := hf
  simp only at *
  show Calls _ _ _ _ (LawP w)
  by_cases hl : 300 < l.length
  · exact faults_long ty hl
  have hl' : l.length ≤ 300 := by omega
  obtain ⟨k, hk⟩ := firstB_ex ty fl st l
  by_cases h6 : k < 6
  · obtain ⟨co, cn, hq, hco, hcn⟩ := fault_like hk h6
    have hP : ∀ W, Fresh w W → Calls Try.prog 9 #[.agg #[.int .i64 ty, .int .i64 fl, .int .i64 st, .slice A l.length c]] W (FaultTold ty st (flowN ty l.length) co cn W) := fun W hw =>
      parse_fault ty fl st A c l co cn k W (hbs.fresh hw) hle hmax (by omega) hk hq
    rcases hcn with rfl | ⟨rfl, hst, h⟩
    · by_cases h0 : ty = 0
      · subst h0; exact faults_a0 co hl' hco hP
      · rw [show flowN ty l.length = 0 from if_neg h0] at hP
        exact faults_a1 ty co hl' hco h0 hP
    · rcases h with rfl | rfl | rfl
      · exact faults_b co hl' hco hst hP
      · exact faults_c co hl' hco hst hP
      · exact faults_d co hl' hco hst hP
  · have h6' : k = 6 := by have := hk.1; omega
    subst h6'
    refine faults_ok ty hl' fun W hw => (pparse_at 6 ty fl st A c l W (hbs.fresh hw) hle hmax (by omega) hk _ rfl).mono ?_
    rintro e w' ⟨x, rfl, _, _, _, _, _, hf⟩
    exact ⟨x, by simp [prsF], hf⟩
end Go.Proofs.Ytcdghmidpaeloaa
