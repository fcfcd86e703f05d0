/-
  The document's answer for layer 10: Parse, type by type: headers, padded.
-/
import Derived.Test.YtcdghmidpaeloaaPayV
namespace Go.Proofs.Ytcdghmidpaeloaa
set_option maxRecDepth 100000
set_option linter.unusedVariables false
set_option linter.unusedSimpArgs false
open Go.RowKit
set_option maxHeartbeats 6400000 in
theorem rp_1pn_empty (fl st : Int) (l : List UInt8) (hl : l.length ≤ 300) (w : World) (k : Nat) (hk : FirstB 1 fl st l k) (h0 : 0 ≤ fl) (h1 : fl ≤ 255) (hst : ¬ st = 0) (hp8 : hasB fl 8 = true) (hp32 : hasB fl 32 = false) (p : Nat) (hpp : (l.getD 0 0).toNat = p) (hn0 : l.length = 0) :
    Calls Try.prog 10 #[.int .i64 1, .int .i64 fl, .int .i64 st, .string (strB l)] w (DocP 1 st 0 (prsF 1 fl st l k) w) := by
  have hah : aheadN 1 fl = 1 := by simp [aheadN, pdB, wgB, hst, hp8, hp32]
  have hpad : padN 1 fl l = p := by
    unfold padN
    rw [show pdB 1 fl = true by simp [pdB, hst, hp8, hp32]]
    simp; simpa using hpp
  have htx : textL 1 fl l = (l.drop 1).take (l.length - p - 1) := by unfold textL; rw [hah, hpad]
  have hp : prsF 1 fl st l k = (PR0, 106, true) := prs_at hk (k0 := 1) ⟨by omega, fun j hj => by
    have hjj : j = 0 := by omega
    rcases hjj with rfl <;> (simp [lookB, srB, szB, wgB, pdB, hah, hpad, hst, hp8, hp32, hn0]; try omega), fun hh => by simp [lookB, srB, szB, wgB, pdB, hah, hpad, hst, hp8, hp32, hn0]; try omega⟩ (by simp [prsF, lkC, lkD])
  rw [hp]
  have HBAD : Hid (∀ W, Fresh w W → DocP 1 st 0 (PR0, 106, true) w (.returned (.tuple #[.agg #[.int .i64 1, .int .i64 st, .string ByteArray.empty, .int .i64 0, .int .i64 0, .int .i64 0, .int .i64 0, .int .i64 0, .int .i64 0, .int .i64 0, .int .i64 0, .int .i64 0, .int .i64 0, .int .i64 0, .slice none 0 0], .int .i64 106, .int .i64 1])) W) := Lib.hid (fun W h => docP_bad h)
  generalize DocP 1 st 0 (PR0, 106, true) w = PP at *
  clear hp hk
  have HFL8 := Lib.hid (fun W => rf_flag fl h0 h1 8 (by omega) 1 (by rw [hp8]; rfl) W)
  have HFL32 := Lib.hid (fun W => rf_flag fl h0 h1 32 (by omega) 0 (by rw [hp32]; rfl) W)
  have hz : (strB l).size = l.length := strB_size l
  have i1 : ((l.length : Int) == 0) = true := by rw [beq_iff_eq]; omega
  have hs1 : (st == 0) = false := by simpa using hst
  clear hah hpad htx hpp
  generalize l.length = n at *
  generalize strB l = S at *
  clear hn0 hst hp8 hp32
  have HI := Lib.hid (show (Try.prog.info? 35).map (·.size) = some 15 by kernel_rfl)
  have HG := Lib.hid (fun w => (show (isAgg 35).run Try.prog w = .ok true w by simp [isAgg, go_sem]))
  go_enter Try.func10, Try.ntmps10
  go_upto_region 1 with fail
  refine wp_gen (fun W => Blk W w.heap.size 35 #[.int .i64 0, .int .i64 0, .string ByteArray.empty, .int .i64 0, .int .i64 0, .int .i64 0, .int .i64 0, .int .i64 0, .int .i64 0, .int .i64 0, .int .i64 0, .int .i64 0, .int .i64 0, .int .i64 0, .slice none 0 0] ∧ Fresh w W) ⟨Blk.new _ _ _, Fresh.alloc _ _⟩ ?_
  rintro W0 ⟨hz0, hf0⟩
  obtain ⟨b, hb⟩ : ∃ b, w.heap.size = b := ⟨_, rfl⟩
  have HB := Lib.hid hb
  have HF0 := Lib.hid hf0
  rw [hb] at hz0 ⊢
  have HZ0 := Lib.hid hz0
  clear hb hf0 hz0
  go_upto_region 2 with (first | (refine wp_storeB rfl (.tmp 11) (.tmp 17) _ rfl rfl rfl (Blk.new _ _ _) HI.out rfl (by simp [Value.oneCell']) ?_) | fail)
  intro W1 hb1 ho1
  obtain ⟨c, hc⟩ : ∃ c, W0.heap.size = c := ⟨_, rfl⟩
  have HC := Lib.hid hc
  rw [hc] at hb1 ⊢
  have HF1 : Hid (Fresh W0 W1) := Lib.hid (Only.fresh ((Only.of_fresh (Fresh.alloc _ _)).trans ho1) (fun i hi e => by omega))
  have HB1 : Hid (Blk W1 c 35 #[.int .i64 1, .int .i64 st, .string ByteArray.empty, .int .i64 0, .int .i64 0, .int .i64 0, .int .i64 0, .int .i64 0, .int .i64 0, .int .i64 0, .int .i64 0, .int .i64 0, .int .i64 0, .int .i64 0, .slice none 0 0]) := Lib.hid hb1
  clear hb1 ho1 hc
  go_upto_region 5 with (first | (refine wp_loadB rfl (.tmp 11) _ rfl rfl HB1.out HI.out HG.out ?_) | (refine wp_storeB rfl (.tmp 12) (.tmp 23) _ rfl rfl rfl (Blk.new _ _ _) HI.out rfl (by simp [Value.oneCell']) ?_) | fail)
  intro W2 hb2 ho2
  obtain ⟨d, hd⟩ : ∃ d, W1.heap.size = d := ⟨_, rfl⟩
  have HD : Hid (DX w W2 b c d #[.int .i64 1, .int .i64 st, .string ByteArray.empty, .int .i64 0, .int .i64 0, .int .i64 0, .int .i64 0, .int .i64 0, .int .i64 0, .int .i64 0, .int .i64 0, .int .i64 0, .int .i64 0, .int .i64 0, .slice none 0 0] #[.int .i64 1, .int .i64 st, .string ByteArray.empty, .int .i64 0, .int .i64 0, .int .i64 0, .int .i64 0, .int .i64 0, .int .i64 0, .int .i64 0, .int .i64 0, .int .i64 0, .int .i64 0, .int .i64 0, .slice none 0 0]) := Lib.hid (by
    have hf2 : Fresh W1 W2 := Only.fresh ((Only.of_fresh (Fresh.alloc _ _)).trans ho2) (fun i hi e => by omega)
    exact ⟨HF0.out.trans (HF1.out.trans hf2), Nat.le_of_eq HB.out, by have := HZ0.out.lt; have := HC.out; omega, by have := HB1.out.lt; omega, (HZ0.out.fresh HF1.out).fresh hf2, HB1.out.fresh hf2, by rw [← hd]; exact hb2⟩)
  rw [hd]
  clear hb2 ho2 hd HF0 HF1 HZ0 HB1 HC HB
  go_wp2_with (first | (refine wp_loadB rfl (.tmp 11) _ rfl rfl HD.out.b1 HI.out HG.out ?_) | (refine wp_storeB rfl (.tmp 8) (.tmp 119) _ rfl rfl rfl HD.out.b0 HI.out rfl (by simp [Value.oneCell']) ?_) | (go_at_call 17; with_reducible refine (HFL8.out _).mono ?_; rintro e w2 ⟨rfl, rfl⟩) | (go_at_call 17; with_reducible refine (HFL32.out _).mono ?_; rintro e w2 ⟨rfl, rfl⟩) | fail)
  intro W4 hb4 ho4
  have HB4 := Lib.hid hb4
  have HX := Lib.hid (HBAD.out W4 (HD.out.fin ho4))
  clear hb4 ho4
  go_wp2
  refine bodyPost_ret (results_c2 (fn := Try.f10) rfl rfl rfl rfl HB4.out HI.out HG.out) rfl ?_
  exact HX.out
set_option maxHeartbeats 6400000 in
theorem rp_1pw_empty (fl st : Int) (l : List UInt8) (hl : l.length ≤ 300) (w : World) (k : Nat) (hk : FirstB 1 fl st l k) (h0 : 0 ≤ fl) (h1 : fl ≤ 255) (hst : ¬ st = 0) (hp8 : hasB fl 8 = true) (hp32 : hasB fl 32 = true) (p : Nat) (hpp : (l.getD 0 0).toNat = p) (hn0 : l.length = 0) :
    Calls Try.prog 10 #[.int .i64 1, .int .i64 fl, .int .i64 st, .string (strB l)] w (DocP 1 st 0 (prsF 1 fl st l k) w) := by
  have hah : aheadN 1 fl = 6 := by simp [aheadN, pdB, wgB, hst, hp8, hp32]
  have hpad : padN 1 fl l = p := by
    unfold padN
    rw [show pdB 1 fl = true by simp [pdB, hst, hp8, hp32]]
    simp; simpa using hpp
  have hwt : wtL 1 fl l = (l.drop 1).take 5 := by simp [wtL, fromN, pdB, hst, hp8, hp32]
  have hdp : depN 1 fl l = numL ((l.drop 1).take 4) % 2147483648 := by unfold depN; rw [hwt, List.take_take]; rfl
  have hwe : weL 1 fl l = (((l.drop 1).getD 4 0).toNat : Int) + 1 := by
    unfold weL
    rw [hwt, List.getD_eq_getElem?_getD, List.getElem?_take_of_lt (by omega), List.getD_eq_getElem?_getD]
  have hex : exB 1 fl l = decide (2147483648 ≤ numL ((l.drop 1).take 4)) := by unfold exB; rw [hwt, List.take_take]; rfl
  have htx : textL 1 fl l = (l.drop 6).take (l.length - p - 6) := by unfold textL; rw [hah, hpad]
  have hp : prsF 1 fl st l k = (PR0, 106, true) := prs_at hk (k0 := 1) ⟨by omega, fun j hj => by
    have hjj : j = 0 := by omega
    rcases hjj with rfl <;> (simp [lookB, srB, szB, wgB, pdB, hah, hpad, hst, hp8, hp32, hdp, hn0, -List.drop_one]; try omega), fun hh => by simp [lookB, srB, szB, wgB, pdB, hah, hpad, hst, hp8, hp32, hdp, hn0, -List.drop_one]; try omega⟩ (by simp [prsF, lkC, lkD])
  rw [hp]
  have HBAD : Hid (∀ W, Fresh w W → DocP 1 st 0 (PR0, 106, true) w (.returned (.tuple #[.agg #[.int .i64 1, .int .i64 st, .string ByteArray.empty, .int .i64 0, .int .i64 0, .int .i64 0, .int .i64 0, .int .i64 0, .int .i64 0, .int .i64 0, .int .i64 0, .int .i64 0, .int .i64 0, .int .i64 0, .slice none 0 0], .int .i64 106, .int .i64 1])) W) := Lib.hid (fun W h => docP_bad h)
  generalize DocP 1 st 0 (PR0, 106, true) w = PP at *
  clear hp hk
  have HFL8 := Lib.hid (fun W => rf_flag fl h0 h1 8 (by omega) 1 (by rw [hp8]; rfl) W)
  have HFL32 := Lib.hid (fun W => rf_flag fl h0 h1 32 (by omega) 1 (by rw [hp32]; rfl) W)
  have hz : (strB l).size = l.length := strB_size l
  have i1 : ((l.length : Int) == 0) = true := by rw [beq_iff_eq]; omega
  have hs1 : (st == 0) = false := by simpa using hst
  clear hah hpad htx hwt hdp hwe hex hpp
  generalize l.length = n at *
  generalize strB l = S at *
  clear hn0 hst hp8 hp32
  have HI := Lib.hid (show (Try.prog.info? 35).map (·.size) = some 15 by kernel_rfl)
  have HG := Lib.hid (fun w => (show (isAgg 35).run Try.prog w = .ok true w by simp [isAgg, go_sem]))
  go_enter Try.func10, Try.ntmps10
  go_upto_region 1 with fail
  refine wp_gen (fun W => Blk W w.heap.size 35 #[.int .i64 0, .int .i64 0, .string ByteArray.empty, .int .i64 0, .int .i64 0, .int .i64 0, .int .i64 0, .int .i64 0, .int .i64 0, .int .i64 0, .int .i64 0, .int .i64 0, .int .i64 0, .int .i64 0, .slice none 0 0] ∧ Fresh w W) ⟨Blk.new _ _ _, Fresh.alloc _ _⟩ ?_
  rintro W0 ⟨hz0, hf0⟩
  obtain ⟨b, hb⟩ : ∃ b, w.heap.size = b := ⟨_, rfl⟩
  have HB := Lib.hid hb
  have HF0 := Lib.hid hf0
  rw [hb] at hz0 ⊢
  have HZ0 := Lib.hid hz0
  clear hb hf0 hz0
  go_upto_region 2 with (first | (refine wp_storeB rfl (.tmp 11) (.tmp 17) _ rfl rfl rfl (Blk.new _ _ _) HI.out rfl (by simp [Value.oneCell']) ?_) | fail)
  intro W1 hb1 ho1
  obtain ⟨c, hc⟩ : ∃ c, W0.heap.size = c := ⟨_, rfl⟩
  have HC := Lib.hid hc
  rw [hc] at hb1 ⊢
  have HF1 : Hid (Fresh W0 W1) := Lib.hid (Only.fresh ((Only.of_fresh (Fresh.alloc _ _)).trans ho1) (fun i hi e => by omega))
  have HB1 : Hid (Blk W1 c 35 #[.int .i64 1, .int .i64 st, .string ByteArray.empty, .int .i64 0, .int .i64 0, .int .i64 0, .int .i64 0, .int .i64 0, .int .i64 0, .int .i64 0, .int .i64 0, .int .i64 0, .int .i64 0, .int .i64 0, .slice none 0 0]) := Lib.hid hb1
  clear hb1 ho1 hc
  go_upto_region 5 with (first | (refine wp_loadB rfl (.tmp 11) _ rfl rfl HB1.out HI.out HG.out ?_) | (refine wp_storeB rfl (.tmp 12) (.tmp 23) _ rfl rfl rfl (Blk.new _ _ _) HI.out rfl (by simp [Value.oneCell']) ?_) | fail)
  intro W2 hb2 ho2
  obtain ⟨d, hd⟩ : ∃ d, W1.heap.size = d := ⟨_, rfl⟩
  have HD : Hid (DX w W2 b c d #[.int .i64 1, .int .i64 st, .string ByteArray.empty, .int .i64 0, .int .i64 0, .int .i64 0, .int .i64 0, .int .i64 0, .int .i64 0, .int .i64 0, .int .i64 0, .int .i64 0, .int .i64 0, .int .i64 0, .slice none 0 0] #[.int .i64 1, .int .i64 st, .string ByteArray.empty, .int .i64 0, .int .i64 0, .int .i64 0, .int .i64 0, .int .i64 0, .int .i64 0, .int .i64 0, .int .i64 0, .int .i64 0, .int .i64 0, .int .i64 0, .slice none 0 0]) := Lib.hid (by
    have hf2 : Fresh W1 W2 := Only.fresh ((Only.of_fresh (Fresh.alloc _ _)).trans ho2) (fun i hi e => by omega)
    exact ⟨HF0.out.trans (HF1.out.trans hf2), Nat.le_of_eq HB.out, by have := HZ0.out.lt; have := HC.out; omega, by have := HB1.out.lt; omega, (HZ0.out.fresh HF1.out).fresh hf2, HB1.out.fresh hf2, by rw [← hd]; exact hb2⟩)
  rw [hd]
  clear hb2 ho2 hd HF0 HF1 HZ0 HB1 HC HB
  go_wp2_with (first | (refine wp_loadB rfl (.tmp 11) _ rfl rfl HD.out.b1 HI.out HG.out ?_) | (refine wp_storeB rfl (.tmp 8) (.tmp 119) _ rfl rfl rfl HD.out.b0 HI.out rfl (by simp [Value.oneCell']) ?_) | (go_at_call 17; with_reducible refine (HFL8.out _).mono ?_; rintro e w2 ⟨rfl, rfl⟩) | (go_at_call 17; with_reducible refine (HFL32.out _).mono ?_; rintro e w2 ⟨rfl, rfl⟩) | fail)
  intro W4 hb4 ho4
  have HB4 := Lib.hid hb4
  have HX := Lib.hid (HBAD.out W4 (HD.out.fin ho4))
  clear hb4 ho4
  go_wp2
  refine bodyPost_ret (results_c2 (fn := Try.f10) rfl rfl rfl rfl HB4.out HI.out HG.out) rfl ?_
  exact HX.out
set_option maxHeartbeats 6400000 in
theorem rp_1pn_pad (fl st : Int) (l : List UInt8) (hl : l.length ≤ 300) (w : World) (k : Nat) (hk : FirstB 1 fl st l k) (h0 : 0 ≤ fl) (h1 : fl ≤ 255) (hst : ¬ st = 0) (hp8 : hasB fl 8 = true) (hp32 : hasB fl 32 = false) (p : Nat) (hpp : (l.getD 0 0).toNat = p) (hn0 : 1 ≤ l.length) (hq : l.length < p + 1) :
    Calls Try.prog 10 #[.int .i64 1, .int .i64 fl, .int .i64 st, .string (strB l)] w (DocP 1 st 0 (prsF 1 fl st l k) w) := by
  have hah : aheadN 1 fl = 1 := by simp [aheadN, pdB, wgB, hst, hp8, hp32]
  have hpad : padN 1 fl l = p := by
    unfold padN
    rw [show pdB 1 fl = true by simp [pdB, hst, hp8, hp32]]
    simp; simpa using hpp
  have htx : textL 1 fl l = (l.drop 1).take (l.length - p - 1) := by unfold textL; rw [hah, hpad]
  have hp : prsF 1 fl st l k = (PR0, 101, true) := prs_at hk (k0 := 2) ⟨by omega, fun j hj => by
    have hjj : j = 0 ∨ j = 1 := by omega
    rcases hjj with rfl | rfl <;> (simp [lookB, srB, szB, wgB, pdB, hah, hpad, hst, hp8, hp32]; try omega), fun hh => by simp [lookB, srB, szB, wgB, pdB, hah, hpad, hst, hp8, hp32]; try omega⟩ (by simp [prsF, lkC, lkD])
  rw [hp]
  have HBAD : Hid (∀ W, Fresh w W → DocP 1 st 0 (PR0, 101, true) w (.returned (.tuple #[.agg #[.int .i64 1, .int .i64 st, .string ByteArray.empty, .int .i64 0, .int .i64 0, .int .i64 0, .int .i64 0, .int .i64 0, .int .i64 0, .int .i64 0, .int .i64 0, .int .i64 0, .int .i64 0, .int .i64 0, .slice none 0 0], .int .i64 101, .int .i64 1])) W) := Lib.hid (fun W h => docP_bad h)
  generalize DocP 1 st 0 (PR0, 101, true) w = PP at *
  clear hp hk
  have HFL8 := Lib.hid (fun W => rf_flag fl h0 h1 8 (by omega) 1 (by rw [hp8]; rfl) W)
  have HFL32 := Lib.hid (fun W => rf_flag fl h0 h1 32 (by omega) 0 (by rw [hp32]; rfl) W)
  have hz : (strB l).size = l.length := strB_size l
  have hy3 : ∀ h : 0 < (strB l).size, ((strB l)[0]).toNat = p := fun h => by
    have h3 : 0 < l.length := by omega
    rw [List.getD_eq_getElem?_getD, List.getElem?_eq_getElem h3] at hpp
    exact hpp
  have hy4 : ∃ y : UInt8, (∀ h : 0 < (strB l).size, (strB l)[0] = y) ∧ y.toNat = p := by
    have h3 : 0 < (strB l).size := by rw [hz]; omega
    exact ⟨(strB l)[0], fun _ => rfl, hy3 h3⟩
  obtain ⟨y, hy5, hy6⟩ := hy4
  have hy7 := UInt8.toNat_lt y
  have hz1 : (strB (l.drop 1)).size = l.length - 1 := by rw [strB_size, List.length_drop]
  have e1 : (strB l).extract 1 l.length = strB (l.drop 1) := by rw [strE, List.take_length]
  obtain ⟨m1, hm1⟩ : ∃ m1, l.length - 1 = m1 := ⟨_, rfl⟩
  have i1 : (1 : Int) ≤ (l.length : Int) := by omega
  have i2 : (0 : Int) < (l.length : Int) := by omega
  have i5 : (m1 : Int) < (p : Int) := by omega
  have i0 : ((l.length : Int) == 0) = false := by rw [beq_eq_false_iff_ne]; omega
  have hs1 : (st == 0) = false := by simpa using hst
  clear hah hpad htx hpp
  clear hy3
  rw [hm1] at hz1
  generalize l.length = n at *
  generalize strB (l.drop 1) = S1 at *
  generalize strB l = S at *
  clear hn0 hq hst hp8 hp32
  clear hm1
  subst hy6
  have HI := Lib.hid (show (Try.prog.info? 35).map (·.size) = some 15 by kernel_rfl)
  have HG := Lib.hid (fun w => (show (isAgg 35).run Try.prog w = .ok true w by simp [isAgg, go_sem]))
  go_enter Try.func10, Try.ntmps10
  go_upto_region 1 with fail
  refine wp_gen (fun W => Blk W w.heap.size 35 #[.int .i64 0, .int .i64 0, .string ByteArray.empty, .int .i64 0, .int .i64 0, .int .i64 0, .int .i64 0, .int .i64 0, .int .i64 0, .int .i64 0, .int .i64 0, .int .i64 0, .int .i64 0, .int .i64 0, .slice none 0 0] ∧ Fresh w W) ⟨Blk.new _ _ _, Fresh.alloc _ _⟩ ?_
  rintro W0 ⟨hz0, hf0⟩
  obtain ⟨b, hb⟩ : ∃ b, w.heap.size = b := ⟨_, rfl⟩
  have HB := Lib.hid hb
  have HF0 := Lib.hid hf0
  rw [hb] at hz0 ⊢
  have HZ0 := Lib.hid hz0
  clear hb hf0 hz0
  go_upto_region 2 with (first | (refine wp_storeB rfl (.tmp 11) (.tmp 17) _ rfl rfl rfl (Blk.new _ _ _) HI.out rfl (by simp [Value.oneCell']) ?_) | fail)
  intro W1 hb1 ho1
  obtain ⟨c, hc⟩ : ∃ c, W0.heap.size = c := ⟨_, rfl⟩
  have HC := Lib.hid hc
  rw [hc] at hb1 ⊢
  have HF1 : Hid (Fresh W0 W1) := Lib.hid (Only.fresh ((Only.of_fresh (Fresh.alloc _ _)).trans ho1) (fun i hi e => by omega))
  have HB1 : Hid (Blk W1 c 35 #[.int .i64 1, .int .i64 st, .string ByteArray.empty, .int .i64 0, .int .i64 0, .int .i64 0, .int .i64 0, .int .i64 0, .int .i64 0, .int .i64 0, .int .i64 0, .int .i64 0, .int .i64 0, .int .i64 0, .slice none 0 0]) := Lib.hid hb1
  clear hb1 ho1 hc
  go_upto_region 5 with (first | (refine wp_loadB rfl (.tmp 11) _ rfl rfl HB1.out HI.out HG.out ?_) | (refine wp_storeB rfl (.tmp 12) (.tmp 23) _ rfl rfl rfl (Blk.new _ _ _) HI.out rfl (by simp [Value.oneCell']) ?_) | fail)
  intro W2 hb2 ho2
  obtain ⟨d, hd⟩ : ∃ d, W1.heap.size = d := ⟨_, rfl⟩
  have HD : Hid (DX w W2 b c d #[.int .i64 1, .int .i64 st, .string ByteArray.empty, .int .i64 0, .int .i64 0, .int .i64 0, .int .i64 0, .int .i64 0, .int .i64 0, .int .i64 0, .int .i64 0, .int .i64 0, .int .i64 0, .int .i64 0, .slice none 0 0] #[.int .i64 1, .int .i64 st, .string ByteArray.empty, .int .i64 0, .int .i64 0, .int .i64 0, .int .i64 0, .int .i64 0, .int .i64 0, .int .i64 0, .int .i64 0, .int .i64 0, .int .i64 0, .int .i64 0, .slice none 0 0]) := Lib.hid (by
    have hf2 : Fresh W1 W2 := Only.fresh ((Only.of_fresh (Fresh.alloc _ _)).trans ho2) (fun i hi e => by omega)
    exact ⟨HF0.out.trans (HF1.out.trans hf2), Nat.le_of_eq HB.out, by have := HZ0.out.lt; have := HC.out; omega, by have := HB1.out.lt; omega, (HZ0.out.fresh HF1.out).fresh hf2, HB1.out.fresh hf2, by rw [← hd]; exact hb2⟩)
  rw [hd]
  clear hb2 ho2 hd HF0 HF1 HZ0 HB1 HC HB
  go_wp2_with (first | (refine wp_loadB rfl (.tmp 11) _ rfl rfl HD.out.b1 HI.out HG.out ?_) | (refine wp_storeB rfl (.tmp 8) (.tmp 145) _ rfl rfl rfl HD.out.b0 HI.out rfl (by simp [Value.oneCell']) ?_) | (go_at_call 17; with_reducible refine (HFL8.out _).mono ?_; rintro e w2 ⟨rfl, rfl⟩) | (go_at_call 17; with_reducible refine (HFL32.out _).mono ?_; rintro e w2 ⟨rfl, rfl⟩) | fail)
  intro W4 hb4 ho4
  have HB4 := Lib.hid hb4
  have HX := Lib.hid (HBAD.out W4 (HD.out.fin ho4))
  clear hb4 ho4
  go_wp2
  refine bodyPost_ret (results_c2 (fn := Try.f10) rfl rfl rfl rfl HB4.out HI.out HG.out) rfl ?_
  exact HX.out
set_option maxHeartbeats 6400000 in
theorem rp_1pn_ok (fl st : Int) (l : List UInt8) (hl : l.length ≤ 300) (w : World) (k : Nat) (hk : FirstB 1 fl st l k) (h0 : 0 ≤ fl) (h1 : fl ≤ 255) (hst : ¬ st = 0) (hp8 : hasB fl 8 = true) (hp32 : hasB fl 32 = false) (p : Nat) (hpp : (l.getD 0 0).toNat = p) (hn0 : p + 1 ≤ l.length) :
    Calls Try.prog 10 #[.int .i64 1, .int .i64 fl, .int .i64 st, .string (strB l)] w (DocP 1 st 0 (prsF 1 fl st l k) w) := by
  have hah : aheadN 1 fl = 1 := by simp [aheadN, pdB, wgB, hst, hp8, hp32]
  have hpad : padN 1 fl l = p := by
    unfold padN
    rw [show pdB 1 fl = true by simp [pdB, hst, hp8, hp32]]
    simp; simpa using hpp
  have htx : textL 1 fl l = (l.drop 1).take (l.length - p - 1) := by unfold textL; rw [hah, hpad]
  have hp : prsF 1 fl st l k = (⟨(l.drop 1).take (l.length - p - 1), hasB fl 1, hasB fl 4, false, 0, 0, 0, 0, 0, false, false, []⟩, 0, false) := prs_at hk (k0 := 6) ⟨by omega, fun j hj => by
    have hjj : j = 0 ∨ j = 1 ∨ j = 2 ∨ j = 3 ∨ j = 4 ∨ j = 5 := by omega
    rcases hjj with rfl | rfl | rfl | rfl | rfl | rfl <;> (simp [lookB, srB, szB, wgB, pdB, hah, hpad, hst, hp8, hp32, htx]; try omega), fun hh => by omega⟩ (by rw [prsF, if_neg (by omega)]; simp [prOf, PR0, wgB, hah, hpad, hst, hp8, hp32, htx])
  rw [hp]
  have HFIN : Hid (∀ W, Fresh w W → DocP 1 st 0 (⟨(l.drop 1).take (l.length - p - 1), hasB fl 1, hasB fl 4, false, 0, 0, 0, 0, 0, false, false, []⟩, 0, false) w (.returned (.tuple #[.agg #[.int .i64 1, .int .i64 st, .string (strB ((l.drop 1).take (l.length - p - 1))), .int .i64 (b2i (hasB fl 1)), .int .i64 (b2i (hasB fl 4)), .int .i64 0, .int .i64 0, .int .i64 0, .int .i64 0, .int .i64 0, .int .i64 0, .int .i64 0, .int .i64 0, .int .i64 0, .slice none 0 0], .int .i64 0, .int .i64 0])) W) := Lib.hid (fun W h => docP_ok h)
  generalize DocP 1 st 0 (⟨(l.drop 1).take (l.length - p - 1), hasB fl 1, hasB fl 4, false, 0, 0, 0, 0, 0, false, false, []⟩, 0, false) w = PP at *
  clear hp hk
  have HFL8 := Lib.hid (fun W => rf_flag fl h0 h1 8 (by omega) 1 (by rw [hp8]; rfl) W)
  have HFL32 := Lib.hid (fun W => rf_flag fl h0 h1 32 (by omega) 0 (by rw [hp32]; rfl) W)
  have HFL1 := Lib.hid (fun W => rf_flag fl h0 h1 1 (by omega) _ rfl W)
  have hv1 := b2i_bd (hasB fl 1)
  generalize b2i (hasB fl 1) = v1 at *
  have HFL4 := Lib.hid (fun W => rf_flag fl h0 h1 4 (by omega) _ rfl W)
  have hv4 := b2i_bd (hasB fl 4)
  generalize b2i (hasB fl 4) = v4 at *
  have hz : (strB l).size = l.length := strB_size l
  have hy3 : ∀ h : 0 < (strB l).size, ((strB l)[0]).toNat = p := fun h => by
    have h3 : 0 < l.length := by omega
    rw [List.getD_eq_getElem?_getD, List.getElem?_eq_getElem h3] at hpp
    exact hpp
  have hy4 : ∃ y : UInt8, (∀ h : 0 < (strB l).size, (strB l)[0] = y) ∧ y.toNat = p := by
    have h3 : 0 < (strB l).size := by rw [hz]; omega
    exact ⟨(strB l)[0], fun _ => rfl, hy3 h3⟩
  obtain ⟨y, hy5, hy6⟩ := hy4
  have hy7 := UInt8.toNat_lt y
  have hz1 : (strB (l.drop 1)).size = l.length - 1 := by rw [strB_size, List.length_drop]
  have e1 : (strB l).extract 1 l.length = strB (l.drop 1) := by rw [strE, List.take_length]
  obtain ⟨m1, hm1⟩ : ∃ m1, l.length - 1 = m1 := ⟨_, rfl⟩
  have i1 : (1 : Int) ≤ (l.length : Int) := by omega
  have i2 : (0 : Int) < (l.length : Int) := by omega
  have e3 : (strB (l.drop 1)).extract 0 (l.length - p - 1) = strB ((l.drop 1).take (l.length - p - 1)) := by rw [strE]; rfl
  obtain ⟨r, hr⟩ : ∃ r, l.length - p - 1 = r := ⟨_, rfl⟩
  obtain ⟨e5, e4, e7, i4, i5, i6⟩ := pd_nums hn0 hm1 hl hr
  rw [hr] at e3
  rw [hr] at HFIN
  generalize strB ((l.drop 1).take r) = T at *
  have i0 : ((l.length : Int) == 0) = false := by rw [beq_eq_false_iff_ne]; omega
  have hs1 : (st == 0) = false := by simpa using hst
  clear hah hpad htx hpp
  clear hy3
  rw [hm1] at hz1
  generalize l.length = n at *
  generalize strB (l.drop 1) = S1 at *
  generalize strB l = S at *
  clear hn0 hst hp8 hp32
  clear hm1
  subst hy6
  clear hr
  have HI := Lib.hid (show (Try.prog.info? 35).map (·.size) = some 15 by kernel_rfl)
  have HG := Lib.hid (fun w => (show (isAgg 35).run Try.prog w = .ok true w by simp [isAgg, go_sem]))
  go_enter Try.func10, Try.ntmps10
  go_upto_region 1 with fail
  refine wp_gen (fun W => Blk W w.heap.size 35 #[.int .i64 0, .int .i64 0, .string ByteArray.empty, .int .i64 0, .int .i64 0, .int .i64 0, .int .i64 0, .int .i64 0, .int .i64 0, .int .i64 0, .int .i64 0, .int .i64 0, .int .i64 0, .int .i64 0, .slice none 0 0] ∧ Fresh w W) ⟨Blk.new _ _ _, Fresh.alloc _ _⟩ ?_
  rintro W0 ⟨hz0, hf0⟩
  obtain ⟨b, hb⟩ : ∃ b, w.heap.size = b := ⟨_, rfl⟩
  have HB := Lib.hid hb
  have HF0 := Lib.hid hf0
  rw [hb] at hz0 ⊢
  have HZ0 := Lib.hid hz0
  clear hb hf0 hz0
  go_upto_region 2 with (first | (refine wp_storeB rfl (.tmp 11) (.tmp 17) _ rfl rfl rfl (Blk.new _ _ _) HI.out rfl (by simp [Value.oneCell']) ?_) | fail)
  intro W1 hb1 ho1
  obtain ⟨c, hc⟩ : ∃ c, W0.heap.size = c := ⟨_, rfl⟩
  have HC := Lib.hid hc
  rw [hc] at hb1 ⊢
  have HF1 : Hid (Fresh W0 W1) := Lib.hid (Only.fresh ((Only.of_fresh (Fresh.alloc _ _)).trans ho1) (fun i hi e => by omega))
  have HB1 : Hid (Blk W1 c 35 #[.int .i64 1, .int .i64 st, .string ByteArray.empty, .int .i64 0, .int .i64 0, .int .i64 0, .int .i64 0, .int .i64 0, .int .i64 0, .int .i64 0, .int .i64 0, .int .i64 0, .int .i64 0, .int .i64 0, .slice none 0 0]) := Lib.hid hb1
  clear hb1 ho1 hc
  go_upto_region 5 with (first | (refine wp_loadB rfl (.tmp 11) _ rfl rfl HB1.out HI.out HG.out ?_) | (refine wp_storeB rfl (.tmp 12) (.tmp 23) _ rfl rfl rfl (Blk.new _ _ _) HI.out rfl (by simp [Value.oneCell']) ?_) | fail)
  intro W2 hb2 ho2
  obtain ⟨d, hd⟩ : ∃ d, W1.heap.size = d := ⟨_, rfl⟩
  have HD : Hid (DX w W2 b c d #[.int .i64 1, .int .i64 st, .string ByteArray.empty, .int .i64 0, .int .i64 0, .int .i64 0, .int .i64 0, .int .i64 0, .int .i64 0, .int .i64 0, .int .i64 0, .int .i64 0, .int .i64 0, .int .i64 0, .slice none 0 0] #[.int .i64 1, .int .i64 st, .string ByteArray.empty, .int .i64 0, .int .i64 0, .int .i64 0, .int .i64 0, .int .i64 0, .int .i64 0, .int .i64 0, .int .i64 0, .int .i64 0, .int .i64 0, .int .i64 0, .slice none 0 0]) := Lib.hid (by
    have hf2 : Fresh W1 W2 := Only.fresh ((Only.of_fresh (Fresh.alloc _ _)).trans ho2) (fun i hi e => by omega)
    exact ⟨HF0.out.trans (HF1.out.trans hf2), Nat.le_of_eq HB.out, by have := HZ0.out.lt; have := HC.out; omega, by have := HB1.out.lt; omega, (HZ0.out.fresh HF1.out).fresh hf2, HB1.out.fresh hf2, by rw [← hd]; exact hb2⟩)
  rw [hd]
  clear hb2 ho2 hd HF0 HF1 HZ0 HB1 HC HB
  have y2 := HD.out.b2.cell 2
  have z2 := HD.out.b2.frozen 2
  have y3 := HD.out.b2.cell 3
  have z3 := HD.out.b2.frozen 3
  have y4 := HD.out.b2.cell 4
  have z4 := HD.out.b2.frozen 4
  have y10 := HD.out.b2.cell 10
  have y12 := HD.out.b2.cell 12
  simp at y2 y3 y4 y10 y12
  go_upto_region 61 with (first | (go_at_call 17; with_reducible refine (HFL8.out _).mono ?_; rintro e w2 ⟨rfl, rfl⟩) | (go_at_call 17; with_reducible refine (HFL32.out _).mono ?_; rintro e w2 ⟨rfl, rfl⟩) | (go_at_call 17; with_reducible refine (HFL1.out _).mono ?_; rintro e w2 ⟨rfl, rfl⟩) | (go_at_call 17; with_reducible refine (HFL4.out _).mono ?_; rintro e w2 ⟨rfl, rfl⟩) | fail)
  refine wp_gen (fun W => DX w W b c d #[.int .i64 1, .int .i64 st, .string ByteArray.empty, .int .i64 0, .int .i64 0, .int .i64 0, .int .i64 0, .int .i64 0, .int .i64 0, .int .i64 0, .int .i64 0, .int .i64 0, .int .i64 0, .int .i64 0, .slice none 0 0] #[.int .i64 1, .int .i64 st, .string T, .int .i64 v1, .int .i64 v4, .int .i64 0, .int .i64 0, .int .i64 0, .int .i64 0, .int .i64 0, .int .i64 0, .int .i64 0, .int .i64 0, .int .i64 0, .slice none 0 0]) (((HD.out.set 2 (.string T) #[.int .i64 1, .int .i64 st, .string T, .int .i64 0, .int .i64 0, .int .i64 0, .int .i64 0, .int .i64 0, .int .i64 0, .int .i64 0, .int .i64 0, .int .i64 0, .int .i64 0, .int .i64 0, .slice none 0 0] rfl).set 3 (.int .i64 v1) #[.int .i64 1, .int .i64 st, .string T, .int .i64 v1, .int .i64 0, .int .i64 0, .int .i64 0, .int .i64 0, .int .i64 0, .int .i64 0, .int .i64 0, .int .i64 0, .int .i64 0, .int .i64 0, .slice none 0 0] rfl).set 4 (.int .i64 v4) #[.int .i64 1, .int .i64 st, .string T, .int .i64 v1, .int .i64 v4, .int .i64 0, .int .i64 0, .int .i64 0, .int .i64 0, .int .i64 0, .int .i64 0, .int .i64 0, .int .i64 0, .int .i64 0, .slice none 0 0] rfl) ?_
  clear HD
  intro W5 hd5
  have HD := Lib.hid hd5
  clear hd5 y2 z2 y3 z3 y4 z4 y10 y12
  go_wp2_with (first | (refine wp_loadB rfl (.tmp 12) _ rfl rfl HD.out.b2 HI.out HG.out ?_) | (refine wp_storeB rfl (.tmp 8) (.tmp 244) _ rfl rfl rfl HD.out.b0 HI.out rfl (by simp [Value.oneCell']) ?_) | fail)
  intro W6 hb6 ho6
  have HB6 := Lib.hid hb6
  have HX := Lib.hid (HFIN.out W6 (HD.out.fin ho6))
  clear hb6 ho6
  go_wp2
  refine bodyPost_ret (results_c2 (fn := Try.f10) rfl rfl rfl rfl HB6.out HI.out HG.out) rfl ?_
  exact HX.out
set_option maxHeartbeats 6400000 in
theorem rp_1pw_short (fl st : Int) (l : List UInt8) (hl : l.length ≤ 300) (w : World) (k : Nat) (hk : FirstB 1 fl st l k) (h0 : 0 ≤ fl) (h1 : fl ≤ 255) (hst : ¬ st = 0) (hp8 : hasB fl 8 = true) (hp32 : hasB fl 32 = true) (p : Nat) (hpp : (l.getD 0 0).toNat = p) (hn0 : 1 ≤ l.length) (hn5 : l.length < 6) :
    Calls Try.prog 10 #[.int .i64 1, .int .i64 fl, .int .i64 st, .string (strB l)] w (DocP 1 st 0 (prsF 1 fl st l k) w) := by
  have hah : aheadN 1 fl = 6 := by simp [aheadN, pdB, wgB, hst, hp8, hp32]
  have hpad : padN 1 fl l = p := by
    unfold padN
    rw [show pdB 1 fl = true by simp [pdB, hst, hp8, hp32]]
    simp; simpa using hpp
  have hwt : wtL 1 fl l = (l.drop 1).take 5 := by simp [wtL, fromN, pdB, hst, hp8, hp32]
  have hdp : depN 1 fl l = numL ((l.drop 1).take 4) % 2147483648 := by unfold depN; rw [hwt, List.take_take]; rfl
  have hwe : weL 1 fl l = (((l.drop 1).getD 4 0).toNat : Int) + 1 := by
    unfold weL
    rw [hwt, List.getD_eq_getElem?_getD, List.getElem?_take_of_lt (by omega), List.getD_eq_getElem?_getD]
  have hex : exB 1 fl l = decide (2147483648 ≤ numL ((l.drop 1).take 4)) := by unfold exB; rw [hwt, List.take_take]; rfl
  have htx : textL 1 fl l = (l.drop 6).take (l.length - p - 6) := by unfold textL; rw [hah, hpad]
  have hp : prsF 1 fl st l k = (PR0, 106, true) := prs_at hk (k0 := 1) ⟨by omega, fun j hj => by
    have hjj : j = 0 := by omega
    rcases hjj with rfl <;> (simp [lookB, srB, szB, wgB, pdB, hah, hpad, hst, hp8, hp32, hdp, -List.drop_one]; try omega), fun hh => by simp [lookB, srB, szB, wgB, pdB, hah, hpad, hst, hp8, hp32, hdp, -List.drop_one]; try omega⟩ (by simp [prsF, lkC, lkD])
  rw [hp]
  have HBAD : Hid (∀ W, Fresh w W → DocP 1 st 0 (PR0, 106, true) w (.returned (.tuple #[.agg #[.int .i64 1, .int .i64 st, .string ByteArray.empty, .int .i64 0, .int .i64 0, .int .i64 0, .int .i64 0, .int .i64 0, .int .i64 0, .int .i64 0, .int .i64 0, .int .i64 0, .int .i64 0, .int .i64 0, .slice none 0 0], .int .i64 106, .int .i64 1])) W) := Lib.hid (fun W h => docP_bad h)
  generalize DocP 1 st 0 (PR0, 106, true) w = PP at *
  clear hp hk
  have HFL8 := Lib.hid (fun W => rf_flag fl h0 h1 8 (by omega) 1 (by rw [hp8]; rfl) W)
  have HFL32 := Lib.hid (fun W => rf_flag fl h0 h1 32 (by omega) 1 (by rw [hp32]; rfl) W)
  have hz : (strB l).size = l.length := strB_size l
  have hy3 : ∀ h : 0 < (strB l).size, ((strB l)[0]).toNat = p := fun h => by
    have h3 : 0 < l.length := by omega
    rw [List.getD_eq_getElem?_getD, List.getElem?_eq_getElem h3] at hpp
    exact hpp
  have hy4 : ∃ y : UInt8, (∀ h : 0 < (strB l).size, (strB l)[0] = y) ∧ y.toNat = p := by
    have h3 : 0 < (strB l).size := by rw [hz]; omega
    exact ⟨(strB l)[0], fun _ => rfl, hy3 h3⟩
  obtain ⟨y, hy5, hy6⟩ := hy4
  have hy7 := UInt8.toNat_lt y
  have hz1 : (strB (l.drop 1)).size = l.length - 1 := by rw [strB_size, List.length_drop]
  have e1 : (strB l).extract 1 l.length = strB (l.drop 1) := by rw [strE, List.take_length]
  obtain ⟨m1, hm1⟩ : ∃ m1, l.length - 1 = m1 := ⟨_, rfl⟩
  have i1 : (1 : Int) ≤ (l.length : Int) := by omega
  have i2 : (0 : Int) < (l.length : Int) := by omega
  have i0 : ((l.length : Int) == 0) = false := by rw [beq_eq_false_iff_ne]; omega
  have i5 : (m1 : Int) < 5 := by omega
  have hs1 : (st == 0) = false := by simpa using hst
  clear hah hpad htx hwt hdp hwe hex hpp
  clear hy3
  rw [hm1] at hz1
  generalize l.length = n at *
  generalize strB (l.drop 1) = S1 at *
  generalize strB l = S at *
  clear hn0 hn5 hst hp8 hp32
  clear hm1
  subst hy6
  have HI := Lib.hid (show (Try.prog.info? 35).map (·.size) = some 15 by kernel_rfl)
  have HG := Lib.hid (fun w => (show (isAgg 35).run Try.prog w = .ok true w by simp [isAgg, go_sem]))
  go_enter Try.func10, Try.ntmps10
  go_upto_region 1 with fail
  refine wp_gen (fun W => Blk W w.heap.size 35 #[.int .i64 0, .int .i64 0, .string ByteArray.empty, .int .i64 0, .int .i64 0, .int .i64 0, .int .i64 0, .int .i64 0, .int .i64 0, .int .i64 0, .int .i64 0, .int .i64 0, .int .i64 0, .int .i64 0, .slice none 0 0] ∧ Fresh w W) ⟨Blk.new _ _ _, Fresh.alloc _ _⟩ ?_
  rintro W0 ⟨hz0, hf0⟩
  obtain ⟨b, hb⟩ : ∃ b, w.heap.size = b := ⟨_, rfl⟩
  have HB := Lib.hid hb
  have HF0 := Lib.hid hf0
  rw [hb] at hz0 ⊢
  have HZ0 := Lib.hid hz0
  clear hb hf0 hz0
  go_upto_region 2 with (first | (refine wp_storeB rfl (.tmp 11) (.tmp 17) _ rfl rfl rfl (Blk.new _ _ _) HI.out rfl (by simp [Value.oneCell']) ?_) | fail)
  intro W1 hb1 ho1
  obtain ⟨c, hc⟩ : ∃ c, W0.heap.size = c := ⟨_, rfl⟩
  have HC := Lib.hid hc
  rw [hc] at hb1 ⊢
  have HF1 : Hid (Fresh W0 W1) := Lib.hid (Only.fresh ((Only.of_fresh (Fresh.alloc _ _)).trans ho1) (fun i hi e => by omega))
  have HB1 : Hid (Blk W1 c 35 #[.int .i64 1, .int .i64 st, .string ByteArray.empty, .int .i64 0, .int .i64 0, .int .i64 0, .int .i64 0, .int .i64 0, .int .i64 0, .int .i64 0, .int .i64 0, .int .i64 0, .int .i64 0, .int .i64 0, .slice none 0 0]) := Lib.hid hb1
  clear hb1 ho1 hc
  go_upto_region 5 with (first | (refine wp_loadB rfl (.tmp 11) _ rfl rfl HB1.out HI.out HG.out ?_) | (refine wp_storeB rfl (.tmp 12) (.tmp 23) _ rfl rfl rfl (Blk.new _ _ _) HI.out rfl (by simp [Value.oneCell']) ?_) | fail)
  intro W2 hb2 ho2
  obtain ⟨d, hd⟩ : ∃ d, W1.heap.size = d := ⟨_, rfl⟩
  have HD : Hid (DX w W2 b c d #[.int .i64 1, .int .i64 st, .string ByteArray.empty, .int .i64 0, .int .i64 0, .int .i64 0, .int .i64 0, .int .i64 0, .int .i64 0, .int .i64 0, .int .i64 0, .int .i64 0, .int .i64 0, .int .i64 0, .slice none 0 0] #[.int .i64 1, .int .i64 st, .string ByteArray.empty, .int .i64 0, .int .i64 0, .int .i64 0, .int .i64 0, .int .i64 0, .int .i64 0, .int .i64 0, .int .i64 0, .int .i64 0, .int .i64 0, .int .i64 0, .slice none 0 0]) := Lib.hid (by
    have hf2 : Fresh W1 W2 := Only.fresh ((Only.of_fresh (Fresh.alloc _ _)).trans ho2) (fun i hi e => by omega)
    exact ⟨HF0.out.trans (HF1.out.trans hf2), Nat.le_of_eq HB.out, by have := HZ0.out.lt; have := HC.out; omega, by have := HB1.out.lt; omega, (HZ0.out.fresh HF1.out).fresh hf2, HB1.out.fresh hf2, by rw [← hd]; exact hb2⟩)
  rw [hd]
  clear hb2 ho2 hd HF0 HF1 HZ0 HB1 HC HB
  go_wp2_with (first | (refine wp_loadB rfl (.tmp 11) _ rfl rfl HD.out.b1 HI.out HG.out ?_) | (refine wp_storeB rfl (.tmp 8) (.tmp 135) _ rfl rfl rfl HD.out.b0 HI.out rfl (by simp [Value.oneCell']) ?_) | (go_at_call 17; with_reducible refine (HFL8.out _).mono ?_; rintro e w2 ⟨rfl, rfl⟩) | (go_at_call 17; with_reducible refine (HFL32.out _).mono ?_; rintro e w2 ⟨rfl, rfl⟩) | fail)
  intro W4 hb4 ho4
  have HB4 := Lib.hid hb4
  have HX := Lib.hid (HBAD.out W4 (HD.out.fin ho4))
  clear hb4 ho4
  go_wp2
  refine bodyPost_ret (results_c2 (fn := Try.f10) rfl rfl rfl rfl HB4.out HI.out HG.out) rfl ?_
  exact HX.out
set_option maxHeartbeats 6400000 in
theorem rp_1pw_pad (fl st : Int) (l : List UInt8) (hl : l.length ≤ 300) (w : World) (k : Nat) (hk : FirstB 1 fl st l k) (h0 : 0 ≤ fl) (h1 : fl ≤ 255) (hst : ¬ st = 0) (hp8 : hasB fl 8 = true) (hp32 : hasB fl 32 = true) (p : Nat) (hpp : (l.getD 0 0).toNat = p) (hn0 : 6 ≤ l.length) (hq : l.length < p + 6) :
    Calls Try.prog 10 #[.int .i64 1, .int .i64 fl, .int .i64 st, .string (strB l)] w (DocP 1 st 0 (prsF 1 fl st l k) w) := by
  have hah : aheadN 1 fl = 6 := by simp [aheadN, pdB, wgB, hst, hp8, hp32]
  have hpad : padN 1 fl l = p := by
    unfold padN
    rw [show pdB 1 fl = true by simp [pdB, hst, hp8, hp32]]
    simp; simpa using hpp
  have hwt : wtL 1 fl l = (l.drop 1).take 5 := by simp [wtL, fromN, pdB, hst, hp8, hp32]
  have hdp : depN 1 fl l = numL ((l.drop 1).take 4) % 2147483648 := by unfold depN; rw [hwt, List.take_take]; rfl
  have hwe : weL 1 fl l = (((l.drop 1).getD 4 0).toNat : Int) + 1 := by
    unfold weL
    rw [hwt, List.getD_eq_getElem?_getD, List.getElem?_take_of_lt (by omega), List.getD_eq_getElem?_getD]
  have hex : exB 1 fl l = decide (2147483648 ≤ numL ((l.drop 1).take 4)) := by unfold exB; rw [hwt, List.take_take]; rfl
  have htx : textL 1 fl l = (l.drop 6).take (l.length - p - 6) := by unfold textL; rw [hah, hpad]
  have hp : prsF 1 fl st l k = (PR0, 101, true) := prs_at hk (k0 := 2) ⟨by omega, fun j hj => by
    have hjj : j = 0 ∨ j = 1 := by omega
    rcases hjj with rfl | rfl <;> (simp [lookB, srB, szB, wgB, pdB, hah, hpad, hst, hp8, hp32, hdp, -List.drop_one]; try omega), fun hh => by simp [lookB, srB, szB, wgB, pdB, hah, hpad, hst, hp8, hp32, hdp, -List.drop_one]; try omega⟩ (by simp [prsF, lkC, lkD])
  rw [hp]
  have HBAD : Hid (∀ W, Fresh w W → DocP 1 st 0 (PR0, 101, true) w (.returned (.tuple #[.agg #[.int .i64 1, .int .i64 st, .string ByteArray.empty, .int .i64 0, .int .i64 0, .int .i64 0, .int .i64 0, .int .i64 0, .int .i64 0, .int .i64 0, .int .i64 0, .int .i64 0, .int .i64 0, .int .i64 0, .slice none 0 0], .int .i64 101, .int .i64 1])) W) := Lib.hid (fun W h => docP_bad h)
  generalize DocP 1 st 0 (PR0, 101, true) w = PP at *
  clear hp hk
  have HFL8 := Lib.hid (fun W => rf_flag fl h0 h1 8 (by omega) 1 (by rw [hp8]; rfl) W)
  have HFL32 := Lib.hid (fun W => rf_flag fl h0 h1 32 (by omega) 1 (by rw [hp32]; rfl) W)
  have hq := numL_take_lt (l.drop 1) 4 4 (Nat.le_refl _)
  rw [show (256 : Nat) ^ 4 = 4294967296 from rfl] at hq
  have HWG := Lib.hid (fun W => rf_weigh 1 st 0 ByteArray.empty 0 0 0 0 0 0 0 0 0 0 none 0 0 (l.drop 1) (by simp; omega) (by simp; omega) _ rfl ((l.drop 1).getD 4 0) (by rw [List.getD_eq_getElem?_getD, List.getElem?_eq_getElem (by simp; omega)]; rfl) W)
  unfold dI at HWG
  have hz : (strB l).size = l.length := strB_size l
  have hy3 : ∀ h : 0 < (strB l).size, ((strB l)[0]).toNat = p := fun h => by
    have h3 : 0 < l.length := by omega
    rw [List.getD_eq_getElem?_getD, List.getElem?_eq_getElem h3] at hpp
    exact hpp
  have hy4 : ∃ y : UInt8, (∀ h : 0 < (strB l).size, (strB l)[0] = y) ∧ y.toNat = p := by
    have h3 : 0 < (strB l).size := by rw [hz]; omega
    exact ⟨(strB l)[0], fun _ => rfl, hy3 h3⟩
  obtain ⟨y, hy5, hy6⟩ := hy4
  have hy7 := UInt8.toNat_lt y
  have hz1 : (strB (l.drop 1)).size = l.length - 1 := by rw [strB_size, List.length_drop]
  have e1 : (strB l).extract 1 l.length = strB (l.drop 1) := by rw [strE, List.take_length]
  obtain ⟨m1, hm1⟩ : ∃ m1, l.length - 1 = m1 := ⟨_, rfl⟩
  have i1 : (1 : Int) ≤ (l.length : Int) := by omega
  have i2 : (0 : Int) < (l.length : Int) := by omega
  have hz2 : (strB (l.drop 6)).size = l.length - 6 := by rw [strB_size, List.length_drop]
  have e2 : (strB (l.drop 1)).extract 5 m1 = strB (l.drop 6) := by rw [strE, List.take_of_length_le (by simp; omega), List.drop_drop]
  obtain ⟨m2, hm2⟩ : ∃ m2, l.length - 6 = m2 := ⟨_, rfl⟩
  have i3 : (5 : Int) ≤ (m1 : Int) := by omega
  have i5 : (m2 : Int) < (p : Int) := by omega
  have i0 : ((l.length : Int) == 0) = false := by rw [beq_eq_false_iff_ne]; omega
  have i7 : ¬ (m1 : Int) < 5 := by omega
  have hs1 : (st == 0) = false := by simpa using hst
  generalize b2i (decide (2147483648 ≤ numL ((l.drop 1).take 4))) = v9 at *
  generalize numL ((l.drop 1).take 4) % 2147483648 = r1 at *
  generalize ((l.drop 1).getD 4 0).toNat = x1 at *
  clear hq
  clear hah hpad htx hwt hdp hwe hex hpp
  clear hy3
  rw [hm1] at hz1
  rw [hm2] at hz2
  generalize l.length = n at *
  generalize strB (l.drop 6) = S2 at *
  generalize strB (l.drop 1) = S1 at *
  generalize strB l = S at *
  clear hn0 hq hst hp8 hp32
  clear hm1
  subst hy6
  clear hm2
  have HI := Lib.hid (show (Try.prog.info? 35).map (·.size) = some 15 by kernel_rfl)
  have HG := Lib.hid (fun w => (show (isAgg 35).run Try.prog w = .ok true w by simp [isAgg, go_sem]))
  go_enter Try.func10, Try.ntmps10
  go_upto_region 1 with fail
  refine wp_gen (fun W => Blk W w.heap.size 35 #[.int .i64 0, .int .i64 0, .string ByteArray.empty, .int .i64 0, .int .i64 0, .int .i64 0, .int .i64 0, .int .i64 0, .int .i64 0, .int .i64 0, .int .i64 0, .int .i64 0, .int .i64 0, .int .i64 0, .slice none 0 0] ∧ Fresh w W) ⟨Blk.new _ _ _, Fresh.alloc _ _⟩ ?_
  rintro W0 ⟨hz0, hf0⟩
  obtain ⟨b, hb⟩ : ∃ b, w.heap.size = b := ⟨_, rfl⟩
  have HB := Lib.hid hb
  have HF0 := Lib.hid hf0
  rw [hb] at hz0 ⊢
  have HZ0 := Lib.hid hz0
  clear hb hf0 hz0
  go_upto_region 2 with (first | (refine wp_storeB rfl (.tmp 11) (.tmp 17) _ rfl rfl rfl (Blk.new _ _ _) HI.out rfl (by simp [Value.oneCell']) ?_) | fail)
  intro W1 hb1 ho1
  obtain ⟨c, hc⟩ : ∃ c, W0.heap.size = c := ⟨_, rfl⟩
  have HC := Lib.hid hc
  rw [hc] at hb1 ⊢
  have HF1 : Hid (Fresh W0 W1) := Lib.hid (Only.fresh ((Only.of_fresh (Fresh.alloc _ _)).trans ho1) (fun i hi e => by omega))
  have HB1 : Hid (Blk W1 c 35 #[.int .i64 1, .int .i64 st, .string ByteArray.empty, .int .i64 0, .int .i64 0, .int .i64 0, .int .i64 0, .int .i64 0, .int .i64 0, .int .i64 0, .int .i64 0, .int .i64 0, .int .i64 0, .int .i64 0, .slice none 0 0]) := Lib.hid hb1
  clear hb1 ho1 hc
  go_upto_region 5 with (first | (refine wp_loadB rfl (.tmp 11) _ rfl rfl HB1.out HI.out HG.out ?_) | (refine wp_storeB rfl (.tmp 12) (.tmp 23) _ rfl rfl rfl (Blk.new _ _ _) HI.out rfl (by simp [Value.oneCell']) ?_) | fail)
  intro W2 hb2 ho2
  obtain ⟨d, hd⟩ : ∃ d, W1.heap.size = d := ⟨_, rfl⟩
  have HD : Hid (DX w W2 b c d #[.int .i64 1, .int .i64 st, .string ByteArray.empty, .int .i64 0, .int .i64 0, .int .i64 0, .int .i64 0, .int .i64 0, .int .i64 0, .int .i64 0, .int .i64 0, .int .i64 0, .int .i64 0, .int .i64 0, .slice none 0 0] #[.int .i64 1, .int .i64 st, .string ByteArray.empty, .int .i64 0, .int .i64 0, .int .i64 0, .int .i64 0, .int .i64 0, .int .i64 0, .int .i64 0, .int .i64 0, .int .i64 0, .int .i64 0, .int .i64 0, .slice none 0 0]) := Lib.hid (by
    have hf2 : Fresh W1 W2 := Only.fresh ((Only.of_fresh (Fresh.alloc _ _)).trans ho2) (fun i hi e => by omega)
    exact ⟨HF0.out.trans (HF1.out.trans hf2), Nat.le_of_eq HB.out, by have := HZ0.out.lt; have := HC.out; omega, by have := HB1.out.lt; omega, (HZ0.out.fresh HF1.out).fresh hf2, HB1.out.fresh hf2, by rw [← hd]; exact hb2⟩)
  rw [hd]
  clear hb2 ho2 hd HF0 HF1 HZ0 HB1 HC HB
  go_wp2_with (first | (refine wp_loadB rfl (.tmp 12) _ rfl rfl HD.out.b2 HI.out HG.out ?_) | (go_at_call 17; with_reducible refine (HFL8.out _).mono ?_; rintro e w2 ⟨rfl, rfl⟩) | (go_at_call 17; with_reducible refine (HFL32.out _).mono ?_; rintro e w2 ⟨rfl, rfl⟩) | fail)
  with_reducible refine (HWG.out _).mono ?_
  rintro e w2 ⟨rfl, hf2⟩
  have HD2 := Lib.hid (HD.out.fresh hf2)
  clear hf2 HD
  go_wp2_with (first | (refine wp_storeB rfl (.tmp 12) (.tmp 138) _ rfl rfl rfl HD2.out.b2 HI.out rfl (by simp [Value.oneCell']) ?_) | fail)
  intro W5 hb5 ho5
  have HD : Hid (DX w W5 b c d #[.int .i64 1, .int .i64 st, .string ByteArray.empty, .int .i64 0, .int .i64 0, .int .i64 0, .int .i64 0, .int .i64 0, .int .i64 0, .int .i64 0, .int .i64 0, .int .i64 0, .int .i64 0, .int .i64 0, .slice none 0 0] #[.int .i64 1, .int .i64 st, .string ByteArray.empty, .int .i64 0, .int .i64 0, .int .i64 0, .int .i64 0, .int .i64 0, .int .i64 0, .int .i64 0, .int .i64 (r1 : Int), .int .i64 ((x1 : Int) + 1), .int .i64 1, .int .i64 v9, .slice none 0 0]) := Lib.hid (HD2.out.only ho5 hb5)
  clear HD2 hb5 ho5
  go_wp2_with (first | (refine wp_loadB rfl (.tmp 11) _ rfl rfl HD.out.b1 HI.out HG.out ?_) | (refine wp_storeB rfl (.tmp 8) (.tmp 145) _ rfl rfl rfl HD.out.b0 HI.out rfl (by simp [Value.oneCell']) ?_) | (go_at_call 17; with_reducible refine (HFL8.out _).mono ?_; rintro e w2 ⟨rfl, rfl⟩) | (go_at_call 17; with_reducible refine (HFL32.out _).mono ?_; rintro e w2 ⟨rfl, rfl⟩) | fail)
  intro W4 hb4 ho4
  have HB4 := Lib.hid hb4
  have HX := Lib.hid (HBAD.out W4 (HD.out.fin ho4))
  clear hb4 ho4
  go_wp2
  refine bodyPost_ret (results_c2 (fn := Try.f10) rfl rfl rfl rfl HB4.out HI.out HG.out) rfl ?_
  exact HX.out
set_option maxHeartbeats 6400000 in
theorem rp_1pw_dep (fl st : Int) (l : List UInt8) (hl : l.length ≤ 300) (w : World) (k : Nat) (hk : FirstB 1 fl st l k) (h0 : 0 ≤ fl) (h1 : fl ≤ 255) (hst : ¬ st = 0) (hp8 : hasB fl 8 = true) (hp32 : hasB fl 32 = true) (p : Nat) (hpp : (l.getD 0 0).toNat = p) (hn0 : p + 6 ≤ l.length) (hd : ((numL ((l.drop 1).take 4) % 2147483648 : Nat) : Int) = st) :
    Calls Try.prog 10 #[.int .i64 1, .int .i64 fl, .int .i64 st, .string (strB l)] w (DocP 1 st 0 (prsF 1 fl st l k) w) := by
  have hah : aheadN 1 fl = 6 := by simp [aheadN, pdB, wgB, hst, hp8, hp32]
  have hpad : padN 1 fl l = p := by
    unfold padN
    rw [show pdB 1 fl = true by simp [pdB, hst, hp8, hp32]]
    simp; simpa using hpp
  have hwt : wtL 1 fl l = (l.drop 1).take 5 := by simp [wtL, fromN, pdB, hst, hp8, hp32]
  have hdp : depN 1 fl l = numL ((l.drop 1).take 4) % 2147483648 := by unfold depN; rw [hwt, List.take_take]; rfl
  have hwe : weL 1 fl l = (((l.drop 1).getD 4 0).toNat : Int) + 1 := by
    unfold weL
    rw [hwt, List.getD_eq_getElem?_getD, List.getElem?_take_of_lt (by omega), List.getD_eq_getElem?_getD]
  have hex : exB 1 fl l = decide (2147483648 ≤ numL ((l.drop 1).take 4)) := by unfold exB; rw [hwt, List.take_take]; rfl
  have htx : textL 1 fl l = (l.drop 6).take (l.length - p - 6) := by unfold textL; rw [hah, hpad]
  have hp : prsF 1 fl st l k = (PR0, 101, false) := prs_at hk (k0 := 4) ⟨by omega, fun j hj => by
    have hjj : j = 0 ∨ j = 1 ∨ j = 2 ∨ j = 3 := by omega
    rcases hjj with rfl | rfl | rfl | rfl <;> (simp [lookB, srB, szB, wgB, pdB, hah, hpad, hst, hp8, hp32, hdp, hd, -List.drop_one]; try omega), fun hh => by simp [lookB, srB, szB, wgB, pdB, hah, hpad, hst, hp8, hp32, hdp, hd, -List.drop_one]; try omega⟩ (by simp [prsF, lkC, lkD])
  rw [hp]
  have HBAD : Hid (∀ W, Fresh w W → DocP 1 st 0 (PR0, 101, false) w (.returned (.tuple #[.agg #[.int .i64 1, .int .i64 st, .string ByteArray.empty, .int .i64 0, .int .i64 0, .int .i64 0, .int .i64 0, .int .i64 0, .int .i64 0, .int .i64 0, .int .i64 0, .int .i64 0, .int .i64 0, .int .i64 0, .slice none 0 0], .int .i64 101, .int .i64 0])) W) := Lib.hid (fun W h => docP_bad h)
  generalize DocP 1 st 0 (PR0, 101, false) w = PP at *
  clear hp hk
  have HFL8 := Lib.hid (fun W => rf_flag fl h0 h1 8 (by omega) 1 (by rw [hp8]; rfl) W)
  have HFL32 := Lib.hid (fun W => rf_flag fl h0 h1 32 (by omega) 1 (by rw [hp32]; rfl) W)
  have hq := numL_take_lt (l.drop 1) 4 4 (Nat.le_refl _)
  rw [show (256 : Nat) ^ 4 = 4294967296 from rfl] at hq
  have HWG := Lib.hid (fun W => rf_weigh 1 st 0 ByteArray.empty 0 0 0 0 0 0 0 0 0 0 none 0 0 (l.drop 1) (by simp; omega) (by simp; omega) _ rfl ((l.drop 1).getD 4 0) (by rw [List.getD_eq_getElem?_getD, List.getElem?_eq_getElem (by simp; omega)]; rfl) W)
  unfold dI at HWG
  have HFL1 := Lib.hid (fun W => rf_flag fl h0 h1 1 (by omega) _ rfl W)
  have hv1 := b2i_bd (hasB fl 1)
  generalize b2i (hasB fl 1) = v1 at *
  have HFL4 := Lib.hid (fun W => rf_flag fl h0 h1 4 (by omega) _ rfl W)
  have hv4 := b2i_bd (hasB fl 4)
  generalize b2i (hasB fl 4) = v4 at *
  have hz : (strB l).size = l.length := strB_size l
  have hy3 : ∀ h : 0 < (strB l).size, ((strB l)[0]).toNat = p := fun h => by
    have h3 : 0 < l.length := by omega
    rw [List.getD_eq_getElem?_getD, List.getElem?_eq_getElem h3] at hpp
    exact hpp
  have hy4 : ∃ y : UInt8, (∀ h : 0 < (strB l).size, (strB l)[0] = y) ∧ y.toNat = p := by
    have h3 : 0 < (strB l).size := by rw [hz]; omega
    exact ⟨(strB l)[0], fun _ => rfl, hy3 h3⟩
  obtain ⟨y, hy5, hy6⟩ := hy4
  have hy7 := UInt8.toNat_lt y
  have hz1 : (strB (l.drop 1)).size = l.length - 1 := by rw [strB_size, List.length_drop]
  have e1 : (strB l).extract 1 l.length = strB (l.drop 1) := by rw [strE, List.take_length]
  obtain ⟨m1, hm1⟩ : ∃ m1, l.length - 1 = m1 := ⟨_, rfl⟩
  have i1 : (1 : Int) ≤ (l.length : Int) := by omega
  have i2 : (0 : Int) < (l.length : Int) := by omega
  have hz2 : (strB (l.drop 6)).size = l.length - 6 := by rw [strB_size, List.length_drop]
  have e2 : (strB (l.drop 1)).extract 5 m1 = strB (l.drop 6) := by rw [strE, List.take_of_length_le (by simp; omega), List.drop_drop]
  obtain ⟨m2, hm2⟩ : ∃ m2, l.length - 6 = m2 := ⟨_, rfl⟩
  have i3 : (5 : Int) ≤ (m1 : Int) := by omega
  have e3 : (strB (l.drop 6)).extract 0 (l.length - p - 6) = strB ((l.drop 6).take (l.length - p - 6)) := by rw [strE]; rfl
  obtain ⟨r, hr⟩ : ∃ r, l.length - p - 6 = r := ⟨_, rfl⟩
  obtain ⟨e5, e4, e7, i4, i5, i6⟩ := pd_nums hn0 hm2 hl hr
  rw [hr] at e3
  generalize strB ((l.drop 6).take r) = T at *
  have i0 : ((l.length : Int) == 0) = false := by rw [beq_eq_false_iff_ne]; omega
  have i7 : ¬ (m1 : Int) < 5 := by omega
  have hs1 : (st == 0) = false := by simpa using hst
  have hd5 : (((numL ((l.drop 1).take 4) % 2147483648 : Nat) : Int) == st) = true := by simpa using hd
  generalize b2i (decide (2147483648 ≤ numL ((l.drop 1).take 4))) = v9 at *
  generalize numL ((l.drop 1).take 4) % 2147483648 = r1 at *
  generalize ((l.drop 1).getD 4 0).toNat = x1 at *
  clear hq
  clear hah hpad htx hwt hdp hwe hex hd hpp
  clear hy3
  rw [hm1] at hz1
  rw [hm2] at hz2
  generalize l.length = n at *
  generalize strB (l.drop 6) = S2 at *
  generalize strB (l.drop 1) = S1 at *
  generalize strB l = S at *
  clear hn0 hst hp8 hp32
  clear hm1
  subst hy6
  clear hm2
  clear hr
  have HI := Lib.hid (show (Try.prog.info? 35).map (·.size) = some 15 by kernel_rfl)
  have HG := Lib.hid (fun w => (show (isAgg 35).run Try.prog w = .ok true w by simp [isAgg, go_sem]))
  go_enter Try.func10, Try.ntmps10
  go_upto_region 1 with fail
  refine wp_gen (fun W => Blk W w.heap.size 35 #[.int .i64 0, .int .i64 0, .string ByteArray.empty, .int .i64 0, .int .i64 0, .int .i64 0, .int .i64 0, .int .i64 0, .int .i64 0, .int .i64 0, .int .i64 0, .int .i64 0, .int .i64 0, .int .i64 0, .slice none 0 0] ∧ Fresh w W) ⟨Blk.new _ _ _, Fresh.alloc _ _⟩ ?_
  rintro W0 ⟨hz0, hf0⟩
  obtain ⟨b, hb⟩ : ∃ b, w.heap.size = b := ⟨_, rfl⟩
  have HB := Lib.hid hb
  have HF0 := Lib.hid hf0
  rw [hb] at hz0 ⊢
  have HZ0 := Lib.hid hz0
  clear hb hf0 hz0
  go_upto_region 2 with (first | (refine wp_storeB rfl (.tmp 11) (.tmp 17) _ rfl rfl rfl (Blk.new _ _ _) HI.out rfl (by simp [Value.oneCell']) ?_) | fail)
  intro W1 hb1 ho1
  obtain ⟨c, hc⟩ : ∃ c, W0.heap.size = c := ⟨_, rfl⟩
  have HC := Lib.hid hc
  rw [hc] at hb1 ⊢
  have HF1 : Hid (Fresh W0 W1) := Lib.hid (Only.fresh ((Only.of_fresh (Fresh.alloc _ _)).trans ho1) (fun i hi e => by omega))
  have HB1 : Hid (Blk W1 c 35 #[.int .i64 1, .int .i64 st, .string ByteArray.empty, .int .i64 0, .int .i64 0, .int .i64 0, .int .i64 0, .int .i64 0, .int .i64 0, .int .i64 0, .int .i64 0, .int .i64 0, .int .i64 0, .int .i64 0, .slice none 0 0]) := Lib.hid hb1
  clear hb1 ho1 hc
  go_upto_region 5 with (first | (refine wp_loadB rfl (.tmp 11) _ rfl rfl HB1.out HI.out HG.out ?_) | (refine wp_storeB rfl (.tmp 12) (.tmp 23) _ rfl rfl rfl (Blk.new _ _ _) HI.out rfl (by simp [Value.oneCell']) ?_) | fail)
  intro W2 hb2 ho2
  obtain ⟨d, hd⟩ : ∃ d, W1.heap.size = d := ⟨_, rfl⟩
  have HD : Hid (DX w W2 b c d #[.int .i64 1, .int .i64 st, .string ByteArray.empty, .int .i64 0, .int .i64 0, .int .i64 0, .int .i64 0, .int .i64 0, .int .i64 0, .int .i64 0, .int .i64 0, .int .i64 0, .int .i64 0, .int .i64 0, .slice none 0 0] #[.int .i64 1, .int .i64 st, .string ByteArray.empty, .int .i64 0, .int .i64 0, .int .i64 0, .int .i64 0, .int .i64 0, .int .i64 0, .int .i64 0, .int .i64 0, .int .i64 0, .int .i64 0, .int .i64 0, .slice none 0 0]) := Lib.hid (by
    have hf2 : Fresh W1 W2 := Only.fresh ((Only.of_fresh (Fresh.alloc _ _)).trans ho2) (fun i hi e => by omega)
    exact ⟨HF0.out.trans (HF1.out.trans hf2), Nat.le_of_eq HB.out, by have := HZ0.out.lt; have := HC.out; omega, by have := HB1.out.lt; omega, (HZ0.out.fresh HF1.out).fresh hf2, HB1.out.fresh hf2, by rw [← hd]; exact hb2⟩)
  rw [hd]
  clear hb2 ho2 hd HF0 HF1 HZ0 HB1 HC HB
  go_wp2_with (first | (refine wp_loadB rfl (.tmp 12) _ rfl rfl HD.out.b2 HI.out HG.out ?_) | (go_at_call 17; with_reducible refine (HFL8.out _).mono ?_; rintro e w2 ⟨rfl, rfl⟩) | (go_at_call 17; with_reducible refine (HFL32.out _).mono ?_; rintro e w2 ⟨rfl, rfl⟩) | fail)
  with_reducible refine (HWG.out _).mono ?_
  rintro e w2 ⟨rfl, hf2⟩
  have HD2 := Lib.hid (HD.out.fresh hf2)
  clear hf2 HD
  go_wp2_with (first | (refine wp_storeB rfl (.tmp 12) (.tmp 138) _ rfl rfl rfl HD2.out.b2 HI.out rfl (by simp [Value.oneCell']) ?_) | fail)
  intro W5 hb5 ho5
  have HD : Hid (DX w W5 b c d #[.int .i64 1, .int .i64 st, .string ByteArray.empty, .int .i64 0, .int .i64 0, .int .i64 0, .int .i64 0, .int .i64 0, .int .i64 0, .int .i64 0, .int .i64 0, .int .i64 0, .int .i64 0, .int .i64 0, .slice none 0 0] #[.int .i64 1, .int .i64 st, .string ByteArray.empty, .int .i64 0, .int .i64 0, .int .i64 0, .int .i64 0, .int .i64 0, .int .i64 0, .int .i64 0, .int .i64 (r1 : Int), .int .i64 ((x1 : Int) + 1), .int .i64 1, .int .i64 v9, .slice none 0 0]) := Lib.hid (HD2.out.only ho5 hb5)
  clear HD2 hb5 ho5
  have y2 := HD.out.b2.cell 2
  have z2 := HD.out.b2.frozen 2
  have y3 := HD.out.b2.cell 3
  have z3 := HD.out.b2.frozen 3
  have y4 := HD.out.b2.cell 4
  have z4 := HD.out.b2.frozen 4
  simp at y2 y3 y4
  go_upto_region 36 with (first | (go_at_call 17; with_reducible refine (HFL8.out _).mono ?_; rintro e w2 ⟨rfl, rfl⟩) | (go_at_call 17; with_reducible refine (HFL32.out _).mono ?_; rintro e w2 ⟨rfl, rfl⟩) | (go_at_call 17; with_reducible refine (HFL1.out _).mono ?_; rintro e w2 ⟨rfl, rfl⟩) | (go_at_call 17; with_reducible refine (HFL4.out _).mono ?_; rintro e w2 ⟨rfl, rfl⟩) | fail)
  refine wp_gen (fun W => DX w W b c d #[.int .i64 1, .int .i64 st, .string ByteArray.empty, .int .i64 0, .int .i64 0, .int .i64 0, .int .i64 0, .int .i64 0, .int .i64 0, .int .i64 0, .int .i64 0, .int .i64 0, .int .i64 0, .int .i64 0, .slice none 0 0] #[.int .i64 1, .int .i64 st, .string T, .int .i64 v1, .int .i64 v4, .int .i64 0, .int .i64 0, .int .i64 0, .int .i64 0, .int .i64 0, .int .i64 (r1 : Int), .int .i64 ((x1 : Int) + 1), .int .i64 1, .int .i64 v9, .slice none 0 0]) (((HD.out.set 2 (.string T) #[.int .i64 1, .int .i64 st, .string T, .int .i64 0, .int .i64 0, .int .i64 0, .int .i64 0, .int .i64 0, .int .i64 0, .int .i64 0, .int .i64 (r1 : Int), .int .i64 ((x1 : Int) + 1), .int .i64 1, .int .i64 v9, .slice none 0 0] rfl).set 3 (.int .i64 v1) #[.int .i64 1, .int .i64 st, .string T, .int .i64 v1, .int .i64 0, .int .i64 0, .int .i64 0, .int .i64 0, .int .i64 0, .int .i64 0, .int .i64 (r1 : Int), .int .i64 ((x1 : Int) + 1), .int .i64 1, .int .i64 v9, .slice none 0 0] rfl).set 4 (.int .i64 v4) #[.int .i64 1, .int .i64 st, .string T, .int .i64 v1, .int .i64 v4, .int .i64 0, .int .i64 0, .int .i64 0, .int .i64 0, .int .i64 0, .int .i64 (r1 : Int), .int .i64 ((x1 : Int) + 1), .int .i64 1, .int .i64 v9, .slice none 0 0] rfl) ?_
  clear HD
  intro W5 hd5
  have HD := Lib.hid hd5
  clear hd5 y2 z2 y3 z3 y4 z4
  have y10 := HD.out.b2.cell 10
  have y12 := HD.out.b2.cell 12
  simp at y10 y12
  go_wp2_with (first | (refine wp_loadB rfl (.tmp 11) _ rfl rfl HD.out.b1 HI.out HG.out ?_) | (refine wp_storeB rfl (.tmp 8) (.tmp 175) _ rfl rfl rfl HD.out.b0 HI.out rfl (by simp [Value.oneCell']) ?_) | fail)
  intro W4 hb4 ho4
  have HB4 := Lib.hid hb4
  have HX := Lib.hid (HBAD.out W4 (HD.out.fin ho4))
  clear hb4 ho4
  go_wp2
  refine bodyPost_ret (results_c2 (fn := Try.f10) rfl rfl rfl rfl HB4.out HI.out HG.out) rfl ?_
  exact HX.out
set_option maxHeartbeats 6400000 in
theorem rp_1pw_ok (fl st : Int) (l : List UInt8) (hl : l.length ≤ 300) (w : World) (k : Nat) (hk : FirstB 1 fl st l k) (h0 : 0 ≤ fl) (h1 : fl ≤ 255) (hst : ¬ st = 0) (hp8 : hasB fl 8 = true) (hp32 : hasB fl 32 = true) (p : Nat) (hpp : (l.getD 0 0).toNat = p) (hn0 : p + 6 ≤ l.length) (hd : ¬ ((numL ((l.drop 1).take 4) % 2147483648 : Nat) : Int) = st) :
    Calls Try.prog 10 #[.int .i64 1, .int .i64 fl, .int .i64 st, .string (strB l)] w (DocP 1 st 0 (prsF 1 fl st l k) w) := by
  have hah : aheadN 1 fl = 6 := by simp [aheadN, pdB, wgB, hst, hp8, hp32]
  have hpad : padN 1 fl l = p := by
    unfold padN
    rw [show pdB 1 fl = true by simp [pdB, hst, hp8, hp32]]
    simp; simpa using hpp
  have hwt : wtL 1 fl l = (l.drop 1).take 5 := by simp [wtL, fromN, pdB, hst, hp8, hp32]
  have hdp : depN 1 fl l = numL ((l.drop 1).take 4) % 2147483648 := by unfold depN; rw [hwt, List.take_take]; rfl
  have hwe : weL 1 fl l = (((l.drop 1).getD 4 0).toNat : Int) + 1 := by
    unfold weL
    rw [hwt, List.getD_eq_getElem?_getD, List.getElem?_take_of_lt (by omega), List.getD_eq_getElem?_getD]
  have hex : exB 1 fl l = decide (2147483648 ≤ numL ((l.drop 1).take 4)) := by unfold exB; rw [hwt, List.take_take]; rfl
  have htx : textL 1 fl l = (l.drop 6).take (l.length - p - 6) := by unfold textL; rw [hah, hpad]
  have hp : prsF 1 fl st l k = (⟨(l.drop 6).take (l.length - p - 6), hasB fl 1, hasB fl 4, false, 0, 0, 0, ((numL ((l.drop 1).take 4) % 2147483648 : Nat) : Int), (((l.drop 1).getD 4 0).toNat : Int) + 1, true, decide (2147483648 ≤ numL ((l.drop 1).take 4)), []⟩, 0, false) := prs_at hk (k0 := 6) ⟨by omega, fun j hj => by
    have hjj : j = 0 ∨ j = 1 ∨ j = 2 ∨ j = 3 ∨ j = 4 ∨ j = 5 := by omega
    rcases hjj with rfl | rfl | rfl | rfl | rfl | rfl <;> (simp [lookB, srB, szB, wgB, pdB, hah, hpad, hst, hp8, hp32, hdp, hd, -List.drop_one, htx, hwe, hex]; try omega), fun hh => by omega⟩ (by rw [prsF, if_neg (by omega)]; simp [prOf, PR0, wgB, hah, hpad, hst, hp8, hp32, hdp, hd, -List.drop_one, htx, hwe, hex])
  rw [hp]
  have HFIN : Hid (∀ W, Fresh w W → DocP 1 st 0 (⟨(l.drop 6).take (l.length - p - 6), hasB fl 1, hasB fl 4, false, 0, 0, 0, ((numL ((l.drop 1).take 4) % 2147483648 : Nat) : Int), (((l.drop 1).getD 4 0).toNat : Int) + 1, true, decide (2147483648 ≤ numL ((l.drop 1).take 4)), []⟩, 0, false) w (.returned (.tuple #[.agg #[.int .i64 1, .int .i64 st, .string (strB ((l.drop 6).take (l.length - p - 6))), .int .i64 (b2i (hasB fl 1)), .int .i64 (b2i (hasB fl 4)), .int .i64 0, .int .i64 0, .int .i64 0, .int .i64 0, .int .i64 0, .int .i64 ((numL ((l.drop 1).take 4) % 2147483648 : Nat) : Int), .int .i64 ((((l.drop 1).getD 4 0).toNat : Int) + 1), .int .i64 1, .int .i64 (b2i (decide (2147483648 ≤ numL ((l.drop 1).take 4)))), .slice none 0 0], .int .i64 0, .int .i64 0])) W) := Lib.hid (fun W h => docP_ok h)
  generalize DocP 1 st 0 (⟨(l.drop 6).take (l.length - p - 6), hasB fl 1, hasB fl 4, false, 0, 0, 0, ((numL ((l.drop 1).take 4) % 2147483648 : Nat) : Int), (((l.drop 1).getD 4 0).toNat : Int) + 1, true, decide (2147483648 ≤ numL ((l.drop 1).take 4)), []⟩, 0, false) w = PP at *
  clear hp hk
  have HFL8 := Lib.hid (fun W => rf_flag fl h0 h1 8 (by omega) 1 (by rw [hp8]; rfl) W)
  have HFL32 := Lib.hid (fun W => rf_flag fl h0 h1 32 (by omega) 1 (by rw [hp32]; rfl) W)
  have HFL1 := Lib.hid (fun W => rf_flag fl h0 h1 1 (by omega) _ rfl W)
  have hv1 := b2i_bd (hasB fl 1)
  generalize b2i (hasB fl 1) = v1 at *
  have HFL4 := Lib.hid (fun W => rf_flag fl h0 h1 4 (by omega) _ rfl W)
  have hv4 := b2i_bd (hasB fl 4)
  generalize b2i (hasB fl 4) = v4 at *
  have hq := numL_take_lt (l.drop 1) 4 4 (Nat.le_refl _)
  rw [show (256 : Nat) ^ 4 = 4294967296 from rfl] at hq
  have HWG := Lib.hid (fun W => rf_weigh 1 st 0 ByteArray.empty 0 0 0 0 0 0 0 0 0 0 none 0 0 (l.drop 1) (by simp; omega) (by simp; omega) _ rfl ((l.drop 1).getD 4 0) (by rw [List.getD_eq_getElem?_getD, List.getElem?_eq_getElem (by simp; omega)]; rfl) W)
  unfold dI at HWG
  have hz : (strB l).size = l.length := strB_size l
  have hy3 : ∀ h : 0 < (strB l).size, ((strB l)[0]).toNat = p := fun h => by
    have h3 : 0 < l.length := by omega
    rw [List.getD_eq_getElem?_getD, List.getElem?_eq_getElem h3] at hpp
    exact hpp
  have hy4 : ∃ y : UInt8, (∀ h : 0 < (strB l).size, (strB l)[0] = y) ∧ y.toNat = p := by
    have h3 : 0 < (strB l).size := by rw [hz]; omega
    exact ⟨(strB l)[0], fun _ => rfl, hy3 h3⟩
  obtain ⟨y, hy5, hy6⟩ := hy4
  have hy7 := UInt8.toNat_lt y
  have hz1 : (strB (l.drop 1)).size = l.length - 1 := by rw [strB_size, List.length_drop]
  have e1 : (strB l).extract 1 l.length = strB (l.drop 1) := by rw [strE, List.take_length]
  obtain ⟨m1, hm1⟩ : ∃ m1, l.length - 1 = m1 := ⟨_, rfl⟩
  have i1 : (1 : Int) ≤ (l.length : Int) := by omega
  have i2 : (0 : Int) < (l.length : Int) := by omega
  have hz2 : (strB (l.drop 6)).size = l.length - 6 := by rw [strB_size, List.length_drop]
  have e2 : (strB (l.drop 1)).extract 5 m1 = strB (l.drop 6) := by rw [strE, List.take_of_length_le (by simp; omega), List.drop_drop]
  obtain ⟨m2, hm2⟩ : ∃ m2, l.length - 6 = m2 := ⟨_, rfl⟩
  have i3 : (5 : Int) ≤ (m1 : Int) := by omega
  have e3 : (strB (l.drop 6)).extract 0 (l.length - p - 6) = strB ((l.drop 6).take (l.length - p - 6)) := by rw [strE]; rfl
  obtain ⟨r, hr⟩ : ∃ r, l.length - p - 6 = r := ⟨_, rfl⟩
  obtain ⟨e5, e4, e7, i4, i5, i6⟩ := pd_nums hn0 hm2 hl hr
  rw [hr] at e3
  rw [hr] at HFIN
  generalize strB ((l.drop 6).take r) = T at *
  have i0 : ((l.length : Int) == 0) = false := by rw [beq_eq_false_iff_ne]; omega
  have i7 : ¬ (m1 : Int) < 5 := by omega
  have hs1 : (st == 0) = false := by simpa using hst
  have hd5 : (((numL ((l.drop 1).take 4) % 2147483648 : Nat) : Int) == st) = false := by simpa using hd
  generalize b2i (decide (2147483648 ≤ numL ((l.drop 1).take 4))) = v9 at *
  generalize numL ((l.drop 1).take 4) % 2147483648 = r1 at *
  generalize ((l.drop 1).getD 4 0).toNat = x1 at *
  clear hq
  clear hah hpad htx hwt hdp hwe hex hd hpp
  clear hy3
  rw [hm1] at hz1
  rw [hm2] at hz2
  generalize l.length = n at *
  generalize strB (l.drop 6) = S2 at *
  generalize strB (l.drop 1) = S1 at *
  generalize strB l = S at *
  clear hn0 hst hp8 hp32
  clear hm1
  subst hy6
  clear hm2
  clear hr
  have HI := Lib.hid (show (Try.prog.info? 35).map (·.size) = some 15 by kernel_rfl)
  have HG := Lib.hid (fun w => (show (isAgg 35).run Try.prog w = .ok true w by simp [isAgg, go_sem]))
  go_enter Try.func10, Try.ntmps10
  go_upto_region 1 with fail
  refine wp_gen (fun W => Blk W w.heap.size 35 #[.int .i64 0, .int .i64 0, .string ByteArray.empty, .int .i64 0, .int .i64 0, .int .i64 0, .int .i64 0, .int .i64 0, .int .i64 0, .int .i64 0, .int .i64 0, .int .i64 0, .int .i64 0, .int .i64 0, .slice none 0 0] ∧ Fresh w W) ⟨Blk.new _ _ _, Fresh.alloc _ _⟩ ?_
  rintro W0 ⟨hz0, hf0⟩
  obtain ⟨b, hb⟩ : ∃ b, w.heap.size = b := ⟨_, rfl⟩
  have HB := Lib.hid hb
  have HF0 := Lib.hid hf0
  rw [hb] at hz0 ⊢
  have HZ0 := Lib.hid hz0
  clear hb hf0 hz0
  go_upto_region 2 with (first | (refine wp_storeB rfl (.tmp 11) (.tmp 17) _ rfl rfl rfl (Blk.new _ _ _) HI.out rfl (by simp [Value.oneCell']) ?_) | fail)
  intro W1 hb1 ho1
  obtain ⟨c, hc⟩ : ∃ c, W0.heap.size = c := ⟨_, rfl⟩
  have HC := Lib.hid hc
  rw [hc] at hb1 ⊢
  have HF1 : Hid (Fresh W0 W1) := Lib.hid (Only.fresh ((Only.of_fresh (Fresh.alloc _ _)).trans ho1) (fun i hi e => by omega))
  have HB1 : Hid (Blk W1 c 35 #[.int .i64 1, .int .i64 st, .string ByteArray.empty, .int .i64 0, .int .i64 0, .int .i64 0, .int .i64 0, .int .i64 0, .int .i64 0, .int .i64 0, .int .i64 0, .int .i64 0, .int .i64 0, .int .i64 0, .slice none 0 0]) := Lib.hid hb1
  clear hb1 ho1 hc
  go_upto_region 5 with (first | (refine wp_loadB rfl (.tmp 11) _ rfl rfl HB1.out HI.out HG.out ?_) | (refine wp_storeB rfl (.tmp 12) (.tmp 23) _ rfl rfl rfl (Blk.new _ _ _) HI.out rfl (by simp [Value.oneCell']) ?_) | fail)
  intro W2 hb2 ho2
  obtain ⟨d, hd⟩ : ∃ d, W1.heap.size = d := ⟨_, rfl⟩
  have HD : Hid (DX w W2 b c d #[.int .i64 1, .int .i64 st, .string ByteArray.empty, .int .i64 0, .int .i64 0, .int .i64 0, .int .i64 0, .int .i64 0, .int .i64 0, .int .i64 0, .int .i64 0, .int .i64 0, .int .i64 0, .int .i64 0, .slice none 0 0] #[.int .i64 1, .int .i64 st, .string ByteArray.empty, .int .i64 0, .int .i64 0, .int .i64 0, .int .i64 0, .int .i64 0, .int .i64 0, .int .i64 0, .int .i64 0, .int .i64 0, .int .i64 0, .int .i64 0, .slice none 0 0]) := Lib.hid (by
    have hf2 : Fresh W1 W2 := Only.fresh ((Only.of_fresh (Fresh.alloc _ _)).trans ho2) (fun i hi e => by omega)
    exact ⟨HF0.out.trans (HF1.out.trans hf2), Nat.le_of_eq HB.out, by have := HZ0.out.lt; have := HC.out; omega, by have := HB1.out.lt; omega, (HZ0.out.fresh HF1.out).fresh hf2, HB1.out.fresh hf2, by rw [← hd]; exact hb2⟩)
  rw [hd]
  clear hb2 ho2 hd HF0 HF1 HZ0 HB1 HC HB
  go_wp2_with (first | (refine wp_loadB rfl (.tmp 12) _ rfl rfl HD.out.b2 HI.out HG.out ?_) | (go_at_call 17; with_reducible refine (HFL8.out _).mono ?_; rintro e w2 ⟨rfl, rfl⟩) | (go_at_call 17; with_reducible refine (HFL32.out _).mono ?_; rintro e w2 ⟨rfl, rfl⟩) | fail)
  with_reducible refine (HWG.out _).mono ?_
  rintro e w2 ⟨rfl, hf2⟩
  have HD2 := Lib.hid (HD.out.fresh hf2)
  clear hf2 HD
  go_wp2_with (first | (refine wp_storeB rfl (.tmp 12) (.tmp 138) _ rfl rfl rfl HD2.out.b2 HI.out rfl (by simp [Value.oneCell']) ?_) | fail)
  intro W5 hb5 ho5
  have HD : Hid (DX w W5 b c d #[.int .i64 1, .int .i64 st, .string ByteArray.empty, .int .i64 0, .int .i64 0, .int .i64 0, .int .i64 0, .int .i64 0, .int .i64 0, .int .i64 0, .int .i64 0, .int .i64 0, .int .i64 0, .int .i64 0, .slice none 0 0] #[.int .i64 1, .int .i64 st, .string ByteArray.empty, .int .i64 0, .int .i64 0, .int .i64 0, .int .i64 0, .int .i64 0, .int .i64 0, .int .i64 0, .int .i64 (r1 : Int), .int .i64 ((x1 : Int) + 1), .int .i64 1, .int .i64 v9, .slice none 0 0]) := Lib.hid (HD2.out.only ho5 hb5)
  clear HD2 hb5 ho5
  have y2 := HD.out.b2.cell 2
  have z2 := HD.out.b2.frozen 2
  have y3 := HD.out.b2.cell 3
  have z3 := HD.out.b2.frozen 3
  have y4 := HD.out.b2.cell 4
  have z4 := HD.out.b2.frozen 4
  have y10 := HD.out.b2.cell 10
  have y12 := HD.out.b2.cell 12
  simp at y2 y3 y4 y10 y12
  go_upto_region 61 with (first | (go_at_call 17; with_reducible refine (HFL8.out _).mono ?_; rintro e w2 ⟨rfl, rfl⟩) | (go_at_call 17; with_reducible refine (HFL32.out _).mono ?_; rintro e w2 ⟨rfl, rfl⟩) | (go_at_call 17; with_reducible refine (HFL1.out _).mono ?_; rintro e w2 ⟨rfl, rfl⟩) | (go_at_call 17; with_reducible refine (HFL4.out _).mono ?_; rintro e w2 ⟨rfl, rfl⟩) | fail)
  refine wp_gen (fun W => DX w W b c d #[.int .i64 1, .int .i64 st, .string ByteArray.empty, .int .i64 0, .int .i64 0, .int .i64 0, .int .i64 0, .int .i64 0, .int .i64 0, .int .i64 0, .int .i64 0, .int .i64 0, .int .i64 0, .int .i64 0, .slice none 0 0] #[.int .i64 1, .int .i64 st, .string T, .int .i64 v1, .int .i64 v4, .int .i64 0, .int .i64 0, .int .i64 0, .int .i64 0, .int .i64 0, .int .i64 (r1 : Int), .int .i64 ((x1 : Int) + 1), .int .i64 1, .int .i64 v9, .slice none 0 0]) (((HD.out.set 2 (.string T) #[.int .i64 1, .int .i64 st, .string T, .int .i64 0, .int .i64 0, .int .i64 0, .int .i64 0, .int .i64 0, .int .i64 0, .int .i64 0, .int .i64 (r1 : Int), .int .i64 ((x1 : Int) + 1), .int .i64 1, .int .i64 v9, .slice none 0 0] rfl).set 3 (.int .i64 v1) #[.int .i64 1, .int .i64 st, .string T, .int .i64 v1, .int .i64 0, .int .i64 0, .int .i64 0, .int .i64 0, .int .i64 0, .int .i64 0, .int .i64 (r1 : Int), .int .i64 ((x1 : Int) + 1), .int .i64 1, .int .i64 v9, .slice none 0 0] rfl).set 4 (.int .i64 v4) #[.int .i64 1, .int .i64 st, .string T, .int .i64 v1, .int .i64 v4, .int .i64 0, .int .i64 0, .int .i64 0, .int .i64 0, .int .i64 0, .int .i64 (r1 : Int), .int .i64 ((x1 : Int) + 1), .int .i64 1, .int .i64 v9, .slice none 0 0] rfl) ?_
  clear HD
  intro W5 hd5
  have HD := Lib.hid hd5
  clear hd5 y2 z2 y3 z3 y4 z4 y10 y12
  go_wp2_with (first | (refine wp_loadB rfl (.tmp 12) _ rfl rfl HD.out.b2 HI.out HG.out ?_) | (refine wp_storeB rfl (.tmp 8) (.tmp 244) _ rfl rfl rfl HD.out.b0 HI.out rfl (by simp [Value.oneCell']) ?_) | fail)
  intro W6 hb6 ho6
  have HB6 := Lib.hid hb6
  have HX := Lib.hid (HFIN.out W6 (HD.out.fin ho6))
  clear hb6 ho6
  go_wp2
  refine bodyPost_ret (results_c2 (fn := Try.f10) rfl rfl rfl rfl HB6.out HI.out HG.out) rfl ?_
  exact HX.out
end Go.Proofs.Ytcdghmidpaeloaa

