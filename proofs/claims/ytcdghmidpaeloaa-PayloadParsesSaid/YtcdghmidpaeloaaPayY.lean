/-
  The document's answer for layer 10: Parse, type by type: data.
-/
import Derived.Test.YtcdghmidpaeloaaPayV
namespace Go.Proofs.Ytcdghmidpaeloaa
set_option maxRecDepth 100000
set_option linter.unusedVariables false
set_option linter.unusedSimpArgs false
open Go.RowKit
set_option maxHeartbeats 6400000 in
theorem rp_0nn_ok (fl st : Int) (l : List UInt8) (hl : l.length ≤ 300) (w : World) (k : Nat) (hk : FirstB 0 fl st l k) (h0 : 0 ≤ fl) (h1 : fl ≤ 255) (hst : ¬ st = 0) (hp8 : hasB fl 8 = false) (hn0 : 0 + 0 ≤ l.length) :
    Calls Try.prog 10 #[.int .i64 0, .int .i64 fl, .int .i64 st, .string (strB l)] w (DocP 0 st (l.length : Int) (prsF 0 fl st l k) w) := by
  have hah : aheadN 0 fl = 0 := by simp [aheadN, pdB, wgB, hst, hp8]
  have hpad : padN 0 fl l = 0 := by
    unfold padN
    rw [show pdB 0 fl = false by simp [pdB, hst, hp8]]
    simp
  have htx : textL 0 fl l = (l.drop 0).take (l.length - 0 - 0) := by unfold textL; rw [hah, hpad]
  have hp : prsF 0 fl st l k = (⟨(l.drop 0).take (l.length - 0 - 0), hasB fl 1, false, false, 0, 0, 0, 0, 0, false, false, []⟩, 0, false) := prs_at hk (k0 := 6) ⟨by omega, fun j hj => by
    have hjj : j = 0 ∨ j = 1 ∨ j = 2 ∨ j = 3 ∨ j = 4 ∨ j = 5 := by omega
    rcases hjj with rfl | rfl | rfl | rfl | rfl | rfl <;> (simp [lookB, srB, szB, wgB, pdB, hah, hpad, hst, hp8, htx]; try omega), fun hh => by omega⟩ (by rw [prsF, if_neg (by omega)]; simp [prOf, PR0, wgB, hah, hpad, hst, hp8, htx])
  rw [hp]
  have HFIN : Hid (∀ W, Fresh w W → DocP 0 st (l.length : Int) (⟨(l.drop 0).take (l.length - 0 - 0), hasB fl 1, false, false, 0, 0, 0, 0, 0, false, false, []⟩, 0, false) w (.returned (.tuple #[.agg #[.int .i64 0, .int .i64 st, .string (strB ((l.drop 0).take (l.length - 0 - 0))), .int .i64 (b2i (hasB fl 1)), .int .i64 0, .int .i64 0, .int .i64 (l.length : Int), .int .i64 0, .int .i64 0, .int .i64 0, .int .i64 0, .int .i64 0, .int .i64 0, .int .i64 0, .slice none 0 0], .int .i64 0, .int .i64 0])) W) := Lib.hid (fun W h => docP_ok h)
  generalize DocP 0 st (l.length : Int) (⟨(l.drop 0).take (l.length - 0 - 0), hasB fl 1, false, false, 0, 0, 0, 0, 0, false, false, []⟩, 0, false) w = PP at *
  clear hp hk
  have HFL8 := Lib.hid (fun W => rf_flag fl h0 h1 8 (by omega) 0 (by rw [hp8]; rfl) W)
  have HFL1 := Lib.hid (fun W => rf_flag fl h0 h1 1 (by omega) _ rfl W)
  have hv1 := b2i_bd (hasB fl 1)
  generalize b2i (hasB fl 1) = v1 at *
  have hz : (strB l).size = l.length := strB_size l
  have e3 : (strB l).extract 0 (l.length - 0 - 0) = strB ((l.drop 0).take (l.length - 0 - 0)) := by rw [strE]; rfl
  obtain ⟨r, hr⟩ : ∃ r, l.length - 0 - 0 = r := ⟨_, rfl⟩
  have i5 : ¬ (l.length : Int) < 0 := by omega
  rw [hr] at e3
  rw [hr] at HFIN
  generalize strB ((l.drop 0).take r) = T at *
  have hrr : r = l.length := by omega
  subst hrr
  have hs1 : (st == 0) = false := by simpa using hst
  clear hah hpad htx
  generalize l.length = n at *
  generalize strB l = S at *
  clear hn0 hst hp8
  clear hr
  have HI := Lib.hid (show (Try.prog.info? 35).map (·.size) = some 15 by kernel_rfl)
  have HG := Lib.hid (fun w => (show (isAgg 35).run Try.prog w = .ok true w by simp [isAgg, go_sem]))
  go_enter Try.func10, Try.ntmps10
  go_upto_region 1 with fail
  refine wp_gen (fun W => Blk W w.heap.size 35 #[.int .i64 0, .int .i64 0, .string ByteArray.empty, .int .i64 0, .int .i64 0, .int .i64 0, .int .i64 0, .int .i64 0, .int .i64 0, .int .i64 0, .int .i64 0, .int .i64 0, .int .i64 0, .int .i64 0, .slice none 0 0] ∧ Fresh w W) ⟨Blk.new _ _ _, Fresh.alloc _ _⟩ ?_
  rintro W0 ⟨hz0, hf0⟩
  obtain ⟨b, hb⟩ : ∃ b, w.heap.size = b := ⟨_, rfl⟩
  have HB := Lib.hid hb
  have HF0 := Lib.hid hf0
  rw [hb] at hz0 ⊢
  have HZ0 := Lib.hid hz0
  clear hb hf0 hz0
  go_upto_region 2 with (first | (refine wp_storeB rfl (.tmp 11) (.tmp 17) _ rfl rfl rfl (Blk.new _ _ _) HI.out rfl (by simp [Value.oneCell']) ?_) | fail)
  intro W1 hb1 ho1
  obtain ⟨c, hc⟩ : ∃ c, W0.heap.size = c := ⟨_, rfl⟩
  have HC := Lib.hid hc
  rw [hc] at hb1 ⊢
  have HF1 : Hid (Fresh W0 W1) := Lib.hid (Only.fresh ((Only.of_fresh (Fresh.alloc _ _)).trans ho1) (fun i hi e => by omega))
  have HB1 : Hid (Blk W1 c 35 #[.int .i64 0, .int .i64 st, .string ByteArray.empty, .int .i64 0, .int .i64 0, .int .i64 0, .int .i64 0, .int .i64 0, .int .i64 0, .int .i64 0, .int .i64 0, .int .i64 0, .int .i64 0, .int .i64 0, .slice none 0 0]) := Lib.hid hb1
  clear hb1 ho1 hc
  have yc := HB1.out.cell 6
  have zc := HB1.out.frozen 6
  simp at yc
  go_upto_region 4 with fail
  refine wp_gen (fun W => Blk W c 35 #[.int .i64 0, .int .i64 st, .string ByteArray.empty, .int .i64 0, .int .i64 0, .int .i64 0, .int .i64 (n : Int), .int .i64 0, .int .i64 0, .int .i64 0, .int .i64 0, .int .i64 0, .int .i64 0, .int .i64 0, .slice none 0 0] ∧ Fresh W0 W) ⟨HB1.out.set2 rfl, HF1.out.step _ _ (by have := HC.out; simp only; omega)⟩ ?_
  clear yc zc
  clear HB1 HF1
  rintro W1 ⟨hb1, hf1⟩
  have HB1 := Lib.hid hb1
  have HF1 := Lib.hid hf1
  clear hb1 hf1
  go_upto_region 5 with (first | (refine wp_loadB rfl (.tmp 11) _ rfl rfl HB1.out HI.out HG.out ?_) | (refine wp_storeB rfl (.tmp 12) (.tmp 23) _ rfl rfl rfl (Blk.new _ _ _) HI.out rfl (by simp [Value.oneCell']) ?_) | fail)
  intro W2 hb2 ho2
  obtain ⟨d, hd⟩ : ∃ d, W1.heap.size = d := ⟨_, rfl⟩
  have HD : Hid (DX w W2 b c d #[.int .i64 0, .int .i64 st, .string ByteArray.empty, .int .i64 0, .int .i64 0, .int .i64 0, .int .i64 (n : Int), .int .i64 0, .int .i64 0, .int .i64 0, .int .i64 0, .int .i64 0, .int .i64 0, .int .i64 0, .slice none 0 0] #[.int .i64 0, .int .i64 st, .string ByteArray.empty, .int .i64 0, .int .i64 0, .int .i64 0, .int .i64 (n : Int), .int .i64 0, .int .i64 0, .int .i64 0, .int .i64 0, .int .i64 0, .int .i64 0, .int .i64 0, .slice none 0 0]) := Lib.hid (by
    have hf2 : Fresh W1 W2 := Only.fresh ((Only.of_fresh (Fresh.alloc _ _)).trans ho2) (fun i hi e => by omega)
    exact ⟨HF0.out.trans (HF1.out.trans hf2), Nat.le_of_eq HB.out, by have := HZ0.out.lt; have := HC.out; omega, by have := HB1.out.lt; omega, (HZ0.out.fresh HF1.out).fresh hf2, HB1.out.fresh hf2, by rw [← hd]; exact hb2⟩)
  rw [hd]
  clear hb2 ho2 hd HF0 HF1 HZ0 HB1 HC HB
  have y2 := HD.out.b2.cell 2
  have z2 := HD.out.b2.frozen 2
  have y3 := HD.out.b2.cell 3
  have z3 := HD.out.b2.frozen 3
  have y10 := HD.out.b2.cell 10
  have y12 := HD.out.b2.cell 12
  simp at y2 y3 y10 y12
  go_upto_region 61 with (first | (go_at_call 17; with_reducible refine (HFL8.out _).mono ?_; rintro e w2 ⟨rfl, rfl⟩) | (go_at_call 17; with_reducible refine (HFL1.out _).mono ?_; rintro e w2 ⟨rfl, rfl⟩) | fail)
  refine wp_gen (fun W => DX w W b c d #[.int .i64 0, .int .i64 st, .string ByteArray.empty, .int .i64 0, .int .i64 0, .int .i64 0, .int .i64 (n : Int), .int .i64 0, .int .i64 0, .int .i64 0, .int .i64 0, .int .i64 0, .int .i64 0, .int .i64 0, .slice none 0 0] #[.int .i64 0, .int .i64 st, .string T, .int .i64 v1, .int .i64 0, .int .i64 0, .int .i64 (n : Int), .int .i64 0, .int .i64 0, .int .i64 0, .int .i64 0, .int .i64 0, .int .i64 0, .int .i64 0, .slice none 0 0]) ((HD.out.set 2 (.string T) #[.int .i64 0, .int .i64 st, .string T, .int .i64 0, .int .i64 0, .int .i64 0, .int .i64 (n : Int), .int .i64 0, .int .i64 0, .int .i64 0, .int .i64 0, .int .i64 0, .int .i64 0, .int .i64 0, .slice none 0 0] rfl).set 3 (.int .i64 v1) #[.int .i64 0, .int .i64 st, .string T, .int .i64 v1, .int .i64 0, .int .i64 0, .int .i64 (n : Int), .int .i64 0, .int .i64 0, .int .i64 0, .int .i64 0, .int .i64 0, .int .i64 0, .int .i64 0, .slice none 0 0] rfl) ?_
  clear HD
  intro W5 hd5
  have HD := Lib.hid hd5
  clear hd5 y2 z2 y3 z3 y10 y12
  go_wp2_with (first | (refine wp_loadB rfl (.tmp 12) _ rfl rfl HD.out.b2 HI.out HG.out ?_) | (refine wp_storeB rfl (.tmp 8) (.tmp 244) _ rfl rfl rfl HD.out.b0 HI.out rfl (by simp [Value.oneCell']) ?_) | fail)
  intro W6 hb6 ho6
  have HB6 := Lib.hid hb6
  have HX := Lib.hid (HFIN.out W6 (HD.out.fin ho6))
  clear hb6 ho6
  go_wp2
  refine bodyPost_ret (results_c2 (fn := Try.f10) rfl rfl rfl rfl HB6.out HI.out HG.out) rfl ?_
  exact HX.out
set_option maxHeartbeats 6400000 in
theorem rp_0pn_empty (fl st : Int) (l : List UInt8) (hl : l.length ≤ 300) (w : World) (k : Nat) (hk : FirstB 0 fl st l k) (h0 : 0 ≤ fl) (h1 : fl ≤ 255) (hst : ¬ st = 0) (hp8 : hasB fl 8 = true) (p : Nat) (hpp : (l.getD 0 0).toNat = p) (hn0 : l.length = 0) :
    Calls Try.prog 10 #[.int .i64 0, .int .i64 fl, .int .i64 st, .string (strB l)] w (DocP 0 st (l.length : Int) (prsF 0 fl st l k) w) := by
  have hah : aheadN 0 fl = 1 := by simp [aheadN, pdB, wgB, hst, hp8]
  have hpad : padN 0 fl l = p := by
    unfold padN
    rw [show pdB 0 fl = true by simp [pdB, hst, hp8]]
    simp; simpa using hpp
  have htx : textL 0 fl l = (l.drop 1).take (l.length - p - 1) := by unfold textL; rw [hah, hpad]
  have hp : prsF 0 fl st l k = (PR0, 106, true) := prs_at hk (k0 := 1) ⟨by omega, fun j hj => by
    have hjj : j = 0 := by omega
    rcases hjj with rfl <;> (simp [lookB, srB, szB, wgB, pdB, hah, hpad, hst, hp8, hn0]; try omega), fun hh => by simp [lookB, srB, szB, wgB, pdB, hah, hpad, hst, hp8, hn0]; try omega⟩ (by simp [prsF, lkC, lkD])
  rw [hp]
  have HBAD : Hid (∀ W, Fresh w W → DocP 0 st (l.length : Int) (PR0, 106, true) w (.returned (.tuple #[.agg #[.int .i64 0, .int .i64 st, .string ByteArray.empty, .int .i64 0, .int .i64 0, .int .i64 0, .int .i64 ((l.length : Int)), .int .i64 0, .int .i64 0, .int .i64 0, .int .i64 0, .int .i64 0, .int .i64 0, .int .i64 0, .slice none 0 0], .int .i64 106, .int .i64 1])) W) := Lib.hid (fun W h => docP_bad h)
  generalize DocP 0 st (l.length : Int) (PR0, 106, true) w = PP at *
  clear hp hk
  have HFL8 := Lib.hid (fun W => rf_flag fl h0 h1 8 (by omega) 1 (by rw [hp8]; rfl) W)
  have hz : (strB l).size = l.length := strB_size l
  have i1 : ((l.length : Int) == 0) = true := by rw [beq_iff_eq]; omega
  have hs1 : (st == 0) = false := by simpa using hst
  clear hah hpad htx hpp
  generalize l.length = n at *
  generalize strB l = S at *
  clear hn0 hst hp8
  have HI := Lib.hid (show (Try.prog.info? 35).map (·.size) = some 15 by kernel_rfl)
  have HG := Lib.hid (fun w => (show (isAgg 35).run Try.prog w = .ok true w by simp [isAgg, go_sem]))
  go_enter Try.func10, Try.ntmps10
  go_upto_region 1 with fail
  refine wp_gen (fun W => Blk W w.heap.size 35 #[.int .i64 0, .int .i64 0, .string ByteArray.empty, .int .i64 0, .int .i64 0, .int .i64 0, .int .i64 0, .int .i64 0, .int .i64 0, .int .i64 0, .int .i64 0, .int .i64 0, .int .i64 0, .int .i64 0, .slice none 0 0] ∧ Fresh w W) ⟨Blk.new _ _ _, Fresh.alloc _ _⟩ ?_
  rintro W0 ⟨hz0, hf0⟩
  obtain ⟨b, hb⟩ : ∃ b, w.heap.size = b := ⟨_, rfl⟩
  have HB := Lib.hid hb
  have HF0 := Lib.hid hf0
  rw [hb] at hz0 ⊢
  have HZ0 := Lib.hid hz0
  clear hb hf0 hz0
  go_upto_region 2 with (first | (refine wp_storeB rfl (.tmp 11) (.tmp 17) _ rfl rfl rfl (Blk.new _ _ _) HI.out rfl (by simp [Value.oneCell']) ?_) | fail)
  intro W1 hb1 ho1
  obtain ⟨c, hc⟩ : ∃ c, W0.heap.size = c := ⟨_, rfl⟩
  have HC := Lib.hid hc
  rw [hc] at hb1 ⊢
  have HF1 : Hid (Fresh W0 W1) := Lib.hid (Only.fresh ((Only.of_fresh (Fresh.alloc _ _)).trans ho1) (fun i hi e => by omega))
  have HB1 : Hid (Blk W1 c 35 #[.int .i64 0, .int .i64 st, .string ByteArray.empty, .int .i64 0, .int .i64 0, .int .i64 0, .int .i64 0, .int .i64 0, .int .i64 0, .int .i64 0, .int .i64 0, .int .i64 0, .int .i64 0, .int .i64 0, .slice none 0 0]) := Lib.hid hb1
  clear hb1 ho1 hc
  have yc := HB1.out.cell 6
  have zc := HB1.out.frozen 6
  simp at yc
  go_upto_region 4 with fail
  refine wp_gen (fun W => Blk W c 35 #[.int .i64 0, .int .i64 st, .string ByteArray.empty, .int .i64 0, .int .i64 0, .int .i64 0, .int .i64 (n : Int), .int .i64 0, .int .i64 0, .int .i64 0, .int .i64 0, .int .i64 0, .int .i64 0, .int .i64 0, .slice none 0 0] ∧ Fresh W0 W) ⟨HB1.out.set2 rfl, HF1.out.step _ _ (by have := HC.out; simp only; omega)⟩ ?_
  clear yc zc
  clear HB1 HF1
  rintro W1 ⟨hb1, hf1⟩
  have HB1 := Lib.hid hb1
  have HF1 := Lib.hid hf1
  clear hb1 hf1
  go_upto_region 5 with (first | (refine wp_loadB rfl (.tmp 11) _ rfl rfl HB1.out HI.out HG.out ?_) | (refine wp_storeB rfl (.tmp 12) (.tmp 23) _ rfl rfl rfl (Blk.new _ _ _) HI.out rfl (by simp [Value.oneCell']) ?_) | fail)
  intro W2 hb2 ho2
  obtain ⟨d, hd⟩ : ∃ d, W1.heap.size = d := ⟨_, rfl⟩
  have HD : Hid (DX w W2 b c d #[.int .i64 0, .int .i64 st, .string ByteArray.empty, .int .i64 0, .int .i64 0, .int .i64 0, .int .i64 (n : Int), .int .i64 0, .int .i64 0, .int .i64 0, .int .i64 0, .int .i64 0, .int .i64 0, .int .i64 0, .slice none 0 0] #[.int .i64 0, .int .i64 st, .string ByteArray.empty, .int .i64 0, .int .i64 0, .int .i64 0, .int .i64 (n : Int), .int .i64 0, .int .i64 0, .int .i64 0, .int .i64 0, .int .i64 0, .int .i64 0, .int .i64 0, .slice none 0 0]) := Lib.hid (by
    have hf2 : Fresh W1 W2 := Only.fresh ((Only.of_fresh (Fresh.alloc _ _)).trans ho2) (fun i hi e => by omega)
    exact ⟨HF0.out.trans (HF1.out.trans hf2), Nat.le_of_eq HB.out, by have := HZ0.out.lt; have := HC.out; omega, by have := HB1.out.lt; omega, (HZ0.out.fresh HF1.out).fresh hf2, HB1.out.fresh hf2, by rw [← hd]; exact hb2⟩)
  rw [hd]
  clear hb2 ho2 hd HF0 HF1 HZ0 HB1 HC HB
  go_wp2_with (first | (refine wp_loadB rfl (.tmp 11) _ rfl rfl HD.out.b1 HI.out HG.out ?_) | (refine wp_storeB rfl (.tmp 8) (.tmp 119) _ rfl rfl rfl HD.out.b0 HI.out rfl (by simp [Value.oneCell']) ?_) | (go_at_call 17; with_reducible refine (HFL8.out _).mono ?_; rintro e w2 ⟨rfl, rfl⟩) | fail)
  intro W4 hb4 ho4
  have HB4 := Lib.hid hb4
  have HX := Lib.hid (HBAD.out W4 (HD.out.fin ho4))
  clear hb4 ho4
  go_wp2
  refine bodyPost_ret (results_c2 (fn := Try.f10) rfl rfl rfl rfl HB4.out HI.out HG.out) rfl ?_
  exact HX.out
set_option maxHeartbeats 6400000 in
theorem rp_0pn_pad (fl st : Int) (l : List UInt8) (hl : l.length ≤ 300) (w : World) (k : Nat) (hk : FirstB 0 fl st l k) (h0 : 0 ≤ fl) (h1 : fl ≤ 255) (hst : ¬ st = 0) (hp8 : hasB fl 8 = true) (p : Nat) (hpp : (l.getD 0 0).toNat = p) (hn0 : 1 ≤ l.length) (hq : l.length < p + 1) :
    Calls Try.prog 10 #[.int .i64 0, .int .i64 fl, .int .i64 st, .string (strB l)] w (DocP 0 st (l.length : Int) (prsF 0 fl st l k) w) := by
  have hah : aheadN 0 fl = 1 := by simp [aheadN, pdB, wgB, hst, hp8]
  have hpad : padN 0 fl l = p := by
    unfold padN
    rw [show pdB 0 fl = true by simp [pdB, hst, hp8]]
    simp; simpa using hpp
  have htx : textL 0 fl l = (l.drop 1).take (l.length - p - 1) := by unfold textL; rw [hah, hpad]
  have hp : prsF 0 fl st l k = (PR0, 101, true) := prs_at hk (k0 := 2) ⟨by omega, fun j hj => by
    have hjj : j = 0 ∨ j = 1 := by omega
    rcases hjj with rfl | rfl <;> (simp [lookB, srB, szB, wgB, pdB, hah, hpad, hst, hp8]; try omega), fun hh => by simp [lookB, srB, szB, wgB, pdB, hah, hpad, hst, hp8]; try omega⟩ (by simp [prsF, lkC, lkD])
  rw [hp]
  have HBAD : Hid (∀ W, Fresh w W → DocP 0 st (l.length : Int) (PR0, 101, true) w (.returned (.tuple #[.agg #[.int .i64 0, .int .i64 st, .string ByteArray.empty, .int .i64 0, .int .i64 0, .int .i64 0, .int .i64 ((l.length : Int)), .int .i64 0, .int .i64 0, .int .i64 0, .int .i64 0, .int .i64 0, .int .i64 0, .int .i64 0, .slice none 0 0], .int .i64 101, .int .i64 1])) W) := Lib.hid (fun W h => docP_bad h)
  generalize DocP 0 st (l.length : Int) (PR0, 101, true) w = PP at *
  clear hp hk
  have HFL8 := Lib.hid (fun W => rf_flag fl h0 h1 8 (by omega) 1 (by rw [hp8]; rfl) W)
  have hz : (strB l).size = l.length := strB_size l
  have hy3 : ∀ h : 0 < (strB l).size, ((strB l)[0]).toNat = p := fun h => by
    have h3 : 0 < l.length := by omega
    rw [List.getD_eq_getElem?_getD, List.getElem?_eq_getElem h3] at hpp
    exact hpp
  have hy4 : ∃ y : UInt8, (∀ h : 0 < (strB l).size, (strB l)[0] = y) ∧ y.toNat = p := by
    have h3 : 0 < (strB l).size := by rw [hz]; omega
    exact ⟨(strB l)[0], fun _ => rfl, hy3 h3⟩
  obtain ⟨y, hy5, hy6⟩ := hy4
  have hy7 := UInt8.toNat_lt y
  have hz1 : (strB (l.drop 1)).size = l.length - 1 := by rw [strB_size, List.length_drop]
  have e1 : (strB l).extract 1 l.length = strB (l.drop 1) := by rw [strE, List.take_length]
  obtain ⟨m1, hm1⟩ : ∃ m1, l.length - 1 = m1 := ⟨_, rfl⟩
  have i1 : (1 : Int) ≤ (l.length : Int) := by omega
  have i2 : (0 : Int) < (l.length : Int) := by omega
  have i5 : (m1 : Int) < (p : Int) := by omega
  have i0 : ((l.length : Int) == 0) = false := by rw [beq_eq_false_iff_ne]; omega
  have hs1 : (st == 0) = false := by simpa using hst
  clear hah hpad htx hpp
  clear hy3
  rw [hm1] at hz1
  generalize l.length = n at *
  generalize strB (l.drop 1) = S1 at *
  generalize strB l = S at *
  clear hn0 hq hst hp8
  clear hm1
  subst hy6
  have HI := Lib.hid (show (Try.prog.info? 35).map (·.size) = some 15 by kernel_rfl)
  have HG := Lib.hid (fun w => (show (isAgg 35).run Try.prog w = .ok true w by simp [isAgg, go_sem]))
  go_enter Try.func10, Try.ntmps10
  go_upto_region 1 with fail
  refine wp_gen (fun W => Blk W w.heap.size 35 #[.int .i64 0, .int .i64 0, .string ByteArray.empty, .int .i64 0, .int .i64 0, .int .i64 0, .int .i64 0, .int .i64 0, .int .i64 0, .int .i64 0, .int .i64 0, .int .i64 0, .int .i64 0, .int .i64 0, .slice none 0 0] ∧ Fresh w W) ⟨Blk.new _ _ _, Fresh.alloc _ _⟩ ?_
  rintro W0 ⟨hz0, hf0⟩
  obtain ⟨b, hb⟩ : ∃ b, w.heap.size = b := ⟨_, rfl⟩
  have HB := Lib.hid hb
  have HF0 := Lib.hid hf0
  rw [hb] at hz0 ⊢
  have HZ0 := Lib.hid hz0
  clear hb hf0 hz0
  go_upto_region 2 with (first | (refine wp_storeB rfl (.tmp 11) (.tmp 17) _ rfl rfl rfl (Blk.new _ _ _) HI.out rfl (by simp [Value.oneCell']) ?_) | fail)
  intro W1 hb1 ho1
  obtain ⟨c, hc⟩ : ∃ c, W0.heap.size = c := ⟨_, rfl⟩
  have HC := Lib.hid hc
  rw [hc] at hb1 ⊢
  have HF1 : Hid (Fresh W0 W1) := Lib.hid (Only.fresh ((Only.of_fresh (Fresh.alloc _ _)).trans ho1) (fun i hi e => by omega))
  have HB1 : Hid (Blk W1 c 35 #[.int .i64 0, .int .i64 st, .string ByteArray.empty, .int .i64 0, .int .i64 0, .int .i64 0, .int .i64 0, .int .i64 0, .int .i64 0, .int .i64 0, .int .i64 0, .int .i64 0, .int .i64 0, .int .i64 0, .slice none 0 0]) := Lib.hid hb1
  clear hb1 ho1 hc
  have yc := HB1.out.cell 6
  have zc := HB1.out.frozen 6
  simp at yc
  go_upto_region 4 with fail
  refine wp_gen (fun W => Blk W c 35 #[.int .i64 0, .int .i64 st, .string ByteArray.empty, .int .i64 0, .int .i64 0, .int .i64 0, .int .i64 (n : Int), .int .i64 0, .int .i64 0, .int .i64 0, .int .i64 0, .int .i64 0, .int .i64 0, .int .i64 0, .slice none 0 0] ∧ Fresh W0 W) ⟨HB1.out.set2 rfl, HF1.out.step _ _ (by have := HC.out; simp only; omega)⟩ ?_
  clear yc zc
  clear HB1 HF1
  rintro W1 ⟨hb1, hf1⟩
  have HB1 := Lib.hid hb1
  have HF1 := Lib.hid hf1
  clear hb1 hf1
  go_upto_region 5 with (first | (refine wp_loadB rfl (.tmp 11) _ rfl rfl HB1.out HI.out HG.out ?_) | (refine wp_storeB rfl (.tmp 12) (.tmp 23) _ rfl rfl rfl (Blk.new _ _ _) HI.out rfl (by simp [Value.oneCell']) ?_) | fail)
  intro W2 hb2 ho2
  obtain ⟨d, hd⟩ : ∃ d, W1.heap.size = d := ⟨_, rfl⟩
  have HD : Hid (DX w W2 b c d #[.int .i64 0, .int .i64 st, .string ByteArray.empty, .int .i64 0, .int .i64 0, .int .i64 0, .int .i64 (n : Int), .int .i64 0, .int .i64 0, .int .i64 0, .int .i64 0, .int .i64 0, .int .i64 0, .int .i64 0, .slice none 0 0] #[.int .i64 0, .int .i64 st, .string ByteArray.empty, .int .i64 0, .int .i64 0, .int .i64 0, .int .i64 (n : Int), .int .i64 0, .int .i64 0, .int .i64 0, .int .i64 0, .int .i64 0, .int .i64 0, .int .i64 0, .slice none 0 0]) := Lib.hid (by
    have hf2 : Fresh W1 W2 := Only.fresh ((Only.of_fresh (Fresh.alloc _ _)).trans ho2) (fun i hi e => by omega)
    exact ⟨HF0.out.trans (HF1.out.trans hf2), Nat.le_of_eq HB.out, by have := HZ0.out.lt; have := HC.out; omega, by have := HB1.out.lt; omega, (HZ0.out.fresh HF1.out).fresh hf2, HB1.out.fresh hf2, by rw [← hd]; exact hb2⟩)
  rw [hd]
  clear hb2 ho2 hd HF0 HF1 HZ0 HB1 HC HB
  go_wp2_with (first | (refine wp_loadB rfl (.tmp 11) _ rfl rfl HD.out.b1 HI.out HG.out ?_) | (refine wp_storeB rfl (.tmp 8) (.tmp 145) _ rfl rfl rfl HD.out.b0 HI.out rfl (by simp [Value.oneCell']) ?_) | (go_at_call 17; with_reducible refine (HFL8.out _).mono ?_; rintro e w2 ⟨rfl, rfl⟩) | fail)
  intro W4 hb4 ho4
  have HB4 := Lib.hid hb4
  have HX := Lib.hid (HBAD.out W4 (HD.out.fin ho4))
  clear hb4 ho4
  go_wp2
  refine bodyPost_ret (results_c2 (fn := Try.f10) rfl rfl rfl rfl HB4.out HI.out HG.out) rfl ?_
  exact HX.out
set_option maxHeartbeats 6400000 in
theorem rp_0pn_ok (fl st : Int) (l : List UInt8) (hl : l.length ≤ 300) (w : World) (k : Nat) (hk : FirstB 0 fl st l k) (h0 : 0 ≤ fl) (h1 : fl ≤ 255) (hst : ¬ st = 0) (hp8 : hasB fl 8 = true) (p : Nat) (hpp : (l.getD 0 0).toNat = p) (hn0 : p + 1 ≤ l.length) :
    Calls Try.prog 10 #[.int .i64 0, .int .i64 fl, .int .i64 st, .string (strB l)] w (DocP 0 st (l.length : Int) (prsF 0 fl st l k) w) := by
  have hah : aheadN 0 fl = 1 := by simp [aheadN, pdB, wgB, hst, hp8]
  have hpad : padN 0 fl l = p := by
    unfold padN
    rw [show pdB 0 fl = true by simp [pdB, hst, hp8]]
    simp; simpa using hpp
  have htx : textL 0 fl l = (l.drop 1).take (l.length - p - 1) := by unfold textL; rw [hah, hpad]
  have hp : prsF 0 fl st l k = (⟨(l.drop 1).take (l.length - p - 1), hasB fl 1, false, false, 0, 0, 0, 0, 0, false, false, []⟩, 0, false) := prs_at hk (k0 := 6) ⟨by omega, fun j hj => by
    have hjj : j = 0 ∨ j = 1 ∨ j = 2 ∨ j = 3 ∨ j = 4 ∨ j = 5 := by omega
    rcases hjj with rfl | rfl | rfl | rfl | rfl | rfl <;> (simp [lookB, srB, szB, wgB, pdB, hah, hpad, hst, hp8, htx]; try omega), fun hh => by omega⟩ (by rw [prsF, if_neg (by omega)]; simp [prOf, PR0, wgB, hah, hpad, hst, hp8, htx])
  rw [hp]
  have HFIN : Hid (∀ W, Fresh w W → DocP 0 st (l.length : Int) (⟨(l.drop 1).take (l.length - p - 1), hasB fl 1, false, false, 0, 0, 0, 0, 0, false, false, []⟩, 0, false) w (.returned (.tuple #[.agg #[.int .i64 0, .int .i64 st, .string (strB ((l.drop 1).take (l.length - p - 1))), .int .i64 (b2i (hasB fl 1)), .int .i64 0, .int .i64 0, .int .i64 (l.length : Int), .int .i64 0, .int .i64 0, .int .i64 0, .int .i64 0, .int .i64 0, .int .i64 0, .int .i64 0, .slice none 0 0], .int .i64 0, .int .i64 0])) W) := Lib.hid (fun W h => docP_ok h)
  generalize DocP 0 st (l.length : Int) (⟨(l.drop 1).take (l.length - p - 1), hasB fl 1, false, false, 0, 0, 0, 0, 0, false, false, []⟩, 0, false) w = PP at *
  clear hp hk
  have HFL8 := Lib.hid (fun W => rf_flag fl h0 h1 8 (by omega) 1 (by rw [hp8]; rfl) W)
  have HFL1 := Lib.hid (fun W => rf_flag fl h0 h1 1 (by omega) _ rfl W)
  have hv1 := b2i_bd (hasB fl 1)
  generalize b2i (hasB fl 1) = v1 at *
  have hz : (strB l).size = l.length := strB_size l
  have hy3 : ∀ h : 0 < (strB l).size, ((strB l)[0]).toNat = p := fun h => by
    have h3 : 0 < l.length := by omega
    rw [List.getD_eq_getElem?_getD, List.getElem?_eq_getElem h3] at hpp
    exact hpp
  have hy4 : ∃ y : UInt8, (∀ h : 0 < (strB l).size, (strB l)[0] = y) ∧ y.toNat = p := by
    have h3 : 0 < (strB l).size := by rw [hz]; omega
    exact ⟨(strB l)[0], fun _ => rfl, hy3 h3⟩
  obtain ⟨y, hy5, hy6⟩ := hy4
  have hy7 := UInt8.toNat_lt y
  have hz1 : (strB (l.drop 1)).size = l.length - 1 := by rw [strB_size, List.length_drop]
  have e1 : (strB l).extract 1 l.length = strB (l.drop 1) := by rw [strE, List.take_length]
  obtain ⟨m1, hm1⟩ : ∃ m1, l.length - 1 = m1 := ⟨_, rfl⟩
  have i1 : (1 : Int) ≤ (l.length : Int) := by omega
  have i2 : (0 : Int) < (l.length : Int) := by omega
  have e3 : (strB (l.drop 1)).extract 0 (l.length - p - 1) = strB ((l.drop 1).take (l.length - p - 1)) := by rw [strE]; rfl
  obtain ⟨r, hr⟩ : ∃ r, l.length - p - 1 = r := ⟨_, rfl⟩
  obtain ⟨e5, e4, e7, i4, i5, i6⟩ := pd_nums hn0 hm1 hl hr
  rw [hr] at e3
  rw [hr] at HFIN
  generalize strB ((l.drop 1).take r) = T at *
  have i0 : ((l.length : Int) == 0) = false := by rw [beq_eq_false_iff_ne]; omega
  have hs1 : (st == 0) = false := by simpa using hst
  clear hah hpad htx hpp
  clear hy3
  rw [hm1] at hz1
  generalize l.length = n at *
  generalize strB (l.drop 1) = S1 at *
  generalize strB l = S at *
  clear hn0 hst hp8
  clear hm1
  subst hy6
  clear hr
  have HI := Lib.hid (show (Try.prog.info? 35).map (·.size) = some 15 by kernel_rfl)
  have HG := Lib.hid (fun w => (show (isAgg 35).run Try.prog w = .ok true w by simp [isAgg, go_sem]))
  go_enter Try.func10, Try.ntmps10
  go_upto_region 1 with fail
  refine wp_gen (fun W => Blk W w.heap.size 35 #[.int .i64 0, .int .i64 0, .string ByteArray.empty, .int .i64 0, .int .i64 0, .int .i64 0, .int .i64 0, .int .i64 0, .int .i64 0, .int .i64 0, .int .i64 0, .int .i64 0, .int .i64 0, .int .i64 0, .slice none 0 0] ∧ Fresh w W) ⟨Blk.new _ _ _, Fresh.alloc _ _⟩ ?_
  rintro W0 ⟨hz0, hf0⟩
  obtain ⟨b, hb⟩ : ∃ b, w.heap.size = b := ⟨_, rfl⟩
  have HB := Lib.hid hb
  have HF0 := Lib.hid hf0
  rw [hb] at hz0 ⊢
  have HZ0 := Lib.hid hz0
  clear hb hf0 hz0
  go_upto_region 2 with (first | (refine wp_storeB rfl (.tmp 11) (.tmp 17) _ rfl rfl rfl (Blk.new _ _ _) HI.out rfl (by simp [Value.oneCell']) ?_) | fail)
  intro W1 hb1 ho1
  obtain ⟨c, hc⟩ : ∃ c, W0.heap.size = c := ⟨_, rfl⟩
  have HC := Lib.hid hc
  rw [hc] at hb1 ⊢
  have HF1 : Hid (Fresh W0 W1) := Lib.hid (Only.fresh ((Only.of_fresh (Fresh.alloc _ _)).trans ho1) (fun i hi e => by omega))
  have HB1 : Hid (Blk W1 c 35 #[.int .i64 0, .int .i64 st, .string ByteArray.empty, .int .i64 0, .int .i64 0, .int .i64 0, .int .i64 0, .int .i64 0, .int .i64 0, .int .i64 0, .int .i64 0, .int .i64 0, .int .i64 0, .int .i64 0, .slice none 0 0]) := Lib.hid hb1
  clear hb1 ho1 hc
  have yc := HB1.out.cell 6
  have zc := HB1.out.frozen 6
  simp at yc
  go_upto_region 4 with fail
  refine wp_gen (fun W => Blk W c 35 #[.int .i64 0, .int .i64 st, .string ByteArray.empty, .int .i64 0, .int .i64 0, .int .i64 0, .int .i64 (n : Int), .int .i64 0, .int .i64 0, .int .i64 0, .int .i64 0, .int .i64 0, .int .i64 0, .int .i64 0, .slice none 0 0] ∧ Fresh W0 W) ⟨HB1.out.set2 rfl, HF1.out.step _ _ (by have := HC.out; simp only; omega)⟩ ?_
  clear yc zc
  clear HB1 HF1
  rintro W1 ⟨hb1, hf1⟩
  have HB1 := Lib.hid hb1
  have HF1 := Lib.hid hf1
  clear hb1 hf1
  go_upto_region 5 with (first | (refine wp_loadB rfl (.tmp 11) _ rfl rfl HB1.out HI.out HG.out ?_) | (refine wp_storeB rfl (.tmp 12) (.tmp 23) _ rfl rfl rfl (Blk.new _ _ _) HI.out rfl (by simp [Value.oneCell']) ?_) | fail)
  intro W2 hb2 ho2
  obtain ⟨d, hd⟩ : ∃ d, W1.heap.size = d := ⟨_, rfl⟩
  have HD : Hid (DX w W2 b c d #[.int .i64 0, .int .i64 st, .string ByteArray.empty, .int .i64 0, .int .i64 0, .int .i64 0, .int .i64 (n : Int), .int .i64 0, .int .i64 0, .int .i64 0, .int .i64 0, .int .i64 0, .int .i64 0, .int .i64 0, .slice none 0 0] #[.int .i64 0, .int .i64 st, .string ByteArray.empty, .int .i64 0, .int .i64 0, .int .i64 0, .int .i64 (n : Int), .int .i64 0, .int .i64 0, .int .i64 0, .int .i64 0, .int .i64 0, .int .i64 0, .int .i64 0, .slice none 0 0]) := Lib.hid (by
    have hf2 : Fresh W1 W2 := Only.fresh ((Only.of_fresh (Fresh.alloc _ _)).trans ho2) (fun i hi e => by omega)
    exact ⟨HF0.out.trans (HF1.out.trans hf2), Nat.le_of_eq HB.out, by have := HZ0.out.lt; have := HC.out; omega, by have := HB1.out.lt; omega, (HZ0.out.fresh HF1.out).fresh hf2, HB1.out.fresh hf2, by rw [← hd]; exact hb2⟩)
  rw [hd]
  clear hb2 ho2 hd HF0 HF1 HZ0 HB1 HC HB
  have y2 := HD.out.b2.cell 2
  have z2 := HD.out.b2.frozen 2
  have y3 := HD.out.b2.cell 3
  have z3 := HD.out.b2.frozen 3
  have y10 := HD.out.b2.cell 10
  have y12 := HD.out.b2.cell 12
  simp at y2 y3 y10 y12
  go_upto_region 61 with (first | (go_at_call 17; with_reducible refine (HFL8.out _).mono ?_; rintro e w2 ⟨rfl, rfl⟩) | (go_at_call 17; with_reducible refine (HFL1.out _).mono ?_; rintro e w2 ⟨rfl, rfl⟩) | fail)
  refine wp_gen (fun W => DX w W b c d #[.int .i64 0, .int .i64 st, .string ByteArray.empty, .int .i64 0, .int .i64 0, .int .i64 0, .int .i64 (n : Int), .int .i64 0, .int .i64 0, .int .i64 0, .int .i64 0, .int .i64 0, .int .i64 0, .int .i64 0, .slice none 0 0] #[.int .i64 0, .int .i64 st, .string T, .int .i64 v1, .int .i64 0, .int .i64 0, .int .i64 (n : Int), .int .i64 0, .int .i64 0, .int .i64 0, .int .i64 0, .int .i64 0, .int .i64 0, .int .i64 0, .slice none 0 0]) ((HD.out.set 2 (.string T) #[.int .i64 0, .int .i64 st, .string T, .int .i64 0, .int .i64 0, .int .i64 0, .int .i64 (n : Int), .int .i64 0, .int .i64 0, .int .i64 0, .int .i64 0, .int .i64 0, .int .i64 0, .int .i64 0, .slice none 0 0] rfl).set 3 (.int .i64 v1) #[.int .i64 0, .int .i64 st, .string T, .int .i64 v1, .int .i64 0, .int .i64 0, .int .i64 (n : Int), .int .i64 0, .int .i64 0, .int .i64 0, .int .i64 0, .int .i64 0, .int .i64 0, .int .i64 0, .slice none 0 0] rfl) ?_
  clear HD
  intro W5 hd5
  have HD := Lib.hid hd5
  clear hd5 y2 z2 y3 z3 y10 y12
  go_wp2_with (first | (refine wp_loadB rfl (.tmp 12) _ rfl rfl HD.out.b2 HI.out HG.out ?_) | (refine wp_storeB rfl (.tmp 8) (.tmp 244) _ rfl rfl rfl HD.out.b0 HI.out rfl (by simp [Value.oneCell']) ?_) | fail)
  intro W6 hb6 ho6
  have HB6 := Lib.hid hb6
  have HX := Lib.hid (HFIN.out W6 (HD.out.fin ho6))
  clear hb6 ho6
  go_wp2
  refine bodyPost_ret (results_c2 (fn := Try.f10) rfl rfl rfl rfl HB6.out HI.out HG.out) rfl ?_
  exact HX.out
end Go.Proofs.Ytcdghmidpaeloaa

