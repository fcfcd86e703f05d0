/-
  The document's answer for layer 10: Parse, type by type: reset, ping, goaway, continuation, others.
-/
import Derived.Test.YtcdghmidpaeloaaPayV
namespace Go.Proofs.Ytcdghmidpaeloaa
set_option maxRecDepth 100000
set_option linter.unusedVariables false
set_option linter.unusedSimpArgs false
open Go.RowKit
set_option maxHeartbeats 6400000 in
theorem rp_3_n (fl st : Int) (l : List UInt8) (hl : l.length ≤ 300) (w : World) (k : Nat) (hk : FirstB 3 fl st l k) (h0 : 0 ≤ fl) (h1 : fl ≤ 255) (hst : ¬ st = 0) (hn4 : ¬ l.length = 4) :
    Calls Try.prog 10 #[.int .i64 3, .int .i64 fl, .int .i64 st, .string (strB l)] w (DocP 3 st 0 (prsF 3 fl st l k) w) := by
  have hp : prsF 3 fl st l k = (PR0, 106, true) := prs_at hk (k0 := 1) ⟨by omega, fun j hj => by
    have hjj : j = 0 := by omega
    rcases hjj with rfl <;> (simp [lookB, srB, szB, aheadN, padN, pdB, wgB, depN, wtL, fromN, incN, hst, hn4]; try omega), fun hh => by simp [lookB, srB, szB, aheadN, padN, pdB, wgB, depN, wtL, fromN, incN, hst, hn4]; try omega⟩ (by simp [prsF, lkC, lkD])
  rw [hp]
  have HBAD : Hid (∀ W, Fresh w W → DocP 3 st 0 (PR0, 106, true) w (.returned (.tuple #[.agg #[.int .i64 3, .int .i64 st, .string ByteArray.empty, .int .i64 0, .int .i64 0, .int .i64 0, .int .i64 0, .int .i64 0, .int .i64 0, .int .i64 0, .int .i64 0, .int .i64 0, .int .i64 0, .int .i64 0, .slice none 0 0], .int .i64 106, .int .i64 1])) W) := Lib.hid (fun W h => docP_bad h)
  generalize DocP 3 st 0 (PR0, 106, true) w = PP at *
  clear hp hk
  have hz : (strB l).size = l.length := strB_size l
  obtain ⟨n, hn⟩ : ∃ n, l.length = n := ⟨_, rfl⟩
  have HN := Lib.hid hn
  rw [hn] at hn4 hl hz
  generalize strB l = S at *
  have hs1 : (st == 0) = false := by simpa using hst
  have hn5 : ((n : Int) == 4) = false := by simp; omega
  clear hn
  have HI := Lib.hid (show (Try.prog.info? 35).map (·.size) = some 15 by kernel_rfl)
  have HG := Lib.hid (fun w => (show (isAgg 35).run Try.prog w = .ok true w by simp [isAgg, go_sem]))
  go_enter Try.func10, Try.ntmps10
  go_upto_region 1 with fail
  refine wp_gen (fun W => Blk W w.heap.size 35 #[.int .i64 0, .int .i64 0, .string ByteArray.empty, .int .i64 0, .int .i64 0, .int .i64 0, .int .i64 0, .int .i64 0, .int .i64 0, .int .i64 0, .int .i64 0, .int .i64 0, .int .i64 0, .int .i64 0, .slice none 0 0] ∧ Fresh w W) ⟨Blk.new _ _ _, Fresh.alloc _ _⟩ ?_
  rintro W0 ⟨hz0, hf0⟩
  obtain ⟨b, hb⟩ : ∃ b, w.heap.size = b := ⟨_, rfl⟩
  have HB := Lib.hid hb
  have HF0 := Lib.hid hf0
  rw [hb] at hz0 ⊢
  have HZ0 := Lib.hid hz0
  clear hb hf0 hz0
  go_upto_region 2 with (first | (refine wp_storeB rfl (.tmp 11) (.tmp 17) _ rfl rfl rfl (Blk.new _ _ _) HI.out rfl (by simp [Value.oneCell']) ?_) | fail)
  intro W1 hb1 ho1
  obtain ⟨c, hc⟩ : ∃ c, W0.heap.size = c := ⟨_, rfl⟩
  have HC := Lib.hid hc
  rw [hc] at hb1 ⊢
  have HF1 : Hid (Fresh W0 W1) := Lib.hid (Only.fresh ((Only.of_fresh (Fresh.alloc _ _)).trans ho1) (fun i hi e => by omega))
  have HB1 : Hid (Blk W1 c 35 #[.int .i64 3, .int .i64 st, .string ByteArray.empty, .int .i64 0, .int .i64 0, .int .i64 0, .int .i64 0, .int .i64 0, .int .i64 0, .int .i64 0, .int .i64 0, .int .i64 0, .int .i64 0, .int .i64 0, .slice none 0 0]) := Lib.hid hb1
  clear hb1 ho1 hc
  go_upto_region 5 with (first | (refine wp_loadB rfl (.tmp 11) _ rfl rfl HB1.out HI.out HG.out ?_) | (refine wp_storeB rfl (.tmp 12) (.tmp 23) _ rfl rfl rfl (Blk.new _ _ _) HI.out rfl (by simp [Value.oneCell']) ?_) | fail)
  intro W2 hb2 ho2
  obtain ⟨d, hd⟩ : ∃ d, W1.heap.size = d := ⟨_, rfl⟩
  have HD : Hid (DX w W2 b c d #[.int .i64 3, .int .i64 st, .string ByteArray.empty, .int .i64 0, .int .i64 0, .int .i64 0, .int .i64 0, .int .i64 0, .int .i64 0, .int .i64 0, .int .i64 0, .int .i64 0, .int .i64 0, .int .i64 0, .slice none 0 0] #[.int .i64 3, .int .i64 st, .string ByteArray.empty, .int .i64 0, .int .i64 0, .int .i64 0, .int .i64 0, .int .i64 0, .int .i64 0, .int .i64 0, .int .i64 0, .int .i64 0, .int .i64 0, .int .i64 0, .slice none 0 0]) := Lib.hid (by
    have hf2 : Fresh W1 W2 := Only.fresh ((Only.of_fresh (Fresh.alloc _ _)).trans ho2) (fun i hi e => by omega)
    exact ⟨HF0.out.trans (HF1.out.trans hf2), Nat.le_of_eq HB.out, by have := HZ0.out.lt; have := HC.out; omega, by have := HB1.out.lt; omega, (HZ0.out.fresh HF1.out).fresh hf2, HB1.out.fresh hf2, by rw [← hd]; exact hb2⟩)
  rw [hd]
  clear hb2 ho2 hd HF0 HF1 HZ0 HB1 HC HB
  go_wp2_with (first | (refine wp_loadB rfl (.tmp 11) _ rfl rfl HD.out.b1 HI.out HG.out ?_) | (refine wp_storeB rfl (.tmp 8) (.tmp 103) _ rfl rfl rfl HD.out.b0 HI.out rfl (by simp [Value.oneCell']) ?_) | fail)
  intro W4 hb4 ho4
  have HB4 := Lib.hid hb4
  have HX := Lib.hid (HBAD.out W4 (HD.out.fin ho4))
  clear hb4 ho4
  go_wp2
  refine bodyPost_ret (results_c2 (fn := Try.f10) rfl rfl rfl rfl HB4.out HI.out HG.out) rfl ?_
  exact HX.out
set_option maxHeartbeats 6400000 in
theorem rp_3_y (fl st : Int) (l : List UInt8) (hl : l.length ≤ 300) (w : World) (k : Nat) (hk : FirstB 3 fl st l k) (h0 : 0 ≤ fl) (h1 : fl ≤ 255) (hst : ¬ st = 0) (hn4 : l.length = 4) :
    Calls Try.prog 10 #[.int .i64 3, .int .i64 fl, .int .i64 st, .string (strB l)] w (DocP 3 st 0 (prsF 3 fl st l k) w) := by
  have hp : prsF 3 fl st l k = (⟨[], false, false, false, (numL l : Int), 0, 0, 0, 0, false, false, []⟩, 0, false) := prs_at hk (k0 := 6) ⟨by omega, fun j hj => by
    have hjj : j = 0 ∨ j = 1 ∨ j = 2 ∨ j = 3 ∨ j = 4 ∨ j = 5 := by omega
    rcases hjj with rfl | rfl | rfl | rfl | rfl | rfl <;> (simp [lookB, srB, szB, aheadN, padN, pdB, wgB, depN, wtL, fromN, incN, hst, hn4, List.take_of_length_le (Nat.le_of_eq hn4)]; try omega), fun hh => by omega⟩ (by rw [prsF, if_neg (by omega)]; simp [prOf, PR0, incN, depN, wtL, fromN, pdB, wgB, hst, hn4, List.take_of_length_le (Nat.le_of_eq hn4)])
  rw [hp]
  have HFIN : Hid (∀ W, Fresh w W → DocP 3 st 0 (⟨[], false, false, false, (numL l : Int), 0, 0, 0, 0, false, false, []⟩, 0, false) w (.returned (.tuple #[.agg #[.int .i64 3, .int .i64 st, .string ByteArray.empty, .int .i64 0, .int .i64 0, .int .i64 0, .int .i64 0, .int .i64 (numL l : Int), .int .i64 0, .int .i64 0, .int .i64 0, .int .i64 0, .int .i64 0, .int .i64 0, .slice none 0 0], .int .i64 0, .int .i64 0])) W) := Lib.hid (fun W h => docP_ok h)
  generalize DocP 3 st 0 (⟨[], false, false, false, (numL l : Int), 0, 0, 0, 0, false, false, []⟩, 0, false) w = PP at *
  clear hp hk
  have HWD := Lib.hid (fun W => rf_word l (by omega) _ rfl W)
  generalize numL l = q at *
  have hz : (strB l).size = l.length := strB_size l
  obtain ⟨n, hn⟩ : ∃ n, l.length = n := ⟨_, rfl⟩
  have HN := Lib.hid hn
  rw [hn] at hn4 hl hz
  generalize strB l = S at *
  have hs1 : (st == 0) = false := by simpa using hst
  have hn5 : ((n : Int) == 4) = true := by simp; omega
  clear hn
  have HI := Lib.hid (show (Try.prog.info? 35).map (·.size) = some 15 by kernel_rfl)
  have HG := Lib.hid (fun w => (show (isAgg 35).run Try.prog w = .ok true w by simp [isAgg, go_sem]))
  go_enter Try.func10, Try.ntmps10
  go_upto_region 1 with fail
  refine wp_gen (fun W => Blk W w.heap.size 35 #[.int .i64 0, .int .i64 0, .string ByteArray.empty, .int .i64 0, .int .i64 0, .int .i64 0, .int .i64 0, .int .i64 0, .int .i64 0, .int .i64 0, .int .i64 0, .int .i64 0, .int .i64 0, .int .i64 0, .slice none 0 0] ∧ Fresh w W) ⟨Blk.new _ _ _, Fresh.alloc _ _⟩ ?_
  rintro W0 ⟨hz0, hf0⟩
  obtain ⟨b, hb⟩ : ∃ b, w.heap.size = b := ⟨_, rfl⟩
  have HB := Lib.hid hb
  have HF0 := Lib.hid hf0
  rw [hb] at hz0 ⊢
  have HZ0 := Lib.hid hz0
  clear hb hf0 hz0
  go_upto_region 2 with (first | (refine wp_storeB rfl (.tmp 11) (.tmp 17) _ rfl rfl rfl (Blk.new _ _ _) HI.out rfl (by simp [Value.oneCell']) ?_) | fail)
  intro W1 hb1 ho1
  obtain ⟨c, hc⟩ : ∃ c, W0.heap.size = c := ⟨_, rfl⟩
  have HC := Lib.hid hc
  rw [hc] at hb1 ⊢
  have HF1 : Hid (Fresh W0 W1) := Lib.hid (Only.fresh ((Only.of_fresh (Fresh.alloc _ _)).trans ho1) (fun i hi e => by omega))
  have HB1 : Hid (Blk W1 c 35 #[.int .i64 3, .int .i64 st, .string ByteArray.empty, .int .i64 0, .int .i64 0, .int .i64 0, .int .i64 0, .int .i64 0, .int .i64 0, .int .i64 0, .int .i64 0, .int .i64 0, .int .i64 0, .int .i64 0, .slice none 0 0]) := Lib.hid hb1
  clear hb1 ho1 hc
  go_upto_region 5 with (first | (refine wp_loadB rfl (.tmp 11) _ rfl rfl HB1.out HI.out HG.out ?_) | (refine wp_storeB rfl (.tmp 12) (.tmp 23) _ rfl rfl rfl (Blk.new _ _ _) HI.out rfl (by simp [Value.oneCell']) ?_) | fail)
  intro W2 hb2 ho2
  obtain ⟨d, hd⟩ : ∃ d, W1.heap.size = d := ⟨_, rfl⟩
  have HD : Hid (DX w W2 b c d #[.int .i64 3, .int .i64 st, .string ByteArray.empty, .int .i64 0, .int .i64 0, .int .i64 0, .int .i64 0, .int .i64 0, .int .i64 0, .int .i64 0, .int .i64 0, .int .i64 0, .int .i64 0, .int .i64 0, .slice none 0 0] #[.int .i64 3, .int .i64 st, .string ByteArray.empty, .int .i64 0, .int .i64 0, .int .i64 0, .int .i64 0, .int .i64 0, .int .i64 0, .int .i64 0, .int .i64 0, .int .i64 0, .int .i64 0, .int .i64 0, .slice none 0 0]) := Lib.hid (by
    have hf2 : Fresh W1 W2 := Only.fresh ((Only.of_fresh (Fresh.alloc _ _)).trans ho2) (fun i hi e => by omega)
    exact ⟨HF0.out.trans (HF1.out.trans hf2), Nat.le_of_eq HB.out, by have := HZ0.out.lt; have := HC.out; omega, by have := HB1.out.lt; omega, (HZ0.out.fresh HF1.out).fresh hf2, HB1.out.fresh hf2, by rw [← hd]; exact hb2⟩)
  rw [hd]
  clear hb2 ho2 hd HF0 HF1 HZ0 HB1 HC HB
  have y7 := HD.out.b2.cell 7
  have z7 := HD.out.b2.frozen 7
  have y10 := HD.out.b2.cell 10
  have y12 := HD.out.b2.cell 12
  simp at y7 y10 y12
  go_upto_region 61 with (first | (go_at_call 19; with_reducible refine (HWD.out _).mono ?_; rintro e w2 ⟨rfl, rfl⟩) | fail)
  refine wp_gen (fun W => DX w W b c d #[.int .i64 3, .int .i64 st, .string ByteArray.empty, .int .i64 0, .int .i64 0, .int .i64 0, .int .i64 0, .int .i64 0, .int .i64 0, .int .i64 0, .int .i64 0, .int .i64 0, .int .i64 0, .int .i64 0, .slice none 0 0] #[.int .i64 3, .int .i64 st, .string ByteArray.empty, .int .i64 0, .int .i64 0, .int .i64 0, .int .i64 0, .int .i64 (q : Int), .int .i64 0, .int .i64 0, .int .i64 0, .int .i64 0, .int .i64 0, .int .i64 0, .slice none 0 0]) (HD.out.set 7 (.int .i64 (q : Int)) #[.int .i64 3, .int .i64 st, .string ByteArray.empty, .int .i64 0, .int .i64 0, .int .i64 0, .int .i64 0, .int .i64 (q : Int), .int .i64 0, .int .i64 0, .int .i64 0, .int .i64 0, .int .i64 0, .int .i64 0, .slice none 0 0] rfl) ?_
  clear HD
  intro W5 hd5
  have HD := Lib.hid hd5
  clear hd5 y7 z7 y10 y12
  go_wp2_with (first | (refine wp_loadB rfl (.tmp 12) _ rfl rfl HD.out.b2 HI.out HG.out ?_) | (refine wp_storeB rfl (.tmp 8) (.tmp 244) _ rfl rfl rfl HD.out.b0 HI.out rfl (by simp [Value.oneCell']) ?_) | fail)
  intro W6 hb6 ho6
  have HB6 := Lib.hid hb6
  have HX := Lib.hid (HFIN.out W6 (HD.out.fin ho6))
  clear hb6 ho6
  go_wp2
  refine bodyPost_ret (results_c2 (fn := Try.f10) rfl rfl rfl rfl HB6.out HI.out HG.out) rfl ?_
  exact HX.out
set_option maxHeartbeats 6400000 in
theorem rp_6_n (fl st : Int) (l : List UInt8) (hl : l.length ≤ 300) (w : World) (k : Nat) (hk : FirstB 6 fl st l k) (h0 : 0 ≤ fl) (h1 : fl ≤ 255) (hst : st = 0) (hn8 : ¬ l.length = 8) :
    Calls Try.prog 10 #[.int .i64 6, .int .i64 fl, .int .i64 st, .string (strB l)] w (DocP 6 st 0 (prsF 6 fl st l k) w) := by
  have hp : prsF 6 fl st l k = (PR0, 106, true) := prs_at hk (k0 := 1) ⟨by omega, fun j hj => by
    have hjj : j = 0 := by omega
    rcases hjj with rfl <;> (simp [lookB, srB, szB, aheadN, padN, pdB, wgB, depN, wtL, fromN, incN, hst, hn8]; try omega), fun hh => by simp [lookB, srB, szB, aheadN, padN, pdB, wgB, depN, wtL, fromN, incN, hst, hn8]; try omega⟩ (by simp [prsF, lkC, lkD])
  rw [hp]
  have HBAD : Hid (∀ W, Fresh w W → DocP 6 st 0 (PR0, 106, true) w (.returned (.tuple #[.agg #[.int .i64 6, .int .i64 st, .string ByteArray.empty, .int .i64 0, .int .i64 0, .int .i64 0, .int .i64 0, .int .i64 0, .int .i64 0, .int .i64 0, .int .i64 0, .int .i64 0, .int .i64 0, .int .i64 0, .slice none 0 0], .int .i64 106, .int .i64 1])) W) := Lib.hid (fun W h => docP_bad h)
  generalize DocP 6 st 0 (PR0, 106, true) w = PP at *
  clear hp hk
  have hz : (strB l).size = l.length := strB_size l
  obtain ⟨n, hn⟩ : ∃ n, l.length = n := ⟨_, rfl⟩
  have HN := Lib.hid hn
  rw [hn] at hn8 hl hz
  generalize strB l = S at *
  subst hst
  have hn5 : ((n : Int) == 8) = false := by simp; omega
  clear hn
  have HI := Lib.hid (show (Try.prog.info? 35).map (·.size) = some 15 by kernel_rfl)
  have HG := Lib.hid (fun w => (show (isAgg 35).run Try.prog w = .ok true w by simp [isAgg, go_sem]))
  go_enter Try.func10, Try.ntmps10
  go_upto_region 1 with fail
  refine wp_gen (fun W => Blk W w.heap.size 35 #[.int .i64 0, .int .i64 0, .string ByteArray.empty, .int .i64 0, .int .i64 0, .int .i64 0, .int .i64 0, .int .i64 0, .int .i64 0, .int .i64 0, .int .i64 0, .int .i64 0, .int .i64 0, .int .i64 0, .slice none 0 0] ∧ Fresh w W) ⟨Blk.new _ _ _, Fresh.alloc _ _⟩ ?_
  rintro W0 ⟨hz0, hf0⟩
  obtain ⟨b, hb⟩ : ∃ b, w.heap.size = b := ⟨_, rfl⟩
  have HB := Lib.hid hb
  have HF0 := Lib.hid hf0
  rw [hb] at hz0 ⊢
  have HZ0 := Lib.hid hz0
  clear hb hf0 hz0
  go_upto_region 2 with (first | (refine wp_storeB rfl (.tmp 11) (.tmp 17) _ rfl rfl rfl (Blk.new _ _ _) HI.out rfl (by simp [Value.oneCell']) ?_) | fail)
  intro W1 hb1 ho1
  obtain ⟨c, hc⟩ : ∃ c, W0.heap.size = c := ⟨_, rfl⟩
  have HC := Lib.hid hc
  rw [hc] at hb1 ⊢
  have HF1 : Hid (Fresh W0 W1) := Lib.hid (Only.fresh ((Only.of_fresh (Fresh.alloc _ _)).trans ho1) (fun i hi e => by omega))
  have HB1 : Hid (Blk W1 c 35 #[.int .i64 6, .int .i64 0, .string ByteArray.empty, .int .i64 0, .int .i64 0, .int .i64 0, .int .i64 0, .int .i64 0, .int .i64 0, .int .i64 0, .int .i64 0, .int .i64 0, .int .i64 0, .int .i64 0, .slice none 0 0]) := Lib.hid hb1
  clear hb1 ho1 hc
  go_upto_region 5 with (first | (refine wp_loadB rfl (.tmp 11) _ rfl rfl HB1.out HI.out HG.out ?_) | (refine wp_storeB rfl (.tmp 12) (.tmp 23) _ rfl rfl rfl (Blk.new _ _ _) HI.out rfl (by simp [Value.oneCell']) ?_) | fail)
  intro W2 hb2 ho2
  obtain ⟨d, hd⟩ : ∃ d, W1.heap.size = d := ⟨_, rfl⟩
  have HD : Hid (DX w W2 b c d #[.int .i64 6, .int .i64 0, .string ByteArray.empty, .int .i64 0, .int .i64 0, .int .i64 0, .int .i64 0, .int .i64 0, .int .i64 0, .int .i64 0, .int .i64 0, .int .i64 0, .int .i64 0, .int .i64 0, .slice none 0 0] #[.int .i64 6, .int .i64 0, .string ByteArray.empty, .int .i64 0, .int .i64 0, .int .i64 0, .int .i64 0, .int .i64 0, .int .i64 0, .int .i64 0, .int .i64 0, .int .i64 0, .int .i64 0, .int .i64 0, .slice none 0 0]) := Lib.hid (by
    have hf2 : Fresh W1 W2 := Only.fresh ((Only.of_fresh (Fresh.alloc _ _)).trans ho2) (fun i hi e => by omega)
    exact ⟨HF0.out.trans (HF1.out.trans hf2), Nat.le_of_eq HB.out, by have := HZ0.out.lt; have := HC.out; omega, by have := HB1.out.lt; omega, (HZ0.out.fresh HF1.out).fresh hf2, HB1.out.fresh hf2, by rw [← hd]; exact hb2⟩)
  rw [hd]
  clear hb2 ho2 hd HF0 HF1 HZ0 HB1 HC HB
  go_wp2_with (first | (refine wp_loadB rfl (.tmp 11) _ rfl rfl HD.out.b1 HI.out HG.out ?_) | (refine wp_storeB rfl (.tmp 8) (.tmp 103) _ rfl rfl rfl HD.out.b0 HI.out rfl (by simp [Value.oneCell']) ?_) | fail)
  intro W4 hb4 ho4
  have HB4 := Lib.hid hb4
  have HX := Lib.hid (HBAD.out W4 (HD.out.fin ho4))
  clear hb4 ho4
  go_wp2
  refine bodyPost_ret (results_c2 (fn := Try.f10) rfl rfl rfl rfl HB4.out HI.out HG.out) rfl ?_
  exact HX.out
set_option maxHeartbeats 6400000 in
theorem rp_6_y (fl st : Int) (l : List UInt8) (hl : l.length ≤ 300) (w : World) (k : Nat) (hk : FirstB 6 fl st l k) (h0 : 0 ≤ fl) (h1 : fl ≤ 255) (hst : st = 0) (hn8 : l.length = 8) :
    Calls Try.prog 10 #[.int .i64 6, .int .i64 fl, .int .i64 st, .string (strB l)] w (DocP 6 st 0 (prsF 6 fl st l k) w) := by
  have hp : prsF 6 fl st l k = (⟨l, false, false, hasB fl 1, 0, 0, 0, 0, 0, false, false, []⟩, 0, false) := prs_at hk (k0 := 6) ⟨by omega, fun j hj => by
    have hjj : j = 0 ∨ j = 1 ∨ j = 2 ∨ j = 3 ∨ j = 4 ∨ j = 5 := by omega
    rcases hjj with rfl | rfl | rfl | rfl | rfl | rfl <;> (simp [lookB, srB, szB, aheadN, padN, pdB, wgB, depN, wtL, fromN, incN, hst, hn8]; try omega), fun hh => by omega⟩ (by rw [prsF, if_neg (by omega)]; simp [prOf, PR0, incN, depN, wtL, fromN, pdB, wgB, hst, hn8])
  rw [hp]
  have HFIN : Hid (∀ W, Fresh w W → DocP 6 st 0 (⟨l, false, false, hasB fl 1, 0, 0, 0, 0, 0, false, false, []⟩, 0, false) w (.returned (.tuple #[.agg #[.int .i64 6, .int .i64 st, .string (strB l), .int .i64 0, .int .i64 0, .int .i64 (b2i (hasB fl 1)), .int .i64 0, .int .i64 0, .int .i64 0, .int .i64 0, .int .i64 0, .int .i64 0, .int .i64 0, .int .i64 0, .slice none 0 0], .int .i64 0, .int .i64 0])) W) := Lib.hid (fun W h => docP_ok h)
  generalize DocP 6 st 0 (⟨l, false, false, hasB fl 1, 0, 0, 0, 0, 0, false, false, []⟩, 0, false) w = PP at *
  clear hp hk
  have HFL1 := Lib.hid (fun W => rf_flag fl h0 h1 1 (by omega) _ rfl W)
  have hv1 := b2i_bd (hasB fl 1)
  generalize b2i (hasB fl 1) = v1 at *
  have hz : (strB l).size = l.length := strB_size l
  obtain ⟨n, hn⟩ : ∃ n, l.length = n := ⟨_, rfl⟩
  have HN := Lib.hid hn
  rw [hn] at hn8 hl hz
  generalize strB l = S at *
  subst hst
  have hn5 : ((n : Int) == 8) = true := by simp; omega
  clear hn
  have HI := Lib.hid (show (Try.prog.info? 35).map (·.size) = some 15 by kernel_rfl)
  have HG := Lib.hid (fun w => (show (isAgg 35).run Try.prog w = .ok true w by simp [isAgg, go_sem]))
  go_enter Try.func10, Try.ntmps10
  go_upto_region 1 with fail
  refine wp_gen (fun W => Blk W w.heap.size 35 #[.int .i64 0, .int .i64 0, .string ByteArray.empty, .int .i64 0, .int .i64 0, .int .i64 0, .int .i64 0, .int .i64 0, .int .i64 0, .int .i64 0, .int .i64 0, .int .i64 0, .int .i64 0, .int .i64 0, .slice none 0 0] ∧ Fresh w W) ⟨Blk.new _ _ _, Fresh.alloc _ _⟩ ?_
  rintro W0 ⟨hz0, hf0⟩
  obtain ⟨b, hb⟩ : ∃ b, w.heap.size = b := ⟨_, rfl⟩
  have HB := Lib.hid hb
  have HF0 := Lib.hid hf0
  rw [hb] at hz0 ⊢
  have HZ0 := Lib.hid hz0
  clear hb hf0 hz0
  go_upto_region 2 with (first | (refine wp_storeB rfl (.tmp 11) (.tmp 17) _ rfl rfl rfl (Blk.new _ _ _) HI.out rfl (by simp [Value.oneCell']) ?_) | fail)
  intro W1 hb1 ho1
  obtain ⟨c, hc⟩ : ∃ c, W0.heap.size = c := ⟨_, rfl⟩
  have HC := Lib.hid hc
  rw [hc] at hb1 ⊢
  have HF1 : Hid (Fresh W0 W1) := Lib.hid (Only.fresh ((Only.of_fresh (Fresh.alloc _ _)).trans ho1) (fun i hi e => by omega))
  have HB1 : Hid (Blk W1 c 35 #[.int .i64 6, .int .i64 0, .string ByteArray.empty, .int .i64 0, .int .i64 0, .int .i64 0, .int .i64 0, .int .i64 0, .int .i64 0, .int .i64 0, .int .i64 0, .int .i64 0, .int .i64 0, .int .i64 0, .slice none 0 0]) := Lib.hid hb1
  clear hb1 ho1 hc
  go_upto_region 5 with (first | (refine wp_loadB rfl (.tmp 11) _ rfl rfl HB1.out HI.out HG.out ?_) | (refine wp_storeB rfl (.tmp 12) (.tmp 23) _ rfl rfl rfl (Blk.new _ _ _) HI.out rfl (by simp [Value.oneCell']) ?_) | fail)
  intro W2 hb2 ho2
  obtain ⟨d, hd⟩ : ∃ d, W1.heap.size = d := ⟨_, rfl⟩
  have HD : Hid (DX w W2 b c d #[.int .i64 6, .int .i64 0, .string ByteArray.empty, .int .i64 0, .int .i64 0, .int .i64 0, .int .i64 0, .int .i64 0, .int .i64 0, .int .i64 0, .int .i64 0, .int .i64 0, .int .i64 0, .int .i64 0, .slice none 0 0] #[.int .i64 6, .int .i64 0, .string ByteArray.empty, .int .i64 0, .int .i64 0, .int .i64 0, .int .i64 0, .int .i64 0, .int .i64 0, .int .i64 0, .int .i64 0, .int .i64 0, .int .i64 0, .int .i64 0, .slice none 0 0]) := Lib.hid (by
    have hf2 : Fresh W1 W2 := Only.fresh ((Only.of_fresh (Fresh.alloc _ _)).trans ho2) (fun i hi e => by omega)
    exact ⟨HF0.out.trans (HF1.out.trans hf2), Nat.le_of_eq HB.out, by have := HZ0.out.lt; have := HC.out; omega, by have := HB1.out.lt; omega, (HZ0.out.fresh HF1.out).fresh hf2, HB1.out.fresh hf2, by rw [← hd]; exact hb2⟩)
  rw [hd]
  clear hb2 ho2 hd HF0 HF1 HZ0 HB1 HC HB
  have y5 := HD.out.b2.cell 5
  have z5 := HD.out.b2.frozen 5
  have y2 := HD.out.b2.cell 2
  have z2 := HD.out.b2.frozen 2
  have y10 := HD.out.b2.cell 10
  have y12 := HD.out.b2.cell 12
  simp at y5 y2 y10 y12
  go_upto_region 61 with (first | (go_at_call 17; with_reducible refine (HFL1.out _).mono ?_; rintro e w2 ⟨rfl, rfl⟩) | fail)
  refine wp_gen (fun W => DX w W b c d #[.int .i64 6, .int .i64 0, .string ByteArray.empty, .int .i64 0, .int .i64 0, .int .i64 0, .int .i64 0, .int .i64 0, .int .i64 0, .int .i64 0, .int .i64 0, .int .i64 0, .int .i64 0, .int .i64 0, .slice none 0 0] #[.int .i64 6, .int .i64 0, .string S, .int .i64 0, .int .i64 0, .int .i64 v1, .int .i64 0, .int .i64 0, .int .i64 0, .int .i64 0, .int .i64 0, .int .i64 0, .int .i64 0, .int .i64 0, .slice none 0 0]) ((HD.out.set 5 (.int .i64 v1) #[.int .i64 6, .int .i64 0, .string ByteArray.empty, .int .i64 0, .int .i64 0, .int .i64 v1, .int .i64 0, .int .i64 0, .int .i64 0, .int .i64 0, .int .i64 0, .int .i64 0, .int .i64 0, .int .i64 0, .slice none 0 0] rfl).set 2 (.string S) #[.int .i64 6, .int .i64 0, .string S, .int .i64 0, .int .i64 0, .int .i64 v1, .int .i64 0, .int .i64 0, .int .i64 0, .int .i64 0, .int .i64 0, .int .i64 0, .int .i64 0, .int .i64 0, .slice none 0 0] rfl) ?_
  clear HD
  intro W5 hd5
  have HD := Lib.hid hd5
  clear hd5 y5 z5 y2 z2 y10 y12
  go_wp2_with (first | (refine wp_loadB rfl (.tmp 12) _ rfl rfl HD.out.b2 HI.out HG.out ?_) | (refine wp_storeB rfl (.tmp 8) (.tmp 244) _ rfl rfl rfl HD.out.b0 HI.out rfl (by simp [Value.oneCell']) ?_) | fail)
  intro W6 hb6 ho6
  have HB6 := Lib.hid hb6
  have HX := Lib.hid (HFIN.out W6 (HD.out.fin ho6))
  clear hb6 ho6
  go_wp2
  refine bodyPost_ret (results_c2 (fn := Try.f10) rfl rfl rfl rfl HB6.out HI.out HG.out) rfl ?_
  exact HX.out
set_option maxHeartbeats 6400000 in
theorem rp_7_n (fl st : Int) (l : List UInt8) (hl : l.length ≤ 300) (w : World) (k : Nat) (hk : FirstB 7 fl st l k) (h0 : 0 ≤ fl) (h1 : fl ≤ 255) (hst : st = 0) (hn8 : l.length < 8) :
    Calls Try.prog 10 #[.int .i64 7, .int .i64 fl, .int .i64 st, .string (strB l)] w (DocP 7 st 0 (prsF 7 fl st l k) w) := by
  have hp : prsF 7 fl st l k = (PR0, 106, true) := prs_at hk (k0 := 1) ⟨by omega, fun j hj => by
    have hjj : j = 0 := by omega
    rcases hjj with rfl <;> (simp [lookB, srB, szB, aheadN, padN, pdB, wgB, depN, wtL, fromN, incN, hst, hn8]; try omega), fun hh => by simp [lookB, srB, szB, aheadN, padN, pdB, wgB, depN, wtL, fromN, incN, hst, hn8]; try omega⟩ (by simp [prsF, lkC, lkD])
  rw [hp]
  have HBAD : Hid (∀ W, Fresh w W → DocP 7 st 0 (PR0, 106, true) w (.returned (.tuple #[.agg #[.int .i64 7, .int .i64 st, .string ByteArray.empty, .int .i64 0, .int .i64 0, .int .i64 0, .int .i64 0, .int .i64 0, .int .i64 0, .int .i64 0, .int .i64 0, .int .i64 0, .int .i64 0, .int .i64 0, .slice none 0 0], .int .i64 106, .int .i64 1])) W) := Lib.hid (fun W h => docP_bad h)
  generalize DocP 7 st 0 (PR0, 106, true) w = PP at *
  clear hp hk
  have hz : (strB l).size = l.length := strB_size l
  obtain ⟨n, hn⟩ : ∃ n, l.length = n := ⟨_, rfl⟩
  have HN := Lib.hid hn
  rw [hn] at hn8 hl hz
  generalize strB l = S at *
  subst hst
  have hn5 : (n : Int) < 8 := by omega
  clear hn hn8
  have HI := Lib.hid (show (Try.prog.info? 35).map (·.size) = some 15 by kernel_rfl)
  have HG := Lib.hid (fun w => (show (isAgg 35).run Try.prog w = .ok true w by simp [isAgg, go_sem]))
  go_enter Try.func10, Try.ntmps10
  go_upto_region 1 with fail
  refine wp_gen (fun W => Blk W w.heap.size 35 #[.int .i64 0, .int .i64 0, .string ByteArray.empty, .int .i64 0, .int .i64 0, .int .i64 0, .int .i64 0, .int .i64 0, .int .i64 0, .int .i64 0, .int .i64 0, .int .i64 0, .int .i64 0, .int .i64 0, .slice none 0 0] ∧ Fresh w W) ⟨Blk.new _ _ _, Fresh.alloc _ _⟩ ?_
  rintro W0 ⟨hz0, hf0⟩
  obtain ⟨b, hb⟩ : ∃ b, w.heap.size = b := ⟨_, rfl⟩
  have HB := Lib.hid hb
  have HF0 := Lib.hid hf0
  rw [hb] at hz0 ⊢
  have HZ0 := Lib.hid hz0
  clear hb hf0 hz0
  go_upto_region 2 with (first | (refine wp_storeB rfl (.tmp 11) (.tmp 17) _ rfl rfl rfl (Blk.new _ _ _) HI.out rfl (by simp [Value.oneCell']) ?_) | fail)
  intro W1 hb1 ho1
  obtain ⟨c, hc⟩ : ∃ c, W0.heap.size = c := ⟨_, rfl⟩
  have HC := Lib.hid hc
  rw [hc] at hb1 ⊢
  have HF1 : Hid (Fresh W0 W1) := Lib.hid (Only.fresh ((Only.of_fresh (Fresh.alloc _ _)).trans ho1) (fun i hi e => by omega))
  have HB1 : Hid (Blk W1 c 35 #[.int .i64 7, .int .i64 0, .string ByteArray.empty, .int .i64 0, .int .i64 0, .int .i64 0, .int .i64 0, .int .i64 0, .int .i64 0, .int .i64 0, .int .i64 0, .int .i64 0, .int .i64 0, .int .i64 0, .slice none 0 0]) := Lib.hid hb1
  clear hb1 ho1 hc
  go_upto_region 5 with (first | (refine wp_loadB rfl (.tmp 11) _ rfl rfl HB1.out HI.out HG.out ?_) | (refine wp_storeB rfl (.tmp 12) (.tmp 23) _ rfl rfl rfl (Blk.new _ _ _) HI.out rfl (by simp [Value.oneCell']) ?_) | fail)
  intro W2 hb2 ho2
  obtain ⟨d, hd⟩ : ∃ d, W1.heap.size = d := ⟨_, rfl⟩
  have HD : Hid (DX w W2 b c d #[.int .i64 7, .int .i64 0, .string ByteArray.empty, .int .i64 0, .int .i64 0, .int .i64 0, .int .i64 0, .int .i64 0, .int .i64 0, .int .i64 0, .int .i64 0, .int .i64 0, .int .i64 0, .int .i64 0, .slice none 0 0] #[.int .i64 7, .int .i64 0, .string ByteArray.empty, .int .i64 0, .int .i64 0, .int .i64 0, .int .i64 0, .int .i64 0, .int .i64 0, .int .i64 0, .int .i64 0, .int .i64 0, .int .i64 0, .int .i64 0, .slice none 0 0]) := Lib.hid (by
    have hf2 : Fresh W1 W2 := Only.fresh ((Only.of_fresh (Fresh.alloc _ _)).trans ho2) (fun i hi e => by omega)
    exact ⟨HF0.out.trans (HF1.out.trans hf2), Nat.le_of_eq HB.out, by have := HZ0.out.lt; have := HC.out; omega, by have := HB1.out.lt; omega, (HZ0.out.fresh HF1.out).fresh hf2, HB1.out.fresh hf2, by rw [← hd]; exact hb2⟩)
  rw [hd]
  clear hb2 ho2 hd HF0 HF1 HZ0 HB1 HC HB
  go_wp2_with (first | (refine wp_loadB rfl (.tmp 11) _ rfl rfl HD.out.b1 HI.out HG.out ?_) | (refine wp_storeB rfl (.tmp 8) (.tmp 103) _ rfl rfl rfl HD.out.b0 HI.out rfl (by simp [Value.oneCell']) ?_) | fail)
  intro W4 hb4 ho4
  have HB4 := Lib.hid hb4
  have HX := Lib.hid (HBAD.out W4 (HD.out.fin ho4))
  clear hb4 ho4
  go_wp2
  refine bodyPost_ret (results_c2 (fn := Try.f10) rfl rfl rfl rfl HB4.out HI.out HG.out) rfl ?_
  exact HX.out
set_option maxHeartbeats 6400000 in
theorem rp_7_y (fl st : Int) (l : List UInt8) (hl : l.length ≤ 300) (w : World) (k : Nat) (hk : FirstB 7 fl st l k) (h0 : 0 ≤ fl) (h1 : fl ≤ 255) (hst : st = 0) (hn8 : 8 ≤ l.length) :
    Calls Try.prog 10 #[.int .i64 7, .int .i64 fl, .int .i64 st, .string (strB l)] w (DocP 7 st 0 (prsF 7 fl st l k) w) := by
  have hp : prsF 7 fl st l k = (⟨l.drop 8, false, false, false, (numL ((l.drop 4).take 4) : Int), ((numL (l.take 4) % 2147483648 : Nat) : Int), 0, 0, 0, false, false, []⟩, 0, false) := prs_at hk (k0 := 6) ⟨by omega, fun j hj => by
    have hjj : j = 0 ∨ j = 1 ∨ j = 2 ∨ j = 3 ∨ j = 4 ∨ j = 5 := by omega
    rcases hjj with rfl | rfl | rfl | rfl | rfl | rfl <;> (simp [lookB, srB, szB, aheadN, padN, pdB, wgB, depN, wtL, fromN, incN, hst, hn8, Nat.not_lt.2 hn8]; try omega), fun hh => by omega⟩ (by rw [prsF, if_neg (by omega)]; simp [prOf, PR0, incN, depN, wtL, fromN, pdB, wgB, hst, hn8, Nat.not_lt.2 hn8])
  rw [hp]
  have HFIN : Hid (∀ W, Fresh w W → DocP 7 st 0 (⟨l.drop 8, false, false, false, (numL ((l.drop 4).take 4) : Int), ((numL (l.take 4) % 2147483648 : Nat) : Int), 0, 0, 0, false, false, []⟩, 0, false) w (.returned (.tuple #[.agg #[.int .i64 7, .int .i64 st, .string (strB (l.drop 8)), .int .i64 0, .int .i64 0, .int .i64 0, .int .i64 0, .int .i64 (numL ((l.drop 4).take 4) : Int), .int .i64 ((numL (l.take 4) % 2147483648 : Nat) : Int), .int .i64 0, .int .i64 0, .int .i64 0, .int .i64 0, .int .i64 0, .slice none 0 0], .int .i64 0, .int .i64 0])) W) := Lib.hid (fun W h => docP_ok h)
  generalize DocP 7 st 0 (⟨l.drop 8, false, false, false, (numL ((l.drop 4).take 4) : Int), ((numL (l.take 4) % 2147483648 : Nat) : Int), 0, 0, 0, false, false, []⟩, 0, false) w = PP at *
  clear hp hk
  have HW1 := Lib.hid (fun W => rf_word (l.take 4) (by simp; omega) _ rfl W)
  have HW2 := Lib.hid (fun W => rf_word ((l.drop 4).take 4) (by simp; omega) _ rfl W)
  have e1 : (strB l).extract 0 4 = strB (l.take 4) := by rw [strE]; rfl
  have e2 : (strB l).extract 4 8 = strB ((l.drop 4).take 4) := by rw [strE, List.drop_take]
  have e3 : (strB l).extract 8 l.length = strB (l.drop 8) := by rw [strE, List.take_length]
  have hq := numL_take_lt l 4 4 (Nat.le_refl _)
  rw [show (256 : Nat) ^ 4 = 4294967296 from rfl] at hq
  generalize numL ((l.drop 4).take 4) = q2 at *
  generalize numL (l.take 4) = q1 at *
  have e4 : (q1 : Int).tmod 2147483648 = ((q1 % 2147483648 : Nat) : Int) := by rw [Int.tmod_eq_emod_of_nonneg (by omega)]; omega
  have e5 : IntKind.i64.wrap ((q1 % 2147483648 : Nat) : Int) = ((q1 % 2147483648 : Nat) : Int) := IntWalk.i64_in _ (by omega)
  generalize q1 % 2147483648 = r1 at *
  clear hq
  have hz : (strB l).size = l.length := strB_size l
  obtain ⟨n, hn⟩ : ∃ n, l.length = n := ⟨_, rfl⟩
  have HN := Lib.hid hn
  rw [hn] at hn8 hl hz e3
  generalize strB ((l.drop 4).take 4) = T2 at *
  generalize strB (l.take 4) = T1 at *
  generalize strB (l.drop 8) = T3 at *
  generalize strB l = S at *
  subst hst
  have hn5 : ¬ (n : Int) < 8 := by omega
  have hn6 : (8 : Int) ≤ (n : Int) := by omega
  have hn7 : (4 : Int) ≤ (n : Int) := by omega
  clear hn hn8
  have HI := Lib.hid (show (Try.prog.info? 35).map (·.size) = some 15 by kernel_rfl)
  have HG := Lib.hid (fun w => (show (isAgg 35).run Try.prog w = .ok true w by simp [isAgg, go_sem]))
  go_enter Try.func10, Try.ntmps10
  go_upto_region 1 with fail
  refine wp_gen (fun W => Blk W w.heap.size 35 #[.int .i64 0, .int .i64 0, .string ByteArray.empty, .int .i64 0, .int .i64 0, .int .i64 0, .int .i64 0, .int .i64 0, .int .i64 0, .int .i64 0, .int .i64 0, .int .i64 0, .int .i64 0, .int .i64 0, .slice none 0 0] ∧ Fresh w W) ⟨Blk.new _ _ _, Fresh.alloc _ _⟩ ?_
  rintro W0 ⟨hz0, hf0⟩
  obtain ⟨b, hb⟩ : ∃ b, w.heap.size = b := ⟨_, rfl⟩
  have HB := Lib.hid hb
  have HF0 := Lib.hid hf0
  rw [hb] at hz0 ⊢
  have HZ0 := Lib.hid hz0
  clear hb hf0 hz0
  go_upto_region 2 with (first | (refine wp_storeB rfl (.tmp 11) (.tmp 17) _ rfl rfl rfl (Blk.new _ _ _) HI.out rfl (by simp [Value.oneCell']) ?_) | fail)
  intro W1 hb1 ho1
  obtain ⟨c, hc⟩ : ∃ c, W0.heap.size = c := ⟨_, rfl⟩
  have HC := Lib.hid hc
  rw [hc] at hb1 ⊢
  have HF1 : Hid (Fresh W0 W1) := Lib.hid (Only.fresh ((Only.of_fresh (Fresh.alloc _ _)).trans ho1) (fun i hi e => by omega))
  have HB1 : Hid (Blk W1 c 35 #[.int .i64 7, .int .i64 0, .string ByteArray.empty, .int .i64 0, .int .i64 0, .int .i64 0, .int .i64 0, .int .i64 0, .int .i64 0, .int .i64 0, .int .i64 0, .int .i64 0, .int .i64 0, .int .i64 0, .slice none 0 0]) := Lib.hid hb1
  clear hb1 ho1 hc
  go_upto_region 5 with (first | (refine wp_loadB rfl (.tmp 11) _ rfl rfl HB1.out HI.out HG.out ?_) | (refine wp_storeB rfl (.tmp 12) (.tmp 23) _ rfl rfl rfl (Blk.new _ _ _) HI.out rfl (by simp [Value.oneCell']) ?_) | fail)
  intro W2 hb2 ho2
  obtain ⟨d, hd⟩ : ∃ d, W1.heap.size = d := ⟨_, rfl⟩
  have HD : Hid (DX w W2 b c d #[.int .i64 7, .int .i64 0, .string ByteArray.empty, .int .i64 0, .int .i64 0, .int .i64 0, .int .i64 0, .int .i64 0, .int .i64 0, .int .i64 0, .int .i64 0, .int .i64 0, .int .i64 0, .int .i64 0, .slice none 0 0] #[.int .i64 7, .int .i64 0, .string ByteArray.empty, .int .i64 0, .int .i64 0, .int .i64 0, .int .i64 0, .int .i64 0, .int .i64 0, .int .i64 0, .int .i64 0, .int .i64 0, .int .i64 0, .int .i64 0, .slice none 0 0]) := Lib.hid (by
    have hf2 : Fresh W1 W2 := Only.fresh ((Only.of_fresh (Fresh.alloc _ _)).trans ho2) (fun i hi e => by omega)
    exact ⟨HF0.out.trans (HF1.out.trans hf2), Nat.le_of_eq HB.out, by have := HZ0.out.lt; have := HC.out; omega, by have := HB1.out.lt; omega, (HZ0.out.fresh HF1.out).fresh hf2, HB1.out.fresh hf2, by rw [← hd]; exact hb2⟩)
  rw [hd]
  clear hb2 ho2 hd HF0 HF1 HZ0 HB1 HC HB
  have y8 := HD.out.b2.cell 8
  have z8 := HD.out.b2.frozen 8
  have y7 := HD.out.b2.cell 7
  have z7 := HD.out.b2.frozen 7
  have y2 := HD.out.b2.cell 2
  have z2 := HD.out.b2.frozen 2
  have y10 := HD.out.b2.cell 10
  have y12 := HD.out.b2.cell 12
  simp at y8 y7 y2 y10 y12
  go_upto_region 61 with (first | (go_at_call 19; with_reducible refine (HW1.out _).mono ?_; rintro e w2 ⟨rfl, rfl⟩) | (go_at_call 19; with_reducible refine (HW2.out _).mono ?_; rintro e w2 ⟨rfl, rfl⟩) | fail)
  refine wp_gen (fun W => DX w W b c d #[.int .i64 7, .int .i64 0, .string ByteArray.empty, .int .i64 0, .int .i64 0, .int .i64 0, .int .i64 0, .int .i64 0, .int .i64 0, .int .i64 0, .int .i64 0, .int .i64 0, .int .i64 0, .int .i64 0, .slice none 0 0] #[.int .i64 7, .int .i64 0, .string T3, .int .i64 0, .int .i64 0, .int .i64 0, .int .i64 0, .int .i64 (q2 : Int), .int .i64 (r1 : Int), .int .i64 0, .int .i64 0, .int .i64 0, .int .i64 0, .int .i64 0, .slice none 0 0]) (((HD.out.set 8 (.int .i64 (r1 : Int)) #[.int .i64 7, .int .i64 0, .string ByteArray.empty, .int .i64 0, .int .i64 0, .int .i64 0, .int .i64 0, .int .i64 0, .int .i64 (r1 : Int), .int .i64 0, .int .i64 0, .int .i64 0, .int .i64 0, .int .i64 0, .slice none 0 0] rfl).set 7 (.int .i64 (q2 : Int)) #[.int .i64 7, .int .i64 0, .string ByteArray.empty, .int .i64 0, .int .i64 0, .int .i64 0, .int .i64 0, .int .i64 (q2 : Int), .int .i64 (r1 : Int), .int .i64 0, .int .i64 0, .int .i64 0, .int .i64 0, .int .i64 0, .slice none 0 0] rfl).set 2 (.string T3) #[.int .i64 7, .int .i64 0, .string T3, .int .i64 0, .int .i64 0, .int .i64 0, .int .i64 0, .int .i64 (q2 : Int), .int .i64 (r1 : Int), .int .i64 0, .int .i64 0, .int .i64 0, .int .i64 0, .int .i64 0, .slice none 0 0] rfl) ?_
  clear HD
  intro W5 hd5
  have HD := Lib.hid hd5
  clear hd5 y8 z8 y7 z7 y2 z2 y10 y12
  go_wp2_with (first | (refine wp_loadB rfl (.tmp 12) _ rfl rfl HD.out.b2 HI.out HG.out ?_) | (refine wp_storeB rfl (.tmp 8) (.tmp 244) _ rfl rfl rfl HD.out.b0 HI.out rfl (by simp [Value.oneCell']) ?_) | fail)
  intro W6 hb6 ho6
  have HB6 := Lib.hid hb6
  have HX := Lib.hid (HFIN.out W6 (HD.out.fin ho6))
  clear hb6 ho6
  go_wp2
  refine bodyPost_ret (results_c2 (fn := Try.f10) rfl rfl rfl rfl HB6.out HI.out HG.out) rfl ?_
  exact HX.out
set_option maxHeartbeats 6400000 in
theorem rp_9_y (fl st : Int) (l : List UInt8) (hl : l.length ≤ 300) (w : World) (k : Nat) (hk : FirstB 9 fl st l k) (h0 : 0 ≤ fl) (h1 : fl ≤ 255) (hst : ¬ st = 0) :
    Calls Try.prog 10 #[.int .i64 9, .int .i64 fl, .int .i64 st, .string (strB l)] w (DocP 9 st 0 (prsF 9 fl st l k) w) := by
  have hp : prsF 9 fl st l k = (⟨l, false, hasB fl 4, false, 0, 0, 0, 0, 0, false, false, []⟩, 0, false) := prs_at hk (k0 := 6) ⟨by omega, fun j hj => by
    have hjj : j = 0 ∨ j = 1 ∨ j = 2 ∨ j = 3 ∨ j = 4 ∨ j = 5 := by omega
    rcases hjj with rfl | rfl | rfl | rfl | rfl | rfl <;> (simp [lookB, srB, szB, aheadN, padN, pdB, wgB, depN, wtL, fromN, incN, hst]; try omega), fun hh => by omega⟩ (by rw [prsF, if_neg (by omega)]; simp [prOf, PR0, incN, depN, wtL, fromN, pdB, wgB, hst])
  rw [hp]
  have HFIN : Hid (∀ W, Fresh w W → DocP 9 st 0 (⟨l, false, hasB fl 4, false, 0, 0, 0, 0, 0, false, false, []⟩, 0, false) w (.returned (.tuple #[.agg #[.int .i64 9, .int .i64 st, .string (strB l), .int .i64 0, .int .i64 (b2i (hasB fl 4)), .int .i64 0, .int .i64 0, .int .i64 0, .int .i64 0, .int .i64 0, .int .i64 0, .int .i64 0, .int .i64 0, .int .i64 0, .slice none 0 0], .int .i64 0, .int .i64 0])) W) := Lib.hid (fun W h => docP_ok h)
  generalize DocP 9 st 0 (⟨l, false, hasB fl 4, false, 0, 0, 0, 0, 0, false, false, []⟩, 0, false) w = PP at *
  clear hp hk
  have HFL4 := Lib.hid (fun W => rf_flag fl h0 h1 4 (by omega) _ rfl W)
  have hv4 := b2i_bd (hasB fl 4)
  generalize b2i (hasB fl 4) = v4 at *
  have hz : (strB l).size = l.length := strB_size l
  obtain ⟨n, hn⟩ : ∃ n, l.length = n := ⟨_, rfl⟩
  have HN := Lib.hid hn
  rw [hn] at hl hz
  generalize strB l = S at *
  have hs1 : (st == 0) = false := by simpa using hst
  clear hn
  have HI := Lib.hid (show (Try.prog.info? 35).map (·.size) = some 15 by kernel_rfl)
  have HG := Lib.hid (fun w => (show (isAgg 35).run Try.prog w = .ok true w by simp [isAgg, go_sem]))
  go_enter Try.func10, Try.ntmps10
  go_upto_region 1 with fail
  refine wp_gen (fun W => Blk W w.heap.size 35 #[.int .i64 0, .int .i64 0, .string ByteArray.empty, .int .i64 0, .int .i64 0, .int .i64 0, .int .i64 0, .int .i64 0, .int .i64 0, .int .i64 0, .int .i64 0, .int .i64 0, .int .i64 0, .int .i64 0, .slice none 0 0] ∧ Fresh w W) ⟨Blk.new _ _ _, Fresh.alloc _ _⟩ ?_
  rintro W0 ⟨hz0, hf0⟩
  obtain ⟨b, hb⟩ : ∃ b, w.heap.size = b := ⟨_, rfl⟩
  have HB := Lib.hid hb
  have HF0 := Lib.hid hf0
  rw [hb] at hz0 ⊢
  have HZ0 := Lib.hid hz0
  clear hb hf0 hz0
  go_upto_region 2 with (first | (refine wp_storeB rfl (.tmp 11) (.tmp 17) _ rfl rfl rfl (Blk.new _ _ _) HI.out rfl (by simp [Value.oneCell']) ?_) | fail)
  intro W1 hb1 ho1
  obtain ⟨c, hc⟩ : ∃ c, W0.heap.size = c := ⟨_, rfl⟩
  have HC := Lib.hid hc
  rw [hc] at hb1 ⊢
  have HF1 : Hid (Fresh W0 W1) := Lib.hid (Only.fresh ((Only.of_fresh (Fresh.alloc _ _)).trans ho1) (fun i hi e => by omega))
  have HB1 : Hid (Blk W1 c 35 #[.int .i64 9, .int .i64 st, .string ByteArray.empty, .int .i64 0, .int .i64 0, .int .i64 0, .int .i64 0, .int .i64 0, .int .i64 0, .int .i64 0, .int .i64 0, .int .i64 0, .int .i64 0, .int .i64 0, .slice none 0 0]) := Lib.hid hb1
  clear hb1 ho1 hc
  go_upto_region 5 with (first | (refine wp_loadB rfl (.tmp 11) _ rfl rfl HB1.out HI.out HG.out ?_) | (refine wp_storeB rfl (.tmp 12) (.tmp 23) _ rfl rfl rfl (Blk.new _ _ _) HI.out rfl (by simp [Value.oneCell']) ?_) | fail)
  intro W2 hb2 ho2
  obtain ⟨d, hd⟩ : ∃ d, W1.heap.size = d := ⟨_, rfl⟩
  have HD : Hid (DX w W2 b c d #[.int .i64 9, .int .i64 st, .string ByteArray.empty, .int .i64 0, .int .i64 0, .int .i64 0, .int .i64 0, .int .i64 0, .int .i64 0, .int .i64 0, .int .i64 0, .int .i64 0, .int .i64 0, .int .i64 0, .slice none 0 0] #[.int .i64 9, .int .i64 st, .string ByteArray.empty, .int .i64 0, .int .i64 0, .int .i64 0, .int .i64 0, .int .i64 0, .int .i64 0, .int .i64 0, .int .i64 0, .int .i64 0, .int .i64 0, .int .i64 0, .slice none 0 0]) := Lib.hid (by
    have hf2 : Fresh W1 W2 := Only.fresh ((Only.of_fresh (Fresh.alloc _ _)).trans ho2) (fun i hi e => by omega)
    exact ⟨HF0.out.trans (HF1.out.trans hf2), Nat.le_of_eq HB.out, by have := HZ0.out.lt; have := HC.out; omega, by have := HB1.out.lt; omega, (HZ0.out.fresh HF1.out).fresh hf2, HB1.out.fresh hf2, by rw [← hd]; exact hb2⟩)
  rw [hd]
  clear hb2 ho2 hd HF0 HF1 HZ0 HB1 HC HB
  have y4 := HD.out.b2.cell 4
  have z4 := HD.out.b2.frozen 4
  have y2 := HD.out.b2.cell 2
  have z2 := HD.out.b2.frozen 2
  have y10 := HD.out.b2.cell 10
  have y12 := HD.out.b2.cell 12
  simp at y4 y2 y10 y12
  go_upto_region 61 with (first | (go_at_call 17; with_reducible refine (HFL4.out _).mono ?_; rintro e w2 ⟨rfl, rfl⟩) | fail)
  refine wp_gen (fun W => DX w W b c d #[.int .i64 9, .int .i64 st, .string ByteArray.empty, .int .i64 0, .int .i64 0, .int .i64 0, .int .i64 0, .int .i64 0, .int .i64 0, .int .i64 0, .int .i64 0, .int .i64 0, .int .i64 0, .int .i64 0, .slice none 0 0] #[.int .i64 9, .int .i64 st, .string S, .int .i64 0, .int .i64 v4, .int .i64 0, .int .i64 0, .int .i64 0, .int .i64 0, .int .i64 0, .int .i64 0, .int .i64 0, .int .i64 0, .int .i64 0, .slice none 0 0]) ((HD.out.set 4 (.int .i64 v4) #[.int .i64 9, .int .i64 st, .string ByteArray.empty, .int .i64 0, .int .i64 v4, .int .i64 0, .int .i64 0, .int .i64 0, .int .i64 0, .int .i64 0, .int .i64 0, .int .i64 0, .int .i64 0, .int .i64 0, .slice none 0 0] rfl).set 2 (.string S) #[.int .i64 9, .int .i64 st, .string S, .int .i64 0, .int .i64 v4, .int .i64 0, .int .i64 0, .int .i64 0, .int .i64 0, .int .i64 0, .int .i64 0, .int .i64 0, .int .i64 0, .int .i64 0, .slice none 0 0] rfl) ?_
  clear HD
  intro W5 hd5
  have HD := Lib.hid hd5
  clear hd5 y4 z4 y2 z2 y10 y12
  go_wp2_with (first | (refine wp_loadB rfl (.tmp 12) _ rfl rfl HD.out.b2 HI.out HG.out ?_) | (refine wp_storeB rfl (.tmp 8) (.tmp 244) _ rfl rfl rfl HD.out.b0 HI.out rfl (by simp [Value.oneCell']) ?_) | fail)
  intro W6 hb6 ho6
  have HB6 := Lib.hid hb6
  have HX := Lib.hid (HFIN.out W6 (HD.out.fin ho6))
  clear hb6 ho6
  go_wp2
  refine bodyPost_ret (results_c2 (fn := Try.f10) rfl rfl rfl rfl HB6.out HI.out HG.out) rfl ?_
  exact HX.out
set_option maxHeartbeats 6400000 in
theorem rp_x_y (ty fl st : Int) (l : List UInt8) (hl : l.length ≤ 300) (w : World) (k : Nat) (hk : FirstB ty fl st l k) (h0 : 0 ≤ fl) (h1 : fl ≤ 255) (hty : 10 ≤ ty) :
    Calls Try.prog 10 #[.int .i64 ty, .int .i64 fl, .int .i64 st, .string (strB l)] w (DocP ty st 0 (prsF ty fl st l k) w) := by
  have hp : prsF ty fl st l k = (⟨[], false, false, false, 0, 0, 0, 0, 0, false, false, []⟩, 0, false) := prs_at hk (k0 := 6) ⟨by omega, fun j hj => by
    have hjj : j = 0 ∨ j = 1 ∨ j = 2 ∨ j = 3 ∨ j = 4 ∨ j = 5 := by omega
    rcases hjj with rfl | rfl | rfl | rfl | rfl | rfl <;> (simp [lookB, srB, szB, aheadN, padN, pdB, wgB, depN, wtL, fromN, incN, show ¬ ty = 0 by omega, show ¬ ty = 1 by omega, show ¬ ty = 2 by omega, show ¬ ty = 3 by omega, show ¬ ty = 4 by omega, show ¬ ty = 5 by omega, show ¬ ty = 6 by omega, show ¬ ty = 7 by omega, show ¬ ty = 8 by omega, show ¬ ty = 9 by omega]; try omega), fun hh => by omega⟩ (by rw [prsF, if_neg (by omega)]; simp [prOf, PR0, incN, depN, wtL, fromN, pdB, wgB, show ¬ ty = 0 by omega, show ¬ ty = 1 by omega, show ¬ ty = 2 by omega, show ¬ ty = 3 by omega, show ¬ ty = 4 by omega, show ¬ ty = 5 by omega, show ¬ ty = 6 by omega, show ¬ ty = 7 by omega, show ¬ ty = 8 by omega, show ¬ ty = 9 by omega])
  rw [hp]
  have HFIN : Hid (∀ W, Fresh w W → DocP ty st 0 (⟨[], false, false, false, 0, 0, 0, 0, 0, false, false, []⟩, 0, false) w (.returned (.tuple #[.agg #[.int .i64 ty, .int .i64 st, .string ByteArray.empty, .int .i64 0, .int .i64 0, .int .i64 0, .int .i64 0, .int .i64 0, .int .i64 0, .int .i64 0, .int .i64 0, .int .i64 0, .int .i64 0, .int .i64 0, .slice none 0 0], .int .i64 0, .int .i64 0])) W) := Lib.hid (fun W h => docP_ok h)
  generalize DocP ty st 0 (⟨[], false, false, false, 0, 0, 0, 0, 0, false, false, []⟩, 0, false) w = PP at *
  clear hp hk
  have hz : (strB l).size = l.length := strB_size l
  obtain ⟨n, hn⟩ : ∃ n, l.length = n := ⟨_, rfl⟩
  have HN := Lib.hid hn
  rw [hn] at hl hz
  generalize strB l = S at *
  have t0 : (ty == 0) = false := by simp; omega
  have t1 : (ty == 1) = false := by simp; omega
  have t2 : (ty == 2) = false := by simp; omega
  have t3 : (ty == 3) = false := by simp; omega
  have t4 : (ty == 4) = false := by simp; omega
  have t5 : (ty == 5) = false := by simp; omega
  have t6 : (ty == 6) = false := by simp; omega
  have t7 : (ty == 7) = false := by simp; omega
  have t8 : (ty == 8) = false := by simp; omega
  have t9 : (ty == 9) = false := by simp; omega
  have u3 : ¬ ty ≤ 3 := by omega
  have u1 : ¬ ty ≤ 1 := by omega
  clear hn hty
  have HI := Lib.hid (show (Try.prog.info? 35).map (·.size) = some 15 by kernel_rfl)
  have HG := Lib.hid (fun w => (show (isAgg 35).run Try.prog w = .ok true w by simp [isAgg, go_sem]))
  go_enter Try.func10, Try.ntmps10
  go_upto_region 1 with fail
  refine wp_gen (fun W => Blk W w.heap.size 35 #[.int .i64 0, .int .i64 0, .string ByteArray.empty, .int .i64 0, .int .i64 0, .int .i64 0, .int .i64 0, .int .i64 0, .int .i64 0, .int .i64 0, .int .i64 0, .int .i64 0, .int .i64 0, .int .i64 0, .slice none 0 0] ∧ Fresh w W) ⟨Blk.new _ _ _, Fresh.alloc _ _⟩ ?_
  rintro W0 ⟨hz0, hf0⟩
  obtain ⟨b, hb⟩ : ∃ b, w.heap.size = b := ⟨_, rfl⟩
  have HB := Lib.hid hb
  have HF0 := Lib.hid hf0
  rw [hb] at hz0 ⊢
  have HZ0 := Lib.hid hz0
  clear hb hf0 hz0
  go_upto_region 2 with (first | (refine wp_storeB rfl (.tmp 11) (.tmp 17) _ rfl rfl rfl (Blk.new _ _ _) HI.out rfl (by simp [Value.oneCell']) ?_) | fail)
  intro W1 hb1 ho1
  obtain ⟨c, hc⟩ : ∃ c, W0.heap.size = c := ⟨_, rfl⟩
  have HC := Lib.hid hc
  rw [hc] at hb1 ⊢
  have HF1 : Hid (Fresh W0 W1) := Lib.hid (Only.fresh ((Only.of_fresh (Fresh.alloc _ _)).trans ho1) (fun i hi e => by omega))
  have HB1 : Hid (Blk W1 c 35 #[.int .i64 ty, .int .i64 st, .string ByteArray.empty, .int .i64 0, .int .i64 0, .int .i64 0, .int .i64 0, .int .i64 0, .int .i64 0, .int .i64 0, .int .i64 0, .int .i64 0, .int .i64 0, .int .i64 0, .slice none 0 0]) := Lib.hid hb1
  clear hb1 ho1 hc
  go_upto_region 5 with (first | (refine wp_loadB rfl (.tmp 11) _ rfl rfl HB1.out HI.out HG.out ?_) | (refine wp_storeB rfl (.tmp 12) (.tmp 23) _ rfl rfl rfl (Blk.new _ _ _) HI.out rfl (by simp [Value.oneCell']) ?_) | fail)
  intro W2 hb2 ho2
  obtain ⟨d, hd⟩ : ∃ d, W1.heap.size = d := ⟨_, rfl⟩
  have HD : Hid (DX w W2 b c d #[.int .i64 ty, .int .i64 st, .string ByteArray.empty, .int .i64 0, .int .i64 0, .int .i64 0, .int .i64 0, .int .i64 0, .int .i64 0, .int .i64 0, .int .i64 0, .int .i64 0, .int .i64 0, .int .i64 0, .slice none 0 0] #[.int .i64 ty, .int .i64 st, .string ByteArray.empty, .int .i64 0, .int .i64 0, .int .i64 0, .int .i64 0, .int .i64 0, .int .i64 0, .int .i64 0, .int .i64 0, .int .i64 0, .int .i64 0, .int .i64 0, .slice none 0 0]) := Lib.hid (by
    have hf2 : Fresh W1 W2 := Only.fresh ((Only.of_fresh (Fresh.alloc _ _)).trans ho2) (fun i hi e => by omega)
    exact ⟨HF0.out.trans (HF1.out.trans hf2), Nat.le_of_eq HB.out, by have := HZ0.out.lt; have := HC.out; omega, by have := HB1.out.lt; omega, (HZ0.out.fresh HF1.out).fresh hf2, HB1.out.fresh hf2, by rw [← hd]; exact hb2⟩)
  rw [hd]
  clear hb2 ho2 hd HF0 HF1 HZ0 HB1 HC HB
  have y10 := HD.out.b2.cell 10
  have y12 := HD.out.b2.cell 12
  simp at y10 y12
  go_upto_region 61 with (first | fail)
  go_wp2_with (first | (refine wp_loadB rfl (.tmp 12) _ rfl rfl HD.out.b2 HI.out HG.out ?_) | (refine wp_storeB rfl (.tmp 8) (.tmp 244) _ rfl rfl rfl HD.out.b0 HI.out rfl (by simp [Value.oneCell']) ?_) | fail)
  intro W6 hb6 ho6
  have HB6 := Lib.hid hb6
  have HX := Lib.hid (HFIN.out W6 (HD.out.fin ho6))
  clear hb6 ho6
  go_wp2
  refine bodyPost_ret (results_c2 (fn := Try.f10) rfl rfl rfl rfl HB6.out HI.out HG.out) rfl ?_
  exact HX.out
end Go.Proofs.Ytcdghmidpaeloaa

