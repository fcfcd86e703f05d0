/-
  The document's answer for layer 10: Parse, type by type: update, priority.
-/
import Derived.Test.YtcdghmidpaeloaaPayV
namespace Go.Proofs.Ytcdghmidpaeloaa
set_option maxRecDepth 100000
set_option linter.unusedVariables false
set_option linter.unusedSimpArgs false
open Go.RowKit
set_option maxHeartbeats 6400000 in
theorem rp_8_n (fl st : Int) (l : List UInt8) (hl : l.length ≤ 300) (w : World) (k : Nat) (hk : FirstB 8 fl st l k) (h0 : 0 ≤ fl) (h1 : fl ≤ 255) (hn4 : ¬ l.length = 4) :
    Calls Try.prog 10 #[.int .i64 8, .int .i64 fl, .int .i64 st, .string (strB l)] w (DocP 8 st 0 (prsF 8 fl st l k) w) := by
  have hp : prsF 8 fl st l k = (PR0, 106, true) := prs_at hk (k0 := 1) ⟨by omega, fun j hj => by
    have hjj : j = 0 := by omega
    rcases hjj with rfl <;> (simp [lookB, srB, szB, aheadN, padN, pdB, wgB, depN, wtL, fromN, incN, hn4]; try omega), fun hh => by simp [lookB, srB, szB, aheadN, padN, pdB, wgB, depN, wtL, fromN, incN, hn4]; try omega⟩ (by simp [prsF, lkC, lkD])
  rw [hp]
  have HBAD : Hid (∀ W, Fresh w W → DocP 8 st 0 (PR0, 106, true) w (.returned (.tuple #[.agg #[.int .i64 8, .int .i64 st, .string ByteArray.empty, .int .i64 0, .int .i64 0, .int .i64 0, .int .i64 0, .int .i64 0, .int .i64 0, .int .i64 0, .int .i64 0, .int .i64 0, .int .i64 0, .int .i64 0, .slice none 0 0], .int .i64 106, .int .i64 1])) W) := Lib.hid (fun W h => docP_bad h)
  generalize DocP 8 st 0 (PR0, 106, true) w = PP at *
  clear hp hk
  have hz : (strB l).size = l.length := strB_size l
  obtain ⟨n, hn⟩ : ∃ n, l.length = n := ⟨_, rfl⟩
  have HN := Lib.hid hn
  rw [hn] at hn4 hl hz
  generalize strB l = S at *
  have hn5 : ((n : Int) == 4) = false := by simp; omega
  clear hn
  have HI := Lib.hid (show (Try.prog.info? 35).map (·.size) = some 15 by kernel_rfl)
  have HG := Lib.hid (fun w => (show (isAgg 35).run Try.prog w = .ok true w by simp [isAgg, go_sem]))
  go_enter Try.func10, Try.ntmps10
  go_upto_region 1 with fail
  refine wp_gen (fun W => Blk W w.heap.size 35 #[.int .i64 0, .int .i64 0, .string ByteArray.empty, .int .i64 0, .int .i64 0, .int .i64 0, .int .i64 0, .int .i64 0, .int .i64 0, .int .i64 0, .int .i64 0, .int .i64 0, .int .i64 0, .int .i64 0, .slice none 0 0] ∧ Fresh w W) ⟨Blk.new _ _ _, Fresh.alloc _ _⟩ ?_
  rintro W0 ⟨hz0, hf0⟩
  obtain ⟨b, hb⟩ : ∃ b, w.heap.size = b := ⟨_, rfl⟩
  have HB := Lib.hid hb
  have HF0 := Lib.hid hf0
  rw [hb] at hz0 ⊢
  have HZ0 := Lib.hid hz0
  clear hb hf0 hz0
  go_upto_region 2 with (first | (refine wp_storeB rfl (.tmp 11) (.tmp 17) _ rfl rfl rfl (Blk.new _ _ _) HI.out rfl (by simp [Value.oneCell']) ?_) | fail)
  intro W1 hb1 ho1
  obtain ⟨c, hc⟩ : ∃ c, W0.heap.size = c := ⟨_, rfl⟩
  have HC := Lib.hid hc
  rw [hc] at hb1 ⊢
  have HF1 : Hid (Fresh W0 W1) := Lib.hid (Only.fresh ((Only.of_fresh (Fresh.alloc _ _)).trans ho1) (fun i hi e => by omega))
  have HB1 : Hid (Blk W1 c 35 #[.int .i64 8, .int .i64 st, .string ByteArray.empty, .int .i64 0, .int .i64 0, .int .i64 0, .int .i64 0, .int .i64 0, .int .i64 0, .int .i64 0, .int .i64 0, .int .i64 0, .int .i64 0, .int .i64 0, .slice none 0 0]) := Lib.hid hb1
  clear hb1 ho1 hc
  go_upto_region 5 with (first | (refine wp_loadB rfl (.tmp 11) _ rfl rfl HB1.out HI.out HG.out ?_) | (refine wp_storeB rfl (.tmp 12) (.tmp 23) _ rfl rfl rfl (Blk.new _ _ _) HI.out rfl (by simp [Value.oneCell']) ?_) | fail)
  intro W2 hb2 ho2
  obtain ⟨d, hd⟩ : ∃ d, W1.heap.size = d := ⟨_, rfl⟩
  have HD : Hid (DX w W2 b c d #[.int .i64 8, .int .i64 st, .string ByteArray.empty, .int .i64 0, .int .i64 0, .int .i64 0, .int .i64 0, .int .i64 0, .int .i64 0, .int .i64 0, .int .i64 0, .int .i64 0, .int .i64 0, .int .i64 0, .slice none 0 0] #[.int .i64 8, .int .i64 st, .string ByteArray.empty, .int .i64 0, .int .i64 0, .int .i64 0, .int .i64 0, .int .i64 0, .int .i64 0, .int .i64 0, .int .i64 0, .int .i64 0, .int .i64 0, .int .i64 0, .slice none 0 0]) := Lib.hid (by
    have hf2 : Fresh W1 W2 := Only.fresh ((Only.of_fresh (Fresh.alloc _ _)).trans ho2) (fun i hi e => by omega)
    exact ⟨HF0.out.trans (HF1.out.trans hf2), Nat.le_of_eq HB.out, by have := HZ0.out.lt; have := HC.out; omega, by have := HB1.out.lt; omega, (HZ0.out.fresh HF1.out).fresh hf2, HB1.out.fresh hf2, by rw [← hd]; exact hb2⟩)
  rw [hd]
  clear hb2 ho2 hd HF0 HF1 HZ0 HB1 HC HB
  go_wp2_with (first | (refine wp_loadB rfl (.tmp 11) _ rfl rfl HD.out.b1 HI.out HG.out ?_) | (refine wp_storeB rfl (.tmp 8) (.tmp 103) _ rfl rfl rfl HD.out.b0 HI.out rfl (by simp [Value.oneCell']) ?_) | fail)
  intro W4 hb4 ho4
  have HB4 := Lib.hid hb4
  have HX := Lib.hid (HBAD.out W4 (HD.out.fin ho4))
  clear hb4 ho4
  go_wp2
  refine bodyPost_ret (results_c2 (fn := Try.f10) rfl rfl rfl rfl HB4.out HI.out HG.out) rfl ?_
  exact HX.out
set_option maxHeartbeats 6400000 in
theorem rp_8_z0 (fl st : Int) (l : List UInt8) (hl : l.length ≤ 300) (w : World) (k : Nat) (hk : FirstB 8 fl st l k) (h0 : 0 ≤ fl) (h1 : fl ≤ 255) (hst : st = 0) (hn4 : l.length = 4) (hr : numL l % 2147483648 = 0) :
    Calls Try.prog 10 #[.int .i64 8, .int .i64 fl, .int .i64 st, .string (strB l)] w (DocP 8 st 0 (prsF 8 fl st l k) w) := by
  have hp : prsF 8 fl st l k = (PR0, 101, true) := prs_at hk (k0 := 5) ⟨by omega, fun j hj => by
    have hjj : j = 0 ∨ j = 1 ∨ j = 2 ∨ j = 3 ∨ j = 4 := by omega
    rcases hjj with rfl | rfl | rfl | rfl | rfl <;> (simp [lookB, srB, szB, aheadN, padN, pdB, wgB, depN, wtL, fromN, incN, hst, hn4, hr, List.take_of_length_le (Nat.le_of_eq hn4)]; try omega), fun hh => by simp [lookB, srB, szB, aheadN, padN, pdB, wgB, depN, wtL, fromN, incN, hst, hn4, hr, List.take_of_length_le (Nat.le_of_eq hn4)]; try omega⟩ (by simp [prsF, lkC, lkD, hst])
  rw [hp]
  have HBAD : Hid (∀ W, Fresh w W → DocP 8 st 0 (PR0, 101, true) w (.returned (.tuple #[.agg #[.int .i64 8, .int .i64 st, .string ByteArray.empty, .int .i64 0, .int .i64 0, .int .i64 0, .int .i64 0, .int .i64 0, .int .i64 0, .int .i64 0, .int .i64 0, .int .i64 0, .int .i64 0, .int .i64 0, .slice none 0 0], .int .i64 101, .int .i64 1])) W) := Lib.hid (fun W h => docP_bad h)
  generalize DocP 8 st 0 (PR0, 101, true) w = PP at *
  clear hp hk
  have HW1 := Lib.hid (fun W => rf_word l (by omega) _ rfl W)
  have htk : l.take 4 = l := List.take_of_length_le (by omega)
  have hq := numL_take_lt l 4 4 (Nat.le_refl _)
  rw [htk, show (256 : Nat) ^ 4 = 4294967296 from rfl] at hq
  generalize numL l = q1 at *
  have e4 : (q1 : Int).tmod 2147483648 = ((q1 % 2147483648 : Nat) : Int) := by rw [Int.tmod_eq_emod_of_nonneg (by omega)]; omega
  have e5 : IntKind.i64.wrap ((q1 % 2147483648 : Nat) : Int) = ((q1 % 2147483648 : Nat) : Int) := IntWalk.i64_in _ (by omega)
  generalize q1 % 2147483648 = r1 at *
  clear hq htk
  have hz : (strB l).size = l.length := strB_size l
  obtain ⟨n, hn⟩ : ∃ n, l.length = n := ⟨_, rfl⟩
  have HN := Lib.hid hn
  rw [hn] at hn4 hl hz
  generalize strB l = S at *
  have hn5 : ((n : Int) == 4) = true := by simp; omega
  clear hn
  subst hr
  rw [show ((0 : Nat) : Int) = 0 from rfl] at e4 e5
  subst hst
  have HI := Lib.hid (show (Try.prog.info? 35).map (·.size) = some 15 by kernel_rfl)
  have HG := Lib.hid (fun w => (show (isAgg 35).run Try.prog w = .ok true w by simp [isAgg, go_sem]))
  go_enter Try.func10, Try.ntmps10
  go_upto_region 1 with fail
  refine wp_gen (fun W => Blk W w.heap.size 35 #[.int .i64 0, .int .i64 0, .string ByteArray.empty, .int .i64 0, .int .i64 0, .int .i64 0, .int .i64 0, .int .i64 0, .int .i64 0, .int .i64 0, .int .i64 0, .int .i64 0, .int .i64 0, .int .i64 0, .slice none 0 0] ∧ Fresh w W) ⟨Blk.new _ _ _, Fresh.alloc _ _⟩ ?_
  rintro W0 ⟨hz0, hf0⟩
  obtain ⟨b, hb⟩ : ∃ b, w.heap.size = b := ⟨_, rfl⟩
  have HB := Lib.hid hb
  have HF0 := Lib.hid hf0
  rw [hb] at hz0 ⊢
  have HZ0 := Lib.hid hz0
  clear hb hf0 hz0
  go_upto_region 2 with (first | (refine wp_storeB rfl (.tmp 11) (.tmp 17) _ rfl rfl rfl (Blk.new _ _ _) HI.out rfl (by simp [Value.oneCell']) ?_) | fail)
  intro W1 hb1 ho1
  obtain ⟨c, hc⟩ : ∃ c, W0.heap.size = c := ⟨_, rfl⟩
  have HC := Lib.hid hc
  rw [hc] at hb1 ⊢
  have HF1 : Hid (Fresh W0 W1) := Lib.hid (Only.fresh ((Only.of_fresh (Fresh.alloc _ _)).trans ho1) (fun i hi e => by omega))
  have HB1 : Hid (Blk W1 c 35 #[.int .i64 8, .int .i64 0, .string ByteArray.empty, .int .i64 0, .int .i64 0, .int .i64 0, .int .i64 0, .int .i64 0, .int .i64 0, .int .i64 0, .int .i64 0, .int .i64 0, .int .i64 0, .int .i64 0, .slice none 0 0]) := Lib.hid hb1
  clear hb1 ho1 hc
  go_upto_region 5 with (first | (refine wp_loadB rfl (.tmp 11) _ rfl rfl HB1.out HI.out HG.out ?_) | (refine wp_storeB rfl (.tmp 12) (.tmp 23) _ rfl rfl rfl (Blk.new _ _ _) HI.out rfl (by simp [Value.oneCell']) ?_) | fail)
  intro W2 hb2 ho2
  obtain ⟨d, hd⟩ : ∃ d, W1.heap.size = d := ⟨_, rfl⟩
  have HD : Hid (DX w W2 b c d #[.int .i64 8, .int .i64 0, .string ByteArray.empty, .int .i64 0, .int .i64 0, .int .i64 0, .int .i64 0, .int .i64 0, .int .i64 0, .int .i64 0, .int .i64 0, .int .i64 0, .int .i64 0, .int .i64 0, .slice none 0 0] #[.int .i64 8, .int .i64 0, .string ByteArray.empty, .int .i64 0, .int .i64 0, .int .i64 0, .int .i64 0, .int .i64 0, .int .i64 0, .int .i64 0, .int .i64 0, .int .i64 0, .int .i64 0, .int .i64 0, .slice none 0 0]) := Lib.hid (by
    have hf2 : Fresh W1 W2 := Only.fresh ((Only.of_fresh (Fresh.alloc _ _)).trans ho2) (fun i hi e => by omega)
    exact ⟨HF0.out.trans (HF1.out.trans hf2), Nat.le_of_eq HB.out, by have := HZ0.out.lt; have := HC.out; omega, by have := HB1.out.lt; omega, (HZ0.out.fresh HF1.out).fresh hf2, HB1.out.fresh hf2, by rw [← hd]; exact hb2⟩)
  rw [hd]
  clear hb2 ho2 hd HF0 HF1 HZ0 HB1 HC HB
  have y9 := HD.out.b2.cell 9
  have z9 := HD.out.b2.frozen 9
  have y10 := HD.out.b2.cell 10
  have y12 := HD.out.b2.cell 12
  simp at y9 y10 y12
  go_upto_region 54 with (first | (go_at_call 19; with_reducible refine (HW1.out _).mono ?_; rintro e w2 ⟨rfl, rfl⟩) | fail)
  refine wp_gen (fun W => DX w W b c d #[.int .i64 8, .int .i64 0, .string ByteArray.empty, .int .i64 0, .int .i64 0, .int .i64 0, .int .i64 0, .int .i64 0, .int .i64 0, .int .i64 0, .int .i64 0, .int .i64 0, .int .i64 0, .int .i64 0, .slice none 0 0] #[.int .i64 8, .int .i64 0, .string ByteArray.empty, .int .i64 0, .int .i64 0, .int .i64 0, .int .i64 0, .int .i64 0, .int .i64 0, .int .i64 0, .int .i64 0, .int .i64 0, .int .i64 0, .int .i64 0, .slice none 0 0]) (HD.out.set 9 (.int .i64 0) #[.int .i64 8, .int .i64 0, .string ByteArray.empty, .int .i64 0, .int .i64 0, .int .i64 0, .int .i64 0, .int .i64 0, .int .i64 0, .int .i64 0, .int .i64 0, .int .i64 0, .int .i64 0, .int .i64 0, .slice none 0 0] rfl) ?_
  clear HD
  intro W5 hd5
  have HD := Lib.hid hd5
  clear hd5 y9 z9 y10 y12
  have y9 := HD.out.b2.cell 9
  simp at y9
  go_wp2_with (first | (refine wp_loadB rfl (.tmp 11) _ rfl rfl HD.out.b1 HI.out HG.out ?_) | (refine wp_storeB rfl (.tmp 8) (.tmp 235) _ rfl rfl rfl HD.out.b0 HI.out rfl (by simp [Value.oneCell']) ?_) | fail)
  intro W4 hb4 ho4
  have HB4 := Lib.hid hb4
  have HX := Lib.hid (HBAD.out W4 (HD.out.fin ho4))
  clear hb4 ho4
  go_wp2
  refine bodyPost_ret (results_c2 (fn := Try.f10) rfl rfl rfl rfl HB4.out HI.out HG.out) rfl ?_
  exact HX.out
set_option maxHeartbeats 6400000 in
theorem rp_8_z1 (fl st : Int) (l : List UInt8) (hl : l.length ≤ 300) (w : World) (k : Nat) (hk : FirstB 8 fl st l k) (h0 : 0 ≤ fl) (h1 : fl ≤ 255) (hst : ¬ st = 0) (hn4 : l.length = 4) (hr : numL l % 2147483648 = 0) :
    Calls Try.prog 10 #[.int .i64 8, .int .i64 fl, .int .i64 st, .string (strB l)] w (DocP 8 st 0 (prsF 8 fl st l k) w) := by
  have hp : prsF 8 fl st l k = (PR0, 101, false) := prs_at hk (k0 := 5) ⟨by omega, fun j hj => by
    have hjj : j = 0 ∨ j = 1 ∨ j = 2 ∨ j = 3 ∨ j = 4 := by omega
    rcases hjj with rfl | rfl | rfl | rfl | rfl <;> (simp [lookB, srB, szB, aheadN, padN, pdB, wgB, depN, wtL, fromN, incN, hst, hn4, hr, List.take_of_length_le (Nat.le_of_eq hn4)]; try omega), fun hh => by simp [lookB, srB, szB, aheadN, padN, pdB, wgB, depN, wtL, fromN, incN, hst, hn4, hr, List.take_of_length_le (Nat.le_of_eq hn4)]; try omega⟩ (by simp [prsF, lkC, lkD, hst])
  rw [hp]
  have HBAD : Hid (∀ W, Fresh w W → DocP 8 st 0 (PR0, 101, false) w (.returned (.tuple #[.agg #[.int .i64 8, .int .i64 st, .string ByteArray.empty, .int .i64 0, .int .i64 0, .int .i64 0, .int .i64 0, .int .i64 0, .int .i64 0, .int .i64 0, .int .i64 0, .int .i64 0, .int .i64 0, .int .i64 0, .slice none 0 0], .int .i64 101, .int .i64 0])) W) := Lib.hid (fun W h => docP_bad h)
  generalize DocP 8 st 0 (PR0, 101, false) w = PP at *
  clear hp hk
  have HW1 := Lib.hid (fun W => rf_word l (by omega) _ rfl W)
  have htk : l.take 4 = l := List.take_of_length_le (by omega)
  have hq := numL_take_lt l 4 4 (Nat.le_refl _)
  rw [htk, show (256 : Nat) ^ 4 = 4294967296 from rfl] at hq
  generalize numL l = q1 at *
  have e4 : (q1 : Int).tmod 2147483648 = ((q1 % 2147483648 : Nat) : Int) := by rw [Int.tmod_eq_emod_of_nonneg (by omega)]; omega
  have e5 : IntKind.i64.wrap ((q1 % 2147483648 : Nat) : Int) = ((q1 % 2147483648 : Nat) : Int) := IntWalk.i64_in _ (by omega)
  generalize q1 % 2147483648 = r1 at *
  clear hq htk
  have hz : (strB l).size = l.length := strB_size l
  obtain ⟨n, hn⟩ : ∃ n, l.length = n := ⟨_, rfl⟩
  have HN := Lib.hid hn
  rw [hn] at hn4 hl hz
  generalize strB l = S at *
  have hn5 : ((n : Int) == 4) = true := by simp; omega
  clear hn
  subst hr
  rw [show ((0 : Nat) : Int) = 0 from rfl] at e4 e5
  have hs1 : (st == 0) = false := by simpa using hst
  have HI := Lib.hid (show (Try.prog.info? 35).map (·.size) = some 15 by kernel_rfl)
  have HG := Lib.hid (fun w => (show (isAgg 35).run Try.prog w = .ok true w by simp [isAgg, go_sem]))
  go_enter Try.func10, Try.ntmps10
  go_upto_region 1 with fail
  refine wp_gen (fun W => Blk W w.heap.size 35 #[.int .i64 0, .int .i64 0, .string ByteArray.empty, .int .i64 0, .int .i64 0, .int .i64 0, .int .i64 0, .int .i64 0, .int .i64 0, .int .i64 0, .int .i64 0, .int .i64 0, .int .i64 0, .int .i64 0, .slice none 0 0] ∧ Fresh w W) ⟨Blk.new _ _ _, Fresh.alloc _ _⟩ ?_
  rintro W0 ⟨hz0, hf0⟩
  obtain ⟨b, hb⟩ : ∃ b, w.heap.size = b := ⟨_, rfl⟩
  have HB := Lib.hid hb
  have HF0 := Lib.hid hf0
  rw [hb] at hz0 ⊢
  have HZ0 := Lib.hid hz0
  clear hb hf0 hz0
  go_upto_region 2 with (first | (refine wp_storeB rfl (.tmp 11) (.tmp 17) _ rfl rfl rfl (Blk.new _ _ _) HI.out rfl (by simp [Value.oneCell']) ?_) | fail)
  intro W1 hb1 ho1
  obtain ⟨c, hc⟩ : ∃ c, W0.heap.size = c := ⟨_, rfl⟩
  have HC := Lib.hid hc
  rw [hc] at hb1 ⊢
  have HF1 : Hid (Fresh W0 W1) := Lib.hid (Only.fresh ((Only.of_fresh (Fresh.alloc _ _)).trans ho1) (fun i hi e => by omega))
  have HB1 : Hid (Blk W1 c 35 #[.int .i64 8, .int .i64 st, .string ByteArray.empty, .int .i64 0, .int .i64 0, .int .i64 0, .int .i64 0, .int .i64 0, .int .i64 0, .int .i64 0, .int .i64 0, .int .i64 0, .int .i64 0, .int .i64 0, .slice none 0 0]) := Lib.hid hb1
  clear hb1 ho1 hc
  go_upto_region 5 with (first | (refine wp_loadB rfl (.tmp 11) _ rfl rfl HB1.out HI.out HG.out ?_) | (refine wp_storeB rfl (.tmp 12) (.tmp 23) _ rfl rfl rfl (Blk.new _ _ _) HI.out rfl (by simp [Value.oneCell']) ?_) | fail)
  intro W2 hb2 ho2
  obtain ⟨d, hd⟩ : ∃ d, W1.heap.size = d := ⟨_, rfl⟩
  have HD : Hid (DX w W2 b c d #[.int .i64 8, .int .i64 st, .string ByteArray.empty, .int .i64 0, .int .i64 0, .int .i64 0, .int .i64 0, .int .i64 0, .int .i64 0, .int .i64 0, .int .i64 0, .int .i64 0, .int .i64 0, .int .i64 0, .slice none 0 0] #[.int .i64 8, .int .i64 st, .string ByteArray.empty, .int .i64 0, .int .i64 0, .int .i64 0, .int .i64 0, .int .i64 0, .int .i64 0, .int .i64 0, .int .i64 0, .int .i64 0, .int .i64 0, .int .i64 0, .slice none 0 0]) := Lib.hid (by
    have hf2 : Fresh W1 W2 := Only.fresh ((Only.of_fresh (Fresh.alloc _ _)).trans ho2) (fun i hi e => by omega)
    exact ⟨HF0.out.trans (HF1.out.trans hf2), Nat.le_of_eq HB.out, by have := HZ0.out.lt; have := HC.out; omega, by have := HB1.out.lt; omega, (HZ0.out.fresh HF1.out).fresh hf2, HB1.out.fresh hf2, by rw [← hd]; exact hb2⟩)
  rw [hd]
  clear hb2 ho2 hd HF0 HF1 HZ0 HB1 HC HB
  have y9 := HD.out.b2.cell 9
  have z9 := HD.out.b2.frozen 9
  have y10 := HD.out.b2.cell 10
  have y12 := HD.out.b2.cell 12
  simp at y9 y10 y12
  go_upto_region 54 with (first | (go_at_call 19; with_reducible refine (HW1.out _).mono ?_; rintro e w2 ⟨rfl, rfl⟩) | fail)
  refine wp_gen (fun W => DX w W b c d #[.int .i64 8, .int .i64 st, .string ByteArray.empty, .int .i64 0, .int .i64 0, .int .i64 0, .int .i64 0, .int .i64 0, .int .i64 0, .int .i64 0, .int .i64 0, .int .i64 0, .int .i64 0, .int .i64 0, .slice none 0 0] #[.int .i64 8, .int .i64 st, .string ByteArray.empty, .int .i64 0, .int .i64 0, .int .i64 0, .int .i64 0, .int .i64 0, .int .i64 0, .int .i64 0, .int .i64 0, .int .i64 0, .int .i64 0, .int .i64 0, .slice none 0 0]) (HD.out.set 9 (.int .i64 0) #[.int .i64 8, .int .i64 st, .string ByteArray.empty, .int .i64 0, .int .i64 0, .int .i64 0, .int .i64 0, .int .i64 0, .int .i64 0, .int .i64 0, .int .i64 0, .int .i64 0, .int .i64 0, .int .i64 0, .slice none 0 0] rfl) ?_
  clear HD
  intro W5 hd5
  have HD := Lib.hid hd5
  clear hd5 y9 z9 y10 y12
  have y9 := HD.out.b2.cell 9
  simp at y9
  go_wp2_with (first | (refine wp_loadB rfl (.tmp 11) _ rfl rfl HD.out.b1 HI.out HG.out ?_) | (refine wp_storeB rfl (.tmp 8) (.tmp 236) _ rfl rfl rfl HD.out.b0 HI.out rfl (by simp [Value.oneCell']) ?_) | fail)
  intro W4 hb4 ho4
  have HB4 := Lib.hid hb4
  have HX := Lib.hid (HBAD.out W4 (HD.out.fin ho4))
  clear hb4 ho4
  go_wp2
  refine bodyPost_ret (results_c2 (fn := Try.f10) rfl rfl rfl rfl HB4.out HI.out HG.out) rfl ?_
  exact HX.out
set_option maxHeartbeats 6400000 in
theorem rp_8_y (fl st : Int) (l : List UInt8) (hl : l.length ≤ 300) (w : World) (k : Nat) (hk : FirstB 8 fl st l k) (h0 : 0 ≤ fl) (h1 : fl ≤ 255) (hn4 : l.length = 4) (hr : ¬ numL l % 2147483648 = 0) :
    Calls Try.prog 10 #[.int .i64 8, .int .i64 fl, .int .i64 st, .string (strB l)] w (DocP 8 st 0 (prsF 8 fl st l k) w) := by
  have hp : prsF 8 fl st l k = (⟨[], false, false, false, 0, 0, ((numL l % 2147483648 : Nat) : Int), 0, 0, false, false, []⟩, 0, false) := prs_at hk (k0 := 6) ⟨by omega, fun j hj => by
    have hjj : j = 0 ∨ j = 1 ∨ j = 2 ∨ j = 3 ∨ j = 4 ∨ j = 5 := by omega
    rcases hjj with rfl | rfl | rfl | rfl | rfl | rfl <;> (simp [lookB, srB, szB, aheadN, padN, pdB, wgB, depN, wtL, fromN, incN, hn4, hr, List.take_of_length_le (Nat.le_of_eq hn4)]; try omega), fun hh => by omega⟩ (by rw [prsF, if_neg (by omega)]; simp [prOf, PR0, incN, depN, wtL, fromN, pdB, wgB, hn4, hr, List.take_of_length_le (Nat.le_of_eq hn4)])
  rw [hp]
  have HFIN : Hid (∀ W, Fresh w W → DocP 8 st 0 (⟨[], false, false, false, 0, 0, ((numL l % 2147483648 : Nat) : Int), 0, 0, false, false, []⟩, 0, false) w (.returned (.tuple #[.agg #[.int .i64 8, .int .i64 st, .string ByteArray.empty, .int .i64 0, .int .i64 0, .int .i64 0, .int .i64 0, .int .i64 0, .int .i64 0, .int .i64 ((numL l % 2147483648 : Nat) : Int), .int .i64 0, .int .i64 0, .int .i64 0, .int .i64 0, .slice none 0 0], .int .i64 0, .int .i64 0])) W) := Lib.hid (fun W h => docP_ok h)
  generalize DocP 8 st 0 (⟨[], false, false, false, 0, 0, ((numL l % 2147483648 : Nat) : Int), 0, 0, false, false, []⟩, 0, false) w = PP at *
  clear hp hk
  have HW1 := Lib.hid (fun W => rf_word l (by omega) _ rfl W)
  have htk : l.take 4 = l := List.take_of_length_le (by omega)
  have hq := numL_take_lt l 4 4 (Nat.le_refl _)
  rw [htk, show (256 : Nat) ^ 4 = 4294967296 from rfl] at hq
  generalize numL l = q1 at *
  have e4 : (q1 : Int).tmod 2147483648 = ((q1 % 2147483648 : Nat) : Int) := by rw [Int.tmod_eq_emod_of_nonneg (by omega)]; omega
  have e5 : IntKind.i64.wrap ((q1 % 2147483648 : Nat) : Int) = ((q1 % 2147483648 : Nat) : Int) := IntWalk.i64_in _ (by omega)
  generalize q1 % 2147483648 = r1 at *
  clear hq htk
  have hz : (strB l).size = l.length := strB_size l
  obtain ⟨n, hn⟩ : ∃ n, l.length = n := ⟨_, rfl⟩
  have HN := Lib.hid hn
  rw [hn] at hn4 hl hz
  generalize strB l = S at *
  have hn5 : ((n : Int) == 4) = true := by simp; omega
  clear hn
  have hr5 : ((r1 : Int) == 0) = false := by simp; omega
  have HI := Lib.hid (show (Try.prog.info? 35).map (·.size) = some 15 by kernel_rfl)
  have HG := Lib.hid (fun w => (show (isAgg 35).run Try.prog w = .ok true w by simp [isAgg, go_sem]))
  go_enter Try.func10, Try.ntmps10
  go_upto_region 1 with fail
  refine wp_gen (fun W => Blk W w.heap.size 35 #[.int .i64 0, .int .i64 0, .string ByteArray.empty, .int .i64 0, .int .i64 0, .int .i64 0, .int .i64 0, .int .i64 0, .int .i64 0, .int .i64 0, .int .i64 0, .int .i64 0, .int .i64 0, .int .i64 0, .slice none 0 0] ∧ Fresh w W) ⟨Blk.new _ _ _, Fresh.alloc _ _⟩ ?_
  rintro W0 ⟨hz0, hf0⟩
  obtain ⟨b, hb⟩ : ∃ b, w.heap.size = b := ⟨_, rfl⟩
  have HB := Lib.hid hb
  have HF0 := Lib.hid hf0
  rw [hb] at hz0 ⊢
  have HZ0 := Lib.hid hz0
  clear hb hf0 hz0
  go_upto_region 2 with (first | (refine wp_storeB rfl (.tmp 11) (.tmp 17) _ rfl rfl rfl (Blk.new _ _ _) HI.out rfl (by simp [Value.oneCell']) ?_) | fail)
  intro W1 hb1 ho1
  obtain ⟨c, hc⟩ : ∃ c, W0.heap.size = c := ⟨_, rfl⟩
  have HC := Lib.hid hc
  rw [hc] at hb1 ⊢
  have HF1 : Hid (Fresh W0 W1) := Lib.hid (Only.fresh ((Only.of_fresh (Fresh.alloc _ _)).trans ho1) (fun i hi e => by omega))
  have HB1 : Hid (Blk W1 c 35 #[.int .i64 8, .int .i64 st, .string ByteArray.empty, .int .i64 0, .int .i64 0, .int .i64 0, .int .i64 0, .int .i64 0, .int .i64 0, .int .i64 0, .int .i64 0, .int .i64 0, .int .i64 0, .int .i64 0, .slice none 0 0]) := Lib.hid hb1
  clear hb1 ho1 hc
  go_upto_region 5 with (first | (refine wp_loadB rfl (.tmp 11) _ rfl rfl HB1.out HI.out HG.out ?_) | (refine wp_storeB rfl (.tmp 12) (.tmp 23) _ rfl rfl rfl (Blk.new _ _ _) HI.out rfl (by simp [Value.oneCell']) ?_) | fail)
  intro W2 hb2 ho2
  obtain ⟨d, hd⟩ : ∃ d, W1.heap.size = d := ⟨_, rfl⟩
  have HD : Hid (DX w W2 b c d #[.int .i64 8, .int .i64 st, .string ByteArray.empty, .int .i64 0, .int .i64 0, .int .i64 0, .int .i64 0, .int .i64 0, .int .i64 0, .int .i64 0, .int .i64 0, .int .i64 0, .int .i64 0, .int .i64 0, .slice none 0 0] #[.int .i64 8, .int .i64 st, .string ByteArray.empty, .int .i64 0, .int .i64 0, .int .i64 0, .int .i64 0, .int .i64 0, .int .i64 0, .int .i64 0, .int .i64 0, .int .i64 0, .int .i64 0, .int .i64 0, .slice none 0 0]) := Lib.hid (by
    have hf2 : Fresh W1 W2 := Only.fresh ((Only.of_fresh (Fresh.alloc _ _)).trans ho2) (fun i hi e => by omega)
    exact ⟨HF0.out.trans (HF1.out.trans hf2), Nat.le_of_eq HB.out, by have := HZ0.out.lt; have := HC.out; omega, by have := HB1.out.lt; omega, (HZ0.out.fresh HF1.out).fresh hf2, HB1.out.fresh hf2, by rw [← hd]; exact hb2⟩)
  rw [hd]
  clear hb2 ho2 hd HF0 HF1 HZ0 HB1 HC HB
  have y9 := HD.out.b2.cell 9
  have z9 := HD.out.b2.frozen 9
  have y10 := HD.out.b2.cell 10
  have y12 := HD.out.b2.cell 12
  simp at y9 y10 y12
  go_upto_region 54 with (first | (go_at_call 19; with_reducible refine (HW1.out _).mono ?_; rintro e w2 ⟨rfl, rfl⟩) | fail)
  refine wp_gen (fun W => DX w W b c d #[.int .i64 8, .int .i64 st, .string ByteArray.empty, .int .i64 0, .int .i64 0, .int .i64 0, .int .i64 0, .int .i64 0, .int .i64 0, .int .i64 0, .int .i64 0, .int .i64 0, .int .i64 0, .int .i64 0, .slice none 0 0] #[.int .i64 8, .int .i64 st, .string ByteArray.empty, .int .i64 0, .int .i64 0, .int .i64 0, .int .i64 0, .int .i64 0, .int .i64 0, .int .i64 (r1 : Int), .int .i64 0, .int .i64 0, .int .i64 0, .int .i64 0, .slice none 0 0]) (HD.out.set 9 (.int .i64 (r1 : Int)) #[.int .i64 8, .int .i64 st, .string ByteArray.empty, .int .i64 0, .int .i64 0, .int .i64 0, .int .i64 0, .int .i64 0, .int .i64 0, .int .i64 (r1 : Int), .int .i64 0, .int .i64 0, .int .i64 0, .int .i64 0, .slice none 0 0] rfl) ?_
  clear HD
  intro W5 hd5
  have HD := Lib.hid hd5
  clear hd5 y9 z9 y10 y12
  have y9 := HD.out.b2.cell 9
  simp at y9
  have y10 := HD.out.b2.cell 10
  have y12 := HD.out.b2.cell 12
  simp at y10 y12
  go_upto_region 61 with (first | fail)
  go_wp2_with (first | (refine wp_loadB rfl (.tmp 12) _ rfl rfl HD.out.b2 HI.out HG.out ?_) | (refine wp_storeB rfl (.tmp 8) (.tmp 244) _ rfl rfl rfl HD.out.b0 HI.out rfl (by simp [Value.oneCell']) ?_) | fail)
  intro W6 hb6 ho6
  have HB6 := Lib.hid hb6
  have HX := Lib.hid (HFIN.out W6 (HD.out.fin ho6))
  clear hb6 ho6
  go_wp2
  refine bodyPost_ret (results_c2 (fn := Try.f10) rfl rfl rfl rfl HB6.out HI.out HG.out) rfl ?_
  exact HX.out
set_option maxHeartbeats 6400000 in
theorem rp_2_n (fl st : Int) (l : List UInt8) (hl : l.length ≤ 300) (w : World) (k : Nat) (hk : FirstB 2 fl st l k) (h0 : 0 ≤ fl) (h1 : fl ≤ 255) (hst : ¬ st = 0) (hn5 : ¬ l.length = 5) :
    Calls Try.prog 10 #[.int .i64 2, .int .i64 fl, .int .i64 st, .string (strB l)] w (DocP 2 st 0 (prsF 2 fl st l k) w) := by
  have hp : prsF 2 fl st l k = (PR0, 106, false) := prs_at hk (k0 := 3) ⟨by omega, fun j hj => by
    have hjj : j = 0 ∨ j = 1 ∨ j = 2 := by omega
    rcases hjj with rfl | rfl | rfl <;> (simp [lookB, srB, szB, aheadN, padN, pdB, wgB, depN, wtL, fromN, incN, hst, hn5]; try omega), fun hh => by simp [lookB, srB, szB, aheadN, padN, pdB, wgB, depN, wtL, fromN, incN, hst, hn5]; try omega⟩ (by simp [prsF, lkC, lkD])
  rw [hp]
  have HBAD : Hid (∀ W, Fresh w W → DocP 2 st 0 (PR0, 106, false) w (.returned (.tuple #[.agg #[.int .i64 2, .int .i64 st, .string ByteArray.empty, .int .i64 0, .int .i64 0, .int .i64 0, .int .i64 0, .int .i64 0, .int .i64 0, .int .i64 0, .int .i64 0, .int .i64 0, .int .i64 0, .int .i64 0, .slice none 0 0], .int .i64 106, .int .i64 0])) W) := Lib.hid (fun W h => docP_bad h)
  generalize DocP 2 st 0 (PR0, 106, false) w = PP at *
  clear hp hk
  have hz : (strB l).size = l.length := strB_size l
  obtain ⟨n, hn⟩ : ∃ n, l.length = n := ⟨_, rfl⟩
  have HN := Lib.hid hn
  rw [hn] at hn5 hl hz
  generalize strB l = S at *
  have hs1 : (st == 0) = false := by simpa using hst
  have hn6 : ((n : Int) == 5) = false := by simp; omega
  clear hn
  have HI := Lib.hid (show (Try.prog.info? 35).map (·.size) = some 15 by kernel_rfl)
  have HG := Lib.hid (fun w => (show (isAgg 35).run Try.prog w = .ok true w by simp [isAgg, go_sem]))
  go_enter Try.func10, Try.ntmps10
  go_upto_region 1 with fail
  refine wp_gen (fun W => Blk W w.heap.size 35 #[.int .i64 0, .int .i64 0, .string ByteArray.empty, .int .i64 0, .int .i64 0, .int .i64 0, .int .i64 0, .int .i64 0, .int .i64 0, .int .i64 0, .int .i64 0, .int .i64 0, .int .i64 0, .int .i64 0, .slice none 0 0] ∧ Fresh w W) ⟨Blk.new _ _ _, Fresh.alloc _ _⟩ ?_
  rintro W0 ⟨hz0, hf0⟩
  obtain ⟨b, hb⟩ : ∃ b, w.heap.size = b := ⟨_, rfl⟩
  have HB := Lib.hid hb
  have HF0 := Lib.hid hf0
  rw [hb] at hz0 ⊢
  have HZ0 := Lib.hid hz0
  clear hb hf0 hz0
  go_upto_region 2 with (first | (refine wp_storeB rfl (.tmp 11) (.tmp 17) _ rfl rfl rfl (Blk.new _ _ _) HI.out rfl (by simp [Value.oneCell']) ?_) | fail)
  intro W1 hb1 ho1
  obtain ⟨c, hc⟩ : ∃ c, W0.heap.size = c := ⟨_, rfl⟩
  have HC := Lib.hid hc
  rw [hc] at hb1 ⊢
  have HF1 : Hid (Fresh W0 W1) := Lib.hid (Only.fresh ((Only.of_fresh (Fresh.alloc _ _)).trans ho1) (fun i hi e => by omega))
  have HB1 : Hid (Blk W1 c 35 #[.int .i64 2, .int .i64 st, .string ByteArray.empty, .int .i64 0, .int .i64 0, .int .i64 0, .int .i64 0, .int .i64 0, .int .i64 0, .int .i64 0, .int .i64 0, .int .i64 0, .int .i64 0, .int .i64 0, .slice none 0 0]) := Lib.hid hb1
  clear hb1 ho1 hc
  go_upto_region 5 with (first | (refine wp_loadB rfl (.tmp 11) _ rfl rfl HB1.out HI.out HG.out ?_) | (refine wp_storeB rfl (.tmp 12) (.tmp 23) _ rfl rfl rfl (Blk.new _ _ _) HI.out rfl (by simp [Value.oneCell']) ?_) | fail)
  intro W2 hb2 ho2
  obtain ⟨d, hd⟩ : ∃ d, W1.heap.size = d := ⟨_, rfl⟩
  have HD : Hid (DX w W2 b c d #[.int .i64 2, .int .i64 st, .string ByteArray.empty, .int .i64 0, .int .i64 0, .int .i64 0, .int .i64 0, .int .i64 0, .int .i64 0, .int .i64 0, .int .i64 0, .int .i64 0, .int .i64 0, .int .i64 0, .slice none 0 0] #[.int .i64 2, .int .i64 st, .string ByteArray.empty, .int .i64 0, .int .i64 0, .int .i64 0, .int .i64 0, .int .i64 0, .int .i64 0, .int .i64 0, .int .i64 0, .int .i64 0, .int .i64 0, .int .i64 0, .slice none 0 0]) := Lib.hid (by
    have hf2 : Fresh W1 W2 := Only.fresh ((Only.of_fresh (Fresh.alloc _ _)).trans ho2) (fun i hi e => by omega)
    exact ⟨HF0.out.trans (HF1.out.trans hf2), Nat.le_of_eq HB.out, by have := HZ0.out.lt; have := HC.out; omega, by have := HB1.out.lt; omega, (HZ0.out.fresh HF1.out).fresh hf2, HB1.out.fresh hf2, by rw [← hd]; exact hb2⟩)
  rw [hd]
  clear hb2 ho2 hd HF0 HF1 HZ0 HB1 HC HB
  go_wp2_with (first | (refine wp_loadB rfl (.tmp 11) _ rfl rfl HD.out.b1 HI.out HG.out ?_) | (refine wp_storeB rfl (.tmp 8) (.tmp 110) _ rfl rfl rfl HD.out.b0 HI.out rfl (by simp [Value.oneCell']) ?_) | fail)
  intro W4 hb4 ho4
  have HB4 := Lib.hid hb4
  have HX := Lib.hid (HBAD.out W4 (HD.out.fin ho4))
  clear hb4 ho4
  go_wp2
  refine bodyPost_ret (results_c2 (fn := Try.f10) rfl rfl rfl rfl HB4.out HI.out HG.out) rfl ?_
  exact HX.out
set_option maxHeartbeats 6400000 in
theorem rp_2_s (fl st : Int) (l : List UInt8) (hl : l.length ≤ 300) (w : World) (k : Nat) (hk : FirstB 2 fl st l k) (h0 : 0 ≤ fl) (h1 : fl ≤ 255) (hst : ¬ st = 0) (hn5 : l.length = 5) (hd : ((numL (l.take 4) % 2147483648 : Nat) : Int) = st) :
    Calls Try.prog 10 #[.int .i64 2, .int .i64 fl, .int .i64 st, .string (strB l)] w (DocP 2 st 0 (prsF 2 fl st l k) w) := by
  have hp : prsF 2 fl st l k = (PR0, 101, false) := prs_at hk (k0 := 4) ⟨by omega, fun j hj => by
    have hjj : j = 0 ∨ j = 1 ∨ j = 2 ∨ j = 3 := by omega
    rcases hjj with rfl | rfl | rfl | rfl <;> (simp [lookB, srB, szB, aheadN, padN, pdB, wgB, depN, wtL, fromN, incN, hst, hn5, hd, List.take_of_length_le (Nat.le_of_eq hn5)]; try omega), fun hh => by simp [lookB, srB, szB, aheadN, padN, pdB, wgB, depN, wtL, fromN, incN, hst, hn5, hd, List.take_of_length_le (Nat.le_of_eq hn5)]; try omega⟩ (by simp [prsF, lkC, lkD])
  rw [hp]
  have HBAD : Hid (∀ W, Fresh w W → DocP 2 st 0 (PR0, 101, false) w (.returned (.tuple #[.agg #[.int .i64 2, .int .i64 st, .string ByteArray.empty, .int .i64 0, .int .i64 0, .int .i64 0, .int .i64 0, .int .i64 0, .int .i64 0, .int .i64 0, .int .i64 0, .int .i64 0, .int .i64 0, .int .i64 0, .slice none 0 0], .int .i64 101, .int .i64 0])) W) := Lib.hid (fun W h => docP_bad h)
  generalize DocP 2 st 0 (PR0, 101, false) w = PP at *
  clear hp hk
  have hq := numL_take_lt l 4 4 (Nat.le_refl _)
  rw [show (256 : Nat) ^ 4 = 4294967296 from rfl] at hq
  have HWG := Lib.hid (fun W => rf_weigh 2 st 0 ByteArray.empty 0 0 0 0 0 0 0 0 0 0 none 0 0 l (by omega) (by omega) _ rfl (l.getD 4 0) (by rw [List.getD_eq_getElem?_getD, List.getElem?_eq_getElem (by omega)]; rfl) W)
  unfold dI at HWG
  have hd5 : (((numL (l.take 4) % 2147483648 : Nat) : Int) == st) = true := by simpa using hd
  clear hd
  generalize b2i (decide (2147483648 ≤ numL (l.take 4))) = v9 at *
  generalize numL (l.take 4) % 2147483648 = r1 at *
  generalize (l.getD 4 0).toNat = x1 at *
  clear hq
  have hz : (strB l).size = l.length := strB_size l
  obtain ⟨n, hn⟩ : ∃ n, l.length = n := ⟨_, rfl⟩
  have HN := Lib.hid hn
  rw [hn] at hn5 hl hz
  generalize strB l = S at *
  have hs1 : (st == 0) = false := by simpa using hst
  have hn6 : ((n : Int) == 5) = true := by simp; omega
  clear hn
  have HI := Lib.hid (show (Try.prog.info? 35).map (·.size) = some 15 by kernel_rfl)
  have HG := Lib.hid (fun w => (show (isAgg 35).run Try.prog w = .ok true w by simp [isAgg, go_sem]))
  go_enter Try.func10, Try.ntmps10
  go_upto_region 1 with fail
  refine wp_gen (fun W => Blk W w.heap.size 35 #[.int .i64 0, .int .i64 0, .string ByteArray.empty, .int .i64 0, .int .i64 0, .int .i64 0, .int .i64 0, .int .i64 0, .int .i64 0, .int .i64 0, .int .i64 0, .int .i64 0, .int .i64 0, .int .i64 0, .slice none 0 0] ∧ Fresh w W) ⟨Blk.new _ _ _, Fresh.alloc _ _⟩ ?_
  rintro W0 ⟨hz0, hf0⟩
  obtain ⟨b, hb⟩ : ∃ b, w.heap.size = b := ⟨_, rfl⟩
  have HB := Lib.hid hb
  have HF0 := Lib.hid hf0
  rw [hb] at hz0 ⊢
  have HZ0 := Lib.hid hz0
  clear hb hf0 hz0
  go_upto_region 2 with (first | (refine wp_storeB rfl (.tmp 11) (.tmp 17) _ rfl rfl rfl (Blk.new _ _ _) HI.out rfl (by simp [Value.oneCell']) ?_) | fail)
  intro W1 hb1 ho1
  obtain ⟨c, hc⟩ : ∃ c, W0.heap.size = c := ⟨_, rfl⟩
  have HC := Lib.hid hc
  rw [hc] at hb1 ⊢
  have HF1 : Hid (Fresh W0 W1) := Lib.hid (Only.fresh ((Only.of_fresh (Fresh.alloc _ _)).trans ho1) (fun i hi e => by omega))
  have HB1 : Hid (Blk W1 c 35 #[.int .i64 2, .int .i64 st, .string ByteArray.empty, .int .i64 0, .int .i64 0, .int .i64 0, .int .i64 0, .int .i64 0, .int .i64 0, .int .i64 0, .int .i64 0, .int .i64 0, .int .i64 0, .int .i64 0, .slice none 0 0]) := Lib.hid hb1
  clear hb1 ho1 hc
  go_upto_region 5 with (first | (refine wp_loadB rfl (.tmp 11) _ rfl rfl HB1.out HI.out HG.out ?_) | (refine wp_storeB rfl (.tmp 12) (.tmp 23) _ rfl rfl rfl (Blk.new _ _ _) HI.out rfl (by simp [Value.oneCell']) ?_) | fail)
  intro W2 hb2 ho2
  obtain ⟨d, hd⟩ : ∃ d, W1.heap.size = d := ⟨_, rfl⟩
  have HD : Hid (DX w W2 b c d #[.int .i64 2, .int .i64 st, .string ByteArray.empty, .int .i64 0, .int .i64 0, .int .i64 0, .int .i64 0, .int .i64 0, .int .i64 0, .int .i64 0, .int .i64 0, .int .i64 0, .int .i64 0, .int .i64 0, .slice none 0 0] #[.int .i64 2, .int .i64 st, .string ByteArray.empty, .int .i64 0, .int .i64 0, .int .i64 0, .int .i64 0, .int .i64 0, .int .i64 0, .int .i64 0, .int .i64 0, .int .i64 0, .int .i64 0, .int .i64 0, .slice none 0 0]) := Lib.hid (by
    have hf2 : Fresh W1 W2 := Only.fresh ((Only.of_fresh (Fresh.alloc _ _)).trans ho2) (fun i hi e => by omega)
    exact ⟨HF0.out.trans (HF1.out.trans hf2), Nat.le_of_eq HB.out, by have := HZ0.out.lt; have := HC.out; omega, by have := HB1.out.lt; omega, (HZ0.out.fresh HF1.out).fresh hf2, HB1.out.fresh hf2, by rw [← hd]; exact hb2⟩)
  rw [hd]
  clear hb2 ho2 hd HF0 HF1 HZ0 HB1 HC HB
  go_wp2_with (first | (refine wp_loadB rfl (.tmp 12) _ rfl rfl HD.out.b2 HI.out HG.out ?_) | fail)
  with_reducible refine (HWG.out _).mono ?_
  rintro e w2 ⟨rfl, hf2⟩
  have HD2 := Lib.hid (HD.out.fresh hf2)
  clear hf2 HD
  go_wp2_with (first | (refine wp_storeB rfl (.tmp 12) (.tmp 165) _ rfl rfl rfl HD2.out.b2 HI.out rfl (by simp [Value.oneCell']) ?_) | fail)
  intro W5 hb5 ho5
  have HD : Hid (DX w W5 b c d #[.int .i64 2, .int .i64 st, .string ByteArray.empty, .int .i64 0, .int .i64 0, .int .i64 0, .int .i64 0, .int .i64 0, .int .i64 0, .int .i64 0, .int .i64 0, .int .i64 0, .int .i64 0, .int .i64 0, .slice none 0 0] #[.int .i64 2, .int .i64 st, .string ByteArray.empty, .int .i64 0, .int .i64 0, .int .i64 0, .int .i64 0, .int .i64 0, .int .i64 0, .int .i64 0, .int .i64 (r1 : Int), .int .i64 ((x1 : Int) + 1), .int .i64 1, .int .i64 v9, .slice none 0 0]) := Lib.hid (HD2.out.only ho5 hb5)
  clear HD2 hb5 ho5
  have y10 := HD.out.b2.cell 10
  have y12 := HD.out.b2.cell 12
  simp at y10 y12
  go_wp2_with (first | (refine wp_loadB rfl (.tmp 11) _ rfl rfl HD.out.b1 HI.out HG.out ?_) | (refine wp_storeB rfl (.tmp 8) (.tmp 175) _ rfl rfl rfl HD.out.b0 HI.out rfl (by simp [Value.oneCell']) ?_) | fail)
  intro W4 hb4 ho4
  have HB4 := Lib.hid hb4
  have HX := Lib.hid (HBAD.out W4 (HD.out.fin ho4))
  clear hb4 ho4
  go_wp2
  refine bodyPost_ret (results_c2 (fn := Try.f10) rfl rfl rfl rfl HB4.out HI.out HG.out) rfl ?_
  exact HX.out
set_option maxHeartbeats 6400000 in
theorem rp_2_y (fl st : Int) (l : List UInt8) (hl : l.length ≤ 300) (w : World) (k : Nat) (hk : FirstB 2 fl st l k) (h0 : 0 ≤ fl) (h1 : fl ≤ 255) (hst : ¬ st = 0) (hn5 : l.length = 5) (hd : ¬ ((numL (l.take 4) % 2147483648 : Nat) : Int) = st) :
    Calls Try.prog 10 #[.int .i64 2, .int .i64 fl, .int .i64 st, .string (strB l)] w (DocP 2 st 0 (prsF 2 fl st l k) w) := by
  have hp : prsF 2 fl st l k = (⟨[], false, false, false, 0, 0, 0, ((numL (l.take 4) % 2147483648 : Nat) : Int), ((l.getD 4 0).toNat : Int) + 1, true, decide (2147483648 ≤ numL (l.take 4)), []⟩, 0, false) := prs_at hk (k0 := 6) ⟨by omega, fun j hj => by
    have hjj : j = 0 ∨ j = 1 ∨ j = 2 ∨ j = 3 ∨ j = 4 ∨ j = 5 := by omega
    rcases hjj with rfl | rfl | rfl | rfl | rfl | rfl <;> (simp [lookB, srB, szB, aheadN, padN, pdB, wgB, depN, wtL, fromN, incN, hst, hn5, hd, exB, weL, List.take_of_length_le (Nat.le_of_eq hn5)]; try omega), fun hh => by omega⟩ (by rw [prsF, if_neg (by omega)]; simp [prOf, PR0, incN, depN, wtL, fromN, pdB, wgB, hst, hn5, hd, exB, weL, List.take_of_length_le (Nat.le_of_eq hn5)])
  rw [hp]
  have HFIN : Hid (∀ W, Fresh w W → DocP 2 st 0 (⟨[], false, false, false, 0, 0, 0, ((numL (l.take 4) % 2147483648 : Nat) : Int), ((l.getD 4 0).toNat : Int) + 1, true, decide (2147483648 ≤ numL (l.take 4)), []⟩, 0, false) w (.returned (.tuple #[.agg #[.int .i64 2, .int .i64 st, .string ByteArray.empty, .int .i64 0, .int .i64 0, .int .i64 0, .int .i64 0, .int .i64 0, .int .i64 0, .int .i64 0, .int .i64 ((numL (l.take 4) % 2147483648 : Nat) : Int), .int .i64 (((l.getD 4 0).toNat : Int) + 1), .int .i64 1, .int .i64 (b2i (decide (2147483648 ≤ numL (l.take 4)))), .slice none 0 0], .int .i64 0, .int .i64 0])) W) := Lib.hid (fun W h => docP_ok h)
  generalize DocP 2 st 0 (⟨[], false, false, false, 0, 0, 0, ((numL (l.take 4) % 2147483648 : Nat) : Int), ((l.getD 4 0).toNat : Int) + 1, true, decide (2147483648 ≤ numL (l.take 4)), []⟩, 0, false) w = PP at *
  clear hp hk
  have hq := numL_take_lt l 4 4 (Nat.le_refl _)
  rw [show (256 : Nat) ^ 4 = 4294967296 from rfl] at hq
  have HWG := Lib.hid (fun W => rf_weigh 2 st 0 ByteArray.empty 0 0 0 0 0 0 0 0 0 0 none 0 0 l (by omega) (by omega) _ rfl (l.getD 4 0) (by rw [List.getD_eq_getElem?_getD, List.getElem?_eq_getElem (by omega)]; rfl) W)
  unfold dI at HWG
  have hd5 : (((numL (l.take 4) % 2147483648 : Nat) : Int) == st) = false := by simpa using hd
  clear hd
  generalize b2i (decide (2147483648 ≤ numL (l.take 4))) = v9 at *
  generalize numL (l.take 4) % 2147483648 = r1 at *
  generalize (l.getD 4 0).toNat = x1 at *
  clear hq
  have hz : (strB l).size = l.length := strB_size l
  obtain ⟨n, hn⟩ : ∃ n, l.length = n := ⟨_, rfl⟩
  have HN := Lib.hid hn
  rw [hn] at hn5 hl hz
  generalize strB l = S at *
  have hs1 : (st == 0) = false := by simpa using hst
  have hn6 : ((n : Int) == 5) = true := by simp; omega
  clear hn
  have HI := Lib.hid (show (Try.prog.info? 35).map (·.size) = some 15 by kernel_rfl)
  have HG := Lib.hid (fun w => (show (isAgg 35).run Try.prog w = .ok true w by simp [isAgg, go_sem]))
  go_enter Try.func10, Try.ntmps10
  go_upto_region 1 with fail
  refine wp_gen (fun W => Blk W w.heap.size 35 #[.int .i64 0, .int .i64 0, .string ByteArray.empty, .int .i64 0, .int .i64 0, .int .i64 0, .int .i64 0, .int .i64 0, .int .i64 0, .int .i64 0, .int .i64 0, .int .i64 0, .int .i64 0, .int .i64 0, .slice none 0 0] ∧ Fresh w W) ⟨Blk.new _ _ _, Fresh.alloc _ _⟩ ?_
  rintro W0 ⟨hz0, hf0⟩
  obtain ⟨b, hb⟩ : ∃ b, w.heap.size = b := ⟨_, rfl⟩
  have HB := Lib.hid hb
  have HF0 := Lib.hid hf0
  rw [hb] at hz0 ⊢
  have HZ0 := Lib.hid hz0
  clear hb hf0 hz0
  go_upto_region 2 with (first | (refine wp_storeB rfl (.tmp 11) (.tmp 17) _ rfl rfl rfl (Blk.new _ _ _) HI.out rfl (by simp [Value.oneCell']) ?_) | fail)
  intro W1 hb1 ho1
  obtain ⟨c, hc⟩ : ∃ c, W0.heap.size = c := ⟨_, rfl⟩
  have HC := Lib.hid hc
  rw [hc] at hb1 ⊢
  have HF1 : Hid (Fresh W0 W1) := Lib.hid (Only.fresh ((Only.of_fresh (Fresh.alloc _ _)).trans ho1) (fun i hi e => by omega))
  have HB1 : Hid (Blk W1 c 35 #[.int .i64 2, .int .i64 st, .string ByteArray.empty, .int .i64 0, .int .i64 0, .int .i64 0, .int .i64 0, .int .i64 0, .int .i64 0, .int .i64 0, .int .i64 0, .int .i64 0, .int .i64 0, .int .i64 0, .slice none 0 0]) := Lib.hid hb1
  clear hb1 ho1 hc
  go_upto_region 5 with (first | (refine wp_loadB rfl (.tmp 11) _ rfl rfl HB1.out HI.out HG.out ?_) | (refine wp_storeB rfl (.tmp 12) (.tmp 23) _ rfl rfl rfl (Blk.new _ _ _) HI.out rfl (by simp [Value.oneCell']) ?_) | fail)
  intro W2 hb2 ho2
  obtain ⟨d, hd⟩ : ∃ d, W1.heap.size = d := ⟨_, rfl⟩
  have HD : Hid (DX w W2 b c d #[.int .i64 2, .int .i64 st, .string ByteArray.empty, .int .i64 0, .int .i64 0, .int .i64 0, .int .i64 0, .int .i64 0, .int .i64 0, .int .i64 0, .int .i64 0, .int .i64 0, .int .i64 0, .int .i64 0, .slice none 0 0] #[.int .i64 2, .int .i64 st, .string ByteArray.empty, .int .i64 0, .int .i64 0, .int .i64 0, .int .i64 0, .int .i64 0, .int .i64 0, .int .i64 0, .int .i64 0, .int .i64 0, .int .i64 0, .int .i64 0, .slice none 0 0]) := Lib.hid (by
    have hf2 : Fresh W1 W2 := Only.fresh ((Only.of_fresh (Fresh.alloc _ _)).trans ho2) (fun i hi e => by omega)
    exact ⟨HF0.out.trans (HF1.out.trans hf2), Nat.le_of_eq HB.out, by have := HZ0.out.lt; have := HC.out; omega, by have := HB1.out.lt; omega, (HZ0.out.fresh HF1.out).fresh hf2, HB1.out.fresh hf2, by rw [← hd]; exact hb2⟩)
  rw [hd]
  clear hb2 ho2 hd HF0 HF1 HZ0 HB1 HC HB
  go_wp2_with (first | (refine wp_loadB rfl (.tmp 12) _ rfl rfl HD.out.b2 HI.out HG.out ?_) | fail)
  with_reducible refine (HWG.out _).mono ?_
  rintro e w2 ⟨rfl, hf2⟩
  have HD2 := Lib.hid (HD.out.fresh hf2)
  clear hf2 HD
  go_wp2_with (first | (refine wp_storeB rfl (.tmp 12) (.tmp 165) _ rfl rfl rfl HD2.out.b2 HI.out rfl (by simp [Value.oneCell']) ?_) | fail)
  intro W5 hb5 ho5
  have HD : Hid (DX w W5 b c d #[.int .i64 2, .int .i64 st, .string ByteArray.empty, .int .i64 0, .int .i64 0, .int .i64 0, .int .i64 0, .int .i64 0, .int .i64 0, .int .i64 0, .int .i64 0, .int .i64 0, .int .i64 0, .int .i64 0, .slice none 0 0] #[.int .i64 2, .int .i64 st, .string ByteArray.empty, .int .i64 0, .int .i64 0, .int .i64 0, .int .i64 0, .int .i64 0, .int .i64 0, .int .i64 0, .int .i64 (r1 : Int), .int .i64 ((x1 : Int) + 1), .int .i64 1, .int .i64 v9, .slice none 0 0]) := Lib.hid (HD2.out.only ho5 hb5)
  clear HD2 hb5 ho5
  have y10 := HD.out.b2.cell 10
  have y12 := HD.out.b2.cell 12
  simp at y10 y12
  go_upto_region 61 with (first | fail)
  go_wp2_with (first | (refine wp_loadB rfl (.tmp 12) _ rfl rfl HD.out.b2 HI.out HG.out ?_) | (refine wp_storeB rfl (.tmp 8) (.tmp 244) _ rfl rfl rfl HD.out.b0 HI.out rfl (by simp [Value.oneCell']) ?_) | fail)
  intro W6 hb6 ho6
  have HB6 := Lib.hid hb6
  have HX := Lib.hid (HFIN.out W6 (HD.out.fin ho6))
  clear hb6 ho6
  go_wp2
  refine bodyPost_ret (results_c2 (fn := Try.f10) rfl rfl rfl rfl HB6.out HI.out HG.out) rfl ?_
  exact HX.out
end Go.Proofs.Ytcdghmidpaeloaa

