/-
  The document's answer for layer 10: Parse, type by type: settings, wrong.
-/
import Derived.Test.YtcdghmidpaeloaaPayV
namespace Go.Proofs.Ytcdghmidpaeloaa
set_option maxRecDepth 100000
set_option linter.unusedVariables false
set_option linter.unusedSimpArgs false
open Go.RowKit
theorem sz4_no {fl : Int} {n : Nat} (h : ¬ n % 6 = 0 ∨ (hasB fl 1 = true ∧ 0 < n)) : szB 4 fl n = false := by
  have h0 : ((n : Int) == 0) = false := by rw [beq_eq_false_iff_ne]; rcases h with h | ⟨_, h⟩ <;> omega
  unfold szB
  rw [if_neg (by omega), if_pos rfl, h0]
  rcases h with h | ⟨h, _⟩
  · rw [show ((n : Int) % 6 == 0) = false by rw [beq_eq_false_iff_ne]; omega]
    rfl
  · rw [h]
    simp
set_option maxHeartbeats 6400000 in
theorem rp_4_m (fl st : Int) (l : List UInt8) (hl : l.length ≤ 300) (w : World) (k : Nat) (hk : FirstB 4 fl st l k) (h0 : 0 ≤ fl) (h1 : fl ≤ 255) (hst : st = 0) (h6 : ¬ l.length % 6 = 0) :
    Calls Try.prog 10 #[.int .i64 4, .int .i64 fl, .int .i64 st, .string (strB l)] w (DocP 4 st 0 (prsF 4 fl st l k) w) := by
  have hp : prsF 4 fl st l k = (PR0, 106, true) := prs_at hk (k0 := 1) ⟨by omega, fun j hj => by
    obtain rfl : j = 0 := by omega
    simp [lookB, srB, hst], fun _ => by simp [lookB, sz4_no (.inl h6)]⟩ (by simp [prsF, lkC, lkD])
  rw [hp]
  have HBAD : Hid (∀ W, Fresh w W → DocP 4 st 0 (PR0, 106, true) w (.returned (.tuple #[.agg #[.int .i64 4, .int .i64 st, .string ByteArray.empty, .int .i64 0, .int .i64 0, .int .i64 0, .int .i64 0, .int .i64 0, .int .i64 0, .int .i64 0, .int .i64 0, .int .i64 0, .int .i64 0, .int .i64 0, .slice none 0 0], .int .i64 106, .int .i64 1])) W) := Lib.hid (fun W h => docP_bad h)
  generalize DocP 4 st 0 (PR0, 106, true) w = PP at *
  clear hp hk
  have hz : (strB l).size = l.length := strB_size l
  obtain ⟨n, hn⟩ : ∃ n, l.length = n := ⟨_, rfl⟩
  have HN := Lib.hid hn
  obtain ⟨r, hr⟩ : ∃ r : Int, ((l.length : Int)).tmod 6 = r := ⟨_, rfl⟩
  have tr : ¬ r = 0 := by
    rw [Int.tmod_eq_emod_of_nonneg (by omega)] at hr
    omega
  have tm := hr
  clear hr h6
  rw [hn] at hl hz tm
  generalize strB l = S at *
  subst hst
  clear hn HN
  have HI := Lib.hid (show (Try.prog.info? 35).map (·.size) = some 15 by kernel_rfl)
  have HG := Lib.hid (fun w => (show (isAgg 35).run Try.prog w = .ok true w by simp [isAgg, go_sem]))
  go_enter Try.func10, Try.ntmps10
  go_upto_region 1 with fail
  refine wp_gen (fun W => Blk W w.heap.size 35 #[.int .i64 0, .int .i64 0, .string ByteArray.empty, .int .i64 0, .int .i64 0, .int .i64 0, .int .i64 0, .int .i64 0, .int .i64 0, .int .i64 0, .int .i64 0, .int .i64 0, .int .i64 0, .int .i64 0, .slice none 0 0] ∧ Fresh w W) ⟨Blk.new _ _ _, Fresh.alloc _ _⟩ ?_
  rintro W0 ⟨hz0, hf0⟩
  obtain ⟨b, hb⟩ : ∃ b, w.heap.size = b := ⟨_, rfl⟩
  have HB := Lib.hid hb
  have HF0 := Lib.hid hf0
  rw [hb] at hz0 ⊢
  have HZ0 := Lib.hid hz0
  clear hb hf0 hz0
  go_upto_region 2 with (first | (refine wp_storeB rfl (.tmp 11) (.tmp 17) _ rfl rfl rfl (Blk.new _ _ _) HI.out rfl (by simp [Value.oneCell']) ?_) | fail)
  intro W1 hb1 ho1
  obtain ⟨c, hc⟩ : ∃ c, W0.heap.size = c := ⟨_, rfl⟩
  have HC := Lib.hid hc
  rw [hc] at hb1 ⊢
  have HF1 : Hid (Fresh W0 W1) := Lib.hid (Only.fresh ((Only.of_fresh (Fresh.alloc _ _)).trans ho1) (fun i hi e => by omega))
  have HB1 : Hid (Blk W1 c 35 #[.int .i64 4, .int .i64 0, .string ByteArray.empty, .int .i64 0, .int .i64 0, .int .i64 0, .int .i64 0, .int .i64 0, .int .i64 0, .int .i64 0, .int .i64 0, .int .i64 0, .int .i64 0, .int .i64 0, .slice none 0 0]) := Lib.hid hb1
  clear hb1 ho1 hc
  go_upto_region 5 with (first | (refine wp_loadB rfl (.tmp 11) _ rfl rfl HB1.out HI.out HG.out ?_) | (refine wp_storeB rfl (.tmp 12) (.tmp 23) _ rfl rfl rfl (Blk.new _ _ _) HI.out rfl (by simp [Value.oneCell']) ?_) | fail)
  intro W2 hb2 ho2
  obtain ⟨d, hd⟩ : ∃ d, W1.heap.size = d := ⟨_, rfl⟩
  have HD : Hid (DX w W2 b c d #[.int .i64 4, .int .i64 0, .string ByteArray.empty, .int .i64 0, .int .i64 0, .int .i64 0, .int .i64 0, .int .i64 0, .int .i64 0, .int .i64 0, .int .i64 0, .int .i64 0, .int .i64 0, .int .i64 0, .slice none 0 0] #[.int .i64 4, .int .i64 0, .string ByteArray.empty, .int .i64 0, .int .i64 0, .int .i64 0, .int .i64 0, .int .i64 0, .int .i64 0, .int .i64 0, .int .i64 0, .int .i64 0, .int .i64 0, .int .i64 0, .slice none 0 0]) := Lib.hid (by
    have hf2 : Fresh W1 W2 := Only.fresh ((Only.of_fresh (Fresh.alloc _ _)).trans ho2) (fun i hi e => by omega)
    exact ⟨HF0.out.trans (HF1.out.trans hf2), Nat.le_of_eq HB.out, by have := HZ0.out.lt; have := HC.out; omega, by have := HB1.out.lt; omega, (HZ0.out.fresh HF1.out).fresh hf2, HB1.out.fresh hf2, by rw [← hd]; exact hb2⟩)
  rw [hd]
  clear hb2 ho2 hd HF0 HF1 HZ0 HB1 HC HB
  go_wp2_with (first | (refine wp_loadB rfl (.tmp 11) _ rfl rfl HD.out.b1 HI.out HG.out ?_) | (refine wp_storeB rfl (.tmp 8) (.tmp 103) _ rfl rfl rfl HD.out.b0 HI.out rfl (by simp [Value.oneCell']) ?_) | fail)
  intro W4 hb4 ho4
  have HB4 := Lib.hid hb4
  have HX := Lib.hid (HBAD.out W4 (HD.out.fin ho4))
  clear hb4 ho4
  go_wp2
  refine bodyPost_ret (results_c2 (fn := Try.f10) rfl rfl rfl rfl HB4.out HI.out HG.out) rfl ?_
  exact HX.out
set_option maxHeartbeats 6400000 in
theorem rp_4_a (fl st : Int) (l : List UInt8) (hl : l.length ≤ 300) (w : World) (k : Nat) (hk : FirstB 4 fl st l k) (h0 : 0 ≤ fl) (h1 : fl ≤ 255) (hst : st = 0) (h6 : l.length % 6 = 0) (ha : hasB fl 1 = true) (hn0 : 0 < l.length) :
    Calls Try.prog 10 #[.int .i64 4, .int .i64 fl, .int .i64 st, .string (strB l)] w (DocP 4 st 0 (prsF 4 fl st l k) w) := by
  have hp : prsF 4 fl st l k = (PR0, 106, true) := prs_at hk (k0 := 1) ⟨by omega, fun j hj => by
    obtain rfl : j = 0 := by omega
    simp [lookB, srB, hst], fun _ => by simp [lookB, sz4_no (.inr ⟨ha, hn0⟩)]⟩ (by simp [prsF, lkC, lkD])
  rw [hp]
  have HBAD : Hid (∀ W, Fresh w W → DocP 4 st 0 (PR0, 106, true) w (.returned (.tuple #[.agg #[.int .i64 4, .int .i64 st, .string ByteArray.empty, .int .i64 0, .int .i64 0, .int .i64 0, .int .i64 0, .int .i64 0, .int .i64 0, .int .i64 0, .int .i64 0, .int .i64 0, .int .i64 0, .int .i64 0, .slice none 0 0], .int .i64 106, .int .i64 1])) W) := Lib.hid (fun W h => docP_bad h)
  generalize DocP 4 st 0 (PR0, 106, true) w = PP at *
  clear hp hk
  have HFL1 := Lib.hid (fun W => rf_flag fl h0 h1 1 (by omega) 1 (by rw [ha]; rfl) W)
  have hz : (strB l).size = l.length := strB_size l
  obtain ⟨n, hn⟩ : ∃ n, l.length = n := ⟨_, rfl⟩
  have HN := Lib.hid hn
  have tm : ((l.length : Int)).tmod 6 = 0 := by rw [Int.tmod_eq_emod_of_nonneg (by omega)]; omega
  have u0 : (0 : Int) < (n : Int) := by omega
  rw [hn] at hl hz tm
  generalize strB l = S at *
  subst hst
  clear hn HN hn0 h6
  have HI := Lib.hid (show (Try.prog.info? 35).map (·.size) = some 15 by kernel_rfl)
  have HG := Lib.hid (fun w => (show (isAgg 35).run Try.prog w = .ok true w by simp [isAgg, go_sem]))
  go_enter Try.func10, Try.ntmps10
  go_upto_region 1 with fail
  refine wp_gen (fun W => Blk W w.heap.size 35 #[.int .i64 0, .int .i64 0, .string ByteArray.empty, .int .i64 0, .int .i64 0, .int .i64 0, .int .i64 0, .int .i64 0, .int .i64 0, .int .i64 0, .int .i64 0, .int .i64 0, .int .i64 0, .int .i64 0, .slice none 0 0] ∧ Fresh w W) ⟨Blk.new _ _ _, Fresh.alloc _ _⟩ ?_
  rintro W0 ⟨hz0, hf0⟩
  obtain ⟨b, hb⟩ : ∃ b, w.heap.size = b := ⟨_, rfl⟩
  have HB := Lib.hid hb
  have HF0 := Lib.hid hf0
  rw [hb] at hz0 ⊢
  have HZ0 := Lib.hid hz0
  clear hb hf0 hz0
  go_upto_region 2 with (first | (refine wp_storeB rfl (.tmp 11) (.tmp 17) _ rfl rfl rfl (Blk.new _ _ _) HI.out rfl (by simp [Value.oneCell']) ?_) | fail)
  intro W1 hb1 ho1
  obtain ⟨c, hc⟩ : ∃ c, W0.heap.size = c := ⟨_, rfl⟩
  have HC := Lib.hid hc
  rw [hc] at hb1 ⊢
  have HF1 : Hid (Fresh W0 W1) := Lib.hid (Only.fresh ((Only.of_fresh (Fresh.alloc _ _)).trans ho1) (fun i hi e => by omega))
  have HB1 : Hid (Blk W1 c 35 #[.int .i64 4, .int .i64 0, .string ByteArray.empty, .int .i64 0, .int .i64 0, .int .i64 0, .int .i64 0, .int .i64 0, .int .i64 0, .int .i64 0, .int .i64 0, .int .i64 0, .int .i64 0, .int .i64 0, .slice none 0 0]) := Lib.hid hb1
  clear hb1 ho1 hc
  go_upto_region 5 with (first | (refine wp_loadB rfl (.tmp 11) _ rfl rfl HB1.out HI.out HG.out ?_) | (refine wp_storeB rfl (.tmp 12) (.tmp 23) _ rfl rfl rfl (Blk.new _ _ _) HI.out rfl (by simp [Value.oneCell']) ?_) | fail)
  intro W2 hb2 ho2
  obtain ⟨d, hd⟩ : ∃ d, W1.heap.size = d := ⟨_, rfl⟩
  have HD : Hid (DX w W2 b c d #[.int .i64 4, .int .i64 0, .string ByteArray.empty, .int .i64 0, .int .i64 0, .int .i64 0, .int .i64 0, .int .i64 0, .int .i64 0, .int .i64 0, .int .i64 0, .int .i64 0, .int .i64 0, .int .i64 0, .slice none 0 0] #[.int .i64 4, .int .i64 0, .string ByteArray.empty, .int .i64 0, .int .i64 0, .int .i64 0, .int .i64 0, .int .i64 0, .int .i64 0, .int .i64 0, .int .i64 0, .int .i64 0, .int .i64 0, .int .i64 0, .slice none 0 0]) := Lib.hid (by
    have hf2 : Fresh W1 W2 := Only.fresh ((Only.of_fresh (Fresh.alloc _ _)).trans ho2) (fun i hi e => by omega)
    exact ⟨HF0.out.trans (HF1.out.trans hf2), Nat.le_of_eq HB.out, by have := HZ0.out.lt; have := HC.out; omega, by have := HB1.out.lt; omega, (HZ0.out.fresh HF1.out).fresh hf2, HB1.out.fresh hf2, by rw [← hd]; exact hb2⟩)
  rw [hd]
  clear hb2 ho2 hd HF0 HF1 HZ0 HB1 HC HB
  go_wp2_with (first | (refine wp_loadB rfl (.tmp 11) _ rfl rfl HD.out.b1 HI.out HG.out ?_) | (refine wp_storeB rfl (.tmp 8) (.tmp 103) _ rfl rfl rfl HD.out.b0 HI.out rfl (by simp [Value.oneCell']) ?_) | (go_at_call 17; with_reducible refine (HFL1.out _).mono ?_; rintro e w2 ⟨rfl, rfl⟩) | fail)
  intro W4 hb4 ho4
  have HB4 := Lib.hid hb4
  have HX := Lib.hid (HBAD.out W4 (HD.out.fin ho4))
  clear hb4 ho4
  go_wp2
  refine bodyPost_ret (results_c2 (fn := Try.f10) rfl rfl rfl rfl HB4.out HI.out HG.out) rfl ?_
  exact HX.out
end Go.Proofs.Ytcdghmidpaeloaa

