/-
  The document's answer for layer 10: Parse, type by type: settings.
-/
import Derived.Test.YtcdghmidpaeloaaPayV
import Derived.Test.YtcdghmidpaeloaaPay6
import Derived.Deep.Cut
namespace Go.Proofs.Ytcdghmidpaeloaa
set_option maxRecDepth 100000
set_option linter.unusedVariables false
set_option linter.unusedSimpArgs false
open Go.RowKit
set_option maxHeartbeats 6400000 in
theorem rp_4_y (fl st : Int) (l : List UInt8) (hl : l.length ≤ 300) (w : World) (k : Nat) (hk : FirstB 4 fl st l k) (h0 : 0 ≤ fl) (h1 : fl ≤ 255) (hst : st = 0) (m : Nat) (h6 : l.length = 6 * m) (ha : hasB fl 1 = false) :
    Calls Try.prog 10 #[.int .i64 4, .int .i64 fl, .int .i64 st, .string (strB l)] w (DocP 4 st 0 (prsF 4 fl st l k) w) := by
  have hmm : l.length / 6 = m := by omega
  have hp : prsF 4 fl st l k = (⟨[], false, false, false, 0, 0, 0, 0, 0, false, false, prsL m l⟩, 0, false) := prs_at hk (k0 := 6) ⟨by omega, fun j hj => by
    have hjj : j = 0 ∨ j = 1 ∨ j = 2 ∨ j = 3 ∨ j = 4 ∨ j = 5 := by omega
    rcases hjj with rfl | rfl | rfl | rfl | rfl | rfl <;> (simp [lookB, srB, szB, aheadN, padN, pdB, wgB, depN, wtL, fromN, incN, hst, h6, ha]; try omega), fun hh => by omega⟩ (by rw [prsF, if_neg (by omega)]; simp [prOf, PR0, hmm, ha])
  rw [hp]
  have HFIN : Hid (∀ W Av cv, m ≤ cv → cv ≤ maxLen → Many pairC 2 W Av (prsL m l) → Fresh w W → DocP 4 st 0 (⟨[], false, false, false, 0, 0, 0, 0, 0, false, false, prsL m l⟩, 0, false) w (.returned (.tuple #[.agg #[.int .i64 4, .int .i64 st, .string ByteArray.empty, .int .i64 0, .int .i64 0, .int .i64 0, .int .i64 0, .int .i64 0, .int .i64 0, .int .i64 0, .int .i64 0, .int .i64 0, .int .i64 0, .int .i64 0, .slice Av m cv], .int .i64 0, .int .i64 0])) W) := Lib.hid (fun W Av cv h1 h2 h3 h => ⟨Av, cv, by simp only [prsL_len]; rfl, by simp only [prsL_len]; exact h1, h2, h3, h⟩)
  generalize DocP 4 st 0 (⟨[], false, false, false, 0, 0, 0, 0, 0, false, false, prsL m l⟩, 0, false) w = PP at *
  have HFL1 := Lib.hid (fun W => rf_flag fl h0 h1 1 (by omega) 0 (by rw [ha]; rfl) W)
  have HN := Lib.hid h6
  have hm3 : m ≤ 50 := by omega
  have hz : (strB l).size = 6 * m := by rw [strB_size, h6]
  have tm : (((6 * m : Nat) : Int)).tmod 6 = 0 := by rw [Int.tmod_eq_emod_of_nonneg (by omega)]; omega
  have HSS : Hid (strB l = strB (l.drop (6 * 0))) := Lib.hid rfl
  obtain ⟨n, hn⟩ : ∃ n, 6 * m = n := ⟨_, rfl⟩
  have HM := Lib.hid hn
  rw [hn] at hz tm
  generalize strB l = S at *
  subst hst
  clear hp hk hl h6 hmm hn ha
  have HI := Lib.hid (show (Try.prog.info? 35).map (·.size) = some 15 by kernel_rfl)
  have HG := Lib.hid (fun w => (show (isAgg 35).run Try.prog w = .ok true w by simp [isAgg, go_sem]))
  go_enter Try.func10, Try.ntmps10
  go_upto_region 1 with fail
  refine wp_gen (fun W => Blk W w.heap.size 35 #[.int .i64 0, .int .i64 0, .string ByteArray.empty, .int .i64 0, .int .i64 0, .int .i64 0, .int .i64 0, .int .i64 0, .int .i64 0, .int .i64 0, .int .i64 0, .int .i64 0, .int .i64 0, .int .i64 0, .slice none 0 0] ∧ Fresh w W) ⟨Blk.new _ _ _, Fresh.alloc _ _⟩ ?_
  rintro W0 ⟨hz0, hf0⟩
  obtain ⟨b, hb⟩ : ∃ b, w.heap.size = b := ⟨_, rfl⟩
  have HB := Lib.hid hb
  have HF0 := Lib.hid hf0
  rw [hb] at hz0 ⊢
  have HZ0 := Lib.hid hz0
  clear hb hf0 hz0
  go_upto_region 2 with (first | (refine wp_storeB rfl (.tmp 11) (.tmp 17) _ rfl rfl rfl (Blk.new _ _ _) HI.out rfl (by simp [Value.oneCell']) ?_) | fail)
  intro W1 hb1 ho1
  obtain ⟨c, hc⟩ : ∃ c, W0.heap.size = c := ⟨_, rfl⟩
  have HC := Lib.hid hc
  rw [hc] at hb1 ⊢
  have HF1 : Hid (Fresh W0 W1) := Lib.hid (Only.fresh ((Only.of_fresh (Fresh.alloc _ _)).trans ho1) (fun i hi e => by omega))
  have HB1 : Hid (Blk W1 c 35 #[.int .i64 4, .int .i64 0, .string ByteArray.empty, .int .i64 0, .int .i64 0, .int .i64 0, .int .i64 0, .int .i64 0, .int .i64 0, .int .i64 0, .int .i64 0, .int .i64 0, .int .i64 0, .int .i64 0, .slice none 0 0]) := Lib.hid hb1
  clear hb1 ho1 hc
  go_upto_region 5 with (first | (refine wp_loadB rfl (.tmp 11) _ rfl rfl HB1.out HI.out HG.out ?_) | (refine wp_storeB rfl (.tmp 12) (.tmp 23) _ rfl rfl rfl (Blk.new _ _ _) HI.out rfl (by simp [Value.oneCell']) ?_) | fail)
  intro W2 hb2 ho2
  obtain ⟨d, hd⟩ : ∃ d, W1.heap.size = d := ⟨_, rfl⟩
  have HD : Hid (DX w W2 b c d #[.int .i64 4, .int .i64 0, .string ByteArray.empty, .int .i64 0, .int .i64 0, .int .i64 0, .int .i64 0, .int .i64 0, .int .i64 0, .int .i64 0, .int .i64 0, .int .i64 0, .int .i64 0, .int .i64 0, .slice none 0 0] #[.int .i64 4, .int .i64 0, .string ByteArray.empty, .int .i64 0, .int .i64 0, .int .i64 0, .int .i64 0, .int .i64 0, .int .i64 0, .int .i64 0, .int .i64 0, .int .i64 0, .int .i64 0, .int .i64 0, .slice none 0 0]) := Lib.hid (by
    have hf2 : Fresh W1 W2 := Only.fresh ((Only.of_fresh (Fresh.alloc _ _)).trans ho2) (fun i hi e => by omega)
    exact ⟨HF0.out.trans (HF1.out.trans hf2), Nat.le_of_eq HB.out, by have := HZ0.out.lt; have := HC.out; omega, by have := HB1.out.lt; omega, (HZ0.out.fresh HF1.out).fresh hf2, HB1.out.fresh hf2, by rw [← hd]; exact hb2⟩)
  rw [hd]
  clear hb2 ho2 hd HF0 HF1 HZ0 HB1 HC HB
  have y5 := HD.out.b2.cell 5
  have z5 := HD.out.b2.frozen 5
  have y10 := HD.out.b2.cell 10
  have y12 := HD.out.b2.cell 12
  simp at y5 y10 y12
  go_upto_region 42 with (first | (go_at_call 17; with_reducible refine (HFL1.out _).mono ?_; rintro e w2 ⟨rfl, rfl⟩) | fail)
  refine wp_gen (fun W => DX w W b c d #[.int .i64 4, .int .i64 0, .string ByteArray.empty, .int .i64 0, .int .i64 0, .int .i64 0, .int .i64 0, .int .i64 0, .int .i64 0, .int .i64 0, .int .i64 0, .int .i64 0, .int .i64 0, .int .i64 0, .slice none 0 0] #[.int .i64 4, .int .i64 0, .string ByteArray.empty, .int .i64 0, .int .i64 0, .int .i64 0, .int .i64 0, .int .i64 0, .int .i64 0, .int .i64 0, .int .i64 0, .int .i64 0, .int .i64 0, .int .i64 0, .slice none 0 0]) (HD.out.set 5 (.int .i64 0) #[.int .i64 4, .int .i64 0, .string ByteArray.empty, .int .i64 0, .int .i64 0, .int .i64 0, .int .i64 0, .int .i64 0, .int .i64 0, .int .i64 0, .int .i64 0, .int .i64 0, .int .i64 0, .int .i64 0, .slice none 0 0] rfl) ?_
  clear HD
  intro W5 hd5
  have HD := Lib.hid hd5
  clear hd5 y5 z5 y10 y12 tm
  go_loopw [3] (fun s wr => ∃ (k : Nat) (Av : Option Addr) (cv : Nat), k ≤ m ∧ s = .string (strB (l.drop (6 * k))) ∧ Own wr w.heap.size 52 2 (.slice Av k cv) k ((prsL k l).flatMap pairC) ∧ DX w wr b c d #[.int .i64 4, .int .i64 0, .string ByteArray.empty, .int .i64 0, .int .i64 0, .int .i64 0, .int .i64 0, .int .i64 0, .int .i64 0, .int .i64 0, .int .i64 0, .int .i64 0, .int .i64 0, .int .i64 0, .slice none 0 0] #[.int .i64 4, .int .i64 0, .string ByteArray.empty, .int .i64 0, .int .i64 0, .int .i64 0, .int .i64 0, .int .i64 0, .int .i64 0, .int .i64 0, .int .i64 0, .int .i64 0, .int .i64 0, .int .i64 0, .slice Av k cv]) (fun s _ => match s with | .string x => x.size | _ => 0)
  case atStart => exact ⟨0, none, 0, by omega, by rw [HSS.out], Own.nil _ _ _ _, HD.out⟩
  case round =>
    obtain ⟨k, Av, cv, hk, rfl, ho, hd⟩ := hrel
    have HO := Lib.hid ho
    clear HD
    have HD := Lib.hid hd
    clear ho hd
    have hzk : (strB (l.drop (6 * k))).size = n - 6 * k := by rw [strB_size, List.length_drop, HN.out, HM.out]
    have HZK := Lib.hid hzk
    by_cases hlt : k < m
    · have h6k : 6 * k + 6 ≤ n := by have := HM.out; omega
      have HNX : Hid ((strB (l.drop (6 * (k + 1)))).size = n - 6 * (k + 1)) := Lib.hid (by rw [strB_size, List.length_drop, HN.out, HM.out])
      have HW1 := Lib.hid (fun W => rf_word ((l.drop (6 * k)).take 2) (by simp; omega) _ rfl W)
      have HW2 := Lib.hid (fun W => rf_word ((l.drop (6 * k + 2)).take 4) (by simp; omega) _ rfl W)
      have HS := Lib.hid (prsL_succ k l)
      have e1 : (strB (l.drop (6 * k))).extract 0 2 = strB ((l.drop (6 * k)).take 2) := by rw [strE]; rfl
      have e2 : (strB (l.drop (6 * k))).extract 2 6 = strB ((l.drop (6 * k + 2)).take 4) := by rw [strE, List.drop_take, List.drop_drop]
      have e3 : (strB (l.drop (6 * k))).extract 6 (n - 6 * k) = strB (l.drop (6 * (k + 1))) := by
        rw [strE, List.take_of_length_le (by rw [List.length_drop, HN.out, HM.out]; exact Nat.le_refl _), List.drop_drop]
        rfl
      generalize numL ((l.drop (6 * k)).take 2) = a at *
      generalize numL ((l.drop (6 * k + 2)).take 4) = a2 at *
      generalize strB ((l.drop (6 * k)).take 2) = T1 at *
      generalize strB ((l.drop (6 * k + 2)).take 4) = T2 at *
      obtain ⟨T3, hT3⟩ : ∃ T3, strB (l.drop (6 * (k + 1))) = T3 := ⟨_, rfl⟩
      have HT3 := Lib.hid hT3
      rw [hT3] at e3 HNX
      clear hT3
      obtain ⟨SK, hSK⟩ : ∃ SK, strB (l.drop (6 * k)) = SK := ⟨_, rfl⟩
      rw [hSK] at e1 e2 e3 hzk HZK ⊢
      clear hSK
      obtain ⟨q, hq⟩ : ∃ q, n - 6 * k = q := ⟨_, rfl⟩
      rw [hq] at e3 hzk HZK
      have i1 : (0 : Int) < (q : Int) := by omega
      have i2 : (2 : Int) ≤ (q : Int) := by omega
      have i3 : (6 : Int) ≤ (q : Int) := by omega
      have HQ : Hid (n - 6 * (k + 1) < q) := Lib.hid (by omega)
      clear hq h6k
      obtain ⟨v', w', hap, ho', hbl, _, hgr⟩ := Own.push (P := Try.prog) (w0 := w) Try.underlying26 pr_info rfl (by omega) 26 (HO.out.only (Only.of_fresh (S := fun _ => False) (Fresh.drew _)) (fun _ _ h => h)) (HD.out.fr.trans (Fresh.drew _)) (Nat.le_refl _) #[.int .i64 (a : Int), .int .i64 (a2 : Int)] rfl (by
        intro u hu
        simp only [List.mem_cons, List.not_mem_nil, or_false] at hu
        rcases hu with rfl | rfl <;> rfl) (by unfold maxLen; omega) (by omega)
      obtain ⟨A', c', rfl, _⟩ := Own.slice ho'
      have hon : Only (fun q => (Value.slice Av k cv).ownBlock = some q) wr w' := (Only.of_fresh (Fresh.drew _)).trans ((Only.of_fresh (Fresh.alloc _ _)).trans ⟨hgr.os, hgr.tape, hgr.output, hgr.size, fun k hk hne => hgr.block k hk (fun e => hne e.symm)⟩)
      have hne : ∀ q t cs, Blk wr q t cs → t ≠ 52 → ¬ (Value.slice Av k cv).ownBlock = some q := fun q t cs hb ht hq => by
        rcases HO.out.2 with ⟨e, _⟩ | ⟨g', cap, cur, e, _, hh, _⟩
        · rw [e] at hq; cases hq
        · rw [e] at hq; simp [Value.ownBlock] at hq; subst hq
          exact (show Blk wr g' _ cur from hh).ne hb (fun e => ht e.symm) rfl
      have HD' : Hid (DX w w' b c d #[.int .i64 4, .int .i64 0, .string ByteArray.empty, .int .i64 0, .int .i64 0, .int .i64 0, .int .i64 0, .int .i64 0, .int .i64 0, .int .i64 0, .int .i64 0, .int .i64 0, .int .i64 0, .int .i64 0, .slice none 0 0] #[.int .i64 4, .int .i64 0, .string ByteArray.empty, .int .i64 0, .int .i64 0, .int .i64 0, .int .i64 0, .int .i64 0, .int .i64 0, .int .i64 0, .int .i64 0, .int .i64 0, .int .i64 0, .int .i64 0, .slice Av k cv]) := Lib.hid ⟨hbl, HD.out.hb, HD.out.bc, HD.out.cd, HD.out.b0.only hon (hne b _ _ HD.out.b0 (by decide)), HD.out.b1.only hon (hne c _ _ HD.out.b1 (by decide)), HD.out.b2.only hon (hne d _ _ HD.out.b2 (by decide))⟩
      have HO' : Hid (Own (w'.setCell ⟨d, 14, none⟩ (.slice A' (k + 1) c')) w.heap.size 52 2 (.slice A' (k + 1) c') (k + 1) ((prsL k l).flatMap pairC ++ [.int .i64 (a : Int), .int .i64 (a2 : Int)])) := Lib.hid (ho'.only (Only.setCell w' ⟨d, 14, none⟩ _) (fun q hq e => by
        subst e
        rcases ho'.2 with ⟨e, _⟩ | ⟨g', cap, cur, e, _, hh, _⟩
        · rw [e] at hq; cases hq
        · rw [e] at hq; simp [Value.ownBlock] at hq; subst hq
          exact (show Blk w' g' _ cur from hh).ne HD'.out.b2 (by decide) rfl))
      have y14 := HD.out.b2.cell 14
      have x14 := HD'.out.b2.cell 14
      have z14 := HD'.out.b2.frozen 14
      have w14 := (HD.out.b2.alloc (.cells #[.int .i64 (a : Int), .int .i64 (a2 : Int)] 52)).cell 14
      simp at y14 x14
      simp only [List.getElem?_toArray, List.getElem?_cons_zero, List.getElem?_cons_succ] at w14
      clear hbl hgr ho' hon hne
      go_upto_region 43 with fail
      go_region_law (first | (go_simp; go_at_call 19; (with_reducible refine (HW1.out _).mono ?_); rintro e w2 ⟨rfl, rfl⟩) | (go_simp; go_at_call 19; (with_reducible refine (HW2.out _).mono ?_); rintro e w2 ⟨rfl, rfl⟩) | (with_reducible refine step_app rfl (.tmp 190) (.tmp 198) _ rfl hap rfl (by simp [Act.eval, Act.put]) (by simp [Act.eval, Act.put]) ?_))
      all_goals
        go_wp2
        exact ⟨⟨k + 1, A', c', by omega, by rw [HT3.out], by rw [HS.out]; simpa [pairC] using HO'.out, HD'.out.set 14 _ _ rfl⟩, by simp only; rw [HNX.out, hzk]; exact HQ.out⟩
    · obtain rfl : k = m := by omega
      have hq0 : n - 6 * k = 0 := by have := HM.out; omega
      rw [hq0] at hzk
      generalize strB (l.drop (6 * k)) = SK at *
      have HX0 : Hid (∀ W, Only (· = b) wr W → Fresh w W → PP (.returned (.tuple #[.agg #[.int .i64 4, .int .i64 0, .string ByteArray.empty, .int .i64 0, .int .i64 0, .int .i64 0, .int .i64 0, .int .i64 0, .int .i64 0, .int .i64 0, .int .i64 0, .int .i64 0, .int .i64 0, .int .i64 0, .slice Av k cv], .int .i64 0, .int .i64 0])) W) := Lib.hid (by
        obtain ⟨A9, c9, e9, h1, h2, _⟩ := HO.out.slice
        injection e9 with e91 _ e93
        subst e91 e93
        have hne : ∀ q, (Value.slice Av k cv).ownBlock = some q → ¬ q = b := fun q hq e => by
          subst e
          rcases HO.out.2 with ⟨e, _⟩ | ⟨g', cap, cur, e, _, hh, _⟩
          · rw [e] at hq; cases hq
          · rw [e] at hq; simp [Value.ownBlock] at hq; subst hq
            exact (show Blk wr g' _ cur from hh).ne HD.out.b0 (by decide) rfl
        exact fun W h3 h4 => HFIN.out W _ _ h1 h2 (many_own (HO.out.only h3 hne) (prsL_len _ _)).1 h4)
      have y10 := HD.out.b2.cell 10
      have y12 := HD.out.b2.cell 12
      simp at y10 y12
      go_upto_region 61 with fail
      go_wp2_with (first | (refine wp_loadB rfl (.tmp 12) _ rfl rfl HD.out.b2 HI.out HG.out ?_) | (refine wp_storeB rfl (.tmp 8) (.tmp 244) _ rfl rfl rfl HD.out.b0 HI.out rfl (by simp [Value.oneCell']) ?_) | fail)
      intro W6 hb6 ho6
      have HB6 := Lib.hid hb6
      have HX := Lib.hid (HX0.out W6 ho6 (HD.out.fin ho6))
      clear hb6 ho6
      go_wp2
      refine bodyPost_ret (results_c2 (fn := Try.f10) rfl rfl rfl rfl HB6.out HI.out HG.out) rfl ?_
      exact HX.out
set_option maxHeartbeats 6400000 in
theorem rp_4_z (fl st : Int) (l : List UInt8) (hl : l.length ≤ 300) (w : World) (k : Nat) (hk : FirstB 4 fl st l k) (h0 : 0 ≤ fl) (h1 : fl ≤ 255) (hst : st = 0) (m : Nat) (h6 : l.length = 6 * m) (ha : hasB fl 1 = true) (hn0 : l.length = 0) :
    Calls Try.prog 10 #[.int .i64 4, .int .i64 fl, .int .i64 st, .string (strB l)] w (DocP 4 st 0 (prsF 4 fl st l k) w) := by
  have hmm : l.length / 6 = m := by omega
  have hp : prsF 4 fl st l k = (⟨[], false, false, true, 0, 0, 0, 0, 0, false, false, prsL m l⟩, 0, false) := prs_at hk (k0 := 6) ⟨by omega, fun j hj => by
    have hjj : j = 0 ∨ j = 1 ∨ j = 2 ∨ j = 3 ∨ j = 4 ∨ j = 5 := by omega
    rcases hjj with rfl | rfl | rfl | rfl | rfl | rfl <;> (simp [lookB, srB, szB, aheadN, padN, pdB, wgB, depN, wtL, fromN, incN, hst, h6, ha, show m = 0 by omega]; try omega), fun hh => by omega⟩ (by rw [prsF, if_neg (by omega)]; simp [prOf, PR0, hmm, ha])
  rw [hp]
  have HFIN : Hid (∀ W Av cv, m ≤ cv → cv ≤ maxLen → Many pairC 2 W Av (prsL m l) → Fresh w W → DocP 4 st 0 (⟨[], false, false, true, 0, 0, 0, 0, 0, false, false, prsL m l⟩, 0, false) w (.returned (.tuple #[.agg #[.int .i64 4, .int .i64 st, .string ByteArray.empty, .int .i64 0, .int .i64 0, .int .i64 1, .int .i64 0, .int .i64 0, .int .i64 0, .int .i64 0, .int .i64 0, .int .i64 0, .int .i64 0, .int .i64 0, .slice Av m cv], .int .i64 0, .int .i64 0])) W) := Lib.hid (fun W Av cv h1 h2 h3 h => ⟨Av, cv, by simp only [prsL_len]; rfl, by simp only [prsL_len]; exact h1, h2, h3, h⟩)
  generalize DocP 4 st 0 (⟨[], false, false, true, 0, 0, 0, 0, 0, false, false, prsL m l⟩, 0, false) w = PP at *
  have HFL1 := Lib.hid (fun W => rf_flag fl h0 h1 1 (by omega) 1 (by rw [ha]; rfl) W)
  have HN := Lib.hid h6
  have hm3 : m ≤ 50 := by omega
  have hz : (strB l).size = 6 * m := by rw [strB_size, h6]
  have tm : (((6 * m : Nat) : Int)).tmod 6 = 0 := by rw [Int.tmod_eq_emod_of_nonneg (by omega)]; omega
  have HSS : Hid (strB l = strB (l.drop (6 * 0))) := Lib.hid rfl
  have u0 : ¬ (0 : Int) < ((6 * m : Nat) : Int) := by omega
  obtain ⟨n, hn⟩ : ∃ n, 6 * m = n := ⟨_, rfl⟩
  have HM := Lib.hid hn
  rw [hn] at hz tm u0
  generalize strB l = S at *
  subst hst
  clear hp hk hl h6 hmm hn ha hn0
  have HI := Lib.hid (show (Try.prog.info? 35).map (·.size) = some 15 by kernel_rfl)
  have HG := Lib.hid (fun w => (show (isAgg 35).run Try.prog w = .ok true w by simp [isAgg, go_sem]))
  go_enter Try.func10, Try.ntmps10
  go_upto_region 1 with fail
  refine wp_gen (fun W => Blk W w.heap.size 35 #[.int .i64 0, .int .i64 0, .string ByteArray.empty, .int .i64 0, .int .i64 0, .int .i64 0, .int .i64 0, .int .i64 0, .int .i64 0, .int .i64 0, .int .i64 0, .int .i64 0, .int .i64 0, .int .i64 0, .slice none 0 0] ∧ Fresh w W) ⟨Blk.new _ _ _, Fresh.alloc _ _⟩ ?_
  rintro W0 ⟨hz0, hf0⟩
  obtain ⟨b, hb⟩ : ∃ b, w.heap.size = b := ⟨_, rfl⟩
  have HB := Lib.hid hb
  have HF0 := Lib.hid hf0
  rw [hb] at hz0 ⊢
  have HZ0 := Lib.hid hz0
  clear hb hf0 hz0
  go_upto_region 2 with (first | (refine wp_storeB rfl (.tmp 11) (.tmp 17) _ rfl rfl rfl (Blk.new _ _ _) HI.out rfl (by simp [Value.oneCell']) ?_) | fail)
  intro W1 hb1 ho1
  obtain ⟨c, hc⟩ : ∃ c, W0.heap.size = c := ⟨_, rfl⟩
  have HC := Lib.hid hc
  rw [hc] at hb1 ⊢
  have HF1 : Hid (Fresh W0 W1) := Lib.hid (Only.fresh ((Only.of_fresh (Fresh.alloc _ _)).trans ho1) (fun i hi e => by omega))
  have HB1 : Hid (Blk W1 c 35 #[.int .i64 4, .int .i64 0, .string ByteArray.empty, .int .i64 0, .int .i64 0, .int .i64 0, .int .i64 0, .int .i64 0, .int .i64 0, .int .i64 0, .int .i64 0, .int .i64 0, .int .i64 0, .int .i64 0, .slice none 0 0]) := Lib.hid hb1
  clear hb1 ho1 hc
  go_upto_region 5 with (first | (refine wp_loadB rfl (.tmp 11) _ rfl rfl HB1.out HI.out HG.out ?_) | (refine wp_storeB rfl (.tmp 12) (.tmp 23) _ rfl rfl rfl (Blk.new _ _ _) HI.out rfl (by simp [Value.oneCell']) ?_) | fail)
  intro W2 hb2 ho2
  obtain ⟨d, hd⟩ : ∃ d, W1.heap.size = d := ⟨_, rfl⟩
  have HD : Hid (DX w W2 b c d #[.int .i64 4, .int .i64 0, .string ByteArray.empty, .int .i64 0, .int .i64 0, .int .i64 0, .int .i64 0, .int .i64 0, .int .i64 0, .int .i64 0, .int .i64 0, .int .i64 0, .int .i64 0, .int .i64 0, .slice none 0 0] #[.int .i64 4, .int .i64 0, .string ByteArray.empty, .int .i64 0, .int .i64 0, .int .i64 0, .int .i64 0, .int .i64 0, .int .i64 0, .int .i64 0, .int .i64 0, .int .i64 0, .int .i64 0, .int .i64 0, .slice none 0 0]) := Lib.hid (by
    have hf2 : Fresh W1 W2 := Only.fresh ((Only.of_fresh (Fresh.alloc _ _)).trans ho2) (fun i hi e => by omega)
    exact ⟨HF0.out.trans (HF1.out.trans hf2), Nat.le_of_eq HB.out, by have := HZ0.out.lt; have := HC.out; omega, by have := HB1.out.lt; omega, (HZ0.out.fresh HF1.out).fresh hf2, HB1.out.fresh hf2, by rw [← hd]; exact hb2⟩)
  rw [hd]
  clear hb2 ho2 hd HF0 HF1 HZ0 HB1 HC HB
  have y5 := HD.out.b2.cell 5
  have z5 := HD.out.b2.frozen 5
  have y10 := HD.out.b2.cell 10
  have y12 := HD.out.b2.cell 12
  simp at y5 y10 y12
  go_upto_region 42 with (first | (go_at_call 17; with_reducible refine (HFL1.out _).mono ?_; rintro e w2 ⟨rfl, rfl⟩) | fail)
  refine wp_gen (fun W => DX w W b c d #[.int .i64 4, .int .i64 0, .string ByteArray.empty, .int .i64 0, .int .i64 0, .int .i64 0, .int .i64 0, .int .i64 0, .int .i64 0, .int .i64 0, .int .i64 0, .int .i64 0, .int .i64 0, .int .i64 0, .slice none 0 0] #[.int .i64 4, .int .i64 0, .string ByteArray.empty, .int .i64 0, .int .i64 0, .int .i64 1, .int .i64 0, .int .i64 0, .int .i64 0, .int .i64 0, .int .i64 0, .int .i64 0, .int .i64 0, .int .i64 0, .slice none 0 0]) (HD.out.set 5 (.int .i64 1) #[.int .i64 4, .int .i64 0, .string ByteArray.empty, .int .i64 0, .int .i64 0, .int .i64 1, .int .i64 0, .int .i64 0, .int .i64 0, .int .i64 0, .int .i64 0, .int .i64 0, .int .i64 0, .int .i64 0, .slice none 0 0] rfl) ?_
  clear HD
  intro W5 hd5
  have HD := Lib.hid hd5
  clear hd5 y5 z5 y10 y12 tm u0
  go_loopw [3] (fun s wr => ∃ (k : Nat) (Av : Option Addr) (cv : Nat), k ≤ m ∧ s = .string (strB (l.drop (6 * k))) ∧ Own wr w.heap.size 52 2 (.slice Av k cv) k ((prsL k l).flatMap pairC) ∧ DX w wr b c d #[.int .i64 4, .int .i64 0, .string ByteArray.empty, .int .i64 0, .int .i64 0, .int .i64 0, .int .i64 0, .int .i64 0, .int .i64 0, .int .i64 0, .int .i64 0, .int .i64 0, .int .i64 0, .int .i64 0, .slice none 0 0] #[.int .i64 4, .int .i64 0, .string ByteArray.empty, .int .i64 0, .int .i64 0, .int .i64 1, .int .i64 0, .int .i64 0, .int .i64 0, .int .i64 0, .int .i64 0, .int .i64 0, .int .i64 0, .int .i64 0, .slice Av k cv]) (fun s _ => match s with | .string x => x.size | _ => 0)
  case atStart => exact ⟨0, none, 0, by omega, by rw [HSS.out], Own.nil _ _ _ _, HD.out⟩
  case round =>
    obtain ⟨k, Av, cv, hk, rfl, ho, hd⟩ := hrel
    have HO := Lib.hid ho
    clear HD
    have HD := Lib.hid hd
    clear ho hd
    have hzk : (strB (l.drop (6 * k))).size = n - 6 * k := by rw [strB_size, List.length_drop, HN.out, HM.out]
    have HZK := Lib.hid hzk
    by_cases hlt : k < m
    · have h6k : 6 * k + 6 ≤ n := by have := HM.out; omega
      have HNX : Hid ((strB (l.drop (6 * (k + 1)))).size = n - 6 * (k + 1)) := Lib.hid (by rw [strB_size, List.length_drop, HN.out, HM.out])
      have HW1 := Lib.hid (fun W => rf_word ((l.drop (6 * k)).take 2) (by simp; omega) _ rfl W)
      have HW2 := Lib.hid (fun W => rf_word ((l.drop (6 * k + 2)).take 4) (by simp; omega) _ rfl W)
      have HS := Lib.hid (prsL_succ k l)
      have e1 : (strB (l.drop (6 * k))).extract 0 2 = strB ((l.drop (6 * k)).take 2) := by rw [strE]; rfl
      have e2 : (strB (l.drop (6 * k))).extract 2 6 = strB ((l.drop (6 * k + 2)).take 4) := by rw [strE, List.drop_take, List.drop_drop]
      have e3 : (strB (l.drop (6 * k))).extract 6 (n - 6 * k) = strB (l.drop (6 * (k + 1))) := by
        rw [strE, List.take_of_length_le (by rw [List.length_drop, HN.out, HM.out]; exact Nat.le_refl _), List.drop_drop]
        rfl
      generalize numL ((l.drop (6 * k)).take 2) = a at *
      generalize numL ((l.drop (6 * k + 2)).take 4) = a2 at *
      generalize strB ((l.drop (6 * k)).take 2) = T1 at *
      generalize strB ((l.drop (6 * k + 2)).take 4) = T2 at *
      obtain ⟨T3, hT3⟩ : ∃ T3, strB (l.drop (6 * (k + 1))) = T3 := ⟨_, rfl⟩
      have HT3 := Lib.hid hT3
      rw [hT3] at e3 HNX
      clear hT3
      obtain ⟨SK, hSK⟩ : ∃ SK, strB (l.drop (6 * k)) = SK := ⟨_, rfl⟩
      rw [hSK] at e1 e2 e3 hzk HZK ⊢
      clear hSK
      obtain ⟨q, hq⟩ : ∃ q, n - 6 * k = q := ⟨_, rfl⟩
      rw [hq] at e3 hzk HZK
      have i1 : (0 : Int) < (q : Int) := by omega
      have i2 : (2 : Int) ≤ (q : Int) := by omega
      have i3 : (6 : Int) ≤ (q : Int) := by omega
      have HQ : Hid (n - 6 * (k + 1) < q) := Lib.hid (by omega)
      clear hq h6k
      obtain ⟨v', w', hap, ho', hbl, _, hgr⟩ := Own.push (P := Try.prog) (w0 := w) Try.underlying26 pr_info rfl (by omega) 26 (HO.out.only (Only.of_fresh (S := fun _ => False) (Fresh.drew _)) (fun _ _ h => h)) (HD.out.fr.trans (Fresh.drew _)) (Nat.le_refl _) #[.int .i64 (a : Int), .int .i64 (a2 : Int)] rfl (by
        intro u hu
        simp only [List.mem_cons, List.not_mem_nil, or_false] at hu
        rcases hu with rfl | rfl <;> rfl) (by unfold maxLen; omega) (by omega)
      obtain ⟨A', c', rfl, _⟩ := Own.slice ho'
      have hon : Only (fun q => (Value.slice Av k cv).ownBlock = some q) wr w' := (Only.of_fresh (Fresh.drew _)).trans ((Only.of_fresh (Fresh.alloc _ _)).trans ⟨hgr.os, hgr.tape, hgr.output, hgr.size, fun k hk hne => hgr.block k hk (fun e => hne e.symm)⟩)
      have hne : ∀ q t cs, Blk wr q t cs → t ≠ 52 → ¬ (Value.slice Av k cv).ownBlock = some q := fun q t cs hb ht hq => by
        rcases HO.out.2 with ⟨e, _⟩ | ⟨g', cap, cur, e, _, hh, _⟩
        · rw [e] at hq; cases hq
        · rw [e] at hq; simp [Value.ownBlock] at hq; subst hq
          exact (show Blk wr g' _ cur from hh).ne hb (fun e => ht e.symm) rfl
      have HD' : Hid (DX w w' b c d #[.int .i64 4, .int .i64 0, .string ByteArray.empty, .int .i64 0, .int .i64 0, .int .i64 0, .int .i64 0, .int .i64 0, .int .i64 0, .int .i64 0, .int .i64 0, .int .i64 0, .int .i64 0, .int .i64 0, .slice none 0 0] #[.int .i64 4, .int .i64 0, .string ByteArray.empty, .int .i64 0, .int .i64 0, .int .i64 1, .int .i64 0, .int .i64 0, .int .i64 0, .int .i64 0, .int .i64 0, .int .i64 0, .int .i64 0, .int .i64 0, .slice Av k cv]) := Lib.hid ⟨hbl, HD.out.hb, HD.out.bc, HD.out.cd, HD.out.b0.only hon (hne b _ _ HD.out.b0 (by decide)), HD.out.b1.only hon (hne c _ _ HD.out.b1 (by decide)), HD.out.b2.only hon (hne d _ _ HD.out.b2 (by decide))⟩
      have HO' : Hid (Own (w'.setCell ⟨d, 14, none⟩ (.slice A' (k + 1) c')) w.heap.size 52 2 (.slice A' (k + 1) c') (k + 1) ((prsL k l).flatMap pairC ++ [.int .i64 (a : Int), .int .i64 (a2 : Int)])) := Lib.hid (ho'.only (Only.setCell w' ⟨d, 14, none⟩ _) (fun q hq e => by
        subst e
        rcases ho'.2 with ⟨e, _⟩ | ⟨g', cap, cur, e, _, hh, _⟩
        · rw [e] at hq; cases hq
        · rw [e] at hq; simp [Value.ownBlock] at hq; subst hq
          exact (show Blk w' g' _ cur from hh).ne HD'.out.b2 (by decide) rfl))
      have y14 := HD.out.b2.cell 14
      have x14 := HD'.out.b2.cell 14
      have z14 := HD'.out.b2.frozen 14
      have w14 := (HD.out.b2.alloc (.cells #[.int .i64 (a : Int), .int .i64 (a2 : Int)] 52)).cell 14
      simp at y14 x14
      simp only [List.getElem?_toArray, List.getElem?_cons_zero, List.getElem?_cons_succ] at w14
      clear hbl hgr ho' hon hne
      go_upto_region 43 with fail
      go_region_law (first | (go_simp; go_at_call 19; (with_reducible refine (HW1.out _).mono ?_); rintro e w2 ⟨rfl, rfl⟩) | (go_simp; go_at_call 19; (with_reducible refine (HW2.out _).mono ?_); rintro e w2 ⟨rfl, rfl⟩) | (with_reducible refine step_app rfl (.tmp 190) (.tmp 198) _ rfl hap rfl (by simp [Act.eval, Act.put]) (by simp [Act.eval, Act.put]) ?_))
      all_goals
        go_wp2
        exact ⟨⟨k + 1, A', c', by omega, by rw [HT3.out], by rw [HS.out]; simpa [pairC] using HO'.out, HD'.out.set 14 _ _ rfl⟩, by simp only; rw [HNX.out, hzk]; exact HQ.out⟩
    · obtain rfl : k = m := by omega
      have hq0 : n - 6 * k = 0 := by have := HM.out; omega
      rw [hq0] at hzk
      generalize strB (l.drop (6 * k)) = SK at *
      have HX0 : Hid (∀ W, Only (· = b) wr W → Fresh w W → PP (.returned (.tuple #[.agg #[.int .i64 4, .int .i64 0, .string ByteArray.empty, .int .i64 0, .int .i64 0, .int .i64 1, .int .i64 0, .int .i64 0, .int .i64 0, .int .i64 0, .int .i64 0, .int .i64 0, .int .i64 0, .int .i64 0, .slice Av k cv], .int .i64 0, .int .i64 0])) W) := Lib.hid (by
        obtain ⟨A9, c9, e9, h1, h2, _⟩ := HO.out.slice
        injection e9 with e91 _ e93
        subst e91 e93
        have hne : ∀ q, (Value.slice Av k cv).ownBlock = some q → ¬ q = b := fun q hq e => by
          subst e
          rcases HO.out.2 with ⟨e, _⟩ | ⟨g', cap, cur, e, _, hh, _⟩
          · rw [e] at hq; cases hq
          · rw [e] at hq; simp [Value.ownBlock] at hq; subst hq
            exact (show Blk wr g' _ cur from hh).ne HD.out.b0 (by decide) rfl
        exact fun W h3 h4 => HFIN.out W _ _ h1 h2 (many_own (HO.out.only h3 hne) (prsL_len _ _)).1 h4)
      have y10 := HD.out.b2.cell 10
      have y12 := HD.out.b2.cell 12
      simp at y10 y12
      go_upto_region 61 with fail
      go_wp2_with (first | (refine wp_loadB rfl (.tmp 12) _ rfl rfl HD.out.b2 HI.out HG.out ?_) | (refine wp_storeB rfl (.tmp 8) (.tmp 244) _ rfl rfl rfl HD.out.b0 HI.out rfl (by simp [Value.oneCell']) ?_) | fail)
      intro W6 hb6 ho6
      have HB6 := Lib.hid hb6
      have HX := Lib.hid (HX0.out W6 ho6 (HD.out.fin ho6))
      clear hb6 ho6
      go_wp2
      refine bodyPost_ret (results_c2 (fn := Try.f10) rfl rfl rfl rfl HB6.out HI.out HG.out) rfl ?_
      exact HX.out
end Go.Proofs.Ytcdghmidpaeloaa

