/-
  The law RegCopies: its walk where the numbers are allowed.
-/
import Derived.Test.YtjediikcfhdgiaaDoorRegN
namespace Go.Proofs.YtjediikcfhdgiaaDoor
set_option maxRecDepth 100000
set_option linter.unusedVariables false
set_option linter.unusedSimpArgs false
open Go.RowKit Go.Maps
set_option maxHeartbeats 25600000 in
theorem copies_yes (z : CaseR) (A2 : Option Addr) (ys : List OpR) (c2 : Nat) (w : World) (hz : z.Ok w) (hy1 : ys.length ≤ c2) (hy2 : c2 ≤ maxLen) (hyr : Many OpR.cells 3 w A2 ys) (hyi : ∀ o ∈ ys, o.In) (hT : Tbl w) (hok : 1 ≤ z.a ∧ z.a ≤ 64 ∧ 1 ≤ z.b ∧ z.b ≤ 65536) : Calls Tryd.prog 6 #[z.v, .slice A2 ys.length c2] w (RcP w) := by
  have HFIN : Hid (∀ W, Fresh w W → RcP w (.returned (.bool true)) W) := Lib.hid (fun W h => ⟨rfl, h⟩)
  have HRT := Lib.hid (fun W => l14_right z W)
  have HAW := Lib.hid (fun W (hf : Fresh w W) => rg_awake W (hT.fresh hf))
  have HT := Lib.hid hT
  have HTL := Lib.hid hT.lt
  have HR := Lib.hid hz.rows
  have HIN := Lib.hid hz.ok
  have HYR := Lib.hid hyr
  have HYI := Lib.hid hyi
  have hle := hz.le
  have hmx := hz.max
  clear hz hT hyr hyi
  generalize RcP w = PP at *
  obtain ⟨a, b, A, cc, xs⟩ := z
  unfold CaseR.v CaseR.arr CrOk at HRT
  unfold CaseR.v CaseR.arr
  simp only at HRT HR HIN hle hmx hok ⊢
  obtain ⟨m, hm⟩ : ∃ m, xs.length = m := ⟨_, rfl⟩
  obtain ⟨m2, hm2⟩ : ∃ m, ys.length = m := ⟨_, rfl⟩
  have HM := Lib.hid hm
  have HM2 := Lib.hid hm2
  rw [hm] at HRT hle ⊢
  rw [hm2] at hy1 ⊢
  clear hm hm2
  unfold maxLen at hmx hy2
  obtain ⟨n, rfl⟩ : ∃ n : Nat, a = (n : Int) := ⟨a.toNat, by omega⟩
  have HNM := Lib.hid (show 1 ≤ n ∧ n ≤ 64 ∧ 1 ≤ b ∧ b ≤ 65536 from ⟨by omega, by omega, hok.2.2.1, hok.2.2.2⟩)
  have e0 : decide ((n : Int) < 1) = false := decide_eq_false (by omega)
  have e1 : decide (64 < (n : Int)) = false := decide_eq_false (by omega)
  have e2 : decide (b < 1) = false := decide_eq_false (by omega)
  have e3 : decide (65536 < b) = false := decide_eq_false (by omega)
  clear hok
  go_enter Tryd.func6, Tryd.ntmps6
  go_upto_region 1 with fail
  obtain ⟨b0, hb0⟩ : ∃ b0, w.heap.size = b0 := ⟨_, rfl⟩
  rw [hb0]
  refine wp_gen (fun W => Fresh w W ∧ Blk W b0 24 #[.int .i64 (n : Int), .int .i64 b, .slice A m cc]) ⟨Fresh.alloc _ _, Blk.mkAt hb0⟩ ?_
  clear hb0
  rintro w1 ⟨hf0, hz0⟩
  have HF1 := Lib.hid hf0
  have HZ1 := Lib.hid hz0
  obtain ⟨z0, z1, z2⟩ := hz0.c3
  have HN1 := Lib.hid (rg_new n b w1 HNM.out.1 HNM.out.2.1 HNM.out.2.2.1 HNM.out.2.2.2)
  unfold NewRP at HN1
  clear hf0 hz0
  go_wp2_with fail
  with_reducible refine HN1.out.mono ?_
  rintro e w2 ⟨g, mb, lb, rfl, hr2, hf2⟩
  have hX2 : RegX w2 w1.heap.size g mb lb n b 0 0 0 [] := ⟨hr2, by simp, by simp, by simp, by simp, by simp, by simp⟩
  have HPL : Hid (PlR w1 n b g mb lb 0 0 none 0 0 w2) := Lib.hid ⟨hf2, [], rfl, Nat.le_refl _, hX2, HT.out.fresh (HF1.out.trans hf2), by have := HTL.out; have := HF1.out.size; omega, hf2.size, HNM.out.1, HNM.out.2.1, HNM.out.2.2.2, by omega, by omega, by omega, by simp, LD.nil _, fun o => by rw [cnt_nil]; have := HNM.out; show (0 : Int) ≤ b; omega⟩
  have HF2 := Lib.hid hf2
  clear hr2 hf2 hX2 z0 z1 z2 HN1
  obtain ⟨z0, z1, z2⟩ := (HZ1.out.fresh HF2.out).c3
  go_wp2_with fail
  with_reducible refine (HRT.out _).mono ?_
  rintro e w3 ⟨r, rfl, hr3, hf3⟩
  have HF3 := Lib.hid (HF2.out.trans hf3)
  have HPL3 : Hid (PlR w1 n b g mb lb 0 0 none 0 0 w3) := Lib.hid (by
    obtain ⟨h1, X, h2, h3, h4⟩ := HPL.out
    exact ⟨h1.trans hf3, X, h2, h3, h4.fresh hf3⟩)
  have HR3 := Lib.hid hr3
  clear hf3 hr3 z0 z1 z2 HRT HPL
  obtain ⟨z0, z1, z2⟩ := (HZ1.out.fresh HF3.out).c3
  cases r with
  | false =>
    go_wp2_with fail
    with_reducible refine (HAW.out _ (HF1.out.trans HF3.out)).mono ?_
    rintro e w2 ⟨rfl, hf2⟩
    have HX := Lib.hid (HFIN.out _ ((HF1.out.trans HF3.out).trans hf2))
    clear hf2
    go_wp2_with fail
    exact HX.out
  | true =>
    have HM100 := Lib.hid (HR3.out.1 rfl).2.2.2.2
    by_cases h60 : 60 < m2
    · have d60 : decide (60 < (m2 : Int)) = true := decide_eq_true (by omega)
      have d61 : decide (60 < m2) = true := decide_eq_true h60
      go_wp2_with fail
      with_reducible refine (HAW.out _ (HF1.out.trans HF3.out)).mono ?_
      rintro e w2 ⟨rfl, hf2⟩
      have HX := Lib.hid (HFIN.out _ ((HF1.out.trans HF3.out).trans hf2))
      clear hf2
      go_wp2_with fail
      exact HX.out
    have d60 : decide (60 < (m2 : Int)) = false := decide_eq_false (by omega)
    have d61 : decide (60 < m2) = false := decide_eq_false h60
    have H60 := Lib.hid h60
    clear h60
    go_upto_region 11 with fail
    clear z0 z1 z2
    go_loopw [7, 8, 70] (fun xv lv iv wr => ∃ (k : Nat) (last : Int) (A' : Option Addr) (c' m' : Nat), k ≤ m ∧ iv = .int .i64 (k : Int) ∧ lv = .int .i64 last ∧ xv = .slice A' m' c' ∧ PlR w1 n b g mb lb k last A' c' m' wr) (fun _ _ iv _ => m - (intOf iv).toNat)
    case atStart => exact ⟨0, 0, none, 0, 0, by omega, rfl, rfl, rfl, HPL3.out⟩
    case round =>
      obtain ⟨k, last, A1, c1, m1, hk, rfl, rfl, rfl, hpl⟩ := hrel
      obtain ⟨hfr, X, hXm, hmk, hst⟩ := hpl
      have HST := Lib.hid hst
      have HXM := Lib.hid hXm
      have HMK := Lib.hid hmk
      obtain ⟨z0, z1, z2⟩ := (HZ1.out.fresh hfr).c3
      have HFR := Lib.hid hfr
      clear hst hXm hmk HPL3
      by_cases hlt : k < m
      · have hlt' : (k : Int) < (m : Int) := by omega
        obtain ⟨o, hx⟩ : ∃ x, xs[k]? = some x := ⟨_, List.getElem?_eq_getElem (by rw [HM.out]; exact hlt)⟩
        obtain ⟨rb, rf, rfl, hrb, y0, y1, y2⟩ := HR.out.atR k o hx
        have hoin := HIN.out o (List.mem_of_getElem? hx)
        have e5 := ((HF1.out.trans hfr).cell (p := ⟨rb, rf + k * 3, none⟩) hrb).trans y0
        have e6 := ((HF1.out.trans hfr).cell (p := ⟨rb, rf + k * 3 + 1, none⟩) hrb).trans y1
        have e7 := ((HF1.out.trans hfr).cell (p := ⟨rb, rf + k * 3 + 2, none⟩) hrb).trans y2
        obtain ⟨kd, N, ev⟩ := o
        simp only at e5 e6 e7
        obtain ⟨⟨hN0, hN1⟩⟩ := hoin
        simp only at hN0 hN1
        have HNN := Lib.hid (And.intro hN0 hN1)
        clear y0 y1 y2 hrb hx hfr hN0 hN1
        go_upto_region 13 with fail
        obtain ⟨ob, hob⟩ : ∃ ob, wr.heap.size = ob := ⟨_, rfl⟩
        rw [hob]
        refine wp_gen (fun W => Fresh wr W ∧ Blk W ob 34 #[.int .i64 kd, .int .i64 N, .int .i64 ev]) ⟨by repeat (first | with_reducible exact Fresh.alloc _ _ | with_reducible exact Fresh.refl _), by first | exact Blk.mkAt hob | (rw [← hob]; exact Blk.new _ _ _)⟩ ?_
        clear hob e5 e6 e7 z0 z1 z2
        rintro W4 ⟨hf4, hb4⟩
        have HS4 := Lib.hid (HST.out.fresh hf4)
        have HF4 := Lib.hid (HFR.out.trans hf4)
        obtain ⟨z0, z1, z2⟩ := (HZ1.out.fresh HF4.out).c3
        obtain ⟨o0, o1, o2⟩ := hb4.c3
        have HSTP := Lib.hid (l14_step HS4.out kd N ev HNN.out (some ⟨rb, rf, none⟩) m cc)
        rw [HXM.out] at HSTP
        clear hf4 hb4 HFR
        go_wp2_with fail
        with_reducible refine HSTP.out.mono ?_
        rintro e w5 ⟨A3, c3, last3, X3, rfl, hs⟩
        have hs5 := StpR.next HS4.out hs (by have := HM100.out; have := HM.out; omega) (by have := HM100.out; have := HM.out; omega) (by have := HXM.out; have := HMK.out; have := HM100.out; have := HM.out; omega)
        have HNX : Hid (PlR w1 n b g mb lb (k + 1) last3 A3 c3 X3.length w5) := Lib.hid ⟨fresh_only HF4.out hs.only (fun c e => HST.out.reg.base c e), X3, rfl, by have := hs.len; have := HXM.out; have := HMK.out; omega, by
          rw [show ((k + 1 : Nat) : Int) = (k : Int) + 1 by omega]
          exact hs5⟩
        clear hs hs5 z0 z1 z2 o0 o1 o2
        generalize X3.length = m3 at *
        go_wp2_with fail
        go_roundw
        case rel => exact ⟨k + 1, last3, A3, c3, m3, by omega, by go_num, rfl, rfl, HNX.out⟩
        case measure => simp [intOf]; omega
      · obtain rfl : k = m := by omega
        have hnk : ¬ (k : Int) < (k : Int) := by omega
        have HCP := Lib.hid (rg_copy HST.out.reg HST.out.tbl HNM.out.1 HNM.out.2.1 HST.out.xl)
        clear hfr
        go_wp2_with fail
        with_reducible refine HCP.out.mono ?_
        rintro e w5 ⟨cp, mb2, lb2, f, rfl, hXc, hf5⟩
        have hxl : (twX f X).length = m1 := by unfold twX; rw [List.length_map]; exact HXM.out
        have HPC : Hid (PlR wr n b cp mb2 lb2 200 last A1 c1 m1 w5) := Lib.hid ⟨hf5, twX f X, hxl, by have := HMK.out; have := HM100.out; have := HM.out; omega, hXc.mono (by have := HXM.out; have := HMK.out; have := HM100.out; have := HM.out; omega) (by omega), HST.out.tbl.fresh hf5, Nat.lt_of_lt_of_le HST.out.bT HST.out.bw, hf5.size, HNM.out.1, HNM.out.2.1, HST.out.q2, by omega, by omega, by omega, by have := HMK.out; have := HM100.out; have := HM.out; omega, by rw [tw_docL]; exact HST.out.doc.fresh hf5, fun o => by rw [tw_cnt]; exact HST.out.cnt o⟩
        have HFW := Lib.hid HFR.out
        clear hxl hXc hf5 HCP z0 z1 z2
        obtain ⟨wc, hwc⟩ : ∃ x, x = wr := ⟨_, rfl⟩
        subst hwc
        go_upto_region 20 with fail
        go_loopw [12, 13, 93] (fun xv lv iv w9 => ∃ (j : Nat) (last : Int) (A' : Option Addr) (c' m' : Nat), j ≤ m2 ∧ iv = .int .i64 (j : Int) ∧ lv = .int .i64 last ∧ xv = .slice A' m' c' ∧ PlR wc n b cp mb2 lb2 (200 + j) last A' c' m' w9) (fun _ _ iv _ => m2 - (intOf iv).toNat)
        case atStart => exact ⟨0, last, A1, c1, m1, by omega, rfl, rfl, rfl, HPC.out⟩
        case round =>
          obtain ⟨j, last2, A5, c5, m5, hj, rfl, rfl, rfl, hpl⟩ := hrel
          obtain ⟨hfr, Y, hYm, hmj, hst⟩ := hpl
          have HSC := Lib.hid hst
          have HYM := Lib.hid hYm
          have HMJ := Lib.hid hmj
          obtain ⟨z0, z1, z2⟩ := (HZ1.out.fresh (HFW.out.trans hfr)).c3
          have HFC := Lib.hid hfr
          clear hst hYm hmj HPC
          by_cases hlt : j < m2
          · have hlt' : (j : Int) < (m2 : Int) := by omega
            obtain ⟨o, hx⟩ : ∃ x, ys[j]? = some x := ⟨_, List.getElem?_eq_getElem (by rw [HM2.out]; exact hlt)⟩
            obtain ⟨rb, rf, rfl, hrb, y0, y1, y2⟩ := HYR.out.atR j o hx
            have hoin := HYI.out o (List.mem_of_getElem? hx)
            have hfy := (HF1.out.trans HFW.out).trans hfr
            have e5 := (hfy.cell (p := ⟨rb, rf + j * 3, none⟩) hrb).trans y0
            have e6 := (hfy.cell (p := ⟨rb, rf + j * 3 + 1, none⟩) hrb).trans y1
            have e7 := (hfy.cell (p := ⟨rb, rf + j * 3 + 2, none⟩) hrb).trans y2
            obtain ⟨kd, N, ev⟩ := o
            simp only at e5 e6 e7
            obtain ⟨⟨hN0, hN1⟩⟩ := hoin
            simp only at hN0 hN1
            have HNN := Lib.hid (And.intro hN0 hN1)
            clear y0 y1 y2 hrb hx hfr hN0 hN1 hfy
            go_upto_region 22 with fail
            obtain ⟨ob, hob⟩ : ∃ ob, wr.heap.size = ob := ⟨_, rfl⟩
            rw [hob]
            refine wp_gen (fun W => Fresh wr W ∧ Blk W ob 34 #[.int .i64 kd, .int .i64 N, .int .i64 ev]) ⟨by repeat (first | with_reducible exact Fresh.alloc _ _ | with_reducible exact Fresh.refl _), by first | exact Blk.mkAt hob | (rw [← hob]; exact Blk.new _ _ _)⟩ ?_
            clear hob e5 e6 e7 z0 z1 z2
            rintro W4 ⟨hf4, hb4⟩
            have HS4 := Lib.hid (HSC.out.fresh hf4)
            have HF4 := Lib.hid (HFC.out.trans hf4)
            obtain ⟨z0, z1, z2⟩ := (HZ1.out.fresh (HFW.out.trans HF4.out)).c3
            obtain ⟨o0, o1, o2⟩ := hb4.c3
            have HSTP := Lib.hid (l14_step HS4.out kd N ev HNN.out A k cc)
            rw [HYM.out] at HSTP
            clear hf4 hb4 HFC
            go_wp2_with fail
            with_reducible refine HSTP.out.mono ?_
            rintro e w5 ⟨A3, c3, last3, X3, rfl, hs⟩
            have hs5 := StpR.next HS4.out hs (by have := H60.out; omega) (by have := H60.out; omega) (by have := HYM.out; have := HMJ.out; have := H60.out; omega)
            have HNX : Hid (PlR wc n b cp mb2 lb2 (200 + (j + 1)) last3 A3 c3 X3.length w5) := Lib.hid ⟨fresh_only HF4.out hs.only (fun c e => HSC.out.reg.base c e), X3, rfl, by have := hs.len; have := HYM.out; have := HMJ.out; omega, by
              rw [show ((200 + (j + 1) : Nat) : Int) = ((200 + j : Nat) : Int) + 1 by omega]
              exact hs5⟩
            clear hs hs5 z0 z1 z2 o0 o1 o2
            generalize X3.length = m3 at *
            go_wp2_with fail
            go_roundw
            case rel => exact ⟨j + 1, last3, A3, c3, m3, by omega, by go_num, rfl, rfl, HNX.out⟩
            case measure => simp [intOf]; omega
          · obtain rfl : j = m2 := by omega
            have hnj : ¬ (j : Int) < (j : Int) := by omega
            have HG1 := Lib.hid (HST.out.fresh hfr)
            have HSA := Lib.hid (l14_same HG1.out.reg HNM.out.1 HNM.out.2.1 HG1.out.xl A1 c1 HG1.out.doc HG1.out.cnt HG1.out.q2 A k cc)
            rw [HXM.out] at HSA
            clear hfr
            go_wp2_with fail
            with_reducible refine HSA.out.mono ?_
            rintro e w7 ⟨rfl, hf7⟩
            have HF7 := Lib.hid (HFC.out.trans hf7)
            have HC1 := Lib.hid (HSC.out.fresh hf7)
            have HSB := Lib.hid (l14_same HC1.out.reg HNM.out.1 HNM.out.2.1 HC1.out.xl A5 c5 HC1.out.doc HC1.out.cnt HC1.out.q2 A k cc)
            rw [HYM.out] at HSB
            clear hf7 z0 z1 z2
            obtain ⟨z0, z1, z2⟩ := (HZ1.out.fresh (HFW.out.trans HF7.out)).c3
            go_wp2_with fail
            with_reducible refine HSB.out.mono ?_
            rintro e w8 ⟨rfl, hf8⟩
            have HF8 := Lib.hid ((HF1.out.trans HFW.out).trans (HF7.out.trans hf8))
            clear hf8 z0 z1 z2
            go_wp2_with fail
            with_reducible refine (HAW.out _ HF8.out).mono ?_
            rintro e w9 ⟨rfl, hf9⟩
            have HX := Lib.hid (HFIN.out _ (HF8.out.trans hf9))
            clear hf9
            go_wp2_with fail
            exact HX.out
end Go.Proofs.YtjediikcfhdgiaaDoor

