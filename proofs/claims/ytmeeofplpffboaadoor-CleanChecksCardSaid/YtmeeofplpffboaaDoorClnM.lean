/-
  The law CleanFields.
-/
import Derived.Test.YtmeeofplpffboaaDoorClnJ
import Derived.Test.YtmeeofplpffboaaDoorLnEq
import Derived.RegionTactic
import Derived.BigRegion
import Derived.BigQuiet
import Derived.Deep.RegionHeld3
namespace Go.Proofs.YtmeeofplpffboaaDoor
set_option maxRecDepth 100000
set_option linter.unusedVariables false
set_option linter.unusedSimpArgs false
open Go.RowKit
theorem keepR_mono {l : List FldT} {k : Nat} {f : FldT} (h : l[k]? = some f) (hh : hopB f.1 f.2 = false) : (keepR l)[(keepR (l.take k)).length]? = some (lnF f) := by
  have h1 := keepR_take h
  rw [hh] at h1
  simp only [Bool.false_eq_true, if_false] at h1
  have h2 : keepR l = keepR (l.take (k + 1)) ++ keepR (l.drop (k + 1)) := by
    unfold keepR
    rw [← List.map_append, ← List.filter_append, List.take_append_drop]
  rw [h2, h1, List.append_assoc, List.getElem?_append_right (Nat.le_refl _)]
  simp
theorem wrongC_lnF {f : FldT} (h : wrongF f = 0) (hh : hopB f.1 f.2 = false) : wrongC f = 0 := by
  unfold wrongF at h
  unfold wrongC
  split at h
  · cases h
  · rename_i h1
    rw [if_neg (by simp [h1, hh])]
    exact h
theorem chk_keep {l : List FldT} (h : ∀ (j : Nat) f, l[j]? = some f → wrongF f = 0) : chkR (keepR l) = 0 := chkR_ok (fun j x hx => by
  have hm := List.mem_of_getElem? hx
  unfold keepR at hm
  obtain ⟨f, hf, rfl⟩ := List.mem_map.1 hm
  rw [List.mem_filter] at hf
  obtain ⟨i, hi⟩ := List.getElem?_of_mem hf.1
  exact wrongC_lnF (h i f hi) (by exact (by simpa using hf.2 : hopB f.1 f.2 = false)))
theorem keep_small {l : List FldT} (h : Small21 l) : ∀ x ∈ keepR l, x.1.1.size ≤ 2000 ∧ x.1.2.size ≤ 2000 := fun x hx => by
  unfold keepR at hx
  obtain ⟨f, hf, rfl⟩ := List.mem_map.1 hx
  exact h.2 f (List.mem_filter.1 hf).1
def LwQ (w : World) (e : Ending) (w' : World) : Prop := e = .returned (.bool true) ∧ Fresh w w'
set_option maxHeartbeats 16000000 in
theorem fields_all (A0 : Option Addr) (c0 : Nat) (l : List FldT) (w : World) (hm : Many fldD 2 w A0 l) (hl : l.length ≤ 140737488351232) (hok : ∀ f ∈ l, FldT.Ok w f) :
    Calls Tryd.prog 4 #[.slice A0 l.length c0] w (LwQ w) := by
  have HAW := Lib.hid cl_awake
  have HSM := Lib.hid (l21_small A0 c0 l w hm hl hok)
  have HM := Lib.hid hm
  have HFIN : Hid (∀ W, Fresh w W → LwQ w (.returned (.bool true)) W) := Lib.hid (fun W h => ⟨rfl, h⟩)
  clear hm hok
  generalize LwQ w = PP at *
  go_enter Tryd.func4, Tryd.ntmps4
  go_wp2_with fail
  with_reducible refine HSM.out.mono ?_
  rintro e w1 ⟨r, rfl, hr, hf1⟩
  have HF1 := Lib.hid hf1
  have HR := Lib.hid hr
  clear hr hf1 HSM
  cases r with
  | false =>
    go_wp2_with fail
    with_reducible refine (HAW.out _).mono ?_
    rintro e w3 ⟨rfl, hf3⟩
    have HF3 := Lib.hid (HF1.out.trans hf3)
    clear hf3
    go_wp2_with fail
    exact HFIN.out _ HF3.out
  | true =>
    have HS := Lib.hid (HR.out rfl)
    have hlen := HS.out.1
    have HCF := Lib.hid (cl_fields A0 c0 l w1 (HM.out.fresh HF1.out) (by omega) (fun f hf => by have := (HS.out.2 f hf).2; omega))
    go_wp2_with fail
    with_reducible refine HCF.out.mono ?_
    rintro e w2 ⟨n, A, xs, c, hcl, rfl, hown, hf2⟩
    have HF2 := Lib.hid (HF1.out.trans hf2)
    have HML := Lib.hid (own_manyL hown)
    have HCL := Lib.hid hcl
    have HOWN := Lib.hid hown
    clear hcl hown hf2 HCF HR
    obtain ⟨m, hm⟩ : ∃ m, xs.length = m := ⟨_, rfl⟩
    have HMM := Lib.hid hm
    rw [hm]
    clear hm
    go_wp2_with fail
    go_loopw [5, 20] (fun kx ix wr => ∃ k : Nat, k ≤ l.length ∧ ix = .int .i64 (k : Int) ∧ kx = .int .i64 ((keepR (l.take k)).length : Int) ∧ (∀ (j : Nat) f, j < k → l[j]? = some f → wrongF f = 0) ∧ Fresh w2 wr) (fun _ i _ => l.length - (intOf i).toNat)
    case atStart => exact ⟨0, by omega, rfl, rfl, fun j f hj => by omega, Fresh.refl _⟩
    case round =>
      obtain ⟨k, hk, rfl, rfl, hal, hfr⟩ := hrel
      have HAL := Lib.hid hal
      have HFR := Lib.hid hfr
      clear hal
      by_cases hlt : k < l.length
      · have hlt' : (k : Int) < (l.length : Int) := by omega
        obtain ⟨f, hx⟩ : ∃ f, l[k]? = some f := ⟨_, List.getElem?_eq_getElem hlt⟩
        obtain ⟨b, o, rfl, hb, g0, g1⟩ := (HM.out.fresh HF2.out).fdAt k f hx
        have e0 := (hfr.cell (p := ⟨b, o + k * 2, none⟩) hb).trans g0
        have e1 := (hfr.cell (p := ⟨b, o + k * 2 + 1, none⟩) hb).trans g1
        have HX := Lib.hid hx
        have HWR : Hid (wrongF f = if nameB f.1.data.toList = false then 30 else if valB f.2.data.toList = false then 31 else 0) := Lib.hid rfl
        have HNM := Lib.hid (fun w => rf_name f.1 w)
        have HVL := Lib.hid (fun w => rf_value f.2 w)
        have HHP := Lib.hid (fun w => rf_hop f.1 f.2 w)
        have HSN := Lib.hid (fun w => rf_sen f.1 w)
        obtain ⟨bn, hbn⟩ : ∃ b, nameB f.1.data.toList = b := ⟨_, rfl⟩
        obtain ⟨bv, hbv⟩ : ∃ b, valB f.2.data.toList = b := ⟨_, rfl⟩
        obtain ⟨bh, hbh⟩ : ∃ b, hopB f.1 f.2 = b := ⟨_, rfl⟩
        obtain ⟨bs, hbs⟩ : ∃ b, senB f.1 = b := ⟨_, rfl⟩
        have HBS := Lib.hid hbs
        have HBH := Lib.hid hbh
        rw [hbn, hbv] at HWR
        rw [hbn] at HNM
        rw [hbv] at HVL
        rw [hbh] at HHP
        rw [hbs] at HSN
        clear hx g0 g1 hfr hbn hbv hbh hbs
        have hkl := keepR_len (l.take k)
        have hkm : (keepR (l.take k)).length ≤ 400 := by rw [List.length_take] at hkl; omega
        have HKT := Lib.hid (keepR_take HX.out)
        obtain ⟨q, hq⟩ : ∃ q, (keepR (l.take k)).length = q := ⟨_, rfl⟩
        have HQ := Lib.hid hq
        rw [hq] at hkm ⊢
        clear hq hkl
        obtain ⟨f1, f2⟩ := f
        simp only at e0 e1 HNM HVL HHP HSN HBS HBH HKT
        go_upto_region 9 with fail
        refine wp_gen (fun W => Blk W wr.heap.size 23 #[.string f1, .string f2] ∧ Fresh wr W) ⟨Blk.new wr _ _, Fresh.alloc _ _⟩ ?_
        rintro W ⟨hbw, hfw⟩
        obtain ⟨p, hp⟩ : ∃ p, wr.heap.size = p := ⟨_, rfl⟩
        rw [hp] at hbw ⊢
        clear hp e0 e1
        obtain ⟨y0, y1⟩ := hbw.c2
        have HBW := Lib.hid hbw
        have HFW := Lib.hid (HFR.out.trans hfw)
        clear hbw hfw
        have hbad : ∀ N, wrongF (f1, f2) = N → N ≠ 0 → n = N ∧ m = 0 := fun N h1 h2 => by
          have h3 := clnR_bad HX.out HAL.out (by rw [h1]; exact h2)
          rw [HCL.out, h1] at h3
          injection h3 with h4 h5
          exact ⟨h4, by rw [← HMM.out, h5]; rfl⟩
        cases bn
        · obtain ⟨rfl, rfl⟩ := hbad 30 (by rw [HWR.out]; rfl) (by omega)
          clear hbad
          go_wp2_with fail
          with_reducible refine (HNM.out _).mono ?_
          rintro e w5 ⟨rfl, hw⟩
          obtain rfl : W = w5 := hw.symm
          go_wp2_with fail
          with_reducible refine (HAW.out _).mono ?_
          rintro e w6 ⟨rfl, hf6⟩
          have HF6 := Lib.hid (HF2.out.trans (HFW.out.trans hf6))
          clear hf6
          go_wp2_with fail
          exact HFIN.out _ HF6.out
        cases bv
        · obtain ⟨rfl, rfl⟩ := hbad 31 (by rw [HWR.out]; rfl) (by omega)
          clear hbad
          go_wp2_with fail
          with_reducible refine (HNM.out _).mono ?_
          rintro e w5 ⟨rfl, hw⟩
          obtain rfl : W = w5 := hw.symm
          go_wp2_with fail
          with_reducible refine (HVL.out _).mono ?_
          rintro e w5 ⟨rfl, hw⟩
          obtain rfl : W = w5 := hw.symm
          go_wp2_with fail
          with_reducible refine (HAW.out _).mono ?_
          rintro e w6 ⟨rfl, hf6⟩
          have HF6 := Lib.hid (HF2.out.trans (HFW.out.trans hf6))
          clear hf6
          go_wp2_with fail
          exact HFIN.out _ HF6.out
        have HW0 : Hid (wrongF (f1, f2) = 0) := Lib.hid (by rw [HWR.out]; rfl)
        have HOK := Lib.hid (okW_succ HAL.out HX.out HW0.out)
        clear hbad
        go_wp2_with fail
        with_reducible refine (HNM.out _).mono ?_
        rintro e w5 ⟨rfl, hw⟩
        obtain rfl : W = w5 := hw.symm
        go_wp2_with fail
        with_reducible refine (HVL.out _).mono ?_
        rintro e w5 ⟨rfl, hw⟩
        obtain rfl : W = w5 := hw.symm
        go_wp2_with fail
        with_reducible refine (HHP.out _).mono ?_
        rintro e w7 ⟨rfl, hf7⟩
        obtain ⟨y0, y1⟩ := (HBW.out.fresh hf7).c2
        have HBW7 := Lib.hid (HBW.out.fresh hf7)
        have HF7 := Lib.hid (HFW.out.trans hf7)
        clear hf7 HBW HFW
        cases bh
        rotate_left
        · have HLN : Hid ((keepR (l.take (k + 1))).length = q) := Lib.hid (by rw [HKT.out, HBH.out, ← HQ.out]; simp)
          go_wp2_with fail
          go_roundw
          case rel => exact ⟨k + 1, by omega, by go_num, by rw [HLN.out], HOK.out, HF7.out⟩
          case measure => simp [intOf]; omega
        have HLN : Hid ((keepR (l.take (k + 1))).length = q + 1) := Lib.hid (by rw [HKT.out, HBH.out, ← HQ.out]; simp)
        by_cases hn0 : n = 0
        · have hn1 : ((n : Int) == 0) = true := by rw [hn0]; rfl
          have HN0 := Lib.hid hn0
          clear hn0
          have hall : ∀ (j : Nat) f, l[j]? = some f → wrongF f = 0 := fun j f hj => by
            cases h : wrongF f with
            | zero => rfl
            | succ u =>
              exfalso
              have hex : ∀ j : Nat, (∃ f, l[j]? = some f ∧ wrongF f ≠ 0) → False := by
                intro j
                induction j using Nat.strongRecOn with
                | ind j ih =>
                  intro ⟨f, hf, hne⟩
                  by_cases hq : ∃ i, i < j ∧ ∃ g, l[i]? = some g ∧ wrongF g ≠ 0
                  · obtain ⟨i, hi, h⟩ := hq
                    exact ih i hi h
                  · have := clnR_bad hf (fun i g hi hg => by
                      by_cases h0 : wrongF g = 0
                      · exact h0
                      · exact absurd ⟨i, hi, g, hg, h0⟩ hq) hne
                    rw [HCL.out] at this
                    injection this with h1 _
                    exact hne (h1.symm.trans HN0.out)
              exact hex j ⟨f, hj, by omega⟩
          have hxs : xs = keepR l := by
            have h1 := clnR_ok (l := l) (fun f hf => by
              obtain ⟨j, hj⟩ := List.getElem?_of_mem hf
              exact hall j f hj)
            rw [HCL.out] at h1
            injection h1 with _ h2
          have hat : xs[q]? = some ((f1, f2), bs) := by
            have h1 := keepR_mono HX.out HBH.out
            rw [hxs, ← HQ.out, h1, ← HBS.out]
            rfl
          have hqm : q < m := by rw [← HMM.out]; exact (List.getElem?_eq_some_iff.1 hat).1
          obtain ⟨bm, om, rfl, hbm, m0, m1, m2⟩ := HML.out.lnAt q _ hat
          simp only at m0 m1 m2
          have hqm' : ¬ (m : Int) ≤ (q : Int) := by omega
          have hqd : decide ((m : Int) ≤ (q : Int)) = false := decide_eq_false hqm'
          have hqe : decide (m ≤ q) = false := decide_eq_false (by omega)
          have HSK : Hid (∀ w', Fresh w7 w' → w'.cell? ⟨p, 0, none⟩ = some (.string f1) ∧ w'.cell? ⟨p, 1, none⟩ = some (.string f2) ∧ w'.cell? ⟨bm, om + q * 3, none⟩ = some (.string f1) ∧ w'.cell? ⟨bm, om + q * 3 + 1, none⟩ = some (.string f2) ∧ w'.cell? ⟨bm, om + q * 3 + 2, none⟩ = some (.bool bs) ∧ Fresh w7 w') := Lib.hid (fun w' hw => ⟨(HBW7.out.fresh hw).cell 0, (HBW7.out.fresh hw).cell 1, ((HF7.out.trans hw).cell (p := ⟨bm, om + q * 3, none⟩) hbm).trans m0, ((HF7.out.trans hw).cell (p := ⟨bm, om + q * 3 + 1, none⟩) hbm).trans m1, ((HF7.out.trans hw).cell (p := ⟨bm, om + q * 3 + 2, none⟩) hbm).trans m2, hw⟩)
          have hE := run_eq_line f1 f2 bs
          clear hall hxs hat hbm m0 m1 m2
          go_upto_region 16 with fail
          go_region_held3 (fun w' => w'.cell? ⟨p, 0, none⟩ = some (.string f1) ∧ w'.cell? ⟨p, 1, none⟩ = some (.string f2) ∧ w'.cell? ⟨bm, om + q * 3, none⟩ = some (.string f1) ∧ w'.cell? ⟨bm, om + q * 3 + 1, none⟩ = some (.string f2) ∧ w'.cell? ⟨bm, om + q * 3 + 2, none⟩ = some (.bool bs) ∧ Fresh w7 w')
            ((refine HSK.out _ ?_; first | with_reducible assumption | with_reducible exact Fresh.drew _))
            (first | (go_at_call 16; (with_reducible refine (HSN.out _).mono ?_); rintro e wa ⟨rfl, hfa⟩; have hga : Fresh w7 wa := Fresh.trans (by first | with_reducible assumption | with_reducible exact Fresh.drew _) hfa; clear hfa))
          all_goals
            go_wp2_with fail
            go_roundw
            case rel => exact ⟨k + 1, by omega, by go_num, by rw [HLN.out]; rfl, HOK.out, HF7.out.trans hga⟩
            case measure => simp [intOf]; omega
        · have hn1 : ((n : Int) == 0) = false := beq_eq_false_iff_ne.2 (by omega)
          go_upto_region 16 with fail
          go_quiet (fail)
          all_goals
            go_wp2_with fail
            go_roundw
            case rel => exact ⟨k + 1, by omega, by go_num, by rw [HLN.out]; rfl, HOK.out, HF7.out.trans (Fresh.drewN _ _)⟩
            case measure => simp [intOf]; omega
      · obtain rfl : k = l.length := by omega
        have hall : ∀ (j : Nat) f, l[j]? = some f → wrongF f = 0 := fun j f hj => HAL.out j f (List.getElem?_eq_some_iff.1 hj).1 hj
        have h1 := clnR_ok (l := l) (fun f hf => by
          obtain ⟨j, hj⟩ := List.getElem?_of_mem hf
          exact hall j f hj)
        rw [HCL.out] at h1
        injection h1 with h2 h3
        subst h2 h3
        rw [show ((0 : Nat) : Int) = 0 from rfl]
        have HCH := Lib.hid (cl_check A c (keepR l) wr (HML.out.fresh hfr) (by have := keepR_len l; omega) (fun x hx => by have := (keep_small HS.out x hx).2; omega))
        have hck := chk_keep hall
        have HCK := Lib.hid hck
        have hkm : (keepR (l.take l.length)).length = m := by rw [List.take_length]; exact HMM.out
        rw [hkm]
        rw [HMM.out] at HCH
        have hmm : ((m : Int) == (m : Int)) = true := by simp
        clear hall hck hkm hfr
        have hlt' : ¬ (l.length : Int) < (l.length : Int) := by omega
        go_wp2_with fail
        with_reducible refine HCH.out.mono ?_
        rintro e w8 ⟨n8, rfl, hn8, hf8⟩
        rw [HCK.out] at hn8
        subst hn8
        rw [show ((0 : Nat) : Int) = 0 from rfl]
        have HF8 := Lib.hid (HF2.out.trans (HFR.out.trans hf8))
        clear hf8
        go_wp2_with fail
        with_reducible refine (HAW.out _).mono ?_
        rintro e w9 ⟨rfl, hf9⟩
        have HF9 := Lib.hid (HF8.out.trans hf9)
        clear hf9
        go_wp2_with fail
        exact HFIN.out _ HF9.out
theorem CleanFields_any (s : FdsV) (w : World) (h : s.Ok w) : Calls Tryd.prog 4 #[.slice s.A s.xs.length s.c] w (LwQ w) := fields_all s.A s.c s.xs w h.rows (by have := h.le; have := h.max; omega) h.ok
end Go.Proofs.YtmeeofplpffboaaDoor

