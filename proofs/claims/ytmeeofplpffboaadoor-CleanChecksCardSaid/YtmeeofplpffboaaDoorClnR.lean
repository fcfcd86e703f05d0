/-
  The law CleanChecks: its walk. Made by program.
-/
import Derived.Test.YtmeeofplpffboaaDoorClnP
namespace Go.Proofs.YtmeeofplpffboaaDoor
set_option maxRecDepth 100000
set_option linter.unusedVariables false
set_option linter.unusedSimpArgs false
open Go.RowKit
theorem chkR_take {l : List LnD} {k : Nat} (h : chkR (l.take k) ≠ 0) : chkR l = chkR (l.take k) := by
  induction l generalizing k with
  | nil => simp
  | cons x r ih =>
    cases k with
    | zero => exact absurd rfl h
    | succ k =>
      rw [List.take_succ_cons] at h ⊢
      unfold chkR at h ⊢
      split
      · rfl
      · rename_i h1
        rw [if_neg h1] at h
        exact ih h
theorem chkR_step {l : List LnD} {k : Nat} {x : LnD} (hx : l[k]? = some x) (h : chkR (l.take k) = 0) : chkR (l.take (k + 1)) = wrongC x.1 := by
  induction l generalizing k with
  | nil => cases hx
  | cons y r ih =>
    cases k with
    | zero =>
      simp at hx
      subst hx
      rw [List.take_succ_cons, List.take_zero]
      unfold chkR
      split
      · rfl
      · rename_i h1
        simp at h1
        rw [h1]
        rfl
    | succ k =>
      rw [List.take_succ_cons] at h ⊢
      unfold chkR at h ⊢
      split at h
      · rename_i h1
        exact absurd h h1
      · rename_i h1
        rw [if_neg h1]
        exact ih (by simpa using hx) h
theorem clnR_keep {fs : List FldT} (h : ∀ (j : Nat) f, fs[j]? = some f → wrongF f = 0) : clnR ((keepR fs).map (·.1)) = (0, keepR fs) := by
  have hm : (keepR fs).map (·.1) = fs.filter (fun f => !hopB f.1 f.2) := by
    unfold keepR
    rw [List.map_map]
    exact List.map_id _
  rw [hm, clnR_ok (fun f hf => by
    obtain ⟨j, hj⟩ := List.getElem?_of_mem (List.mem_filter.1 hf).1
    exact h j f hj)]
  unfold keepR
  rw [List.filter_filter]
  simp
theorem fst_at {xs : List LnD} {k : Nat} {x : LnD} (h : xs[k]? = some x) : (xs.map (·.1))[k]? = some x.1 := by rw [List.getElem?_map, h]; rfl
set_option maxHeartbeats 32000000 in
theorem checks_all (A0 : Option Addr) (c0 : Nat) (xs : List LnD) (w : World) (hm : Many lnD 3 w A0 xs) (hl : xs.length ≤ 8796093022208) (hok : ∀ x ∈ xs, LnD.Ok w x) :
    Calls Tryd.prog 5 #[.slice A0 xs.length c0] w (LwQ w) := by
  have HAW := Lib.hid cl_awake
  have HD1 := Lib.hid (de_fieldsB A0 c0 xs w hm hl)
  have HM := Lib.hid hm
  have HFIN : Hid (∀ W, Fresh w W → LwQ w (.returned (.bool true)) W) := Lib.hid (fun W h => ⟨rfl, h⟩)
  have HOK := Lib.hid hok
  unfold FldsP at HD1
  obtain ⟨n, hn⟩ : ∃ n, xs.length = n := ⟨_, rfl⟩
  have HN := Lib.hid hn
  rw [hn] at HD1 hl ⊢
  clear hm hok hn
  generalize LwQ w = PP at *
  have hnn : ((n : Int) != (n : Int)) = false := by simp
  obtain ⟨fs, hfs⟩ : ∃ fs, xs.map (·.1) = fs := ⟨_, rfl⟩
  rw [hfs] at HD1
  have HFN : Hid (fs.length = n) := Lib.hid (by rw [← hfs, List.length_map, HN.out])
  have HFS := Lib.hid hfs
  have HFO : Hid (∀ f ∈ fs, FldT.Ok w f) := Lib.hid (fun f hf => by
    rw [← hfs] at hf
    obtain ⟨x, hx, rfl⟩ := List.mem_map.1 hf
    exact HOK.out x hx)
  clear hfs
  go_enter Tryd.func5, Tryd.ntmps5
  go_wp2_with fail
  with_reducible refine HD1.out.mono ?_
  rintro e w2 ⟨p, rfl, hp, hmf, hf2⟩
  have HSM := l21_small (some ⟨p, 0, none⟩) n fs w2 hmf (by rw [HFN.out]; omega) (fun f hf => HFO.out f hf)
  rw [HFN.out] at HSM
  have HSM := Lib.hid HSM
  have HMF2 := Lib.hid hmf
  have HF2 := Lib.hid hf2
  clear hp hmf hf2 HD1
  go_wp2_with fail
  with_reducible refine HSM.out.mono ?_
  rintro e w3 ⟨r, rfl, hr, hf3⟩
  have HF3 := Lib.hid (HF2.out.trans hf3)
  have HMF := Lib.hid (HMF2.out.fresh hf3)
  have HR := Lib.hid hr
  clear hr hf3 HSM HMF2
  cases r with
  | false =>
    go_wp2_with fail
    with_reducible refine (HAW.out _).mono ?_
    rintro e w4 ⟨rfl, hf4⟩
    have HF4 := Lib.hid (HF3.out.trans hf4)
    clear hf4
    go_wp2_with fail
    exact HFIN.out _ HF4.out
  | true =>
    have HS := Lib.hid (HR.out rfl)
    have hn4 := HS.out.1
    rw [HFN.out] at hn4
    clear HR hl
    go_wp2_with fail
    go_loopw [4, 25] (fun vx ix wr => ∃ k v : Nat, k ≤ n ∧ ix = .int .i64 (k : Int) ∧ vx = .int .i64 (v : Int) ∧ chkR (xs.take k) = v ∧ Fresh w3 wr) (fun _ i _ => n - (intOf i).toNat)
    case atStart => exact ⟨0, 0, by omega, rfl, rfl, rfl, Fresh.refl _⟩
    case round =>
      obtain ⟨k, V, hk, rfl, rfl, hv, hfr⟩ := hrel
      have HFR := Lib.hid hfr
      have HV := Lib.hid hv
      clear hv
      obtain ⟨WR, hWR⟩ : ∃ WR, wr = WR := ⟨_, rfl⟩
      subst hWR
      by_cases hlt : k < n
      · have hlt' : (k : Int) < (n : Int) := by omega
        obtain ⟨x, hx⟩ : ∃ x, xs[k]? = some x := ⟨_, List.getElem?_eq_getElem (by rw [HN.out]; exact hlt)⟩
        have hfx : fs[k]? = some x.1 := by rw [← HFS.out]; exact fst_at hx
        obtain ⟨b, o, hbo, hb, g0, g1⟩ := HMF.out.fdAt k x.1 hfx
        have e0 := (hfr.cell (p := ⟨b, o + k * 2, none⟩) hb).trans g0
        have e1 := (hfr.cell (p := ⟨b, o + k * 2 + 1, none⟩) hb).trans g1
        injection hbo with hbo
        injection hbo with hb2 ho2
        subst hb2 ho2
        rw [Nat.zero_add] at e0 e1
        have HX := Lib.hid hx
        by_cases hV0 : V = 0
        rotate_left
        · have dV : ((V : Int) != 0) = true := by simp; omega
          have HVT : chkR xs = V := by
            rw [← HV.out]
            exact chkR_take (by rw [HV.out]; exact hV0)
          obtain ⟨⟨f1, f2⟩, nv⟩ := x
          simp only at e0 e1
          clear hx hfx g0 g1 hfr
          go_upto_region 10 with fail
          refine wp_gen (fun W => Fresh wr W) (Fresh.alloc _ _) ?_
          rintro WR hwr
          have HFR := Lib.hid (HFR.out.trans hwr)
          clear hwr e0 e1
          have HWT : Hid (chkR xs = V) := Lib.hid HVT
          have hvv : ((V : Int) != (V : Int)) = false := by simp
          have HCH := Lib.hid (cl_check A0 c0 xs WR (HM.out.fresh (HF3.out.trans HFR.out)) (by have := HN.out; omega) (fun x hx => by
            have := (HS.out.2 x.1 (by rw [← HFS.out]; exact List.mem_map.2 ⟨x, hx, rfl⟩)).2
            omega))
          rw [HN.out] at HCH
          go_wp2_with fail
          with_reducible refine HCH.out.mono ?_
          rintro e w5 ⟨n5, rfl, hn5, hf5⟩
          rw [HWT.out] at hn5
          subst hn5
          have HF5 := Lib.hid (HFR.out.trans hf5)
          clear hf5 HCH
          have HCL := Lib.hid (cl_fields (some ⟨p, 0, none⟩) n fs w5 (HMF.out.fresh HF5.out) (by have := HFN.out; omega) (fun f hf => by have := (HS.out.2 f hf).2; omega))
          rw [HFN.out] at HCL
          go_wp2_with fail
          with_reducible refine HCL.out.mono ?_
          rintro e w6 ⟨n6, A6, ms, c6, hcl6, rfl, hown6, hf6⟩
          have HF6 := Lib.hid (HF5.out.trans hf6)
          have HM6 := Lib.hid (own_manyL hown6)
          have HC6 := Lib.hid hcl6
          clear hcl6 hown6 hf6 HCL
          by_cases h60 : n6 = 0
          rotate_left
          · have d6 : ((n6 : Int) != 0) = true := by simp; omega
            go_wp2_with fail
            with_reducible refine (HAW.out _).mono ?_
            rintro e w7 ⟨rfl, hf7⟩
            have HF7 := Lib.hid (HF3.out.trans (HF6.out.trans hf7))
            clear hf7
            go_wp2_with fail
            exact HFIN.out _ HF7.out
          have d6 : ((n6 : Int) != 0) = false := by rw [h60]; rfl
          have hms : ms = keepR fs := by
            have := HC6.out
            rw [h60] at this
            exact (clnR_yes this).2
          have hall : ∀ (j : Nat) f, fs[j]? = some f → wrongF f = 0 := by
            have := HC6.out
            rw [h60] at this
            exact (clnR_yes this).1
          have hcc := clnR_keep hall
          rw [← hms] at hcc
          have HCC := Lib.hid hcc
          have hml : ms.length ≤ 400 := by
            rw [hms]
            have h1 := keepR_len fs
            have := HFN.out
            omega
          have HKS : Hid (∀ x ∈ ms, x.1.1.size ≤ 2000 ∧ x.1.2.size ≤ 2000) := Lib.hid (by rw [hms]; exact keep_small HS.out)
          clear hms hall hcc h60
          obtain ⟨m, hm⟩ : ∃ m, ms.length = m := ⟨_, rfl⟩
          have HMM := Lib.hid hm
          rw [hm] at hml ⊢
          clear hm
          have HDF := Lib.hid (de_fields A6 c6 ms w6 HM6.out (by have := HMM.out; omega))
          unfold FldsP at HDF
          rw [HMM.out] at HDF
          go_wp2_with fail
          with_reducible refine HDF.out.mono ?_
          rintro e w7 ⟨q, rfl, hq7, hmf7, hf7⟩
          have HF7 := Lib.hid (HF6.out.trans hf7)
          have HM7 := Lib.hid (HM6.out.fresh hf7)
          have HCL7 := Lib.hid (cl_fields (some ⟨q, 0, none⟩) m (ms.map (·.1)) w7 hmf7 (by rw [List.length_map]; have := HMM.out; omega) (fun f hf => by
            obtain ⟨x, hx, rfl⟩ := List.mem_map.1 hf
            have := (HKS.out x hx).2
            omega))
          rw [List.length_map, HMM.out] at HCL7
          clear hq7 hmf7 hf7 HDF HM6
          go_wp2_with fail
          with_reducible refine HCL7.out.mono ?_
          rintro e w8 ⟨n8, A8, ns, c8, hcl8, rfl, hown8, hf8⟩
          rw [HCC.out] at hcl8
          injection hcl8 with h81 h82
          subst h81 h82
          have HF8 := Lib.hid (HF7.out.trans hf8)
          have HM8 := Lib.hid (HM7.out.fresh hf8)
          have HN8 := Lib.hid (own_manyL hown8)
          clear hown8 hf8 HCL7 HM7
          rw [HMM.out]
          rw [show ((0 : Nat) : Int) = 0 from rfl]
          have hmm : ((m : Int) != (m : Int)) = false := by simp
          go_wp2_with fail
          go_loopw [78] (fun i wr => ∃ u : Nat, u ≤ m ∧ i = .int .i64 (u : Int) ∧ Fresh w8 wr) (fun i _ => m - (intOf i).toNat)
          case atStart => exact ⟨0, Nat.zero_le _, rfl, Fresh.refl _⟩
          case round =>
            obtain ⟨u, hu, rfl, hf⟩ := hrel
            have HFJ := Lib.hid hf
            clear hf
            by_cases huj : u < m
            · have huj' : (u : Int) < (m : Int) := by omega
              obtain ⟨g', hg⟩ : ∃ g, ms[u]? = some g := ⟨_, List.getElem?_eq_getElem (by rw [HMM.out]; exact huj)⟩
              obtain ⟨b1, o1, rfl, hb1, z0, z1, z2⟩ := (HM8.out.fresh HFJ.out).lnAt u g' hg
              obtain ⟨b2, o2, rfl, hb2, k0, k1, k2⟩ := (HN8.out.fresh HFJ.out).lnAt u g' hg
              obtain ⟨⟨F1, F2⟩, nv⟩ := g'
              simp only at z0 z1 z2 k0 k1 k2
              have hE := run_eq_line F1 F2 nv
              clear hb1 hb2 hg
              go_upto_region 27 with fail
              go_quiet (fail)
              all_goals
                go_wp2
                go_roundw
                case rel => exact ⟨u + 1, by omega, by go_num, HFJ.out.trans (Fresh.drewN _ _)⟩
                case measure => simp [intOf]; omega
            · obtain rfl : u = m := by omega
              have hnj : ¬ (u : Int) < (u : Int) := by omega
              go_wp2_with fail
              with_reducible refine (HAW.out _).mono ?_
              rintro e wz ⟨rfl, hfz⟩
              have HFz := Lib.hid ((HF3.out.trans (HF8.out.trans HFJ.out)).trans hfz)
              clear hfz
              go_wp2
              exact HFIN.out _ HFz.out
        have dV : ((V : Int) != 0) = false := by rw [hV0]; rfl
        have HST := Lib.hid (chkR_step HX.out (by rw [HV.out]; exact hV0))
        have HV0 := Lib.hid hV0
        clear hV0
        have HWR : Hid (wrongC x.1 = if nameB x.1.1.data.toList = false ∨ hopB x.1.1 x.1.2 = true then 30 else if valB x.1.2.data.toList = false then 31 else 0) := Lib.hid rfl
        have HNM := Lib.hid (fun w => rf_name x.1.1 w)
        have HVL := Lib.hid (fun w => rf_value x.1.2 w)
        have HHP := Lib.hid (fun w => rf_hop x.1.1 x.1.2 w)
        obtain ⟨bn, hbn⟩ : ∃ b, nameB x.1.1.data.toList = b := ⟨_, rfl⟩
        obtain ⟨bv, hbv⟩ : ∃ b, valB x.1.2.data.toList = b := ⟨_, rfl⟩
        obtain ⟨bh, hbh⟩ : ∃ b, hopB x.1.1 x.1.2 = b := ⟨_, rfl⟩
        rw [hbn, hbv, hbh] at HWR
        rw [hbn] at HNM
        rw [hbv] at HVL
        rw [hbh] at HHP
        clear hx g0 g1 hfr hfx hbn hbv hbh
        obtain ⟨⟨f1, f2⟩, nv⟩ := x
        simp only at e0 e1 HNM HVL HHP
        go_upto_region 10 with fail
        refine wp_gen (fun W => Blk W wr.heap.size 23 #[.string f1, .string f2] ∧ Fresh wr W) ⟨Blk.new wr _ _, Fresh.alloc _ _⟩ ?_
        rintro W ⟨hbw, hfw⟩
        obtain ⟨pb, hpb⟩ : ∃ p, wr.heap.size = p := ⟨_, rfl⟩
        rw [hpb] at hbw ⊢
        clear hpb e0 e1
        obtain ⟨y0, y1⟩ := hbw.c2
        have HBW := Lib.hid hbw
        have HFW := Lib.hid (HFR.out.trans hfw)
        clear hbw hfw
        cases bn
        · go_wp2_with fail
          with_reducible refine (HNM.out _).mono ?_
          rintro e w5 ⟨rfl, hw⟩
          obtain rfl : W = w5 := hw.symm
          go_wp2_with fail
          go_roundw
          case rel => exact ⟨k + 1, 30, by omega, by go_num, rfl, by rw [HST.out, HWR.out]; rfl, HFW.out⟩
          case measure => simp [intOf]; omega
        go_wp2_with fail
        with_reducible refine (HNM.out _).mono ?_
        rintro e w5 ⟨rfl, hw⟩
        obtain rfl : W = w5 := hw.symm
        go_wp2_with fail
        with_reducible refine (HHP.out _).mono ?_
        rintro e w7 ⟨rfl, hf7⟩
        obtain ⟨y0, y1⟩ := (HBW.out.fresh hf7).c2
        have HF7 := Lib.hid (HFW.out.trans hf7)
        clear hf7 HBW HFW
        cases bh
        rotate_left
        · go_wp2_with fail
          go_roundw
          case rel => exact ⟨k + 1, 30, by omega, by go_num, rfl, by rw [HST.out, HWR.out]; rfl, HF7.out⟩
          case measure => simp [intOf]; omega
        go_wp2_with fail
        with_reducible refine (HVL.out _).mono ?_
        rintro e w8 ⟨rfl, hw⟩
        obtain rfl : w7 = w8 := hw.symm
        cases bv
        · go_wp2_with fail
          go_roundw
          case rel => exact ⟨k + 1, 31, by omega, by go_num, rfl, by rw [HST.out, HWR.out]; rfl, HF7.out⟩
          case measure => simp [intOf]; omega
        go_wp2_with fail
        go_roundw
        case rel => exact ⟨k + 1, V, by omega, by go_num, rfl, by rw [HST.out, HWR.out, HV0.out]; rfl, HF7.out⟩
        case measure => simp [intOf]; omega
      · obtain rfl : k = n := by omega
        have hnk : ¬ (k : Int) < (k : Int) := by omega
        have HVT : chkR xs = V := by
          have := HV.out
          rw [List.take_of_length_le (by rw [HN.out]; exact Nat.le_refl _)] at this
          exact this
        clear hfr
        refine wp_gen (fun W => Fresh w3 W) HFR.out ?_
        rintro WR hwr
        have HFR := Lib.hid hwr
        clear hwr
        have HWT : Hid (chkR xs = V) := Lib.hid HVT
        have hvv : ((V : Int) != (V : Int)) = false := by simp
        have HCH := Lib.hid (cl_check A0 c0 xs WR (HM.out.fresh (HF3.out.trans HFR.out)) (by have := HN.out; omega) (fun x hx => by
          have := (HS.out.2 x.1 (by rw [← HFS.out]; exact List.mem_map.2 ⟨x, hx, rfl⟩)).2
          omega))
        rw [HN.out] at HCH
        go_wp2_with fail
        with_reducible refine HCH.out.mono ?_
        rintro e w5 ⟨n5, rfl, hn5, hf5⟩
        rw [HWT.out] at hn5
        subst hn5
        have HF5 := Lib.hid (HFR.out.trans hf5)
        clear hf5 HCH
        have HCL := Lib.hid (cl_fields (some ⟨p, 0, none⟩) k fs w5 (HMF.out.fresh HF5.out) (by have := HFN.out; omega) (fun f hf => by have := (HS.out.2 f hf).2; omega))
        rw [HFN.out] at HCL
        go_wp2_with fail
        with_reducible refine HCL.out.mono ?_
        rintro e w6 ⟨n6, A6, ms, c6, hcl6, rfl, hown6, hf6⟩
        have HF6 := Lib.hid (HF5.out.trans hf6)
        have HM6 := Lib.hid (own_manyL hown6)
        have HC6 := Lib.hid hcl6
        clear hcl6 hown6 hf6 HCL
        by_cases h60 : n6 = 0
        rotate_left
        · have d6 : ((n6 : Int) != 0) = true := by simp; omega
          go_wp2_with fail
          with_reducible refine (HAW.out _).mono ?_
          rintro e w7 ⟨rfl, hf7⟩
          have HF7 := Lib.hid (HF3.out.trans (HF6.out.trans hf7))
          clear hf7
          go_wp2_with fail
          exact HFIN.out _ HF7.out
        have d6 : ((n6 : Int) != 0) = false := by rw [h60]; rfl
        have hms : ms = keepR fs := by
          have := HC6.out
          rw [h60] at this
          exact (clnR_yes this).2
        have hall : ∀ (j : Nat) f, fs[j]? = some f → wrongF f = 0 := by
          have := HC6.out
          rw [h60] at this
          exact (clnR_yes this).1
        have hcc := clnR_keep hall
        rw [← hms] at hcc
        have HCC := Lib.hid hcc
        have hml : ms.length ≤ 400 := by
          rw [hms]
          have h1 := keepR_len fs
          have := HFN.out
          omega
        have HKS : Hid (∀ x ∈ ms, x.1.1.size ≤ 2000 ∧ x.1.2.size ≤ 2000) := Lib.hid (by rw [hms]; exact keep_small HS.out)
        clear hms hall hcc h60
        obtain ⟨m, hm⟩ : ∃ m, ms.length = m := ⟨_, rfl⟩
        have HMM := Lib.hid hm
        rw [hm] at hml ⊢
        clear hm
        have HDF := Lib.hid (de_fields A6 c6 ms w6 HM6.out (by have := HMM.out; omega))
        unfold FldsP at HDF
        rw [HMM.out] at HDF
        go_wp2_with fail
        with_reducible refine HDF.out.mono ?_
        rintro e w7 ⟨q, rfl, hq7, hmf7, hf7⟩
        have HF7 := Lib.hid (HF6.out.trans hf7)
        have HM7 := Lib.hid (HM6.out.fresh hf7)
        have HCL7 := Lib.hid (cl_fields (some ⟨q, 0, none⟩) m (ms.map (·.1)) w7 hmf7 (by rw [List.length_map]; have := HMM.out; omega) (fun f hf => by
          obtain ⟨x, hx, rfl⟩ := List.mem_map.1 hf
          have := (HKS.out x hx).2
          omega))
        rw [List.length_map, HMM.out] at HCL7
        clear hq7 hmf7 hf7 HDF HM6
        go_wp2_with fail
        with_reducible refine HCL7.out.mono ?_
        rintro e w8 ⟨n8, A8, ns, c8, hcl8, rfl, hown8, hf8⟩
        rw [HCC.out] at hcl8
        injection hcl8 with h81 h82
        subst h81 h82
        have HF8 := Lib.hid (HF7.out.trans hf8)
        have HM8 := Lib.hid (HM7.out.fresh hf8)
        have HN8 := Lib.hid (own_manyL hown8)
        clear hown8 hf8 HCL7 HM7
        rw [HMM.out]
        rw [show ((0 : Nat) : Int) = 0 from rfl]
        have hmm : ((m : Int) != (m : Int)) = false := by simp
        go_wp2_with fail
        go_loopw [78] (fun i wr => ∃ u : Nat, u ≤ m ∧ i = .int .i64 (u : Int) ∧ Fresh w8 wr) (fun i _ => m - (intOf i).toNat)
        case atStart => exact ⟨0, Nat.zero_le _, rfl, Fresh.refl _⟩
        case round =>
          obtain ⟨u, hu, rfl, hf⟩ := hrel
          have HFJ := Lib.hid hf
          clear hf
          by_cases huj : u < m
          · have huj' : (u : Int) < (m : Int) := by omega
            obtain ⟨g', hg⟩ : ∃ g, ms[u]? = some g := ⟨_, List.getElem?_eq_getElem (by rw [HMM.out]; exact huj)⟩
            obtain ⟨b1, o1, rfl, hb1, z0, z1, z2⟩ := (HM8.out.fresh HFJ.out).lnAt u g' hg
            obtain ⟨b2, o2, rfl, hb2, k0, k1, k2⟩ := (HN8.out.fresh HFJ.out).lnAt u g' hg
            obtain ⟨⟨F1, F2⟩, nv⟩ := g'
            simp only at z0 z1 z2 k0 k1 k2
            have hE := run_eq_line F1 F2 nv
            clear hb1 hb2 hg
            go_upto_region 27 with fail
            go_quiet (fail)
            all_goals
              go_wp2
              go_roundw
              case rel => exact ⟨u + 1, by omega, by go_num, HFJ.out.trans (Fresh.drewN _ _)⟩
              case measure => simp [intOf]; omega
          · obtain rfl : u = m := by omega
            have hnj : ¬ (u : Int) < (u : Int) := by omega
            go_wp2_with fail
            with_reducible refine (HAW.out _).mono ?_
            rintro e wz ⟨rfl, hfz⟩
            have HFz := Lib.hid ((HF3.out.trans (HF8.out.trans HFJ.out)).trans hfz)
            clear hfz
            go_wp2
            exact HFIN.out _ HFz.out
theorem CleanChecks_any (s : LdsV) (w : World) (h : s.Ok w) : Calls Tryd.prog 5 #[.slice s.A s.xs.length s.c] w (LwQ w) := checks_all s.A s.c s.xs w h.rows (by have := h.le; have := h.max; omega) h.ok
end Go.Proofs.YtmeeofplpffboaaDoor

