/-
  The law CleanParts: its walk.
-/
import Derived.Test.YtmeeofplpffboaaDoorClnP
namespace Go.Proofs.YtmeeofplpffboaaDoor
set_option maxRecDepth 100000
set_option linter.unusedVariables false
set_option linter.unusedSimpArgs false
open Go.RowKit
set_option maxHeartbeats 16000000 in
theorem parts_all (A0 B0 : Option Addr) (a0 b0 : Nat) (a b : List FldT) (w : World) (hma : Many fldD 2 w A0 a) (hmb : Many fldD 2 w B0 b) (hla : a.length ≤ 140737488351232) (hlb : b.length ≤ 140737488351232) (hoa : ∀ f ∈ a, FldT.Ok w f) (hob : ∀ f ∈ b, FldT.Ok w f) :
    Calls Tryd.prog 7 #[.slice A0 a.length a0, .slice B0 b.length b0] w (LwQ w) := by
  have HAW := Lib.hid cl_awake
  have HSA := Lib.hid (l21_small A0 a0 a w hma hla hoa)
  have HSB : Hid (∀ W, Fresh w W → Calls Tryd.prog 17 #[.slice B0 b.length b0] W (SmlP b W)) := Lib.hid (fun W hf => l21_small B0 b0 b W (hmb.fresh hf) hlb hob)
  have HMA := Lib.hid hma
  have HMB := Lib.hid hmb
  have HFIN : Hid (∀ W, Fresh w W → LwQ w (.returned (.bool true)) W) := Lib.hid (fun W h => ⟨rfl, h⟩)
  clear hma hmb hoa hob
  obtain ⟨na, hna⟩ : ∃ na, a.length = na := ⟨_, rfl⟩
  obtain ⟨nb, hnb⟩ : ∃ nb, b.length = nb := ⟨_, rfl⟩
  have HNA := Lib.hid hna
  have HNB := Lib.hid hnb
  rw [hna] at HSA ⊢
  rw [hnb] at HSB ⊢
  clear hna hnb hla hlb
  generalize LwQ w = PP at *
  go_enter Tryd.func7, Tryd.ntmps7
  go_wp2_with fail
  with_reducible refine HSA.out.mono ?_
  rintro e w1 ⟨r, rfl, hr, hf1⟩
  have HF1 := Lib.hid hf1
  have HR := Lib.hid hr
  clear hr hf1 HSA
  cases r with
  | false =>
    go_wp2_with fail
    with_reducible refine (HAW.out _).mono ?_
    rintro e w3 ⟨rfl, hf3⟩
    have HF3 := Lib.hid (HF1.out.trans hf3)
    clear hf3
    go_wp2_with fail
    exact HFIN.out _ HF3.out
  | true =>
    have HS1 := Lib.hid (HR.out rfl)
    go_wp2_with fail
    with_reducible refine (HSB.out _ HF1.out).mono ?_
    rintro e w2 ⟨r, rfl, hr, hf2⟩
    have HF2 := Lib.hid (HF1.out.trans hf2)
    have HR2 := Lib.hid hr
    clear hr hf2 HSB HR
    cases r with
    | false =>
      go_wp2_with fail
      with_reducible refine (HAW.out _).mono ?_
      rintro e w3 ⟨rfl, hf3⟩
      have HF3 := Lib.hid (HF2.out.trans hf3)
      clear hf3
      go_wp2_with fail
      exact HFIN.out _ HF3.out
    | true =>
      have HS2 := Lib.hid (HR2.out rfl)
      have hna := HS1.out.1
      have hnb := HS2.out.1
      rw [HNA.out] at hna
      rw [HNB.out] at hnb
      have HCA := Lib.hid (cl_fields A0 a0 a w2 (HMA.out.fresh HF2.out) (by rw [HNA.out]; omega) (fun f hf => by have := (HS1.out.2 f hf).2; omega))
      rw [HNA.out] at HCA
      go_wp2_with fail
      with_reducible refine HCA.out.mono ?_
      rintro e w3 ⟨n, Ax, xs, cx, hclx, rfl, hownx, hf3⟩
      have HF3 := Lib.hid (HF2.out.trans hf3)
      have HX3 := Lib.hid (own_manyL hownx)
      have HCX := Lib.hid hclx
      clear hclx hownx hf3 HCA HR2
      have HCB := Lib.hid (cl_fields B0 b0 b w3 (HMB.out.fresh HF3.out) (by rw [HNB.out]; omega) (fun f hf => by have := (HS2.out.2 f hf).2; omega))
      rw [HNB.out] at HCB
      go_wp2_with fail
      with_reducible refine HCB.out.mono ?_
      rintro e w4 ⟨m, Ay, ys, cy, hcly, rfl, howny, hf4⟩
      have HF4 := Lib.hid (HF3.out.trans hf4)
      have HY4 := Lib.hid (own_manyL howny)
      have HX4 := Lib.hid (HX3.out.fresh hf4)
      have HCY := Lib.hid hcly
      clear hcly howny hf4 HCB HX3
      have HAP := Lib.hid (clnR_app HCX.out HCY.out)
      obtain ⟨⟨AB, cB⟩, wB7, hap3, hown3, hbel3⟩ : ∃ (A' : Option Addr × Nat) (w' : World), (Builtin.append_ #[28, 28] 28 #[.slice (some ⟨w4.heap.size, 0, none⟩) 0 0, .slice A0 na a0]).run Tryd.prog (w4.alloc (.cells #[] 23)) = .ok (.slice A'.1 na A'.2) w' ∧ Own w' w4.heap.size 23 2 (.slice A'.1 na A'.2) na (rowD a) ∧ Below w4.heap.size w4 w' := by
        have ho : Own (w4.alloc (.cells #[] 23)) w4.heap.size 23 2 (.slice (some ⟨w4.heap.size, 0, none⟩) 0 0) 0 (rowD []) := Own.lit (Nat.le_refl _) (by unfold maxLen; omega) rfl
        obtain ⟨A', c', w', h1, h2, h3⟩ := moreFd ho (Fresh.alloc w4 (.cells #[] 23)) (Nat.le_refl _) A0 a0 a ((HMA.out.fresh HF4.out).fresh (Fresh.alloc _ _)) (by rw [HNA.out]; omega)
        rw [HNA.out, Nat.zero_add] at h1 h2
        exact ⟨(A', c'), w', h1, by simpa using h2, h3⟩
      obtain ⟨⟨AC, cC⟩, wC7, hap4, hown4, hbel4⟩ : ∃ (A' : Option Addr × Nat) (w' : World), (Builtin.append_ #[28, 28] 28 #[.slice AB na cB, .slice B0 nb b0]).run Tryd.prog wB7 = .ok (.slice A'.1 (na + nb) A'.2) w' ∧ Own w' w4.heap.size 23 2 (.slice A'.1 (na + nb) A'.2) (na + nb) (rowD (a ++ b)) ∧ Below w4.heap.size w4 w' := by
        obtain ⟨A', c', w', h1, h2, h3⟩ := moreFd hown3 hbel3 (Nat.le_refl _) B0 b0 b ((HMB.out.fresh HF4.out).fresh hbel3) (by rw [HNB.out]; omega)
        rw [HNB.out] at h1 h2
        exact ⟨(A', c'), w', h1, h2, h3⟩
      simp only at hap3 hap4 hown4
      have hab : (a ++ b).length = na + nb := by rw [List.length_append, HNA.out, HNB.out]
      have hcz := cl_fields AC cC (a ++ b) wC7 (own_manyD hown4) (by rw [hab]; omega) (fun f hf => by
        rcases List.mem_append.1 hf with hf | hf
        · have := (HS1.out.2 f hf).2; omega
        · have := (HS2.out.2 f hf).2; omega)
      rw [hab] at hcz
      have HCZ := Lib.hid hcz
      have HB4 := Lib.hid hbel4
      clear hown3 hbel3 hown4 hbel4 hab hcz
      have hxl : xs.length ≤ 400 := by
        by_cases h0 : n = 0
        · subst h0
          rw [(clnR_yes HCX.out).2]
          have := keepR_len a
          rw [HNA.out] at this
          omega
        · obtain ⟨_, _, _, _, _, rfl⟩ := clnR_no HCX.out h0
          simp
      have hyl : ys.length ≤ 400 := by
        by_cases h0 : m = 0
        · subst h0
          rw [(clnR_yes HCY.out).2]
          have := keepR_len b
          rw [HNB.out] at this
          omega
        · obtain ⟨_, _, _, _, _, rfl⟩ := clnR_no HCY.out h0
          simp
      obtain ⟨nx, hnx⟩ : ∃ nx, xs.length = nx := ⟨_, rfl⟩
      obtain ⟨ny, hny⟩ : ∃ ny, ys.length = ny := ⟨_, rfl⟩
      have HNX := Lib.hid hnx
      have HNY := Lib.hid hny
      rw [hnx] at hxl ⊢
      rw [hny] at hyl ⊢
      clear hnx hny
      generalize na + nb = nab at *
      go_wp2_with (first | (at_builtin; with_reducible refine wp_app rfl (.tmp 32) (.tmp 33) _ rfl hap3 rfl rfl rfl ?_) | (at_builtin; with_reducible refine wp_app rfl (.tmp 34) (.tmp 35) _ rfl hap4 rfl rfl rfl ?_) | fail)
      with_reducible refine HCZ.out.mono ?_
      rintro e w8 ⟨g, Az, zs, cz, hclz, rfl, hownz, hf8⟩
      have HF48 : Hid (Fresh w4 w8) := Lib.hid (Fresh.trans HB4.out hf8)
      have HZ8 := Lib.hid (own_manyL hownz)
      have HX8 := Lib.hid (HX4.out.fresh HF48.out)
      have HY8 := Lib.hid (HY4.out.fresh HF48.out)
      have HF8 := Lib.hid (HF4.out.trans HF48.out)
      rw [HAP.out] at hclz
      have HCLZ := Lib.hid hclz
      clear hclz hownz hf8 HCZ HB4 HX4 HY4 hap3 hap4 HF48
      by_cases hn0 : n = 0
      rotate_left
      · have h1 := HCLZ.out
        rw [if_pos hn0] at h1
        injection h1 with h2 h3
        subst h2 h3
        have d0 : ((n : Int) != 0) = true := by simp; omega
        have d1 : ((n : Int) == (n : Int)) = true := by simp
        simp only [List.length_nil]
        go_wp2_with fail
        with_reducible refine (HAW.out _).mono ?_
        rintro e w9 ⟨rfl, hf9⟩
        have HF9 := Lib.hid (HF8.out.trans hf9)
        clear hf9
        go_wp2_with fail
        exact HFIN.out _ HF9.out
      by_cases hm0 : m = 0
      rotate_left
      · have h1 := HCLZ.out
        rw [if_neg (by simp [hn0]), if_pos hm0] at h1
        injection h1 with h2 h3
        subst h2 h3
        have d0 : ((n : Int) != 0) = false := by rw [hn0]; rfl
        have d2 : ((m : Int) != 0) = true := by simp; omega
        have d1 : ((m : Int) == (m : Int)) = true := by simp
        clear hn0
        simp only [List.length_nil]
        go_wp2_with fail
        with_reducible refine (HAW.out _).mono ?_
        rintro e w9 ⟨rfl, hf9⟩
        have HF9 := Lib.hid (HF8.out.trans hf9)
        clear hf9
        go_wp2_with fail
        exact HFIN.out _ HF9.out
      have h1 := HCLZ.out
      rw [if_neg (by simp [hn0]), if_neg (by simp [hm0])] at h1
      injection h1 with h2 h3
      have d0 : ((n : Int) != 0) = false := by rw [hn0]; rfl
      have d2 : ((m : Int) != 0) = false := by rw [hm0]; rfl
      have d3 : ((g : Int) != 0) = false := by rw [← h2]; rfl
      have hzl : zs.length = nx + ny := by rw [← h3, List.length_append, HNX.out, HNY.out]
      have HXY := Lib.hid h3
      obtain ⟨nz, hnz⟩ : ∃ nz, nx + ny = nz := ⟨_, rfl⟩
      have HNZ := Lib.hid hnz
      rw [hnz] at hzl
      have HZL := Lib.hid hzl
      have hni : (nx : Int) + (ny : Int) = (nz : Int) := by omega
      have hnw : IntKind.i64.wrap ((nx : Int) + (ny : Int)) = (nz : Int) := by rw [hni]; exact IntWalk.i64_in _ (by omega)
      have hzz : ((nz : Int) != (nz : Int)) = false := by simp
      rw [hzl]
      clear hn0 hm0 h2 h3 hzl HCX HCY HCLZ HAP
      have hnz' := hnz
      clear hnz
      go_wp2_with fail
      go_loopw [82] (fun i wr => ∃ u : Nat, u ≤ nz ∧ i = .int .i64 (u : Int) ∧ Fresh w8 wr) (fun i _ => nz - (intOf i).toNat)
      case atStart => exact ⟨0, Nat.zero_le _, rfl, Fresh.refl _⟩
      case round =>
        obtain ⟨u, hu, rfl, hf⟩ := hrel
        have HFJ := Lib.hid hf
        clear hf
        by_cases huj : u < nz
        · have huj' : (u : Int) < (nz : Int) := by omega
          obtain ⟨g', hg⟩ : ∃ g, zs[u]? = some g := ⟨_, List.getElem?_eq_getElem (by rw [HZL.out]; exact huj)⟩
          obtain ⟨bz, oz, rfl, hbz, z0, z1, z2⟩ := (HZ8.out.fresh HFJ.out).lnAt u g' hg
          rw [← HXY.out] at hg
          by_cases hux : u < nx
          · rw [List.getElem?_append_left (by rw [HNX.out]; exact hux)] at hg
            obtain ⟨b2, o2, rfl, hb2, k0, k1, k2⟩ := (HX8.out.fresh HFJ.out).lnAt u g' hg
            obtain ⟨⟨F1, F2⟩, nv⟩ := g'
            simp only at z0 z1 z2 k0 k1 k2
            have hE := run_eq_line F1 F2 nv
            have e1 : decide ((u : Int) < (nx : Int)) = true := decide_eq_true (by omega)
            have e2 : decide (u < nx) = true := decide_eq_true hux
            have e3 : decide ((nx : Int) ≤ (u : Int)) = false := decide_eq_false (by omega)
            have e4 : decide (nx ≤ u) = false := decide_eq_false (by omega)
            clear hbz hb2 hg
            go_upto_region 15 with fail
            go_quiet (fail)
            all_goals
              go_wp2
              go_roundw
              case rel => exact ⟨u + 1, by omega, by go_num, HFJ.out.trans (Fresh.drewN _ _)⟩
              case measure => simp [intOf]; omega
          · rw [List.getElem?_append_right (by rw [HNX.out]; omega), HNX.out] at hg
            obtain ⟨b2, o2, rfl, hb2, k0, k1, k2⟩ := (HY8.out.fresh HFJ.out).lnAt (u - nx) g' hg
            obtain ⟨⟨F1, F2⟩, nv⟩ := g'
            simp only at z0 z1 z2 k0 k1 k2
            have hE := run_eq_line F1 F2 nv
            obtain ⟨q5, hq5⟩ : ∃ q5, u - nx = q5 := ⟨_, rfl⟩
            rw [hq5] at k0 k1 k2
            have hq6 : (u : Int) - (nx : Int) = (q5 : Int) := by omega
            have hq7 : q5 < ny := by omega
            have hq8 : (q5 : Int) < (ny : Int) := by omega
            have hq9 : IntKind.i64.wrap ((u : Int) - (nx : Int)) = (q5 : Int) := by rw [hq6]; exact IntWalk.i64_in _ (by omega)
            have e1 : decide ((u : Int) < (nx : Int)) = false := decide_eq_false (by omega)
            have e2 : decide (u < nx) = false := decide_eq_false hux
            have e3 : decide ((nx : Int) ≤ (u : Int)) = true := decide_eq_true (by omega)
            have e4 : decide (nx ≤ u) = true := decide_eq_true (by omega)
            clear hbz hb2 hg hq5
            go_upto_region 15 with fail
            go_quiet (fail)
            all_goals
              go_wp2
              go_roundw
              case rel => exact ⟨u + 1, by omega, by go_num, HFJ.out.trans (Fresh.drewN _ _)⟩
              case measure => simp [intOf]; omega
        · obtain rfl : u = nz := by omega
          have hnj : ¬ (u : Int) < (u : Int) := by omega
          go_wp2_with fail
          with_reducible refine (HAW.out _).mono ?_
          rintro e wz ⟨rfl, hfz⟩
          have HFz := Lib.hid ((HF8.out.trans HFJ.out).trans hfz)
          clear hfz
          go_wp2
          exact HFIN.out _ HFz.out
theorem CleanParts_any (s t : FdsV) (w : World) (h : s.Ok w) (k : t.Ok w) : Calls Tryd.prog 7 #[.slice s.A s.xs.length s.c, .slice t.A t.xs.length t.c] w (LwQ w) := parts_all s.A t.A s.c t.c s.xs t.xs w h.rows k.rows (by have := h.le; have := h.max; omega) (by have := k.le; have := k.max; omega) h.ok k.ok
end Go.Proofs.YtmeeofplpffboaaDoor

