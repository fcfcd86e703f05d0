/-
  The law RequestBack: its walk.
-/
import Derived.Test.YtapikjhfgcbifaaGreatDoorReqQ
namespace Go.Proofs.YtapikjhfgcbifaaGreatDoor
set_option maxRecDepth 100000
set_option linter.unusedVariables false
set_option linter.unusedSimpArgs false
open Go.RowKit
theorem backE_err {l : List LnD} : backE l = 0 ∨ backE l = 32 ∨ backE l = 31 ∨ backE l = 30 := by
  have hc : ∀ (t : List LnD), chkR t = 0 ∨ chkR t = 30 ∨ chkR t = 31 := by
    intro t
    induction t with
    | nil => exact .inl rfl
    | cons x r ih =>
      have hw : wrongC x.1 = 0 ∨ wrongC x.1 = 30 ∨ wrongC x.1 = 31 := by
        unfold wrongC
        split
        · exact .inr (.inl rfl)
        · split
          · exact .inr (.inr rfl)
          · exact .inl rfl
      unfold chkR
      split
      · exact hw
      · exact ih
  unfold backE
  have h := hc (l.drop (mtc namesR l))
  split
  · exact .inr (.inl rfl)
  · split
    · exact .inr (.inl rfl)
    · split
      · exact .inr (.inr (.inl rfl))
      · split
        · rcases h with h | h | h <;> rw [h] <;> simp
        · split
          · exact .inl rfl
          · exact .inr (.inl rfl)
set_option maxHeartbeats 32000000 in
theorem back_all (r : RqV) (A0 : Option Addr) (c0 : Nat) (l : List LnD) (w : World) (h : r.Ok w) (hm : Many lnD 3 w A0 l) (hl : l.length ≤ 8796093022208) (hc0 : l.length ≤ c0) (hcm : c0 ≤ 9223372036854775807) (hok : ∀ x ∈ l, LnD.Ok w x) : Calls Tryz.prog 7 #[.agg r.arr, .slice A0 l.length c0] w (RqQ w) := by
  have HAW := Lib.hid a22
  have HFIN : Hid (∀ W, Fresh w W → RqQ w (.returned (.bool true)) W) := Lib.hid (fun W h => ⟨rfl, h⟩)
  have HWD := Lib.hid (fun W (hf : Fresh w W) => l22_words r W ⟨h.z, h.fle, h.fmax, h.rows.fresh hf, h.fok, h.bl⟩)
  have HLI := Lib.hid (fun (k : WdOk r) W (hf : Fresh w W) => rq_lines r W (h.rows.fresh hf) (by have := (sum_small k.f).1; omega) (fun f hf => by have := ((sum_small k.f).2 f hf).2; omega) ⟨by have := k.z.1; omega, by have := k.z.2.1; omega, by have := k.z.2.2.1; omega, by have := k.z.2.2.2; omega⟩)
  have HMEM : Hid (∀ (k : WdOk r) xs, linesR r.m r.s r.p r.a r.fs = (0, xs) → xs.length ≤ 204 ∧ ∀ x ∈ xs, x.1.1.size ≤ 5000 ∧ x.1.2.size ≤ 5000) := Lib.hid (fun k xs h => by
    have h1 := linesR_mem h (by omega : 100 ≤ 5000) ⟨by have := k.z; omega, by have := k.z; omega, by have := k.z; omega, by have := k.z; omega⟩ (fun f hf => by have := (sum_small k.f).2 f hf; omega)
    have h2 := (sum_small k.f).1
    exact ⟨by omega, h1.2⟩)
  have HZR : Hid (∀ k : WdOk r, r.m.size < 5000 ∧ r.s.size < 5000 ∧ r.p.size < 5000 ∧ r.a.size < 5000) := Lib.hid (fun k => k.z)
  have HDF := Lib.hid (fun W (hf : Fresh w W) => de_fieldsB A0 c0 l W (hm.fresh hf) hl)
  have HM := Lib.hid hm
  have HOK := Lib.hid hok
  unfold FldsP at HDF
  unfold WdP at HWD
  unfold LinP at HLI
  clear h hok hm
  generalize RqQ w = PP at *
  unfold RqV.arr at HWD HLI ⊢
  generalize hK : WdOk r = K at *
  obtain ⟨m, s, p, a, FA, fc, fs, BA, bc, bd⟩ := r
  simp only at HWD HLI HMEM HZR ⊢
  obtain ⟨n, hn⟩ : ∃ n, fs.length = n := ⟨_, rfl⟩
  have HFN := Lib.hid hn
  obtain ⟨bn, hbn⟩ : ∃ n, bd.length = n := ⟨_, rfl⟩
  obtain ⟨N, hN⟩ : ∃ n, l.length = n := ⟨_, rfl⟩
  have HN := Lib.hid hN
  rw [hbn] at HWD HLI ⊢
  rw [hn] at HWD HLI ⊢
  rw [hN] at HDF hl hc0 ⊢
  clear hn hbn hK hN
  go_enter Tryz.func7, Tryz.ntmps7
  go_upto_region 1 with fail
  refine wp_gen (fun W => Blk W w.heap.size 25 #[.string m, .string s, .string p, .string a, .slice FA n fc, .slice BA bn bc] ∧ Fresh w W) ⟨Blk.new w _ _, Fresh.alloc _ _⟩ ?_
  rintro W1 ⟨hb1, hf1⟩
  obtain ⟨b, hb⟩ : ∃ b, w.heap.size = b := ⟨_, rfl⟩
  rw [hb] at hb1 ⊢
  clear hb
  have HC : Hid (∀ W, Fresh W1 W → W.cell? ⟨b, 0, none⟩ = some (.string m) ∧ W.cell? ⟨b, 1, none⟩ = some (.string s) ∧ W.cell? ⟨b, 2, none⟩ = some (.string p) ∧ W.cell? ⟨b, 3, none⟩ = some (.string a) ∧ W.cell? ⟨b, 4, none⟩ = some (.slice FA n fc) ∧ W.cell? ⟨b, 5, none⟩ = some (.slice BA bn bc)) := Lib.hid (fun W hf => ⟨(hb1.fresh hf).cell 0, (hb1.fresh hf).cell 1, (hb1.fresh hf).cell 2, (hb1.fresh hf).cell 3, (hb1.fresh hf).cell 4, (hb1.fresh hf).cell 5⟩)
  have HF1 := Lib.hid hf1
  clear hb1 hf1
  obtain ⟨e0, e1, e2, e3, e4, e5⟩ := HC.out W1 (Fresh.refl _)
  go_wp2_with fail
  with_reducible refine (HWD.out _ HF1.out).mono ?_
  rintro e w2 ⟨qq, rfl, hq, hf2⟩
  have HG2 := Lib.hid hf2
  have HQ := Lib.hid hq
  clear hf2 hq HWD e0 e1 e2 e3 e4 e5
  cases qq
  · go_wp2_with fail
    with_reducible refine (HAW.out _).mono ?_
    rintro e w4 ⟨rfl, hf4⟩
    have HX := Lib.hid (HFIN.out _ (HF1.out.trans (HG2.out.trans hf4)))
    clear hf4
    go_wp2_with fail
    exact HX.out
  have hk := HQ.out (by trivial)
  have HLI := Lib.hid (fun W hf => HLI.out hk W hf)
  have HMEM := Lib.hid (HMEM.out hk)
  clear hk
  go_wp2_with fail
  with_reducible refine (HDF.out _ (HF1.out.trans HG2.out)).mono ?_
  rintro e w3 ⟨P, rfl, _, hmf, hf3⟩
  have HG3 := Lib.hid (HG2.out.trans hf3)
  have HSM := l22_small (some ⟨P, 0, none⟩) N (l.map (·.1)) w3 hmf (by rw [List.length_map, HN.out]; omega) (fun f hf => by
    obtain ⟨x, hx, rfl⟩ := List.mem_map.1 hf
    exact HOK.out x hx)
  rw [List.length_map, HN.out] at HSM
  unfold SmlQ at HSM
  have HSM := Lib.hid HSM
  clear hmf hf3
  go_wp2_with fail
  with_reducible refine HSM.out.mono ?_
  rintro e w4 ⟨qq, rfl, hq, hf4⟩
  have HG4 := Lib.hid (HG3.out.trans hf4)
  have HQ2 := Lib.hid hq
  clear hf4 hq
  cases qq
  · go_wp2_with fail
    with_reducible refine (HAW.out _).mono ?_
    rintro e w4 ⟨rfl, hf4⟩
    have HX := Lib.hid (HFIN.out _ (HF1.out.trans (HG4.out.trans hf4)))
    clear hf4
    go_wp2_with fail
    exact HX.out
  have hsz := sum_small (HQ2.out (by trivial))
  rw [List.length_map, HN.out] at hsz
  have HSZ := Lib.hid hsz
  have HVS : Hid (∀ x ∈ l, x.1.1.size ≤ 1000 ∧ x.1.2.size ≤ 1000) := Lib.hid (fun x hx => hsz.2 x.1 (List.mem_map.2 ⟨x, hx, rfl⟩))
  clear hsz hl
  obtain ⟨e0, e1, e2, e3, e4, e5⟩ := HC.out w4 HG4.out
  go_wp2_with fail
  with_reducible refine (HLI.out _ (HF1.out.trans HG4.out)).mono ?_
  rintro e w5 ⟨ln, lA, lxs, lc, hlin, rfl, hown, hf5⟩
  have HLN := Lib.hid hlin
  have HOW := Lib.hid (own_manyL hown)
  have HG5 := Lib.hid (HG4.out.trans hf5)
  obtain ⟨hlc, hlm⟩ : lxs.length ≤ lc ∧ lc ≤ maxLen := by
    obtain ⟨_, _, e, h1, h2, _⟩ := hown.slice
    cases e
    exact ⟨h1, h2⟩
  have HLC := Lib.hid (And.intro hlc hlm)
  clear hlin hown hf5 hlc hlm e0 e1 e2 e3 e4 e5
  obtain ⟨K, hK⟩ : ∃ K, lxs.length = K := ⟨_, rfl⟩
  have HK := Lib.hid hK
  rw [hK]
  clear hK
  by_cases hl0 : ln = 0
  rotate_left
  · have dl : ((ln : Int) == 0) = false := by simp; omega
    clear hl0
    have HBK2 := Lib.hid (fun W (hf : Fresh w W) => rq_back A0 c0 l W (HM.out.fresh hf) (by have := HSZ.out.1; have := HN.out; omega) (by have := HN.out; omega) hcm (fun x hx => by have := HVS.out x hx; omega))
    rw [HN.out] at HBK2
    unfold BackP at HBK2
    go_wp2_with fail
    with_reducible refine (HBK2.out _ (HF1.out.trans HG5.out)).mono ?_
    rintro e x1 ⟨en, m', s', p', a', A', k', rfl, hen, hy, hfx⟩
    have HX1 := Lib.hid (HG5.out.trans hfx)
    have HEN := Lib.hid hen
    have HY := Lib.hid hy
    clear hfx hen hy HBK2
    go_upto_region 10 with fail
    refine wp_gen (fun W => Blk W x1.heap.size 25 #[.string m', .string s', .string p', .string a', .slice A' k' k', .slice none 0 0] ∧ Fresh x1 W) ⟨Blk.new x1 _ _, Fresh.alloc _ _⟩ ?_
    rintro x2 ⟨hbx, hfx⟩
    obtain ⟨g2, hg2⟩ : ∃ g, x1.heap.size = g := ⟨_, rfl⟩
    rw [hg2] at hbx ⊢
    clear hg2
    have HX2 := Lib.hid (HX1.out.trans hfx)
    have HB2 := Lib.hid hbx
    have HF2x := Lib.hid hfx
    clear hbx hfx
    by_cases hen0 : en = 0
    rotate_left
    · have d0 : ((en : Int) != 0) = true := by simp; omega
      have hc : en = 32 ∨ en = 31 ∨ en = 30 := by
        have h := backE_err (l := l)
        rw [← HEN.out] at h
        omega
      rcases hc with rfl | rfl | rfl
      all_goals
        clear hen0 HEN HY
        go_wp2_with fail
        with_reducible refine (HAW.out _).mono ?_
        rintro e x3 ⟨rfl, hfx⟩
        have HX := Lib.hid (HFIN.out _ (HF1.out.trans (HX2.out.trans hfx)))
        clear hfx
        go_wp2_with fail
        exact HX.out
    subst hen0
    obtain ⟨rfl, rfl, rfl, rfl, rfl, hmf⟩ := HY.out rfl
    have HLQ := Lib.hid (back_lines HEN.out.symm)
    obtain ⟨tl, htl⟩ : ∃ tl, l.drop (mtc namesR l) = tl := ⟨_, rfl⟩
    rw [htl] at hmf HLQ
    obtain ⟨k', hk'⟩ : ∃ k', tl.length = k' := ⟨_, rfl⟩
    rw [htl, hk'] at HB2 ⊢
    obtain ⟨q0, hq0⟩ : ∃ t, txtR l (mtc namesR l) 0 = t := ⟨_, rfl⟩
    obtain ⟨q1, hq1⟩ : ∃ t, txtR l (mtc namesR l) 1 = t := ⟨_, rfl⟩
    obtain ⟨q2, hq2⟩ : ∃ t, txtR l (mtc namesR l) 2 = t := ⟨_, rfl⟩
    obtain ⟨q3, hq3⟩ : ∃ t, txtR l (mtc namesR l) 3 = t := ⟨_, rfl⟩
    have z0 := txtR_size (n := mtc namesR l) (k := 0) (fun x hx => (HVS.out x hx).2)
    have z1 := txtR_size (n := mtc namesR l) (k := 1) (fun x hx => (HVS.out x hx).2)
    have z2 := txtR_size (n := mtc namesR l) (k := 2) (fun x hx => (HVS.out x hx).2)
    have z3 := txtR_size (n := mtc namesR l) (k := 3) (fun x hx => (HVS.out x hx).2)
    rw [hq0] at HB2 HLQ z0 ⊢
    rw [hq1] at HB2 HLQ z1 ⊢
    rw [hq2] at HB2 HLQ z2 ⊢
    rw [hq3] at HB2 HLQ z3 ⊢
    have hmem : ∀ x ∈ tl, x ∈ l := fun x hx => by rw [← htl] at hx; exact List.mem_of_mem_drop hx
    have hkl : tl.length ≤ 200 := by rw [← htl, List.length_drop]; have := HSZ.out.1; have := HN.out; omega
    have HL2 := Lib.hid (rq_lines ⟨q0, q1, q2, q3, A', k', tl.map (·.1), none, 0, []⟩ x2 (hmf.fresh HF2x.out) (by simp only [List.length_map]; omega) (fun f hf => by
      obtain ⟨x, hx, rfl⟩ := List.mem_map.1 hf
      have := HVS.out x (hmem x hx)
      omega) ⟨by simp only; omega, by simp only; omega, by simp only; omega, by simp only; omega⟩)
    unfold LinP RqV.arr at HL2
    simp only [List.length_map, List.length_nil] at HL2
    rw [hk'] at HL2
    clear hmf htl hk' hq0 hq1 hq2 hq3 z0 z1 z2 z3 hmem hkl HY HEN
    have y0 := HB2.out.cell 0
    have y1 := HB2.out.cell 1
    have y2 := HB2.out.cell 2
    have y3 := HB2.out.cell 3
    have y4 := HB2.out.cell 4
    have y5 := HB2.out.cell 5
    simp at y0 y1 y2 y3 y4 y5
    go_wp2_with fail
    with_reducible refine HL2.out.mono ?_
    rintro e x3 ⟨n2, A2, xs2, c2, hlin2, rfl, hown2, hfx⟩
    rw [HLQ.out] at hlin2
    injection hlin2 with h21 h22
    subst h21 h22
    have HX3 := Lib.hid (HX2.out.trans hfx)
    have HLL := Lib.hid (l22_lines A2 A0 c2 c0 N l x3 HN.out (own_manyL hown2) (HM.out.fresh (HF1.out.trans HX3.out)) (by have := HSZ.out.1; omega))
    clear hown2 hfx HL2 y0 y1 y2 y3 y4 y5
    rw [HN.out]
    rw [show ((0 : Nat) : Int) = 0 from rfl]
    go_wp2_with fail
    with_reducible refine HLL.out.mono ?_
    rintro e x4 ⟨rfl, hfx⟩
    have HX4 := Lib.hid (HX3.out.trans hfx)
    clear hfx
    go_wp2_with fail
    with_reducible refine (HAW.out _).mono ?_
    rintro e x5 ⟨rfl, hfx⟩
    have HX := Lib.hid (HFIN.out _ (HF1.out.trans (HX4.out.trans hfx)))
    clear hfx
    go_wp2_with fail
    exact HX.out
  subst hl0
  rw [show ((0 : Nat) : Int) = 0 from rfl]
  obtain ⟨hbe, ht0, ht1, ht2, ht3, hdl⟩ := lines_back HLN.out
  rw [HFN.out] at hdl
  obtain ⟨hml, hmem⟩ := HMEM.out lxs HLN.out
  have HBK1 := Lib.hid (rq_back lA lc lxs w5 HOW.out (by omega) (by rw [HK.out]; have := HLC.out.1; rw [HK.out] at this; exact this) (by have := HLC.out.2; unfold maxLen at this; omega) (fun x hx => by have := hmem x hx; omega))
  rw [HK.out] at HBK1
  unfold BackP at HBK1
  rw [ht0, ht1, ht2, ht3, hbe] at HBK1
  have HLQ0 := back_lines hbe
  rw [ht0, ht1, ht2, ht3] at HLQ0
  obtain ⟨tl, htl⟩ : ∃ tl, lxs.drop (mtc namesR lxs) = tl := ⟨_, rfl⟩
  rw [htl] at HBK1 HLQ0 hdl
  have HLQ0 := Lib.hid HLQ0
  obtain ⟨j, hj⟩ : ∃ j, tl.length = j := ⟨_, rfl⟩
  rw [hj] at HBK1 hdl
  have hjl : j ≤ 204 := by rw [← hj, ← htl, List.length_drop]; omega
  have htm : ∀ x ∈ tl, x.1.2.size ≤ 5000 := fun x hx => (hmem x (by rw [← htl] at hx; exact List.mem_of_mem_drop hx)).2
  have HK204 : Hid (K ≤ 1000) := Lib.hid (by have := HK.out; omega)
  have HZ := Lib.hid (HQ.out (by trivial))
  have HRQ : Hid (∀ (A' : Option Addr) W, Many fldD 2 W A' (tl.map (·.1)) → Calls Tryz.prog 11 #[.agg #[.string m, .string s, .string p, .string a, .slice A' j j, .slice none 0 0]] W (LinP ⟨m, s, p, a, A', j, tl.map (·.1), none, 0, []⟩ W)) := Lib.hid (fun A' W hmm => by
    have hz := HZR.out HZ.out
    have h1 := rq_lines ⟨m, s, p, a, A', j, tl.map (·.1), none, 0, []⟩ W hmm (by simp only [List.length_map]; omega) (fun f hf => by
      obtain ⟨x, hx, rfl⟩ := List.mem_map.1 hf
      have := htm x hx
      omega) ⟨by simp only; omega, by simp only; omega, by simp only; omega, by simp only; omega⟩
    unfold RqV.arr at h1
    simp only [List.length_map, List.length_nil] at h1
    rw [hj] at h1
    exact h1)
  unfold LinP at HRQ
  have hjn : decide ((n : Int) < (j : Int)) = false := decide_eq_false (by omega)
  have hjn2 : decide (n < j) = false := decide_eq_false (by omega)
  clear hbe ht0 ht1 ht2 ht3 hml hmem htl hj htm hdl hjl
  go_wp2_with fail
  with_reducible refine HBK1.out.mono ?_
  rintro e w6 ⟨en, m', s', p', a', A', k', rfl, hen, hy, hf6⟩
  subst hen
  obtain ⟨rfl, rfl, rfl, rfl, rfl, hmf⟩ := hy rfl
  have HG6 := Lib.hid (HG5.out.trans hf6)
  have HOW6 := Lib.hid (HOW.out.fresh hf6)
  have HMF6 := Lib.hid hmf
  clear hf6 hy hmf HBK1
  rw [show ((0 : Nat) : Int) = 0 from rfl]
  go_upto_region 6 with fail
  refine wp_gen (fun W => Blk W w6.heap.size 25 #[.string m', .string s', .string p', .string a', .slice A' k' k', .slice none 0 0] ∧ Fresh w6 W) ⟨Blk.new w6 _ _, Fresh.alloc _ _⟩ ?_
  rintro w7 ⟨hbx, hfx⟩
  obtain ⟨g, hg⟩ : ∃ g, w6.heap.size = g := ⟨_, rfl⟩
  rw [hg] at hbx ⊢
  clear hg
  have HG7 := Lib.hid (HG6.out.trans hfx)
  have HBG := Lib.hid hbx
  have HOW7 := Lib.hid (HOW6.out.fresh hfx)
  have HMF7 := Lib.hid (HMF6.out.fresh hfx)
  clear hbx hfx
  have y0 := HBG.out.cell 0
  have y1 := HBG.out.cell 1
  have y2 := HBG.out.cell 2
  have y3 := HBG.out.cell 3
  have y4 := HBG.out.cell 4
  have y5 := HBG.out.cell 5
  simp at y0 y1 y2 y3 y4 y5
  go_wp2_with fail
  with_reducible refine (HRQ.out _ _ HMF7.out).mono ?_
  rintro e w8 ⟨n2, A2, xs2, c2, hlin2, rfl, hown2, hfx⟩
  try simp only at hlin2
  rw [HLQ0.out] at hlin2
  injection hlin2 with h21 h22
  subst h21 h22
  have HG8 := Lib.hid (HG7.out.trans hfx)
  have HBG8 := Lib.hid (HBG.out.fresh hfx)
  have HLL := Lib.hid (l22_lines A2 lA c2 lc K lxs w8 HK.out (own_manyL hown2) (HOW7.out.fresh hfx) (by have := HK204.out; omega))
  clear hown2 hfx y0 y1 y2 y3 y4 y5
  rw [HK.out]
  rw [show ((0 : Nat) : Int) = 0 from rfl]
  go_wp2_with fail
  with_reducible refine HLL.out.mono ?_
  rintro e w9 ⟨rfl, hfx⟩
  have HG9 := Lib.hid (HG8.out.trans hfx)
  have y0 := (HBG8.out.fresh hfx).cell 0
  have y1 := (HBG8.out.fresh hfx).cell 1
  have y2 := (HBG8.out.fresh hfx).cell 2
  have y3 := (HBG8.out.fresh hfx).cell 3
  have y4 := (HBG8.out.fresh hfx).cell 4
  have y5 := (HBG8.out.fresh hfx).cell 5
  simp at y0 y1 y2 y3 y4 y5
  obtain ⟨e0, e1, e2, e3, e4, e5⟩ := HC.out w9 HG9.out
  clear hfx
  have HBK2 := Lib.hid (fun W (hf : Fresh w W) => rq_back A0 c0 l W (HM.out.fresh hf) (by have := HSZ.out.1; have := HN.out; omega) (by have := HN.out; omega) hcm (fun x hx => by have := HVS.out x hx; omega))
  rw [HN.out] at HBK2
  unfold BackP at HBK2
  go_wp2_with fail
  with_reducible refine (HBK2.out _ (HF1.out.trans HG9.out)).mono ?_
  rintro e x1 ⟨en, m', s', p', a', A', k', rfl, hen, hy, hfx⟩
  have HX1 := Lib.hid (HG9.out.trans hfx)
  have HEN := Lib.hid hen
  have HY := Lib.hid hy
  clear hfx hen hy HBK2
  go_upto_region 10 with fail
  refine wp_gen (fun W => Blk W x1.heap.size 25 #[.string m', .string s', .string p', .string a', .slice A' k' k', .slice none 0 0] ∧ Fresh x1 W) ⟨Blk.new x1 _ _, Fresh.alloc _ _⟩ ?_
  rintro x2 ⟨hbx, hfx⟩
  obtain ⟨g2, hg2⟩ : ∃ g, x1.heap.size = g := ⟨_, rfl⟩
  rw [hg2] at hbx ⊢
  clear hg2
  have HX2 := Lib.hid (HX1.out.trans hfx)
  have HB2 := Lib.hid hbx
  have HF2x := Lib.hid hfx
  clear hbx hfx
  by_cases hen0 : en = 0
  rotate_left
  · have d0 : ((en : Int) != 0) = true := by simp; omega
    have hc : en = 32 ∨ en = 31 ∨ en = 30 := by
      have h := backE_err (l := l)
      rw [← HEN.out] at h
      omega
    rcases hc with rfl | rfl | rfl
    all_goals
      clear hen0 HEN HY
      go_wp2_with fail
      with_reducible refine (HAW.out _).mono ?_
      rintro e x3 ⟨rfl, hfx⟩
      have HX := Lib.hid (HFIN.out _ (HF1.out.trans (HX2.out.trans hfx)))
      clear hfx
      go_wp2_with fail
      exact HX.out
  subst hen0
  obtain ⟨rfl, rfl, rfl, rfl, rfl, hmf⟩ := HY.out rfl
  have HLQ := Lib.hid (back_lines HEN.out.symm)
  obtain ⟨tl, htl⟩ : ∃ tl, l.drop (mtc namesR l) = tl := ⟨_, rfl⟩
  rw [htl] at hmf HLQ
  obtain ⟨k', hk'⟩ : ∃ k', tl.length = k' := ⟨_, rfl⟩
  rw [htl, hk'] at HB2 ⊢
  obtain ⟨q0, hq0⟩ : ∃ t, txtR l (mtc namesR l) 0 = t := ⟨_, rfl⟩
  obtain ⟨q1, hq1⟩ : ∃ t, txtR l (mtc namesR l) 1 = t := ⟨_, rfl⟩
  obtain ⟨q2, hq2⟩ : ∃ t, txtR l (mtc namesR l) 2 = t := ⟨_, rfl⟩
  obtain ⟨q3, hq3⟩ : ∃ t, txtR l (mtc namesR l) 3 = t := ⟨_, rfl⟩
  have z0 := txtR_size (n := mtc namesR l) (k := 0) (fun x hx => (HVS.out x hx).2)
  have z1 := txtR_size (n := mtc namesR l) (k := 1) (fun x hx => (HVS.out x hx).2)
  have z2 := txtR_size (n := mtc namesR l) (k := 2) (fun x hx => (HVS.out x hx).2)
  have z3 := txtR_size (n := mtc namesR l) (k := 3) (fun x hx => (HVS.out x hx).2)
  rw [hq0] at HB2 HLQ z0 ⊢
  rw [hq1] at HB2 HLQ z1 ⊢
  rw [hq2] at HB2 HLQ z2 ⊢
  rw [hq3] at HB2 HLQ z3 ⊢
  have hmem : ∀ x ∈ tl, x ∈ l := fun x hx => by rw [← htl] at hx; exact List.mem_of_mem_drop hx
  have hkl : tl.length ≤ 200 := by rw [← htl, List.length_drop]; have := HSZ.out.1; have := HN.out; omega
  have HL2 := Lib.hid (rq_lines ⟨q0, q1, q2, q3, A', k', tl.map (·.1), none, 0, []⟩ x2 (hmf.fresh HF2x.out) (by simp only [List.length_map]; omega) (fun f hf => by
    obtain ⟨x, hx, rfl⟩ := List.mem_map.1 hf
    have := HVS.out x (hmem x hx)
    omega) ⟨by simp only; omega, by simp only; omega, by simp only; omega, by simp only; omega⟩)
  unfold LinP RqV.arr at HL2
  simp only [List.length_map, List.length_nil] at HL2
  rw [hk'] at HL2
  clear hmf htl hk' hq0 hq1 hq2 hq3 z0 z1 z2 z3 hmem hkl HY HEN
  have y0 := HB2.out.cell 0
  have y1 := HB2.out.cell 1
  have y2 := HB2.out.cell 2
  have y3 := HB2.out.cell 3
  have y4 := HB2.out.cell 4
  have y5 := HB2.out.cell 5
  simp at y0 y1 y2 y3 y4 y5
  go_wp2_with fail
  with_reducible refine HL2.out.mono ?_
  rintro e x3 ⟨n2, A2, xs2, c2, hlin2, rfl, hown2, hfx⟩
  rw [HLQ.out] at hlin2
  injection hlin2 with h21 h22
  subst h21 h22
  have HX3 := Lib.hid (HX2.out.trans hfx)
  have HLL := Lib.hid (l22_lines A2 A0 c2 c0 N l x3 HN.out (own_manyL hown2) (HM.out.fresh (HF1.out.trans HX3.out)) (by have := HSZ.out.1; omega))
  clear hown2 hfx HL2 y0 y1 y2 y3 y4 y5
  rw [HN.out]
  rw [show ((0 : Nat) : Int) = 0 from rfl]
  go_wp2_with fail
  with_reducible refine HLL.out.mono ?_
  rintro e x4 ⟨rfl, hfx⟩
  have HX4 := Lib.hid (HX3.out.trans hfx)
  clear hfx
  go_wp2_with fail
  with_reducible refine (HAW.out _).mono ?_
  rintro e x5 ⟨rfl, hfx⟩
  have HX := Lib.hid (HFIN.out _ (HF1.out.trans (HX4.out.trans hfx)))
  clear hfx
  go_wp2_with fail
  exact HX.out
theorem RequestBack_any (r : RqV) (s : LdsV) (w : World) (h : r.Ok w) (k : s.Ok w) : Calls Tryz.prog 7 #[.agg r.arr, .slice s.A s.xs.length s.c] w (RqQ w) := back_all r s.A s.c s.xs w h k.rows (by have := k.le; have := k.max; omega) k.le (by have := k.max; omega) k.ok
end Go.Proofs.YtapikjhfgcbifaaGreatDoor

