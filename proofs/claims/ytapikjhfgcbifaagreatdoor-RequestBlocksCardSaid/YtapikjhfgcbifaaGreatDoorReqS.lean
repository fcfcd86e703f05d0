/-
  The law RequestBlocks.
-/
import Derived.Test.YtapikjhfgcbifaaGreatDoorReqM3
import Derived.Test.YtapikjhfgcbifaaGreatDoorEncP
import Derived.Test.YtapikjhfgcbifaaGreatDoorEncM
import Derived.Test.YtapikjhfgcbifaaGreatDoorDecV2
import Derived.Test.YtapikjhfgcbifaaGreatDoorStatP
namespace Go.Proofs.YtapikjhfgcbifaaGreatDoor
set_option maxRecDepth 100000
set_option linter.unusedVariables false
set_option linter.unusedSimpArgs false
open Go.RowKit
theorem bl_rowX (most bound : Int) (fs : List FldT) (lim : Int) : ∀ (xs : List Ln) (F : List UInt8) (size : Nat) (out : List LnD) (m : Nat), F.length ≤ m → (∀ x ∈ xs, x.fits = true) → RowE xs F → (size : Int) ≤ bound → bound < ((size + szE xs : Nat) : Int) → blockR most bound m fs lim size out F = (22, [], fs, lim)
  | [], F, size, out, m, hm, _, h, hs, hb => by simp [szE] at hb; omega
  | x :: r, F, size, out, m, hm, hx, ⟨P, F', h1, h2, h3⟩, hs, hb => by
    subst h3
    have hP := (pfR_bd (pf_line h1 (hx x (by simp)) F')).1
    rw [List.length_append] at hm
    obtain ⟨g, rfl⟩ : ∃ g, m = g + 1 := ⟨m - 1, by omega⟩
    have hsz : szE (x :: r) = fz x.d.1 + szE r := by simp [szE]
    rw [hsz] at hb
    rw [bl_line h1 (hx x (by simp)) F']
    split
    · rfl
    · exact bl_rowX most bound fs lim r F' _ _ g (by omega) (fun y hy => hx y (by simp [hy])) h2 (by omega) (by omega)
theorem RowE.lenQ : ∀ {xs : List Ln} {F : List UInt8}, (∀ x ∈ xs, x.fits = true) → RowE xs F → F.length ≤ 40000 * xs.length
  | [], F, _, h => by
    have h2 : F = [] := h
    subst h2; simp
  | x :: r, F, hx, ⟨P, F', h1, h2, h3⟩ => by
    have e1 := h1.len (hx x (by simp))
    have e2 := RowE.lenQ (fun y hy => hx y (by simp [hy])) h2
    subst h3
    rw [List.length_append, List.length_cons]
    omega
theorem S7.notInB {w0 w : World} {d p : Nat} {v : Value} {fs : List FldT} {lim most bound : Int} {dead : Bool} {A : Option Addr} {l : List UInt8} (h : S7 w0 w d p v fs lim most bound dead) (hb : BS w0 A l) : NotIn p v A l := fun hn b' o e hh => by
  obtain ⟨b2, o2, e2, hlt, _⟩ := hb hn
  rw [e] at e2
  injection e2 with e2
  injection e2 with e3 _ _
  subst e3
  rcases hh with hh | hh
  · have := h.hp; omega
  · have := h.hv _ hh; omega
theorem sumF_tz (fs : List FldT) (h : tz fs ≤ 4503599627370496) : sumF fs = (tz fs : Int) := by
  have key : ∀ k, k ≤ fs.length → sumF (fs.take k) = (tz (fs.take k) : Int) := by
    intro k
    induction k with
    | zero => intro _; simp [sumF, tz]
    | succ k ih =>
      intro hk
      have hg : fs[k]? = some fs[k] := List.getElem?_eq_getElem hk
      have h1 := tz_take_le fs (k + 1)
      rw [tz_take _ _ _ hg] at h1
      rw [sumF_succ _ _ _ hg, ih (by omega), tz_take _ _ _ hg]
      unfold fz at h1 ⊢
      unfold szF
      simp only [← wrap_eq64]
      rw [IntWalk.i64_in ((fs[k].1.size : Int) + (fs[k].2.size : Int)) (by omega), IntWalk.i64_in ((fs[k].1.size : Int) + (fs[k].2.size : Int) + 32) (by omega), IntWalk.i64_in _ (by omega)]
      omega
  have := key fs.length (Nat.le_refl _)
  rwa [List.take_length] at this
theorem szE_tz (xs : List LnD) : szE (xs.map lnE) = tz (xs.map (·.1)) := by
  unfold szE tz
  rw [List.map_map, List.map_map]
  rfl
theorem lnE_back (xs : List LnD) : (xs.map lnE).map Ln.d = xs := by
  rw [List.map_map, show Ln.d ∘ lnE = id from rfl, List.map_id]
theorem rd7_blk (xs : List LnD) (F : List UInt8) (hfit : ∀ x ∈ xs.map lnE, x.fits = true) (hF : RowE (xs.map lnE) F) : (tz (xs.map (·.1)) ≤ 16384 → rd7 0 16384 false [] 0 F = (0, xs, [], 0)) ∧ (16384 < tz (xs.map (·.1)) → rd7 0 16384 false [] 0 F = (22, [], [], 0)) := by
  unfold rd7
  rw [if_neg (by simp)]
  constructor
  · intro h
    rw [bl_row 0 16384 [] 0 (xs.map lnE) F 0 [] F.length (Nat.le_refl _) hfit hF (by rw [szE_tz]; omega), lnE_back]
    simp
  · intro h
    rw [bl_rowX 0 16384 [] 0 (xs.map lnE) F 0 [] F.length (Nat.le_refl _) hfit hF (by omega) (by rw [szE_tz]; omega)]
set_option maxHeartbeats 12800000 in
theorem blocks_all (r : RqV) (most : Int) (w : World) (h : r.Ok w) : Calls Tryz.prog 4 #[.agg r.arr, .int .i64 most] w (RqQ w) := by
  have HAW := Lib.hid a22
  have HFIN : Hid (∀ W, Fresh w W → RqQ w (.returned (.bool true)) W) := Lib.hid (fun W h => ⟨rfl, h⟩)
  have HWD := Lib.hid (fun W (hf : Fresh w W) => l22_words r W ⟨h.z, h.fle, h.fmax, h.rows.fresh hf, h.fok, h.bl⟩)
  have HLI := Lib.hid (fun (k : WdOk r) W (hf : Fresh w W) => rq_lines r W (h.rows.fresh hf) (by have := (sum_small k.f).1; omega) (fun f hf => by have := ((sum_small k.f).2 f hf).2; omega) ⟨by have := k.z.1; omega, by have := k.z.2.1; omega, by have := k.z.2.2.1; omega, by have := k.z.2.2.2; omega⟩)
  have HBL := Lib.hid (fun (k : WdOk r) W (hf : Fresh w W) => rq_block r most W (h.rows.fresh hf) (by have := (sum_small k.f).1; omega) (fun f hf => by have := (sum_small k.f).2 f hf; omega) ⟨by have := k.z.1; omega, by have := k.z.2.1; omega, by have := k.z.2.2.1; omega, by have := k.z.2.2.2; omega⟩)
  have HMEM : Hid (∀ (k : WdOk r) xs, linesR r.m r.s r.p r.a r.fs = (0, xs) → xs.length ≤ 204 ∧ ∀ x ∈ xs, x.1.1.size ≤ 5000 ∧ x.1.2.size ≤ 5000) := Lib.hid (fun k xs h => by
    have h1 := linesR_mem h (by omega : 100 ≤ 5000) ⟨by have := k.z; omega, by have := k.z; omega, by have := k.z; omega, by have := k.z; omega⟩ (fun f hf => by have := (sum_small k.f).2 f hf; omega)
    have h2 := (sum_small k.f).1
    exact ⟨by omega, h1.2⟩)
  unfold WdP at HWD
  unfold LinP at HLI
  unfold BlkQ at HBL
  clear h
  generalize RqQ w = PP at *
  unfold RqV.arr at HWD HLI HBL ⊢
  generalize hK : WdOk r = K at *
  obtain ⟨m, s, p, a, FA, fc, fs, BA, bc, bd⟩ := r
  simp only at HWD HLI HBL HMEM ⊢
  obtain ⟨n, hn⟩ : ∃ n, fs.length = n := ⟨_, rfl⟩
  obtain ⟨bn, hbn⟩ : ∃ n, bd.length = n := ⟨_, rfl⟩
  rw [hbn] at HWD HLI HBL ⊢
  rw [hn] at HWD HLI HBL ⊢
  generalize linesR m s p a fs = LR at *
  clear hn hbn hK
  go_enter Tryz.func4, Tryz.ntmps4
  go_upto_region 1 with fail
  refine wp_gen (fun W => Blk W w.heap.size 25 #[.string m, .string s, .string p, .string a, .slice FA n fc, .slice BA bn bc] ∧ Fresh w W) ⟨Blk.new w _ _, Fresh.alloc _ _⟩ ?_
  rintro W1 ⟨hb1, hf1⟩
  obtain ⟨b, hb⟩ : ∃ b, w.heap.size = b := ⟨_, rfl⟩
  have HBB := Lib.hid hb
  rw [hb] at hb1 ⊢
  clear hb
  have HC : Hid (∀ W, Fresh W1 W → W.cell? ⟨b, 0, none⟩ = some (.string m) ∧ W.cell? ⟨b, 1, none⟩ = some (.string s) ∧ W.cell? ⟨b, 2, none⟩ = some (.string p) ∧ W.cell? ⟨b, 3, none⟩ = some (.string a) ∧ W.cell? ⟨b, 4, none⟩ = some (.slice FA n fc) ∧ W.cell? ⟨b, 5, none⟩ = some (.slice BA bn bc)) := Lib.hid (fun W hf => ⟨(hb1.fresh hf).cell 0, (hb1.fresh hf).cell 1, (hb1.fresh hf).cell 2, (hb1.fresh hf).cell 3, (hb1.fresh hf).cell 4, (hb1.fresh hf).cell 5⟩)
  have HF1 := Lib.hid hf1
  clear hb1 hf1
  obtain ⟨e0, e1, e2, e3, e4, e5⟩ := HC.out W1 (Fresh.refl _)
  go_wp2_with fail
  with_reducible refine (HWD.out _ HF1.out).mono ?_
  rintro e w2 ⟨q, rfl, hq, hf2⟩
  have HG2 := Lib.hid hf2
  have HQ := Lib.hid hq
  clear hf2 hq HWD e0 e1 e2 e3 e4 e5
  cases q
  · go_wp2_with fail
    with_reducible refine (HAW.out _).mono ?_
    rintro e w4 ⟨rfl, hf4⟩
    have HX := Lib.hid (HFIN.out _ (HF1.out.trans (HG2.out.trans hf4)))
    clear hf4
    go_wp2_with fail
    exact HX.out
  have hk := HQ.out (by trivial)
  have HLI := Lib.hid (fun W hf => HLI.out hk W hf)
  have HBL := Lib.hid (fun W hf => HBL.out hk W hf)
  have HMEM := Lib.hid (HMEM.out hk)
  clear hk
  obtain ⟨e0, e1, e2, e3, e4, e5⟩ := HC.out w2 HG2.out
  go_wp2_with fail
  with_reducible refine (HBL.out _ (HF1.out.trans HG2.out)).mono ?_
  rintro e w3 hh
  have HG3 : Hid (Fresh W1 w3) := Lib.hid (HG2.out.trans (by rcases hh with ⟨_, _, _, _, hf⟩ | ⟨_, _, _, _, _, _, _, _, _, _, hf⟩ | ⟨_, _, _, _, hf⟩ <;> exact hf))
  clear e0 e1 e2 e3 e4 e5
  obtain ⟨e0, e1, e2, e3, e4, e5⟩ := HC.out w3 HG3.out
  rcases hh with ⟨k, hk0, hk1, rfl, _⟩ | ⟨xs, F, A, c, hlr, hfit, hrow, hle, rfl, hown, _⟩ | ⟨xs, hlr, hbad, rfl, _⟩
  · have HK1 := Lib.hid hk1
    have d0 : ((k : Int) != 0) = true := by simp; omega
    have d1 : ((k : Int) == (k : Int)) = true := by simp
    clear hk1 hk0
    go_wp2_with fail
    with_reducible refine (HLI.out _ (HF1.out.trans HG3.out)).mono ?_
    rintro e w4 ⟨ln, lA, lxs, lc, hlin, rfl, hown, hf4⟩
    obtain rfl : k = ln := by have := HK1.out; rw [hlin] at this; exact this.symm
    have HG4 := Lib.hid (HG3.out.trans hf4)
    clear hlin hown hf4 e0 e1 e2 e3 e4 e5
    generalize lxs.length = N at *
    go_wp2_with fail
    with_reducible refine (HAW.out _).mono ?_
    rintro e w5 ⟨rfl, hf5⟩
    have HX := Lib.hid (HFIN.out _ (HF1.out.trans (HG4.out.trans hf5)))
    clear hf5
    go_wp2_with fail
    exact HX.out
  · have HLR := Lib.hid hlr
    have HFI := Lib.hid hfit
    have HRO := Lib.hid hrow
    have HBS := Lib.hid hown.bytes.1
    obtain ⟨A', c', e9, hlc, hcm, _⟩ := hown.slice
    injection e9 with e91 _ e93
    subst e91 e93
    obtain ⟨N, hN⟩ : ∃ N, F.length = N := ⟨_, rfl⟩
    have HN := Lib.hid hN
    rw [hN] at hle hlc ⊢
    have HCAP : Hid (N ≤ c ∧ c ≤ maxLen) := Lib.hid ⟨hlc, hcm⟩
    have hle' : ¬ most < (N : Int) := by omega
    have HLE : Hid (¬ most < (N : Int)) := Lib.hid hle'
    clear hlr hfit hrow hown hN hlc hcm hle hle'
    go_wp2_with fail
    with_reducible refine (HLI.out _ (HF1.out.trans HG3.out)).mono ?_
    rintro e w4 ⟨ln, lA, lxs, lc, hlin, rfl, hown, hf4⟩
    have hl2 := hlin.symm.trans HLR.out
    injection hl2 with hl3 hl4
    subst hl3 hl4
    have HG4 := Lib.hid (HG3.out.trans hf4)
    have HB4 := Lib.hid (HBS.out.fresh hf4)
    have HM4 := Lib.hid (own_manyL hown)
    clear hlin hown hf4 e0 e1 e2 e3 e4 e5 HBS
    obtain ⟨hx1, hx2⟩ := HMEM.out _ HLR.out
    have HX1 := Lib.hid hx1
    have HX2 := Lib.hid hx2
    have HEN := Lib.hid (en_encode lA lc (lxs.map lnE) w4 (many_lnE HM4.out) (by rw [List.length_map]; omega) (fun x hx => by
      obtain ⟨y, hy, rfl⟩ := List.mem_map.1 hx
      obtain ⟨z1, z2⟩ := HX2.out y hy
      rw [Lib.size_eq] at z1 z2
      simp only [lnE]
      omega))
    rw [List.length_map] at HEN
    unfold EncRP FormP at HEN
    clear hx1 hx2
    obtain ⟨M, hM⟩ : ∃ M, lxs.length = M := ⟨_, rfl⟩
    have HM := Lib.hid hM
    rw [hM] at HEN ⊢
    clear hM
    go_wp2_with fail
    with_reducible refine HEN.out.mono ?_
    rintro e w5 hh
    rcases hh with ⟨_, F2, A5, c5, rfl, hrow2, hown5, hf5⟩ | ⟨⟨x, hx, hno⟩, _, _⟩
    rotate_left
    · rw [HFI.out x hx] at hno
      cases hno
    obtain rfl : F2 = F := hrow2.uniq HRO.out
    have HG5 := Lib.hid (HG4.out.trans hf5)
    have HB5 := Lib.hid (HB4.out.fresh hf5)
    have HM5 := Lib.hid (HM4.out.fresh hf5)
    have HC5 := Lib.hid hown5.bytes.1
    rw [HN.out]
    clear hrow2 hown5 hf5 HB4 HM4 HEN
    have g0 := HLE.out
    have HNW := Lib.hid (s7_new 0 16384 (by decide) (by decide) (by decide) (by decide) w5 w5 (Fresh.refl _))
    go_wp2_with fail
    with_reducible refine HNW.out.mono ?_
    rintro e w6 ⟨d, q, rfl, hs6, hf6⟩
    have HS6 := Lib.hid hs6
    have HF6 := Lib.hid hf6
    have st1 : (convert 23 9 (.slice A N c)).run Tryz.prog w6 = .ok (.string (strB F2)) w6 := by
      have := run_str (P := Tryz.prog) (HB5.out.fresh hf6) 23 9 5 Tryz.underlying23 Tryz.underlying5 Tryz.underlying9 c
      rwa [HN.out] at this
    have st2 : (convert 23 9 (.slice A5 N c5)).run Tryz.prog w6 = .ok (.string (strB F2)) w6 := by
      have := run_str (P := Tryz.prog) (HC5.out.fresh hf6) 23 9 5 Tryz.underlying23 Tryz.underlying5 Tryz.underlying9 c5
      rwa [HN.out] at this
    have HFL : Hid (N ≤ 10000000) := Lib.hid (by
      have h1 := HRO.out.lenQ HFI.out
      rw [List.length_map, HN.out] at h1
      have h2 := HX1.out
      omega)
    have HPL := Lib.hid (fun W (hf : Fresh w5 W) => en_plain A c F2 W (by rw [HN.out]; have := HFL.out; omega) (by rw [HN.out]; exact HCAP.out.1) HCAP.out.2 (HB5.out.fresh hf))
    rw [plain_row _ _ HFI.out HRO.out, HN.out] at HPL
    generalize hSF : strB F2 = SF at *
    clear hs6 hf6 HNW hSF
    go_wp2_with fail
    with_reducible refine (HPL.out _ HF6.out).mono ?_
    rintro e w7 ⟨rfl, hf7⟩
    have HF7 := Lib.hid (HF6.out.trans hf7)
    have HS7 := Lib.hid (HS6.out.fresh hf7)
    have HDE := Lib.hid (s7_decodeN HS7.out A c F2 (by rw [HN.out]; exact HCAP.out.1) HCAP.out.2 (HB5.out.fresh HF7.out) (HS7.out.notInB HB5.out) (by rw [HN.out]; have := HFL.out; omega))
    have hrd := rd7_blk lxs F2 HFI.out HRO.out
    unfold Dec7P at HDE
    rw [HN.out] at HDE
    clear hf7 HS6 HPL st1 st2
    by_cases hbig : 16384 < tz (lxs.map (·.1))
    · rw [hrd.2 hbig] at HDE
      have HDF := Lib.hid (fun W (hf : Fresh w5 W) => de_fieldsB lA lc lxs W (HM5.out.fresh hf) (by have := HX1.out; omega))
      unfold FldsP at HDF
      rw [HM.out] at HDF
      have HTZ : Hid (tz (lxs.map (·.1)) ≤ 4503599627370496) := Lib.hid (by
        rw [← szE_tz]
        have key : ∀ (l : List LnD), (∀ x ∈ l, x.1.1.size ≤ 5000 ∧ x.1.2.size ≤ 5000) → szE (l.map lnE) ≤ 10032 * l.length := by
          intro l
          induction l with
          | nil => intro _; simp [szE]
          | cons x r ih =>
            intro hx
            have h1 := ih (fun y hy => hx y (by simp [hy]))
            have h2 := hx x (by simp)
            have h3 : szE ((x :: r).map lnE) = fz x.1 + szE (r.map lnE) := by simp [szE]; rfl
            rw [h3, List.length_cons]
            unfold fz
            omega
        have := key lxs HX2.out
        have := HX1.out
        omega)
      have HSF := Lib.hid (sumF_tz _ HTZ.out)
      have HBG : Hid ((16384 : Int) < ((tz (lxs.map (·.1)) : Nat) : Int)) := Lib.hid (by omega)
      have HML : Hid ((lxs.map (·.1)).length = M ∧ M ≤ 204) := Lib.hid ⟨by rw [List.length_map]; exact HM.out, by rw [← HM.out]; exact HX1.out⟩
      obtain ⟨ys, hys⟩ : ∃ ys, lxs.map (·.1) = ys := ⟨_, rfl⟩
      rw [hys] at HDF HSF HBG HML
      clear hbig hrd HTZ hys
      simp only at HDE
      go_wp2_with fail
      with_reducible refine HDE.out.mono ?_
      rintro e w8 ⟨A8, c8, v8, rfl, _, hs8, _⟩
      have HF8 := Lib.hid hs8.fr
      clear hs8 HDE
      rw [show (([] : List LnD).length) = 0 from rfl, show ((22 : Nat) : Int) = 22 from rfl]
      go_wp2_with fail
      with_reducible refine (HDF.out _ HF8.out).mono ?_
      rintro e w9 ⟨fp, rfl, _, hmf, hf9⟩
      have HF9 := Lib.hid (HF8.out.trans hf9)
      have HSU := Lib.hid (st_sum (some ⟨fp, 0, none⟩) ys M w9 hmf (by have := HML.out; omega))
      rw [HML.out.1, HSF.out] at HSU
      have hbg := HBG.out
      generalize ((tz ys : Nat) : Int) = T at *
      clear hmf hf9
      go_wp2_with fail
      with_reducible refine HSU.out.mono ?_
      rintro e wa ⟨rfl, hfa⟩
      have HFa := Lib.hid (HF9.out.trans hfa)
      clear hfa
      go_wp2_with fail
      with_reducible refine (HAW.out _).mono ?_
      rintro e wb ⟨rfl, hfb⟩
      have HX := Lib.hid (HFIN.out _ (HF1.out.trans (HG5.out.trans (HFa.out.trans hfb))))
      clear hfb
      go_wp2_with fail
      exact HX.out
    · rw [hrd.1 (by omega)] at HDE
      clear hbig hrd
      simp only at HDE
      rw [HM.out] at HDE
      go_wp2_with fail
      with_reducible refine HDE.out.mono ?_
      rintro e w8 ⟨A8, c8, v8, rfl, hl8, hs8, _⟩
      have HF8 := Lib.hid hs8.fr
      have HLL := Lib.hid (l22_lines A8 lA c8 lc M lxs w8 HM.out hl8.rows (HM5.out.fresh HF8.out) (by rw [← HM.out]; have := HX1.out; omega))
      clear hs8 hl8 HDE
      rw [show ((0 : Nat) : Int) = 0 from rfl]
      go_wp2_with fail
      with_reducible refine HLL.out.mono ?_
      rintro e w9 ⟨rfl, hf9⟩
      have HF9 := Lib.hid (HF8.out.trans hf9)
      clear hf9
      go_wp2_with fail
      with_reducible refine (HAW.out _).mono ?_
      rintro e wb ⟨rfl, hfb⟩
      have HX := Lib.hid (HFIN.out _ (HF1.out.trans (HG5.out.trans (HF9.out.trans hfb))))
      clear hfb
      go_wp2_with fail
      exact HX.out
  · have HLR := Lib.hid hlr
    have HBD := Lib.hid hbad
    clear hlr hbad
    go_wp2_with fail
    with_reducible refine (HLI.out _ (HF1.out.trans HG3.out)).mono ?_
    rintro e w4 ⟨ln, lA, lxs, lc, hlin, rfl, hown, hf4⟩
    have hl2 := hlin.symm.trans HLR.out
    injection hl2 with hl3 hl4
    subst hl3 hl4
    have HG4 := Lib.hid (HG3.out.trans hf4)
    have HM4 := Lib.hid (own_manyL hown)
    clear hlin hown hf4 e0 e1 e2 e3 e4 e5
    obtain ⟨hx1, hx2⟩ := HMEM.out _ HLR.out
    have HEN := Lib.hid (en_encode lA lc (lxs.map lnE) w4 (many_lnE HM4.out) (by rw [List.length_map]; omega) (fun x hx => by
      obtain ⟨y, hy, rfl⟩ := List.mem_map.1 hx
      obtain ⟨z1, z2⟩ := hx2 y hy
      rw [Lib.size_eq] at z1 z2
      simp only [lnE]
      omega))
    rw [List.length_map] at HEN
    unfold EncRP FormP at HEN
    clear hx1 hx2
    generalize lxs.length = M at *
    go_wp2_with fail
    with_reducible refine HEN.out.mono ?_
    rintro e w5 hh
    have HG5 : Hid (Fresh W1 w5) := Lib.hid (HG4.out.trans (by rcases hh with ⟨_, _, _, _, _, _, _, hf⟩ | ⟨_, _, hf⟩ <;> exact hf))
    rcases hh with ⟨hfit, F2, A5, c5, rfl, hrow2, _, _⟩ | ⟨_, rfl, _⟩
    · have hg : most < (F2.length : Int) := by
        rcases HBD.out with ⟨x, hx, hno⟩ | ⟨F, _, hF, hlt⟩
        · rw [hfit x hx] at hno
          cases hno
        · rw [hrow2.uniq hF]
          exact hlt
      generalize F2.length = N at *
      clear hfit hrow2
      go_wp2_with fail
      with_reducible refine (HAW.out _).mono ?_
      rintro e wb ⟨rfl, hfb⟩
      have HX := Lib.hid (HFIN.out _ (HF1.out.trans (HG5.out.trans hfb)))
      clear hfb
      go_wp2_with fail
      exact HX.out
    · go_wp2_with fail
      with_reducible refine (HAW.out _).mono ?_
      rintro e wb ⟨rfl, hfb⟩
      have HX := Lib.hid (HFIN.out _ (HF1.out.trans (HG5.out.trans hfb)))
      clear hfb
      go_wp2_with fail
      exact HX.out
theorem RequestBlocks_any (r : RqV) (most : Int) (w : World) (h : r.Ok w) (_ : (Lit.int .i64 most).wf = true) : Calls Tryz.prog 4 #[.agg r.arr, .int .i64 most] w (RqQ w) := blocks_all r most w h
end Go.Proofs.YtapikjhfgcbifaaGreatDoor

