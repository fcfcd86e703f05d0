/-
  The law RequestLines: its walk.
-/
import Derived.Test.YtapikjhfgcbifaaGreatDoorReqK
namespace Go.Proofs.YtapikjhfgcbifaaGreatDoor
set_option maxRecDepth 100000
set_option linter.unusedVariables false
set_option linter.unusedSimpArgs false
open Go.RowKit
theorem linesR_no {m s p a : ByteArray} {fs : List FldT} {n : Nat} {xs : List LnD} (h : linesR m s p a fs = (n, xs)) (hr : rightR m s p a = false) : n = 31 ∧ xs = [] := by
  unfold linesR at h
  rw [if_pos hr] at h
  cases h
  exact ⟨rfl, rfl⟩
theorem linesR_bad {m s p a : ByteArray} {fs : List FldT} {n k : Nat} {xs ms : List LnD} (h : linesR m s p a fs = (n, xs)) (hr : rightR m s p a = true) (hc : clnR fs = (k, ms)) (hk : k ≠ 0) : n = k ∧ xs = [] := by
  unfold linesR at h
  rw [if_neg (by simp [hr]), hc, if_pos hk] at h
  cases h
  exact ⟨rfl, rfl⟩
theorem linesR_yes {m s p a : ByteArray} {fs : List FldT} {n : Nat} {xs ms : List LnD} (h : linesR m s p a fs = (n, xs)) (hr : rightR m s p a = true) (hc : clnR fs = (0, ms)) : n = 0 ∧ xs = baseR m s p a ++ ms := by
  unfold linesR at h
  rw [if_neg (by simp [hr]), hc, if_neg (by simp)] at h
  cases h
  exact ⟨rfl, rfl⟩
set_option maxHeartbeats 32000000 in
theorem lines_all (r : RqV) (w : World) (h : r.Ok w) : Calls Tryz.prog 3 #[.agg r.arr] w (RqQ w) := by
  have HAW := Lib.hid a22
  have HFIN : Hid (∀ W, Fresh w W → RqQ w (.returned (.bool true)) W) := Lib.hid (fun W h => ⟨rfl, h⟩)
  have HWD := Lib.hid (fun W (hf : Fresh w W) => l22_words r W ⟨h.z, h.fle, h.fmax, h.rows.fresh hf, h.fok, h.bl⟩)
  have HSZ := Lib.hid (fun (k : WdOk r) W (hf : Fresh w W) => rq_size r W k (h.rows.fresh hf))
  have HLI := Lib.hid (fun (k : WdOk r) W (hf : Fresh w W) => rq_lines r W (h.rows.fresh hf) (by have := (sum_small k.f).1; omega) (fun f hf => by have := ((sum_small k.f).2 f hf).2; omega) ⟨by have := k.z.1; omega, by have := k.z.2.1; omega, by have := k.z.2.2.1; omega, by have := k.z.2.2.2; omega⟩)
  have HCL := Lib.hid (fun (k : WdOk r) W (hf : Fresh w W) => cl_fields r.FA r.fc r.fs W (h.rows.fresh hf) (by have := (sum_small k.f).1; omega) (fun f hf => by have := ((sum_small k.f).2 f hf).2; omega))
  have HRI := Lib.hid (fun (k : WdOk r) W => rf_right r.m r.s r.p r.a W k.z.1 k.z.2.2.1 k.z.2.2.2)
  have HM := Lib.hid h.rows
  have HNUM := Lib.hid (fun (k : WdOk r) => zz_nums k.z k.b)
  have HFL : Hid (∀ k : WdOk r, fsum r.fs ≤ 1000 ∧ r.fs.length ≤ 200 ∧ rsum r ≤ 25000) := Lib.hid (fun k => ⟨by have := fsum_le r.fs; have := k.f; omega, (sum_small k.f).1, by unfold rsum; have := k.z; have := k.b; omega⟩)
  have HRS : Hid (((r.m.size : Int) + (r.s.size : Int) + (r.p.size : Int) + (r.a.size : Int) + (r.bd.length : Int)) = ((rsum r : Nat) : Int)) := Lib.hid (by unfold rsum; omega)
  unfold WdP at HWD
  unfold LinP at HLI
  clear h
  generalize RqQ w = PP at *
  unfold RqV.arr at HWD HSZ HLI ⊢
  generalize hK : WdOk r = K at *
  generalize rsum r = t0 at *
  obtain ⟨m, s, p, a, FA, fc, fs, BA, bc, bd⟩ := r
  simp only at HWD HSZ HLI HCL HRI HM HNUM HFL HRS ⊢
  obtain ⟨n, hn⟩ : ∃ n, fs.length = n := ⟨_, rfl⟩
  have HN := Lib.hid hn
  obtain ⟨bn, hbn⟩ : ∃ n, bd.length = n := ⟨_, rfl⟩
  rw [hbn] at HWD HSZ HLI HNUM HRS ⊢
  rw [hn] at HWD HSZ HLI HCL HFL ⊢
  clear hn hbn hK
  go_enter Tryz.func3, Tryz.ntmps3
  go_upto_region 1 with fail
  refine wp_gen (fun W => Blk W w.heap.size 25 #[.string m, .string s, .string p, .string a, .slice FA n fc, .slice BA bn bc] ∧ Fresh w W) ⟨Blk.new w _ _, Fresh.alloc _ _⟩ ?_
  rintro W1 ⟨hb1, hf1⟩
  obtain ⟨b, hb⟩ : ∃ b, w.heap.size = b := ⟨_, rfl⟩
  have HBB := Lib.hid hb
  rw [hb] at hb1 ⊢
  clear hb
  have HC : Hid (∀ W, Fresh W1 W → W.cell? ⟨b, 0, none⟩ = some (.string m) ∧ W.cell? ⟨b, 1, none⟩ = some (.string s) ∧ W.cell? ⟨b, 2, none⟩ = some (.string p) ∧ W.cell? ⟨b, 3, none⟩ = some (.string a) ∧ W.cell? ⟨b, 4, none⟩ = some (.slice FA n fc) ∧ W.cell? ⟨b, 5, none⟩ = some (.slice BA bn bc)) := Lib.hid (fun W hf => ⟨(hb1.fresh hf).cell 0, (hb1.fresh hf).cell 1, (hb1.fresh hf).cell 2, (hb1.fresh hf).cell 3, (hb1.fresh hf).cell 4, (hb1.fresh hf).cell 5⟩)
  have HF1 := Lib.hid hf1
  clear hb1 hf1
  obtain ⟨e0, e1, e2, e3, e4, e5⟩ := HC.out W1 (Fresh.refl _)
  go_wp2_with fail
  with_reducible refine (HWD.out _ HF1.out).mono ?_
  rintro e w2 ⟨q, rfl, hq, hf2⟩
  have HG2 := Lib.hid hf2
  have HQ := Lib.hid hq
  clear hf2 hq HWD e0 e1 e2 e3 e4 e5
  cases q
  · go_wp2_with fail
    with_reducible refine (HAW.out _).mono ?_
    rintro e w4 ⟨rfl, hf4⟩
    have HX := Lib.hid (HFIN.out _ (HF1.out.trans (HG2.out.trans hf4)))
    clear hf4
    go_wp2_with fail
    exact HX.out
  have hk := HQ.out (by trivial)
  have HSZ := Lib.hid (fun W hf => HSZ.out hk W hf)
  have HLI := Lib.hid (fun W hf => HLI.out hk W hf)
  have HCL := Lib.hid (fun W hf => HCL.out hk W hf)
  have HRI := Lib.hid (fun W => HRI.out hk W)
  have HFL := Lib.hid (HFL.out hk)
  obtain ⟨z1, z2, z3, z4⟩ := HNUM.out hk
  clear hk
  obtain ⟨e0, e1, e2, e3, e4, e5⟩ := HC.out w2 HG2.out
  go_upto_region 5 with fail
  rw [HRS.out]
  clear z1 z2 z3 z4 e0 e1 e2 e3 e4 e5
  go_loopw [3, 37] (fun v i wr => ∃ k : Nat, k ≤ n ∧ i = .int .i64 (k : Int) ∧ v = .int .i64 ((t0 + fsum (fs.take k) : Nat) : Int) ∧ Fresh w2 wr) (fun _ i _ => n - (intOf i).toNat)
  case atStart => exact ⟨0, by omega, rfl, by simp [fsum], Fresh.refl _⟩
  case round =>
    obtain ⟨k, hk, rfl, rfl, hfr⟩ := hrel
    have HFR := Lib.hid hfr
    obtain ⟨t, ht⟩ : ∃ t, t0 + fsum (fs.take k) = t := ⟨_, rfl⟩
    have HTT := Lib.hid ht
    rw [ht]
    by_cases hlt : k < n
    · obtain ⟨f, hx⟩ : ∃ f, fs[k]? = some f := ⟨_, List.getElem?_eq_getElem (by rw [HN.out]; exact hlt)⟩
      obtain ⟨q, o, rfl, hq, g0, g1⟩ := HM.out.fdAt k f hx
      have e0 := ((HF1.out.trans (HG2.out.trans hfr)).cell (p := ⟨q, o + k * 2, none⟩) hq).trans g0
      have e1 := ((HF1.out.trans (HG2.out.trans hfr)).cell (p := ⟨q, o + k * 2 + 1, none⟩) hq).trans g1
      have HS := Lib.hid (fsum_take hx)
      obtain ⟨f1, f2⟩ := f
      simp only at e0 e1 HS
      have hle : t + (f1.size + f2.size) ≤ 100000 := by
        have h1 := fsum_take_le fs (k + 1)
        rw [HS.out] at h1
        have := HFL.out
        omega
      obtain ⟨n1, n2, n3, n4, n5⟩ := fs_nums hle k n hlt (by have := HFL.out.2.1; omega)
      have HN3 := Lib.hid n3
      clear hx g0 g1 hfr hq hle n3 ht
      go_upto_region 7 with fail
      refine wp_gen (fun W => Blk W wr.heap.size 29 #[.string f1, .string f2] ∧ Fresh wr W) ⟨Blk.new wr _ _, Fresh.alloc _ _⟩ ?_
      rintro W ⟨hbw, hfw⟩
      obtain ⟨y, hy⟩ : ∃ y, wr.heap.size = y := ⟨_, rfl⟩
      rw [hy] at hbw ⊢
      clear hy e0 e1
      obtain ⟨y0, y1⟩ := hbw.c2
      have HFW := Lib.hid (HFR.out.trans hfw)
      clear hbw hfw
      go_wp2_with fail
      go_roundw
      case rel => exact ⟨k + 1, by omega, by go_num, by rw [HS.out, ← Nat.add_assoc, HTT.out, HN3.out], HFW.out⟩
      case measure => simp [intOf]; omega
    · obtain rfl : k = n := by omega
      have hnk : ¬ (k : Int) < (k : Int) := by omega
      have hfin : t0 + fsum fs = t := by rw [← HTT.out, List.take_of_length_le (by rw [HN.out]; exact Nat.le_refl _)]
      rw [hfin] at HSZ
      have HG3 := Lib.hid (HG2.out.trans HFR.out)
      obtain ⟨e0, e1, e2, e3, e4, e5⟩ := HC.out wr HG3.out
      clear hfr ht hfin
      go_wp2_with fail
      with_reducible refine (HLI.out _ (HF1.out.trans HG3.out)).mono ?_
      rintro e w4 ⟨ln, lA, lxs, lc, hlin, rfl, hown, hf4⟩
      have HLN := Lib.hid hlin
      have HOW := Lib.hid (own_manyL hown)
      have HG4 := Lib.hid (HG3.out.trans hf4)
      clear hlin hown hf4 e0 e1 e2 e3 e4 e5
      obtain ⟨N, hNN⟩ : ∃ N, lxs.length = N := ⟨_, rfl⟩
      have HNN := Lib.hid hNN
      rw [hNN]
      clear hNN
      obtain ⟨e0, e1, e2, e3, e4, e5⟩ := HC.out w4 HG4.out
      go_wp2_with fail
      with_reducible refine (HSZ.out _ (HF1.out.trans HG4.out)).mono ?_
      rintro e w5 ⟨rfl, hf5⟩
      have HG5 := Lib.hid (HG4.out.trans hf5)
      have HO5 := Lib.hid (HOW.out.fresh hf5)
      have htt : ((t : Int) != (t : Int)) = false := by simp
      clear hf5 e0 e1 e2 e3 e4 e5 HOW
      obtain ⟨e0, e1, e2, e3, e4, e5⟩ := HC.out w5 HG5.out
      obtain ⟨rr, hrr⟩ : ∃ rr, rightR m s p a = rr := ⟨_, rfl⟩
      rw [hrr] at HRI
      have HRR := Lib.hid hrr
      clear hrr
      go_wp2_with fail
      with_reducible refine (HRI.out _).mono ?_
      rintro e w6 ⟨rfl, hw⟩
      obtain rfl : w5 = w6 := hw.symm
      cases rr
      · obtain ⟨rfl, h0⟩ := linesR_no HLN.out HRR.out
        have hN0 : N = 0 := by rw [← HNN.out, h0]; rfl
        subst hN0
        clear h0
        go_wp2_with fail
        with_reducible refine (HAW.out _).mono ?_
        rintro e w7 ⟨rfl, hf7⟩
        have HX := Lib.hid (HFIN.out _ (HF1.out.trans (HG5.out.trans hf7)))
        clear hf7
        go_wp2_with fail
        exact HX.out
      go_wp2_with fail
      with_reducible refine (HCL.out _ (HF1.out.trans HG5.out)).mono ?_
      rintro e w6 ⟨n6, A6, ms, c6, hcl6, rfl, hown6, hf6⟩
      have HG6 := Lib.hid (HG5.out.trans hf6)
      have HO6 := Lib.hid (HO5.out.fresh hf6)
      have HM6 := Lib.hid (own_manyL hown6)
      have HC6 := Lib.hid hcl6
      clear hcl6 hown6 hf6 HCL HO5 e0 e1 e2 e3 e4 e5
      by_cases h60 : n6 = 0
      rotate_left
      · obtain ⟨rfl, h0⟩ := linesR_bad HLN.out HRR.out HC6.out h60
        have hN0 : N = 0 := by rw [← HNN.out, h0]; rfl
        subst hN0
        have d6 : ((ln : Int) != 0) = true := by simp; omega
        have d7 : ((ln : Int) == (ln : Int)) = true := by simp
        clear h0 h60
        go_wp2_with fail
        with_reducible refine (HAW.out _).mono ?_
        rintro e w7 ⟨rfl, hf7⟩
        have HX := Lib.hid (HFIN.out _ (HF1.out.trans (HG6.out.trans hf7)))
        clear hf7
        go_wp2_with fail
        exact HX.out
      subst h60
      obtain ⟨h1, hlx⟩ := linesR_yes HLN.out HRR.out HC6.out
      subst h1
      have hms : ms.length ≤ 200 := by
        rw [(clnR_yesR HC6.out).2]
        have := keepR_len fs
        have := HFL.out.2.1
        have := HN.out
        omega
      have HMS := Lib.hid hms
      have HLX := Lib.hid hlx
      clear hms hlx
      rw [show ((0 : Nat) : Int) = 0 from rfl]
      obtain ⟨e0, e1, e2, e3, e4, e5⟩ := HC.out w6 HG6.out
      have HEND : Hid (∀ (A : Option Addr) (c : Nat) W, Many lnD 3 W A lxs → Fresh w6 W → Calls Tryz.prog 15 #[.slice lA N lc, .slice A N c] W fun e w' => e = .returned (.bool true) ∧ Fresh W w') := Lib.hid (fun A c W hk hf => l22_lines lA A lc c N lxs W HNN.out (HO6.out.fresh hf) hk (by
        rw [← HNN.out, HLX.out, List.length_append]
        have := base_len m s p a
        have := HMS.out
        omega))
      go_upto_region 18 with fail
      refine wp_gen (fun W => Own W w6.heap.size 38 3 (.slice (some ⟨w6.heap.size, 0, none⟩) 3 3) 3 (rowL [((mthN, m), false), ((schN, s), false), ((pthN, p), false)]) ∧ Fresh w6 W) ⟨Own.lit (cs := #[.string mthN, .string m, .bool false, .string schN, .string s, .bool false, .string pthN, .string p, .bool false]) (Nat.le_refl _) (by decide) rfl, Fresh.alloc _ _⟩ ?_
      rintro W8 ⟨ho8, hf8⟩
      have HO8 := Lib.hid ho8
      have HG8 := Lib.hid hf8
      obtain ⟨g, hg⟩ : ∃ g, w6.heap.size = g := ⟨_, rfl⟩
      have HGG := Lib.hid hg
      rw [hg] at HO8 ⊢
      clear hg ho8 hf8 e0 e1 e2 e3 e4 e5
      obtain ⟨e0, e1, e2, e3, e4, e5⟩ := HC.out W8 (HG6.out.trans HG8.out)
      have HAD : Hid (a.toList = a.data.toList) := Lib.hid (Lib.toList_data a)
      by_cases hae : a.data.toList = []
      · have m1 : a.toList.isEmpty = true := by rw [HAD.out, hae]; rfl
        have hbs : baseR m s p a = [((mthN, m), false), ((schN, s), false), ((pthN, p), false)] := by unfold baseR autL; rw [if_pos hae]; rfl
        obtain ⟨A9, c9, w9, hap, ho9, hb9⟩ := moreLr (xs := [((mthN, m), false), ((schN, s), false), ((pthN, p), false)]) HO8.out (show Below g w6 W8 by rw [← HGG.out]; exact HG8.out) (by rw [HGG.out]; exact Nat.le_refl _) A6 c6 ms (HM6.out.fresh HG8.out) (by have := HMS.out; omega)
        have hlen : 3 + ms.length = N := by rw [← HNN.out, HLX.out, hbs, List.length_append]; rfl
        rw [hlen] at hap ho9
        have hf9 : Fresh w6 w9 := by rw [← HGG.out] at hb9; exact hb9
        have HF9 := Lib.hid hf9
        have HM9 : Hid (Many lnD 3 w9 A9 lxs) := Lib.hid (by rw [HLX.out, hbs]; exact own_manyL ho9)
        clear hae hbs ho9 hb9 hf9 hlen
        go_wp2_with (at_builtin; refine wp_app rfl _ _ _ rfl hap rfl rfl rfl ?_)
        with_reducible refine (HEND.out A9 c9 _ HM9.out HF9.out).mono ?_
        rintro e w10 ⟨rfl, hf10⟩
        have HG10 := Lib.hid (HG6.out.trans (HF9.out.trans hf10))
        clear hf10
        go_wp2_with fail
        with_reducible refine (HAW.out _).mono ?_
        rintro e w7 ⟨rfl, hf7⟩
        have HX := Lib.hid (HFIN.out _ (HF1.out.trans (HG10.out.trans hf7)))
        clear hf7
        go_wp2_with fail
        exact HX.out
      · have m1 : a.toList.isEmpty = false := by
          rw [HAD.out]
          cases h : a.data.toList with
          | nil => exact absurd h hae
          | cons x t => rfl
        have hbs : baseR m s p a = [((mthN, m), false), ((schN, s), false), ((pthN, p), false)] ++ [((autN, a), false)] := by unfold baseR autL; rw [if_neg hae]
        obtain ⟨A8, c8, w8, hap8, ho8, hO8, hn8⟩ := ln_push (xs := [((mthN, m), false), ((schN, s), false), ((pthN, p), false)]) HO8.out (by rw [← HGG.out]; exact HG8.out.size) ((autN, a), false) (by simp) _ rfl
        have hb8 : Below g w6 w8 := by
          have h1 : Fresh w6 w8 := HG8.out.only hO8 (fun k hk => by
            have hk2 : some g = some k := hk
            injection hk2 with hk3
            have := HGG.out
            omega)
          rw [← HGG.out]; exact h1
        have hfw8 : Fresh w6 w8 := by rw [← HGG.out] at hb8; exact hb8
        have ho8' : Own w8 g 38 3 (.slice A8 4 c8) 4 (rowL ([((mthN, m), false), ((schN, s), false), ((pthN, p), false)] ++ [((autN, a), false)])) := ho8
        obtain ⟨A9, c9, w9, hap, ho9, hb9⟩ := moreLr ho8' hb8 (by rw [HGG.out]; exact Nat.le_refl _) A6 c6 ms (HM6.out.fresh hfw8) (by have := HMS.out; omega)
        have hlen : 4 + ms.length = N := by rw [← HNN.out, HLX.out, hbs, List.length_append]; rfl
        rw [hlen] at hap ho9
        have hf9 : Fresh w6 w9 := by rw [← HGG.out] at hb9; exact hb9
        have HF9 := Lib.hid hf9
        have HM9 : Hid (Many lnD 3 w9 A9 lxs) := Lib.hid (by rw [HLX.out, hbs]; exact own_manyL ho9)
        clear hae hbs ho9 hb9 hf9 hlen ho8 hO8 hn8 hb8 hfw8 ho8'
        simp only [List.length_cons, List.length_nil] at hap8
        go_wp2_with (at_builtin; first | refine wp_app rfl _ _ _ rfl hap8 rfl rfl rfl ?_ | refine wp_app rfl _ _ _ rfl hap rfl rfl rfl ?_)
        with_reducible refine (HEND.out A9 c9 _ HM9.out HF9.out).mono ?_
        rintro e w10 ⟨rfl, hf10⟩
        have HG10 := Lib.hid (HG6.out.trans (HF9.out.trans hf10))
        clear hf10
        go_wp2_with fail
        with_reducible refine (HAW.out _).mono ?_
        rintro e w7 ⟨rfl, hf7⟩
        have HX := Lib.hid (HFIN.out _ (HF1.out.trans (HG10.out.trans hf7)))
        clear hf7
        go_wp2_with fail
        exact HX.out
theorem RequestLines_any (r : RqV) (w : World) (h : r.Ok w) : Calls Tryz.prog 3 #[.agg r.arr] w (RqQ w) := lines_all r w h
end Go.Proofs.YtapikjhfgcbifaaGreatDoor

