/-
  Package reg: Live, Last; the laws' fixed answer; the law RegOwners.
-/
import Derived.Test.YtjediikcfhdgiaaDoorReg2
namespace Go.Proofs.YtjediikcfhdgiaaDoor
set_option maxRecDepth 100000
set_option linter.unusedVariables false
set_option linter.unusedSimpArgs false
open Go.RowKit Go.Maps
section
variable {base g mb lb n : Nat} {q last : Int} {L : Nat → Int} {N : Nat} {D : DataW Unit} {w : World}
theorem rg_live (h : RegAt w base g mb lb n q last L N D) (i : Nat) (hi : i < n) (z : Int) (hz : L i = z) : Calls Tryd.prog 19 #[.pointer (some ⟨g, 0, none⟩), .int .i64 (i : Int)] w fun e w' => e = .returned (.int .i64 z) ∧ w' = w := by
  have c0 := h.blk.k0
  obtain ⟨lc, _, c4⟩ := h.blk.k4
  have cl := (h.live.at hi).1
  rw [hz] at cl
  have d0 : decide ((i : Int) < 0) = false := decide_eq_false (by omega)
  have d1 : decide ((n : Int) ≤ (i : Int)) = false := decide_eq_false (by omega)
  have d2 : decide (n ≤ i) = false := decide_eq_false (by omega)
  have hi' : (i : Int) < (n : Int) := by omega
  clear h hz
  go_enter Tryd.func19, Tryd.ntmps19
  go_wp2_with fail
  go_ret
  exact ⟨rfl, rfl⟩
theorem rg_live_no (h : RegAt w base g mb lb n q last L N D) (i : Int) (hi : i < 0 ∨ (n : Int) ≤ i) : Calls Tryd.prog 19 #[.pointer (some ⟨g, 0, none⟩), .int .i64 i] w fun e w' => e = .returned (.int .i64 0) ∧ w' = w := by
  have c0 := h.blk.k0
  by_cases h0 : i < 0
  · clear h hi
    go_enter Tryd.func19, Tryd.ntmps19
    go_wp2_with fail
    go_ret
    exact ⟨rfl, rfl⟩
  · have d0 : decide (i < 0) = false := decide_eq_false h0
    have d1 : (n : Int) ≤ i := by omega
    clear h hi h0
    go_enter Tryd.func19, Tryd.ntmps19
    go_wp2_with fail
    go_ret
    exact ⟨rfl, rfl⟩
theorem rg_last (h : RegAt w base g mb lb n q last L N D) : Calls Tryd.prog 21 #[.pointer (some ⟨g, 0, none⟩)] w fun e w' => e = .returned (.int .i64 last) ∧ w' = w := by
  have c2 := h.blk.k2
  clear h
  go_enter Tryd.func21, Tryd.ntmps21
  go_wp2_with fail
  go_ret
  exact ⟨rfl, rfl⟩
end
theorem low3 {w w' : World} {g mb lb : Nat} (h : Only (fun k => k = g ∨ k = mb ∨ k = lb) w w') (w0 : World) (hf : Fresh w0 w) (h1 : w0.heap.size ≤ g) (h2 : w0.heap.size ≤ mb) (h3 : w0.heap.size ≤ lb) : Fresh w0 w' :=
  Only.fresh (S := fun _ => False) ((Only.of_fresh hf).trans' h (fun i hi e => by rcases e with e | e | e <;> omega)) (fun _ _ h => h)
set_option maxHeartbeats 6400000 in
theorem rg_awake (w : World) (hT : Tbl w) : Calls Tryd.prog 8 #[] w fun e w' => e = .returned (.bool true) ∧ Fresh w w' := by
  have HT := Lib.hid hT
  have hlt := hT.lt
  clear hT
  have HN := Lib.hid (show Calls Tryd.prog 9 #[.int .i64 3, .int .i64 1] w (NewRP 3 1 w) from rg_new 3 1 w (by decide) (by decide) (by decide) (by decide))
  have HO := Lib.hid (fun w => show Calls Tryd.prog 16 #[.int .i64 11, .int .i64 3] w (fun e w' => e = .returned (.tuple #[.int .i64 2, .bool true]) ∧ w' = w) from rg_own_yes 5 3 w (by decide) (by decide) (by decide) (by decide))
  unfold NewRP at HN
  go_enter Tryd.func8, Tryd.ntmps8
  go_wp2_with fail
  with_reducible refine HN.out.mono ?_
  rintro e w1 ⟨g, mb, lb, rfl, hr1, hf1⟩
  have HF1 := Lib.hid hf1
  have HB : Hid (w.heap.size ≤ g ∧ w.heap.size ≤ mb ∧ w.heap.size ≤ lb) := Lib.hid ⟨hr1.bg, hr1.bm, hr1.bl⟩
  have H1 := Lib.hid (show Calls Tryd.prog 17 #[.pointer (some ⟨g, 0, none⟩), .int .i64 1] w1 (OpnP w1 w.heap.size g mb lb 3 1 1 (fun _ => 0) 1 0 (.map [])) from rg_open (t := 1) hr1 (HT.out.fresh hf1) hlt hf1.size (by decide) (by decide) (by decide) (by decide) (by decide) 1 (by decide) (by decide) (by decide) (by decide) (by decide))
  unfold OpnP at H1
  clear hr1 hf1 HN
  go_wp2_with fail
  with_reducible refine H1.out.mono ?_
  rintro e w2 ⟨p2, a2, cs2, rfl, hr2, _, _, ho2, _⟩
  have hf2 := low3 ho2 w HF1.out HB.out.1 HB.out.2.1 HB.out.2.2
  have HF2 := Lib.hid hf2
  have H2 := Lib.hid (show Calls Tryd.prog 17 #[.pointer (some ⟨g, 0, none⟩), .int .i64 4] w2 (fun e w' => e = .returned (.tuple #[.int .i64 0, .int .i64 33]) ∧ Fresh w2 w') from rg_open_quota (t := 4) hr2 (by decide) (by decide) (by decide) (by decide) (by decide) 1 (by decide) (by decide))
  have HR2 := Lib.hid hr2
  clear hr2 ho2 hf2 H1
  go_wp2_with fail
  with_reducible refine H2.out.mono ?_
  rintro e w3 ⟨rfl, hf3⟩
  have hr3 := HR2.out.fresh hf3
  have HF3 := Lib.hid (HF2.out.trans hf3)
  have H3 := Lib.hid (show Calls Tryd.prog 17 #[.pointer (some ⟨g, 0, none⟩), .int .i64 5] w3 (OpnP w3 w.heap.size g mb lb 3 1 5 _ 2 1 _) from rg_open (t := 5) hr3 (HT.out.fresh HF3.out) hlt HF3.out.size (by decide) (by decide) (by decide) (by decide) (by decide) 2 (by decide) (by decide) (by decide) (by decide) (by decide))
  unfold OpnP at H3
  clear hr3 hf3 HR2 H2
  go_wp2_with fail
  with_reducible refine H3.out.mono ?_
  rintro e w4 ⟨p4, a4, cs4, rfl, hr4, _, _, ho4, _⟩
  have HF4 := Lib.hid (low3 ho4 w HF3.out HB.out.1 HB.out.2.1 HB.out.2.2)
  have HLV := Lib.hid (show Calls Tryd.prog 19 #[.pointer (some ⟨g, 0, none⟩), .int .i64 1] w4 (fun e w' => e = .returned (.int .i64 1) ∧ w' = w4) from rg_live hr4 1 (by decide) 1 (by decide))
  have HLS := Lib.hid (show Calls Tryd.prog 21 #[.pointer (some ⟨g, 0, none⟩)] w4 (fun e w' => e = .returned (.int .i64 11) ∧ w' = w4) from rg_last hr4)
  clear hr4 ho4 H3
  go_wp2_with fail
  with_reducible refine (HO.out _).mono ?_
  rintro e w5 ⟨rfl, hw⟩
  obtain rfl : w4 = w5 := hw.symm
  go_wp2_with fail
  with_reducible refine HLV.out.mono ?_
  rintro e w5 ⟨rfl, hw⟩
  obtain rfl : w4 = w5 := hw.symm
  go_wp2_with fail
  with_reducible refine HLS.out.mono ?_
  rintro e w5 ⟨rfl, hw⟩
  obtain rfl : w4 = w5 := hw.symm
  go_wp2_with fail
  go_ret
  exact ⟨rfl, HF4.out⟩
def LwG (w : World) (e : Ending) (w' : World) : Prop := e = .returned (.bool true) ∧ Fresh w w'
set_option maxHeartbeats 6400000 in
theorem RegOwners_any (t n : Int) (w : World) (ht : (Lit.int .i64 t).wf = true) (hn : (Lit.int .i64 n).wf = true) (hT : Tbl w) : Calls Tryd.prog 4 #[.int .i64 t, .int .i64 n] w (LwG w) := by
  have HA := Lib.hid (rg_awake w hT)
  have HFIN : Hid (∀ W, Fresh w W → LwG w (.returned (.bool true)) W) := Lib.hid (fun W h => ⟨rfl, h⟩)
  clear ht hn hT
  generalize LwG w = PP at *
  by_cases hr : 0 ≤ t ∧ t ≤ 1073741823
  rotate_left
  · have HI := Lib.hid (fun w => rg_id_no t w hr)
    by_cases h0 : t < 0
    · clear hr
      go_enter Tryd.func4, Tryd.ntmps4
      go_wp2_with fail
      with_reducible refine (HI.out _).mono ?_
      rintro e w1 ⟨rfl, hw⟩
      obtain rfl : w = w1 := hw.symm
      go_wp2_with fail
      with_reducible refine HA.out.mono ?_
      rintro e w2 ⟨rfl, hf⟩
      have HF := Lib.hid hf
      clear hf
      go_wp2_with fail
      exact HFIN.out _ HF.out
    · have d0 : decide (t < 0) = false := decide_eq_false h0
      have d1 : 1073741823 < t := by omega
      clear hr h0
      go_enter Tryd.func4, Tryd.ntmps4
      go_wp2_with fail
      with_reducible refine (HI.out _).mono ?_
      rintro e w1 ⟨rfl, hw⟩
      obtain rfl : w = w1 := hw.symm
      go_wp2_with fail
      with_reducible refine HA.out.mono ?_
      rintro e w2 ⟨rfl, hf⟩
      have HF := Lib.hid hf
      clear hf
      go_wp2_with fail
      exact HFIN.out _ HF.out
  obtain ⟨h0, h1⟩ := hr
  have HI := Lib.hid (fun w => rg_id_yes t (2 * t + 1) w h0 h1 rfl)
  have d0 : decide (t < 0) = false := decide_eq_false (by omega)
  have d1 : decide (1073741823 < t) = false := decide_eq_false (by omega)
  by_cases hn : 1 ≤ n ∧ n ≤ 64
  rotate_left
  · have HO := Lib.hid (fun w => rg_own_no t n w h0 h1 hn)
    by_cases h2 : n < 1
    · clear hn
      go_enter Tryd.func4, Tryd.ntmps4
      go_wp2_with fail
      with_reducible refine (HI.out _).mono ?_
      rintro e w1 ⟨rfl, hw⟩
      obtain rfl : w = w1 := hw.symm
      go_wp2_with fail
      with_reducible refine (HO.out _).mono ?_
      rintro e w1 ⟨rfl, hw⟩
      obtain rfl : w = w1 := hw.symm
      go_wp2_with fail
      with_reducible refine HA.out.mono ?_
      rintro e w2 ⟨rfl, hf⟩
      have HF := Lib.hid hf
      clear hf
      go_wp2_with fail
      exact HFIN.out _ HF.out
    · have d2 : decide (n < 1) = false := decide_eq_false h2
      have d3 : 64 < n := by omega
      clear hn h2
      go_enter Tryd.func4, Tryd.ntmps4
      go_wp2_with fail
      with_reducible refine (HI.out _).mono ?_
      rintro e w1 ⟨rfl, hw⟩
      obtain rfl : w = w1 := hw.symm
      go_wp2_with fail
      with_reducible refine (HO.out _).mono ?_
      rintro e w1 ⟨rfl, hw⟩
      obtain rfl : w = w1 := hw.symm
      go_wp2_with fail
      with_reducible refine HA.out.mono ?_
      rintro e w2 ⟨rfl, hf⟩
      have HF := Lib.hid hf
      clear hf
      go_wp2_with fail
      exact HFIN.out _ HF.out
  obtain ⟨h2, h3⟩ := hn
  have HO := Lib.hid (fun w => rg_own_yes t n w h0 h1 h2 h3)
  have HE := Lib.hid (fun w => rg_own_even t n w h0 h1)
  have d2 : decide (n < 1) = false := decide_eq_false (by omega)
  have d3 : decide (64 < n) = false := decide_eq_false (by omega)
  have hmod : t.tmod n = t % n := Int.tmod_eq_emod_of_nonneg h0
  have hn0 : ¬ n = 0 := by omega
  have hnb : (n == 0) = false := beq_eq_false_iff_ne.2 hn0
  have hself : (t % n == t % n) = true := by simp
  by_cases hz : t = 0
  · have z0 : (t == 0) = true := by rw [hz]; rfl
    clear hz
    go_enter Tryd.func4, Tryd.ntmps4
    go_wp2_with fail
    with_reducible refine (HI.out _).mono ?_
    rintro e w1 ⟨rfl, hw⟩
    obtain rfl : w = w1 := hw.symm
    go_wp2_with fail
    with_reducible refine (HO.out _).mono ?_
    rintro e w1 ⟨rfl, hw⟩
    obtain rfl : w = w1 := hw.symm
    go_wp2_with fail
    with_reducible refine (HE.out _).mono ?_
    rintro e w1 ⟨rfl, hw⟩
    obtain rfl : w = w1 := hw.symm
    go_wp2_with fail
    with_reducible refine HA.out.mono ?_
    rintro e w2 ⟨rfl, hf⟩
    have HF := Lib.hid hf
    clear hf
    go_wp2_with fail
    exact HFIN.out _ HF.out
  · have z0 : (t == 0) = false := beq_eq_false_iff_ne.2 hz
    have HI1 := Lib.hid (fun w => rg_id_yes (t - 1) (2 * t - 1) w (by omega) (by omega) (by omega))
    have hlt : 2 * t - 1 < 2 * t + 1 := by omega
    have hlt' : decide (2 * t - 1 < 2 * t + 1) = true := decide_eq_true hlt
    clear hz
    go_enter Tryd.func4, Tryd.ntmps4
    go_wp2_with fail
    with_reducible refine (HI.out _).mono ?_
    rintro e w1 ⟨rfl, hw⟩
    obtain rfl : w = w1 := hw.symm
    go_wp2_with fail
    with_reducible refine (HO.out _).mono ?_
    rintro e w1 ⟨rfl, hw⟩
    obtain rfl : w = w1 := hw.symm
    go_wp2_with fail
    with_reducible refine (HE.out _).mono ?_
    rintro e w1 ⟨rfl, hw⟩
    obtain rfl : w = w1 := hw.symm
    go_wp2_with fail
    with_reducible refine (HI1.out _).mono ?_
    rintro e w1 ⟨rfl, hw⟩
    obtain rfl : w = w1 := hw.symm
    go_wp2_with fail
    with_reducible refine HA.out.mono ?_
    rintro e w2 ⟨rfl, hf⟩
    have HF := Lib.hid hf
    clear hf
    go_wp2_with fail
    exact HFIN.out _ HF.out
end Go.Proofs.YtjediikcfhdgiaaDoor

