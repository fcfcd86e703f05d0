/-
  The law DynNewest.
-/
import Derived.Test.YthjajipagfojoaaDynM
namespace Go.Proofs.Ythjajipagfojoaa
set_option linter.unusedVariables false
set_option linter.unusedSimpArgs false
open Go.RowKit
theorem rev_add {fs : List FldT} {lim : Int} {f : FldT} (h : (fz f : Int) ≤ lim) : (addF fs lim f).reverse = f :: fs.reverse.take (fs.length - goneN fs (lim - fz f)) := by
  unfold addF
  rw [if_pos h, List.reverse_append, take_rev]
  rfl
theorem fr_first (f : FldT) (l : List FldT) : FR f (f :: l) 1 true := .inl ⟨0, by simp, by simp, rfl, rfl, rfl⟩
theorem tab_get_rev {base p : Nat} {v : Value} {fs : List FldT} {lim : Int} {w : World} (k m : Nat) (f : FldT) (h : TabAt w base p v fs lim) (hm : fs.length = m) (hf : fs.reverse[k]? = some f) (hl : m ≤ 1000000) : Calls Try.prog 23 #[.pointer (some ⟨p, 0, none⟩), .int .i64 ((k : Int) + 1)] w fun e w' => e = .returned (.tuple #[.agg #[.string f.1, .string f.2], .int .i64 0]) ∧ Fresh w w' := by
  have hk : k < fs.length := by have := (List.getElem?_eq_some_iff.1 hf).1; simpa using this
  rw [List.getElem?_reverse hk] at hf
  exact dy_get _ _ f h hf (by omega) (by omega)
section
variable {w : World}
set_option maxRecDepth 100000 in
set_option maxHeartbeats 3200000 in
theorem newest_long (lim : Int) (s : OpsV) (f : FldT) (h : s.Ok w) (hb : lim < 0 ∨ 65536 < lim ∨ 1000 < f.1.size ∨ 1000 < f.2.size) : Calls Try.prog 7 #[.int .i64 lim, s.v, .agg #[.string f.1, .string f.2]] w (LwP w) := by
  have HSM := Lib.hid (fun W (hw : Fresh w W) => small_any s W (h.fresh hw))
  obtain ⟨A, c, xs⟩ := s
  obtain ⟨f1, f2⟩ := f
  simp only [OpsV.v] at HSM hb ⊢
  clear h
  by_cases h0 : lim < 0
  · clear hb
    go_enter Try.func7, Try.ntmps7
    go_upto_region 1 with fail
    refine wp_gen (fun W => Fresh w W ∧ Blk W w.heap.size 31 #[.string f1, .string f2]) ⟨Fresh.alloc _ _, Blk.new _ _ _⟩ ?_
    rintro W ⟨hf0, hb0⟩
    have HF0 := Lib.hid hf0
    have HB0 := Lib.hid hb0
    clear hf0 hb0
    go_wp2_with fail
    with_reducible refine (HSM.out _ HF0.out).mono ?_
    rintro e w1 ⟨r, rfl, hf1⟩
    have HF1 := Lib.hid (HF0.out.trans hf1)
    obtain ⟨c0, c1⟩ := (HB0.out.fresh hf1).c2
    clear hf1
    cases r
    all_goals
      go_wp2_with fail
      with_reducible refine (dy_awake _).mono ?_
      rintro e w2 ⟨rfl, hf2⟩
      have HF2 := Lib.hid (HF1.out.trans hf2)
      clear hf2
      go_wp2
      go_ret
      exact ⟨rfl, HF2.out⟩
  · by_cases h1 : 65536 < lim
    · clear hb
      go_enter Try.func7, Try.ntmps7
      go_upto_region 1 with fail
      refine wp_gen (fun W => Fresh w W ∧ Blk W w.heap.size 31 #[.string f1, .string f2]) ⟨Fresh.alloc _ _, Blk.new _ _ _⟩ ?_
      rintro W ⟨hf0, hb0⟩
      have HF0 := Lib.hid hf0
      have HB0 := Lib.hid hb0
      clear hf0 hb0
      go_wp2_with fail
      with_reducible refine (HSM.out _ HF0.out).mono ?_
      rintro e w1 ⟨r, rfl, hf1⟩
      have HF1 := Lib.hid (HF0.out.trans hf1)
      obtain ⟨c0, c1⟩ := (HB0.out.fresh hf1).c2
      clear hf1
      cases r
      all_goals
        go_wp2_with fail
        with_reducible refine (dy_awake _).mono ?_
        rintro e w2 ⟨rfl, hf2⟩
        have HF2 := Lib.hid (HF1.out.trans hf2)
        clear hf2
        go_wp2
        go_ret
        exact ⟨rfl, HF2.out⟩
    · by_cases h2 : (1000 : Int) < (f1.size : Int)
      · clear hb
        go_enter Try.func7, Try.ntmps7
        go_upto_region 1 with fail
        refine wp_gen (fun W => Fresh w W ∧ Blk W w.heap.size 31 #[.string f1, .string f2]) ⟨Fresh.alloc _ _, Blk.new _ _ _⟩ ?_
        rintro W ⟨hf0, hb0⟩
        have HF0 := Lib.hid hf0
        have HB0 := Lib.hid hb0
        clear hf0 hb0
        go_wp2_with fail
        with_reducible refine (HSM.out _ HF0.out).mono ?_
        rintro e w1 ⟨r, rfl, hf1⟩
        have HF1 := Lib.hid (HF0.out.trans hf1)
        obtain ⟨c0, c1⟩ := (HB0.out.fresh hf1).c2
        clear hf1
        cases r
        all_goals
          go_wp2_with fail
          with_reducible refine (dy_awake _).mono ?_
          rintro e w2 ⟨rfl, hf2⟩
          have HF2 := Lib.hid (HF1.out.trans hf2)
          clear hf2
          go_wp2
          go_ret
          exact ⟨rfl, HF2.out⟩
      · have h3 : (1000 : Int) < (f2.size : Int) := by omega
        clear hb
        go_enter Try.func7, Try.ntmps7
        go_upto_region 1 with fail
        refine wp_gen (fun W => Fresh w W ∧ Blk W w.heap.size 31 #[.string f1, .string f2]) ⟨Fresh.alloc _ _, Blk.new _ _ _⟩ ?_
        rintro W ⟨hf0, hb0⟩
        have HF0 := Lib.hid hf0
        have HB0 := Lib.hid hb0
        clear hf0 hb0
        go_wp2_with fail
        with_reducible refine (HSM.out _ HF0.out).mono ?_
        rintro e w1 ⟨r, rfl, hf1⟩
        have HF1 := Lib.hid (HF0.out.trans hf1)
        obtain ⟨c0, c1⟩ := (HB0.out.fresh hf1).c2
        clear hf1
        cases r
        all_goals
          go_wp2_with fail
          with_reducible refine (dy_awake _).mono ?_
          rintro e w2 ⟨rfl, hf2⟩
          have HF2 := Lib.hid (HF1.out.trans hf2)
          clear hf2
          go_wp2
          go_ret
          exact ⟨rfl, HF2.out⟩
set_option maxRecDepth 100000 in
set_option maxHeartbeats 6400000 in
theorem newest_ok (lim : Int) (s : OpsV) (f : FldT) (h : s.Ok w) (h0 : 0 ≤ lim) (h1 : lim ≤ 65536) (hf1 : f.1.size ≤ 1000) (hf2 : f.2.size ≤ 1000) : Calls Try.prog 7 #[.int .i64 lim, s.v, .agg #[.string f.1, .string f.2]] w (LwP w) := by
  have HSM := Lib.hid (fun W (hw : Fresh w W) => small_any s W (h.fresh hw))
  obtain ⟨A, c, xs⟩ := s
  obtain ⟨f1, f2⟩ := f
  have H := Lib.hid h
  have hle := h.le
  have hmx := h.max
  simp only at hle hmx hf1 hf2
  simp only [maxLen] at hmx
  simp only [OpsV.v] at HSM ⊢
  obtain ⟨n, hn⟩ : ∃ n, xs.length = n := ⟨_, rfl⟩
  have HN := Lib.hid hn
  rw [hn] at HSM hle ⊢
  clear h hn
  have n0 : ¬ lim < 0 := by omega
  have n1 : ¬ 65536 < lim := by omega
  have n2 : ¬ (1000 : Int) < (f1.size : Int) := by omega
  have n3 : ¬ (1000 : Int) < (f2.size : Int) := by omega
  go_enter Try.func7, Try.ntmps7
  go_upto_region 1 with fail
  refine wp_gen (fun W => Fresh w W ∧ Blk W w.heap.size 31 #[.string f1, .string f2]) ⟨Fresh.alloc _ _, Blk.new _ _ _⟩ ?_
  rintro W ⟨hf0, hb0⟩
  have HF0 := Lib.hid hf0
  have HB0 := Lib.hid hb0
  clear hf0 hb0
  go_wp2_with fail
  with_reducible refine (HSM.out _ HF0.out).mono ?_
  rintro e w1 ⟨r, rfl, hf1'⟩
  have HF1 := Lib.hid hf1'
  obtain ⟨c0, c1⟩ := (HB0.out.fresh hf1').c2
  clear hf1'
  cases r
  · go_wp2_with fail
    with_reducible refine (dy_awake _).mono ?_
    rintro e w2 ⟨rfl, hf2'⟩
    have HF2 := Lib.hid ((HF0.out.trans HF1.out).trans hf2')
    clear hf2'
    go_wp2
    go_ret
    exact ⟨rfl, HF2.out⟩
  · go_wp2_with fail
    with_reducible refine (sd_new lim h0 h1 W _ HF1.out).mono ?_
    rintro e w2 ⟨p, rfl, hs⟩
    have HS := Lib.hid hs
    clear hs c0 c1
    go_wp2_with fail
    clear n0 n1 n2 n3 h0 h1
    go_loopw [0, 9, 54] (fun l x i wr => ∃ (k : Nat) (v : Value) (A' : Option Addr) (c' : Nat) (fs : List FldT) (lm : Int), k ≤ n ∧ i = .int .i64 (k : Int) ∧ l = .int .i64 lm ∧ x = .slice A' fs.length c' ∧ Sd W wr p v A' c' fs lm) (fun _ _ i _ => n - (intOf i).toNat)
    case atStart => exact ⟨0, _, none, 0, [], lim, by omega, rfl, rfl, rfl, HS.out⟩
    case round =>
      obtain ⟨k, v, A', c', fs, lm, hk, rfl, rfl, rfl, hs⟩ := hrel
      have HSD := Lib.hid hs
      by_cases hlt : k < n
      · have hlt' : (k : Int) < (n : Int) := by omega
        obtain ⟨x, hxk⟩ : ∃ x, xs[k]? = some x := ⟨_, List.getElem?_eq_getElem (by rw [HN.out]; exact hlt)⟩
        have hx1 := (H.out.ok x (List.mem_of_getElem? hxk)).f1
        obtain ⟨b, o, hA, hb, y0, y1, y2, y3⟩ := (H.out.rows.fresh (HF0.out.trans hs.fr)).at4 k x hxk
        simp only at hA
        subst hA
        have HST := Lib.hid (fun W2 (hw : Fresh wr W2) => sd_step x (HSD.out.fresh hw) hx1)
        obtain ⟨xk, xn, xf, xg⟩ := x
        simp only at y0 y1 y2 y3 HST
        clear hs hxk hx1
        generalize hfs : (stepF fs lm ⟨xk, xn, (xf, xg)⟩).1 = fs2 at HST
        generalize hlm : (stepF fs lm ⟨xk, xn, (xf, xg)⟩).2 = lm2 at HST
        clear hfs hlm
        go_upto_region 10 with fail
        refine wp_gen (fun W2 => Fresh wr W2 ∧ Blk W2 wr.heap.size 33 #[.int .i64 xk, .int .i64 xn, .string xf, .string xg]) ⟨Fresh.alloc _ _, Blk.new _ _ _⟩ ?_
        rintro W2 ⟨hfW, hbW⟩
        have c0 := hbW.cell 0
        have c1 := hbW.cell 1
        have c2 := hbW.cell 2
        have c3 := hbW.cell 3
        have HX := Lib.hid (HST.out _ hfW)
        clear hfW hbW y0 y1 y2 y3 hb HST
        simp at c0 c1 c2 c3
        generalize fs.length = nf at *
        go_wp2_with fail
        with_reducible refine HX.out.mono ?_
        rintro e w3 ⟨A3, c3', v3, rfl, hs3⟩
        have HS3 := Lib.hid hs3
        clear hs3 c0 c1 c2 c3
        go_wp2_with fail
        go_roundw
        case rel => exact ⟨k + 1, v3, A3, c3', fs2, lm2, by omega, by go_num, rfl, rfl, HS3.out⟩
        case measure => simp [intOf]; omega
      · obtain rfl : k = n := by omega
        clear hs
        obtain ⟨c0, c1⟩ := (HB0.out.fresh HSD.out.fr).c2
        have hlen := HSD.out.sd.len
        have hzl : tz fs ≤ 65536 := by have := HSD.out.sd.hz; have := HSD.out.sd.l1; omega
        have hfzz : fz (f1, f2) ≤ 10000 := by unfold fz; simp only; omega
        have HFZ := Lib.hid hfzz
        have HADD := Lib.hid (dy_add (f1, f2) HSD.out.sd.tab (by omega) HSD.out.sd.hb HSD.out.sd.l0 HSD.out.sd.l1 (by omega))
        obtain ⟨nf, hnf⟩ : ∃ nf, fs.length = nf := ⟨_, rfl⟩
        have HNF := Lib.hid hnf
        rw [hnf] at hlen ⊢
        clear hnf hzl hfzz
        simp only at HADD
        go_wp2_with fail
        with_reducible refine HADD.out.mono ?_
        rintro e w3 ⟨rfl, v3, ht3, hv3, ho3⟩
        have hap := TabAt.apart HSD.out.sd.tab (t := 42) (by decide) (by decide)
        have hli3 := HSD.out.sd.li.only ho3 hap
        have hfr3 : Fresh W w3 := Below.trans HSD.out.fr (Only.below ho3 HSD.out.fr.size (fun k e => by
          rcases e with rfl | e
          · exact HSD.out.hp
          · exact HSD.out.hv k e))
        have HT3 := Lib.hid ht3
        have HLI3 := Lib.hid hli3
        have HFR3 := Lib.hid hfr3
        clear ht3 hv3 ho3 hap hli3 hfr3 c0 c1 HADD
        obtain ⟨c0, c1⟩ := (HB0.out.fresh HFR3.out).c2
        have HSZ := Lib.hid (fun W2 => dy_size (f1, f2) W2 (by have := HFZ.out; omega))
        simp only at HSZ
        go_wp2_with fail
        with_reducible refine (HSZ.out _).mono ?_
        rintro e w4 ⟨rfl, hf4⟩
        have HF4 := Lib.hid hf4
        clear hf4 c0 c1 HSZ
        obtain ⟨c0, c1⟩ := (HB0.out.fresh (HFR3.out.trans HF4.out)).c2
        by_cases hfit : (fz (f1, f2) : Int) ≤ lm
        · have hno : ¬ lm < (fz (f1, f2) : Int) := by omega
          have HREV := Lib.hid (rev_add (fs := fs) hfit)
          have hg := goneN_le fs (lm - fz (f1, f2))
          obtain ⟨gn, hgn⟩ : ∃ gn, goneN fs (lm - fz (f1, f2)) = gn := ⟨_, rfl⟩
          rw [hgn] at hg HREV
          rw [HNF.out] at hg HREV
          obtain ⟨fs2, hfs2⟩ : ∃ l, addF fs lm (f1, f2) = l := ⟨_, rfl⟩
          rw [hfs2] at HT3 HREV
          have hl2 : fs2.length = (nf - gn) + 1 := by
            have := congrArg List.length HREV.out
            rw [List.length_reverse, List.length_cons, List.length_take, List.length_reverse, HNF.out] at this
            omega
          obtain ⟨d, hd⟩ : ∃ d, nf - gn = d := ⟨_, rfl⟩
          rw [hd] at hl2 HREV
          have hdn : d ≤ nf := by omega
          have HL2 := Lib.hid hl2
          have HFI := Lib.hid (tab_find _ p v3 fs2 lm (f1, f2) w4 (HT3.out.fresh HF4.out) (by omega))
          have HLEN := Lib.hid (fun W2 (hw : Fresh w4 W2) => dy_len ((HT3.out.fresh HF4.out).fresh hw))
          rw [HREV.out] at HFI
          rw [hl2] at HLEN
          clear hgn hfs2 hl2 hd hg hfit
          simp only at HFI
          go_wp2_with fail
          with_reducible refine HFI.out.mono ?_
          intro e w5 hP
          obtain ⟨i1, b1, rfl, hr1, hf5⟩ := findP_r hP
          obtain ⟨rfl, rfl⟩ := fr_one hr1 (fr_first _ _)
          have HF5 := Lib.hid hf5
          clear hP hr1 hf5 c0 c1 hno HFI
          have hdd : ((d + 1 : Nat) : Int) = (d : Int) + 1 := by omega
          have hcmp : ¬ (nf : Int) + 1 < (d : Int) + 1 := by omega
          rw [hdd] at HLEN
          clear hdd
          go_wp2_with fail
          with_reducible refine (HLEN.out _ HF5.out).mono ?_
          rintro e w6 ⟨rfl, hw⟩
          obtain rfl : w5 = w6 := hw.symm
          go_wp2_with fail
          with_reducible refine (HLEN.out _ HF5.out).mono ?_
          rintro e w6 ⟨rfl, hw⟩
          obtain rfl : w5 = w6 := hw.symm
          clear hcmp
          have hw1 : IntKind.i64.wrap ((d : Int) + 1 - 1) = (d : Int) := by rw [IntKind.wrap_i64]; omega
          go_wp2
          clear hw1
          go_loopw [109] (fun i wr2 => ∃ k : Nat, k ≤ d ∧ i = .int .i64 (k : Int) ∧ Fresh w5 wr2) (fun i _ => d - (intOf i).toNat)
          case atStart => exact ⟨0, by omega, rfl, Fresh.refl _⟩
          case round =>
            obtain ⟨k, hk, rfl, hfw⟩ := hrel
            have HFW := Lib.hid ((HF4.out.trans HF5.out).trans hfw)
            by_cases hlt2 : k < d
            · have hlt2' : (k : Int) < (d : Int) := by omega
              have hkn : k < nf := by omega
              have hkn' : decide ((nf : Int) ≤ (k : Int)) = false := decide_eq_false (by omega)
              have hkn2 : decide (nf ≤ k) = false := decide_eq_false (by omega)
              obtain ⟨y, hy⟩ : ∃ y, fs.reverse[k]? = some y := ⟨_, List.getElem?_eq_getElem (by rw [List.length_reverse, HNF.out]; omega)⟩
              have hy2 : fs2.reverse[k + 1]? = some y := by
                rw [HREV.out, List.getElem?_cons_succ, List.getElem?_take_of_lt hlt2]
                exact hy
              have HGET := Lib.hid (tab_get_rev (k + 1) (d + 1) y (HT3.out.fresh HFW.out) HL2.out hy2 (by omega))
              rw [show (((k + 1 : Nat) : Int) + 1) = (k : Int) + 2 by omega] at HGET
              obtain ⟨bx, ox, hA, hbx, hy0, hy1⟩ := (HLI3.out.fresh HFW.out).rows.at2 k y hy
              have HY := Lib.hid (And.intro hbx (And.intro hy0 hy1))
              subst hA
              clear hy hy2 hbx hy0 hy1
              have HFW5 := Lib.hid hfw
              clear hfw
              go_wp2_with fail
              with_reducible refine HGET.out.mono ?_
              rintro e w7 ⟨rfl, hf7⟩
              have HF7 := Lib.hid hf7
              clear hf7
              go_upto_region 22 with fail
              refine wp_gen (fun W2 => Fresh w7 W2 ∧ Blk W2 w7.heap.size 31 #[.string y.1, .string y.2]) ⟨?_, ?_⟩ ?_
              · repeat (first | with_reducible exact Fresh.refl _ | with_reducible apply Fresh.drewS | with_reducible apply Fresh.allocS | (with_reducible refine Fresh.step2 ?_ ?_; simp))
              · exact Blk.new _ _ _
              rintro W2 ⟨hfW, hbW⟩
              have HFW2 := Lib.hid (HF7.out.trans hfW)
              obtain ⟨hbx, hy0, hy1⟩ := HY.out
              have HSK : Hid (∀ w', Fresh W2 w' → w'.cell? ⟨w7.heap.size, 0, none⟩ = some (.string y.1) ∧ w'.cell? ⟨w7.heap.size, 1, none⟩ = some (.string y.2) ∧ w'.cell? ⟨bx, ox + k * 2, none⟩ = some (.string y.1) ∧ w'.cell? ⟨bx, ox + k * 2 + 1, none⟩ = some (.string y.2) ∧ Fresh W2 w') := Lib.hid (fun w' hw => ⟨(hbW.fresh hw).cell 0, (hbW.fresh hw).cell 1, ((HFW2.out.trans hw).cell (p := ⟨bx, ox + k * 2, none⟩) hbx).trans hy0, ((HFW2.out.trans hw).cell (p := ⟨bx, ox + k * 2 + 1, none⟩) hbx).trans hy1, hw⟩)
              clear hbx hy0 hy1 hfW hbW
              have hE : ∀ W, (Op.equalIn 10000 42 (.agg #[.string y.1, .string y.2]) (.agg #[.string y.1, .string y.2])).run Try.prog W = .ok true W := fun W => run_eq_pair _ _ _ _ W true (by simp)
              go_region_held3 (fun w' => w'.cell? ⟨w7.heap.size, 0, none⟩ = some (.string y.1) ∧ w'.cell? ⟨w7.heap.size, 1, none⟩ = some (.string y.2) ∧ w'.cell? ⟨bx, ox + k * 2, none⟩ = some (.string y.1) ∧ w'.cell? ⟨bx, ox + k * 2 + 1, none⟩ = some (.string y.2) ∧ Fresh W2 w')
                ((refine HSK.out _ ?_; first | with_reducible assumption | with_reducible exact Fresh.drew _))
                (first | (go_at_call 15; (with_reducible refine (dy_pair y _).mono ?_); rintro e w8 ⟨rfl, hf8⟩; have hg8 : Fresh W2 w8 := Fresh.trans (by first | with_reducible assumption | with_reducible exact Fresh.drew _) hf8; clear hf8))
              all_goals
                go_wp2_with fail
                go_roundw
                case rel => exact ⟨k + 1, by omega, by go_num, HFW5.out.trans (HFW2.out.trans hg8)⟩
                case measure => simp [intOf]; omega
            · obtain rfl : k = d := by omega
              clear hfw
              go_wp2_with fail
              with_reducible refine (dy_awake _).mono ?_
              rintro e w9 ⟨rfl, hf9⟩
              have HF9 := Lib.hid ((HF0.out.trans HFR3.out).trans (HFW.out.trans hf9))
              clear hf9
              go_wp2
              go_ret
              exact ⟨rfl, HF9.out⟩
        · have hyes : lm < (fz (f1, f2) : Int) := by omega
          have HNO := Lib.hid (addF_no fs lm (f1, f2) hyes)
          have HT4 := Lib.hid (HT3.out.fresh HF4.out)
          rw [HNO.out] at HT4
          go_wp2_with fail
          with_reducible refine (dy_len HT4.out).mono ?_
          rintro e w5 ⟨rfl, rfl⟩
          rw [show (([] : List FldT).length : Int) = 0 from rfl]
          go_wp2_with fail
          with_reducible refine (dy_sizeT HT4.out).mono ?_
          rintro e w5 ⟨rfl, rfl⟩
          rw [show (tz [] : Int) = 0 from rfl]
          go_wp2_with fail
          with_reducible refine (dy_awake _).mono ?_
          rintro e w6 ⟨rfl, hf6⟩
          have HF6 := Lib.hid (HF0.out.trans (HFR3.out.trans (HF4.out.trans hf6)))
          clear hf6
          go_wp2
          go_ret
          exact ⟨rfl, HF6.out⟩
end
theorem DynNewest_any (lim : Int) (s : OpsV) (f : FldT) (w : World) (_ : -9223372036854775808 ≤ lim ∧ lim ≤ 9223372036854775807) (hs : s.Ok w) (_ : fz f ≤ 1000000000000000) : Calls Try.prog 7 #[.int .i64 lim, s.v, .agg #[.string f.1, .string f.2]] w fun e w' => e = .returned (.bool true) ∧ Below w.heap.size w w' := by
  show Calls _ _ _ _ (LwP w)
  by_cases h : lim < 0 ∨ 65536 < lim ∨ 1000 < f.1.size ∨ 1000 < f.2.size
  · exact newest_long lim s f hs h
  · exact newest_ok lim s f hs (by omega) (by omega) (by omega) (by omega)
end Go.Proofs.Ythjajipagfojoaa
