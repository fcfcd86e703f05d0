/-
  The law DynAll: ahead of the loops.
-/
import Derived.Test.YthjajipagfojoaaDynP
namespace Go.Proofs.Ythjajipagfojoaa
set_option linter.unusedVariables false
set_option linter.unusedSimpArgs false
open Go.RowKit Go.Shelf
attribute [local go_sem] Oper.semAt_some
section
variable {w : World}
set_option maxRecDepth 100000 in
set_option maxHeartbeats 6400000 in
theorem all_any (lim stop : Int) (s m : OpsV) (hs : s.Ok w) (hm : m.Ok w) : Calls Try.prog 5 #[.agg #[.int .i64 lim, s.v, m.v, .int .i64 stop]] w (LwP w) := by
  have HSM := Lib.hid (fun W (hw : Fresh w W) => small_any s W (hs.fresh hw))
  have HMM := Lib.hid (fun W (hw : Fresh w W) => small_any m W (hm.fresh hw))
  have HSO := Lib.hid hs
  have HMO := Lib.hid hm
  obtain ⟨A, c, xs⟩ := s
  obtain ⟨A', c', ys⟩ := m
  obtain ⟨n, hn⟩ : ∃ n, xs.length = n := ⟨_, rfl⟩
  obtain ⟨n', hn'⟩ : ∃ n, ys.length = n := ⟨_, rfl⟩
  have HN := Lib.hid hn
  have HN' := Lib.hid hn'
  have hle := hs.le
  have hmx := hs.max
  have hle' := hm.le
  have hmx' := hm.max
  simp only [maxLen] at hmx hmx'
  simp only [OpsV.v] at HSM HMM hle hmx hle' hmx' ⊢
  rw [hn] at HSM hle ⊢
  rw [hn'] at HMM hle' ⊢
  clear hs hm hn hn'
  refine (callsIn_wide (n := 10)).1 ?_
  refine callsIn_of_wp_marks Try.func5 rfl trivial ?_ rfl
  simp only [Try.ntmps5, List.size_toArray, List.length_cons, List.length_nil, Nat.reduceAdd, Nat.reduceSub, Array.replicate_succ, Array.replicate_zero, List.push_toArray, List.append_toArray, List.nil_append, List.cons_append]
  refine wpIn_wide.2 ?_
  go_upto_region 1 with fail
  refine wp_gen (fun W => Fresh w W ∧ Blk W w.heap.size 46 #[.int .i64 lim, .slice A n c, .slice A' n' c', .int .i64 stop] ∧ Blk W (w.heap.size + 1) 4 #[.bool false]) ⟨(Fresh.alloc _ _).allocS _, (Blk.new _ _ _).alloc _, Blk.mkAt (by simp)⟩ ?_
  rintro W ⟨hf0, hz0, hb0⟩
  have HF0 := Lib.hid hf0
  have HB0 := Lib.hid hb0
  have hzs := hz0.lt
  have hbs := hb0.lt
  have HSK : Hid (∀ w', Fresh W w' → w'.cell? ⟨w.heap.size, 0, none⟩ = some (.int .i64 lim) ∧ w'.cell? ⟨w.heap.size, 1, none⟩ = some (.slice A n c) ∧ w'.cell? ⟨w.heap.size, 2, none⟩ = some (.slice A' n' c') ∧ w'.cell? ⟨w.heap.size, 3, none⟩ = some (.int .i64 stop) ∧ Fresh W w') := Lib.hid (fun w' hw => ⟨(hz0.fresh hw).cell 0, (hz0.fresh hw).cell 1, (hz0.fresh hw).cell 2, (hz0.fresh hw).cell 3, hw⟩)
  clear hf0 hz0 hb0
  generalize hz : w.heap.size = bz at *
  go_region_held3 (fun w' => w'.cell? ⟨bz, 0, none⟩ = some (.int .i64 lim) ∧ w'.cell? ⟨bz, 1, none⟩ = some (.slice A n c) ∧ w'.cell? ⟨bz, 2, none⟩ = some (.slice A' n' c') ∧ w'.cell? ⟨bz, 3, none⟩ = some (.int .i64 stop) ∧ Fresh W w')
    ((refine HSK.out _ ?_; repeat (first | with_reducible assumption | with_reducible exact Fresh.refl _ | with_reducible apply Fresh.drewS | with_reducible apply Fresh.allocS | (with_reducible refine Fresh.step2 ?_ ?_; focus first | exact Nat.le_refl _ | simp))))
    (fail)
  all_goals
    obtain ⟨b2, hb2⟩ : ∃ b, bz + 1 = b := ⟨_, rfl⟩
    obtain ⟨b6, hb6⟩ : ∃ b, W.heap.size = b := ⟨_, rfl⟩
    refine wx_gen (BxA w b2 b6 stop) ⟨by rw [← hb2]; exact (HB0.out.alloc _).drew, by rw [← hb6]; exact (Blk.new _ _ _).drew, by omega, (HF0.out.allocS _).drewS⟩ ?_
    rw [hb2, hb6]
    have hz6 : bz < b6 ∧ b2 < b6 := by omega
    have HZ := Lib.hid hz
    clear HSK HB0 HF0 hz hb2 hb6
    intro W1 hx1
    have HX1 := Lib.hid hx1
    have hw1 : Fresh w W1 := hx1.fr
    clear hx1 hzs hbs
    go_wp2_with fail
    with_reducible refine (HSM.out _ hw1).mono ?_
    rintro e w1 ⟨r, rfl, hf1⟩
    have HX2 := Lib.hid (HX1.out.fresh hf1)
    clear hf1 hw1
    cases r
    · go_wp2_with fail
      with_reducible refine (dy_awake _).mono ?_
      rintro e wa ⟨rfl, hfa⟩
      have HXA := Lib.hid (HX2.out.fresh hfa)
      clear hfa
      have ca := HXA.out.x2.cell 0
      have qa := HXA.out.x2.frozen 0
      simp at ca
      go_wp2
      refine ⟨.bool true, ?_, rfl, HXA.out.fr.step _ _ HXA.out.h2⟩
      simp [results, Try.f5, go_sem, ca, qa]
    · have hw2 : Fresh w w1 := HX2.out.fr
      go_wp2_with fail
      with_reducible refine (HMM.out _ hw2).mono ?_
      rintro e w2 ⟨r, rfl, hf2⟩
      have HX3 := Lib.hid (HX2.out.fresh hf2)
      clear hf2 hw2
      cases r
      · go_wp2_with fail
        with_reducible refine (dy_awake _).mono ?_
        rintro e wa ⟨rfl, hfa⟩
        have HXA := Lib.hid (HX3.out.fresh hfa)
        clear hfa
        have ca := HXA.out.x2.cell 0
        have qa := HXA.out.x2.frozen 0
        simp at ca
        go_wp2
        refine ⟨.bool true, ?_, rfl, HXA.out.fr.step _ _ HXA.out.h2⟩
        simp [results, Try.f5, go_sem, ca, qa]
      · by_cases h0 : lim < 0
        · go_wp2_with fail
          with_reducible refine (dy_awake _).mono ?_
          rintro e wa ⟨rfl, hfa⟩
          have HXA := Lib.hid (HX3.out.fresh hfa)
          clear hfa
          have ca := HXA.out.x2.cell 0
          have qa := HXA.out.x2.frozen 0
          simp at ca
          go_wp2
          refine ⟨.bool true, ?_, rfl, HXA.out.fr.step _ _ HXA.out.h2⟩
          simp [results, Try.f5, go_sem, ca, qa]
        · by_cases h1 : 65536 < lim
          · go_wp2_with fail
            with_reducible refine (dy_awake _).mono ?_
            rintro e wa ⟨rfl, hfa⟩
            have HXA := Lib.hid (HX3.out.fresh hfa)
            clear hfa
            have ca := HXA.out.x2.cell 0
            have qa := HXA.out.x2.frozen 0
            simp at ca
            go_wp2
            refine ⟨.bool true, ?_, rfl, HXA.out.fr.step _ _ HXA.out.h2⟩
            simp [results, Try.f5, go_sem, ca, qa]
          · have hw3 : Fresh w w2 := HX3.out.fr
            go_wp2_with fail
            with_reducible refine (sd_new lim (by omega) (by omega) w2 _ (Fresh.refl _)).mono ?_
            rintro e w3 ⟨p, rfl, hs⟩
            have HS := Lib.hid hs
            have HX4 := Lib.hid (HX3.out.fresh hs.fr)
            clear hs hw3 h0 h1
            go_wp2_with fail
            obtain ⟨b9, hb9⟩ : ∃ b, w3.heap.size = b := ⟨_, rfl⟩
            refine wp_gen (fun W4 => Sd w2 W4 p (.slice none 0 0) none 0 [] lim ∧ Blk W4 b9 29 #[.slice none 0 0]) ⟨HS.out.fresh (Fresh.alloc _ _), by rw [← hb9]; exact Blk.new _ _ _⟩ ?_
            rintro W4 ⟨hs4, hb4⟩
            have h9 : w2.heap.size ≤ b9 := by have := HS.out.fr.size; omega
            rw [hb9]
            have HS4 := Lib.hid (And.intro hs4 hb4)
            clear hs4 hb4 hb9
            go_loopw [3, 58] (fun l i wr => ∃ (k : Nat) (v : Value) (A1 : Option Addr) (c1 : Nat) (fs : List FldT) (lm : Int), k ≤ n ∧ i = .int .i64 (k : Int) ∧ l = .int .i64 lm ∧ Sd w2 wr p v A1 c1 fs lm ∧ Blk wr b9 29 #[.slice A1 fs.length c1]) (fun _ i _ => n - (intOf i).toNat)
            case atStart => exact ⟨0, _, none, 0, [], lim, by omega, rfl, rfl, HS4.out.1, HS4.out.2⟩
            case round =>
              obtain ⟨k, v, A1, c1, fs, lm, hk, rfl, rfl, hs, hb⟩ := hrel
              have HSD := Lib.hid hs
              have HB9 := Lib.hid hb
              by_cases hlt : k < n
              · have hlt' : (k : Int) < (n : Int) := by omega
                obtain ⟨x, hxk⟩ : ∃ x, xs[k]? = some x := ⟨_, List.getElem?_eq_getElem (by rw [HN.out]; exact hlt)⟩
                have hx1 := (HSO.out.ok x (List.mem_of_getElem? hxk)).f1
                obtain ⟨b, o, hA, hbb, y0, y1, y2, y3⟩ := (HSO.out.rows.fresh (HX3.out.fr.trans hs.fr)).at4 k x hxk
                simp only at hA
                subst hA
                have HST := Lib.hid (fun W2 (hw : Fresh wr W2) => sd_stepO x (HSD.out.fresh hw) hx1)
                obtain ⟨xk, xn, xf, xg⟩ := x
                simp only at y0 y1 y2 y3 HST
                clear hs hb hxk hx1
                generalize hfs : (stepF fs lm ⟨xk, xn, (xf, xg)⟩).1 = fs2 at HST
                generalize hlm : (stepF fs lm ⟨xk, xn, (xf, xg)⟩).2 = lm2 at HST
                clear hfs hlm
                go_upto_region 11 with fail
                refine wp_gen (fun W2 => Fresh wr W2 ∧ Blk W2 wr.heap.size 33 #[.int .i64 xk, .int .i64 xn, .string xf, .string xg]) ⟨Fresh.alloc _ _, Blk.new _ _ _⟩ ?_
                rintro W2 ⟨hfW, hbW⟩
                have c0 := hbW.cell 0
                have c1' := hbW.cell 1
                have c2 := hbW.cell 2
                have c3 := hbW.cell 3
                have c9 := (HB9.out.fresh hfW).cell 0
                have HB92 := Lib.hid (HB9.out.fresh hfW)
                have HX := Lib.hid (HST.out _ hfW)
                clear hfW hbW y0 y1 y2 y3 hbb HST
                simp at c0 c1' c2 c3 c9
                generalize fs.length = nf at *
                go_wp2_with fail
                with_reducible refine HX.out.mono ?_
                rintro e w5 ⟨A3, c3', v3, rfl, hs3, hkp⟩
                have hb5 := hkp _ _ _ (by decide) (by decide) HB92.out
                have c9 := hb5.cell 0
                have q9 := hb5.frozen 0
                simp at c9
                have HS5 := Lib.hid (And.intro hs3 hb5)
                clear hs3 hkp hb5 c0 c1' c2 c3 HX
                go_wp2_with fail
                go_roundw
                case rel => exact ⟨k + 1, v3, A3, c3', fs2, lm2, by omega, by go_num, rfl, HS5.out.1.box HS5.out.2 h9 _, HS5.out.2.put0 _⟩
                case measure => simp [intOf]; omega
              · obtain rfl : k = n := by omega
                have hnlt : ¬ (k : Int) < (k : Int) := by omega
                have HCP := Lib.hid (dy_copy w2.heap.size p v fs lm wr hs.sd.tab hs.sd.hb (by have := hs.sd.len; omega))
                have hlen1 := hs.sd.len
                obtain ⟨nf, hnf⟩ : ∃ nf, fs.length = nf := ⟨_, rfl⟩
                have HNF := Lib.hid hnf
                have c9 := hb.cell 0
                simp at c9
                rw [hnf] at c9 hlen1
                clear hs hb hnf
                go_wp2_with fail
                with_reducible refine HCP.out.mono ?_
                rintro e w5 ⟨p2, v2, rfl, ht2, hf2, hp2, hv2⟩
                have HF2 := Lib.hid hf2
                have HS2 : Hid (Sd wr w5 p2 v2 A1 c1 fs lm) := Lib.hid ⟨⟨ht2, HSD.out.sd.li.fresh hf2, hf2.size, HSD.out.sd.l0, HSD.out.sd.l1, HSD.out.sd.hz⟩, hp2, hv2, hf2⟩
                have c9' := (HB9.out.fresh hf2).cell 0
                simp at c9'
                rw [HNF.out] at c9'
                clear ht2 hf2 hp2 hv2 c9 HCP
                go_wp2_with fail
                clear c9'
                generalize hwr : wr = w4 at *
                go_loopw [13, 14, 80] (fun y l i w6 => ∃ (j : Nat) (v3 : Value) (A3 : Option Addr) (c3 : Nat) (gs : List FldT) (lm3 : Int), j ≤ n' ∧ i = .int .i64 (j : Int) ∧ l = .int .i64 lm3 ∧ y = .slice A3 gs.length c3 ∧ Sd w4 w6 p2 v3 A3 c3 gs lm3) (fun _ _ i _ => n' - (intOf i).toNat)
                case atStart => exact ⟨0, v2, A1, c1, fs, lm, by omega, rfl, rfl, by rw [HNF.out], HS2.out⟩
                case round =>
                  obtain ⟨j, v3, A3, c3, gs, lm3, hj, rfl, rfl, rfl, hs3⟩ := hrel
                  have HS3 := Lib.hid hs3
                  by_cases hlt2 : j < n'
                  · have hlt2' : (j : Int) < (n' : Int) := by omega
                    obtain ⟨x, hxk⟩ : ∃ x, ys[j]? = some x := ⟨_, List.getElem?_eq_getElem (by rw [HN'.out]; exact hlt2)⟩
                    have hx1 := (HMO.out.ok x (List.mem_of_getElem? hxk)).f1
                    obtain ⟨b, o, hA, hbb, y0, y1, y2, y3⟩ := (HMO.out.rows.fresh ((HX3.out.fr.trans HSD.out.fr).trans hs3.fr)).at4 j x hxk
                    simp only at hA
                    subst hA
                    have HST := Lib.hid (fun W2 (hw : Fresh wr W2) => sd_step x (HS3.out.fresh hw) hx1)
                    obtain ⟨xk, xn, xf, xg⟩ := x
                    simp only at y0 y1 y2 y3 HST
                    clear hs3 hxk hx1
                    generalize hfs : (stepF gs lm3 ⟨xk, xn, (xf, xg)⟩).1 = fs2 at HST
                    generalize hlm : (stepF gs lm3 ⟨xk, xn, (xf, xg)⟩).2 = lm2 at HST
                    clear hfs hlm
                    go_upto_region 20 with fail
                    refine wp_gen (fun W2 => Fresh wr W2 ∧ Blk W2 wr.heap.size 33 #[.int .i64 xk, .int .i64 xn, .string xf, .string xg]) ⟨Fresh.alloc _ _, Blk.new _ _ _⟩ ?_
                    rintro W2 ⟨hfW, hbW⟩
                    have c0 := hbW.cell 0
                    have c1' := hbW.cell 1
                    have c2 := hbW.cell 2
                    have c3' := hbW.cell 3
                    have HX := Lib.hid (HST.out _ hfW)
                    clear hfW hbW y0 y1 y2 y3 hbb HST
                    simp at c0 c1' c2 c3'
                    generalize gs.length = ng at *
                    go_wp2_with fail
                    with_reducible refine HX.out.mono ?_
                    rintro e w5' ⟨A4, c4, v4, rfl, hs4⟩
                    have HS4' := Lib.hid hs4
                    clear hs4 c0 c1' c2 c3' HX
                    go_wp2_with fail
                    go_roundw
                    case rel => exact ⟨j + 1, v4, A4, c4, fs2, lm2, by omega, by go_num, rfl, rfl, HS4'.out⟩
                    case measure => simp [intOf]; omega
                  · obtain rfl : j = n' := by omega
                    have hjn : ¬ (j : Int) < (j : Int) := by omega
                    generalize wr = w6 at *
                    clear hs3
                    go_upto_region 26 with fail
                    have HF64 := Lib.hid HS3.out.fr
                    obtain ⟨b18, hb18⟩ : ∃ b, w6.heap.size = b := ⟨_, rfl⟩
                    refine wp_gen (fun W5 => Fresh w6 W5 ∧ Blk W5 b18 3 #[.int .i64 0]) ⟨Fresh.alloc _ _, by rw [← hb18]; exact Blk.new _ _ _⟩ ?_
                    rintro W5 ⟨hf5, hb5⟩
                    have HF5 := Lib.hid hf5
                    have HB5 := Lib.hid hb5
                    rw [hb18]
                    clear hf5 hb5
                    go_wp2_with fail
                    with_reducible refine (tab_all p _).mono ?_
                    rintro e w7 ⟨q, rfl, hq, hql, hf7⟩
                    have HQ := Lib.hid hq
                    have HF7 : Hid (Fresh w4 w7) := Lib.hid (HF64.out.trans (HF5.out.trans hf7))
                    have HB18 := Lib.hid (HB5.out.fresh hf7)
                    have HS7 := Lib.hid (HS3.out.fresh (HF5.out.trans hf7))
                    have hq18 : b18 < w7.heap.size := HB18.out.lt
                    have hql' : b18 < q := by have := HB5.out.lt; omega
                    have HBE := Lib.hid hb18
                    clear hq hql hf7 hjn hb18
                    go_wp2_with fail
                    refine (wpIn_wide (n := 10)).1 ?_
                    obtain ⟨N7, hN7⟩ : ∃ n, fs.length = n := ⟨_, rfl⟩
                    have HX7 := Lib.hid (HX3.out.fresh (HSD.out.fr.trans HF7.out))
                    have HS71 := Lib.hid (HSD.out.sd.fresh HF7.out)
                    have HS72 : Hid (Side w7 w4.heap.size p2 v3 A3 c3 gs lm3) := Lib.hid HS7.out.sd
                    have HT18 := HB18
                    have HT2 := Lib.hid HX7.out.x2
                    have H97 : Hid (Blk w7 b9 29 #[.slice A1 nf c1]) := Lib.hid (by have := HB9.out.fresh HF7.out; rw [HNF.out] at this; exact this)
                    have hb2l : b2 < w2.heap.size := HX3.out.x2.lt
                    have hb6l : b6 < w2.heap.size := HX3.out.x6.lt
                    have h218 : w2.heap.size ≤ b18 := by have := HSD.out.fr.size; have := HF64.out.size; have := HBE.out; omega
                    have hnq : q ≠ b18 ∧ q ≠ b2 := ⟨by omega, by omega⟩
                    have hpT : p ≠ b18 ∧ p ≠ b2 := ⟨HS71.out.tab.blk.ne HT18.out (by decide), HS71.out.tab.blk.ne HT2.out (by decide)⟩
                    have hvT : ∀ k, v.ownBlock = some k → ¬ (k = b18 ∨ k = b2) := fun k hk => by
                      obtain ⟨cur, hc⟩ := ownBlkD HS71.out.tab.own hk
                      rintro (e | e)
                      · exact hc.ne HT18.out (by decide) e
                      · exact hc.ne HT2.out (by decide) e
                    refine wpIn_rangeFunc_T rfl (by omega) (gf := 30) (lb := #[.pointer (some ⟨q, 0, none⟩)]) rfl trivial (enters_of Try.func30 (by kernel_rfl) rfl)
                      (tab_seq 9 w2.heap.size p q v fs lm (fun k => k = b18 ∨ k = b2) w7 (by omega) (by have := HS71.out.len; omega) HQ.out HS71.out.tab (by omega) (by omega) hvT (by omega))
                      (by omega) (fun _ => rfl)
                      (fun pre W => Only (fun k => k = b18 ∨ k = b2) w7 W ∧ Blk W b18 3 #[.int .i64 (pre.length : Int)] ∧ Blk W b2 4 #[.bool false] ∧ pre = fs.reverse.take pre.length)
                      (fun cc pre W => (cc = .ret ∧ pre ≠ fs.reverse.take pre.length) ∨ (cc = .exit 4 ∧ Only (fun k => k = b18 ∨ k = b2) w7 W ∧ Blk W b18 3 #[.int .i64 stop] ∧ Blk W b2 4 #[.bool false]))
                      (fun s X Y row hs hg hr => ⟨onlyT_own (β := Unit) (Nat.le_refl _) () X Y row hs.1 hg hr, blk_own (β := Unit) _ _ _ _ () X Y row hs.2.1 hg hr, blk_own (β := Unit) _ _ _ _ () X Y row hs.2.2.1 hg hr, hs.2.2.2⟩)
                      (fun cc s X Y row hs hg hr => by
                        rcases hs with h | ⟨h1, h2, h3, h4⟩
                        · exact .inl h
                        · exact .inr ⟨h1, onlyT_own (β := Unit) (Nat.le_refl _) () X Y row h2 hg hr, blk_own (β := Unit) _ _ _ _ () X Y row h3 hg hr, blk_own (β := Unit) _ _ _ _ () X Y row h4 hg hr⟩)
                      ⟨Only.refl _ _, HT18.out, HT2.out, by simp⟩
                      (fun x a' W => ∃ Bx, b18 < Bx ∧ Blk W Bx 31 #[.string x.1, .string x.2] ∧ a' = { tmps := #[.agg #[.int .i64 lim, .slice A k c, .slice A' j c', .int .i64 stop], .pointer (some ⟨bz, 0, none⟩), .pointer (some ⟨b2, 0, none⟩), .int .i64 lm, .slice A k c, .slice A' j c', .pointer (some ⟨b6, 0, none⟩), .pointer (some ⟨p, 0, none⟩), .int .i64 0, .pointer (some ⟨b9, 0, none⟩), undef, u11, .pointer (some ⟨p2, 0, none⟩), .slice A3 gs.length c3, .int .i64 lm3, undef, u16, u17, .pointer (some ⟨b18, 0, none⟩), .pointer (some ⟨Bx, 0, none⟩), .pointer (some ⟨bz, 0, none⟩), .int .i64 lim, .pointer (some ⟨bz, 1, none⟩), .slice A k c, .pointer (some ⟨bz, 2, none⟩), .slice A' j c', .pointer (some ⟨bz, 3, none⟩), .int .i64 stop, .slice A k c, .bool true, .bool false, .bool false, .slice A' j c', .bool true, .bool false, .bool false, .bool false, .int .i64 lim, .bool (decide (lim < 0)), .bool (decide (lim < 0)), .bool (decide (lim < 0)), .int .i64 lim, .bool (decide (65536 < lim)), .bool (decide (lim < 0) || decide (65536 < lim)), undef, .tuple #[.pointer (some ⟨p, 0, none⟩), .int .i64 0], .int .i64 lim, .tuple #[.pointer (some ⟨p, 0, none⟩), .int .i64 0], .pointer (some ⟨p, 0, none⟩), .int .i64 0, .int .i64 0, .bool false, .bool false, .pointer (some ⟨p, 0, none⟩), .bool false, .bool false, .slice A k c, .int .i64 (k : Int), .int .i64 (k : Int), .bool false, u60, u61, u62, u63, u64, u65, u66, u67, u68, u69, u70, u71, .pointer (some ⟨p, 0, none⟩), .pointer (some ⟨p2, 0, none⟩), .pointer (some ⟨p2, 0, none⟩), .bool false, .slice A1 nf c1, .int .i64 lm, .slice A' j c', .int .i64 (j : Int), .int .i64 (j : Int), .bool false, u82, u83, u84, u85, u86, u87, u88, u89, u90, u91, u92, u93, u94, u95, .pointer (some ⟨p, 0, none⟩), .func (.func 30) #[] #[.pointer (some ⟨q, 0, none⟩)], .agg #[.string x.1, .string x.2], undef, undef, undef, undef, undef, undef, undef, undef, undef, undef, undef, undef, undef, undef, undef, undef, undef, undef, undef, undef, undef, undef, undef, undef, undef, undef, undef, undef, undef, undef, undef, undef, undef, undef, undef, undef, undef, undef, undef, undef, undef, undef], defers := [] })
                      (fun x a' s X Y row hs hg hr => by
                        obtain ⟨Bx, h1, h2, h3⟩ := hs
                        exact ⟨Bx, h1, blk_own (β := Unit) _ _ _ _ () X Y row h2 hg hr, h3⟩)
                      ?assign ?body ?done ?stop
                    case assign =>
                      rintro l2 pre x W K ⟨hO, h18, h2, hp⟩ hK
                      have hlt := h18.lt
                      have HII := Lib.hid (And.intro hO (And.intro h18 (And.intro h2 hp)))
                      clear hO h18 h2 hp
                      dsimp only [encA]
                      gi_wp2
                      obtain ⟨g1, g2, g3, g4⟩ := HII.out
                      exact hK _ _ (Only.of_fresh (Fresh.alloc _ _)) ⟨g1.allocS _, g2.alloc _, g3.alloc _, g4⟩ ⟨W.heap.size, hlt, Blk.new _ _ _, rfl⟩
                    case body =>
                      rintro l2 pre x a' W ⟨hO, h18, h2, hp⟩ ⟨Bx, hBx, hbx, rfl⟩ hlen'
                      obtain ⟨kk, hkk⟩ : ∃ kk, pre.length = kk := ⟨_, rfl⟩
                      rw [hkk] at h18 hp hlen'
                      rw [HNF.out] at hlen'
                      obtain ⟨y, hy⟩ : ∃ y, fs.reverse[kk]? = some y := ⟨_, List.getElem?_eq_getElem (by rw [List.length_reverse, HNF.out]; exact hlen')⟩
                      have hli := (HS71.out.away hO HT18.out HT2.out).li
                      obtain ⟨bx, ox, hA1, hbxl, y0, y1⟩ := hli.rows.at2 kk y hy
                      have h97 := H97.out.only hO (fun e => by
                        rcases e with e | e
                        · exact H97.out.ne HT18.out (by decide) e
                        · exact H97.out.ne HT2.out (by decide) e)
                      have h67 := HX7.out.x6.only hO (fun e => by
                        rcases e with e | e
                        · omega
                        · exact HX7.out.x6.ne HT2.out (by decide) e)
                      subst hA1
                      have HSK : Hid (∀ w', Fresh W w' → w'.cell? ⟨b18, 0, none⟩ = some (.int .i64 (kk : Int)) ∧ w'.cell? ⟨b9, 0, none⟩ = some (.slice (some ⟨bx, ox, none⟩) nf c1) ∧ w'.cell? ⟨Bx, 0, none⟩ = some (.string x.1) ∧ w'.cell? ⟨Bx, 1, none⟩ = some (.string x.2) ∧ w'.cell? ⟨bx, ox + kk * 2, none⟩ = some (.string y.1) ∧ w'.cell? ⟨bx, ox + kk * 2 + 1, none⟩ = some (.string y.2)) := Lib.hid (fun w' hw => ⟨(h18.fresh hw).cell 0, (h97.fresh hw).cell 0, (hbx.fresh hw).cell 0, (hbx.fresh hw).cell 1, (hw.cell (p := ⟨bx, ox + kk * 2, none⟩) hbxl).trans y0, (hw.cell (p := ⟨bx, ox + kk * 2 + 1, none⟩) hbxl).trans y1⟩)
                      have HPR := Lib.hid (And.intro hO (And.intro h18 (And.intro h2 (And.intro hp (And.intro hkk (And.intro hy h67))))))
                      have HC1 : Hid (nf ≤ c1 ∧ c1 ≤ maxLen) := Lib.hid ⟨by have := hli.le; rw [HNF.out] at this; exact this, hli.max⟩
                      have hc1 := HC1.out
                      simp only [maxLen] at hc1
                      have hnf2 : nf ≤ 2048 := hlen1
                      clear hO h18 h2 hp hkk hy hli h97 h67 hbx y0 y1 hbxl
                      have hdf : ∀ ops : Array Oper, (ops.all fun o => match o.op with | .defer _ => false | _ => true) = true → ∀ (i : Nat) (o : Oper), ops[i]? = some o → ∀ c, o.op ≠ .defer c := fun ops h i o ho c e => by
                        have := Array.all_eq_true_iff_forall_mem.1 h o (Array.mem_of_getElem? ho)
                        rw [e] at this
                        cases this
                      have hge : decide ((nf : Int) ≤ (kk : Int)) = false := decide_eq_false (by omega)
                      have hge2 : decide (nf ≤ kk) = false := decide_eq_false (by omega)
                      have hkn0 : (kk : Int) < (nf : Int) := by omega
                      have hadd : (0 : Int) ≤ (kk : Int) := by omega
                      obtain ⟨r0, hr0⟩ : ∃ r, decide (x.1 = y.1 ∧ x.2 = y.2) = r := ⟨_, rfl⟩
                      obtain ⟨rr, hrr⟩ : ∃ r, (!r0) = r := ⟨_, rfl⟩
                      have hE : ∀ W, (Op.equalIn 10000 42 (.agg #[.string x.1, .string x.2]) (.agg #[.string y.1, .string y.2])).run Try.prog W = .ok r0 W := fun W => run_eq_pair _ _ _ _ W r0 hr0
                      have HR0 := Lib.hid (And.intro hr0 hrr)
                      gi_wp2
                      refine wpIn_region_vals (by kernel_rfl) (by kernel_rfl) (by kernel_rfl) (by kernel_rfl) (by kernel_rfl) (hdf _ (by kernel_rfl)) (fun i => ([.int .i64 (kk : Int), .slice (some ⟨bx, ox, none⟩) nf c1, .int .i64 (nf : Int), .bool false, .bool false, .agg #[.string x.1, .string x.2], .agg #[.string x.1, .string x.2], .slice (some ⟨bx, ox, none⟩) nf c1, .int .i64 (kk : Int), .pointer (some ⟨bx, ox + kk * 2, none⟩), .agg #[.string y.1, .string y.2], .bool rr, .bool rr] : List Value).getD i undef) { tmps := #[.agg #[.int .i64 lim, .slice A k c, .slice A' j c', .int .i64 stop], .pointer (some ⟨bz, 0, none⟩), .pointer (some ⟨b2, 0, none⟩), .int .i64 lm, .slice A k c, .slice A' j c', .pointer (some ⟨b6, 0, none⟩), .pointer (some ⟨p, 0, none⟩), .int .i64 0, .pointer (some ⟨b9, 0, none⟩), undef, u11, .pointer (some ⟨p2, 0, none⟩), .slice A3 gs.length c3, .int .i64 lm3, undef, u16, u17, .pointer (some ⟨b18, 0, none⟩), .pointer (some ⟨Bx, 0, none⟩), .pointer (some ⟨bz, 0, none⟩), .int .i64 lim, .pointer (some ⟨bz, 1, none⟩), .slice A k c, .pointer (some ⟨bz, 2, none⟩), .slice A' j c', .pointer (some ⟨bz, 3, none⟩), .int .i64 stop, .slice A k c, .bool true, .bool false, .bool false, .slice A' j c', .bool true, .bool false, .bool false, .bool false, .int .i64 lim, .bool (decide (lim < 0)), .bool (decide (lim < 0)), .bool (decide (lim < 0)), .int .i64 lim, .bool (decide (65536 < lim)), .bool (decide (lim < 0) || decide (65536 < lim)), undef, .tuple #[.pointer (some ⟨p, 0, none⟩), .int .i64 0], .int .i64 lim, .tuple #[.pointer (some ⟨p, 0, none⟩), .int .i64 0], .pointer (some ⟨p, 0, none⟩), .int .i64 0, .int .i64 0, .bool false, .bool false, .pointer (some ⟨p, 0, none⟩), .bool false, .bool false, .slice A k c, .int .i64 (k : Int), .int .i64 (k : Int), .bool false, u60, u61, u62, u63, u64, u65, u66, u67, u68, u69, u70, u71, .pointer (some ⟨p, 0, none⟩), .pointer (some ⟨p2, 0, none⟩), .pointer (some ⟨p2, 0, none⟩), .bool false, .slice (some ⟨bx, ox, none⟩) nf c1, .int .i64 lm, .slice A' j c', .int .i64 (j : Int), .int .i64 (j : Int), .bool false, u82, u83, u84, u85, u86, u87, u88, u89, u90, u91, u92, u93, u94, u95, .pointer (some ⟨p, 0, none⟩), .func (.func 30) #[] #[.pointer (some ⟨q, 0, none⟩)], .agg #[.string x.1, .string x.2], .int .i64 (kk : Int), .slice (some ⟨bx, ox, none⟩) nf c1, .int .i64 (nf : Int), .bool false, .bool false, .agg #[.string x.1, .string x.2], .agg #[.string x.1, .string x.2], .slice (some ⟨bx, ox, none⟩) nf c1, .int .i64 (kk : Int), .pointer (some ⟨bx, ox + kk * 2, none⟩), .agg #[.string y.1, .string y.2], .bool rr, .bool rr, undef, undef, undef, undef, undef, undef, undef, undef, undef, undef, undef, undef, undef, undef, undef, undef, undef, undef, undef, undef, undef, undef, undef, undef, undef, undef, undef, undef, undef], defers := [] } (by kernel_rfl) (fun w2 => Fresh W w2) (Fresh.drew _) ⟨?_, ?_, ?_, ?_, ?_, ?_, ?_, ?_, ?_, ?_, ?_, ?_, ?_, trivial⟩ ?_
                      · refine .inl ⟨by kernel_rfl, ?_⟩
                        as_aux_lemma =>
                          intro w2 hI
                          obtain ⟨c18, c9, x0, x1, y0, y1⟩ := HSK.out _ hI
                          exact .val _ (by simp [execOp, Act.eval, c18, c9, y0, y1, x0, x1, hge, hge2, hE, hkn0, hadd, HR0.out.2, go_sem]) hI
                      · refine .inl ⟨by kernel_rfl, ?_⟩
                        as_aux_lemma =>
                          intro w2 hI
                          obtain ⟨c18, c9, x0, x1, y0, y1⟩ := HSK.out _ hI
                          exact .val _ (by simp [execOp, Act.eval, c18, c9, y0, y1, x0, x1, hge, hge2, hE, hkn0, hadd, HR0.out.2, go_sem]) hI
                      · refine .inl ⟨by kernel_rfl, ?_⟩
                        as_aux_lemma =>
                          intro w2 hI
                          obtain ⟨c18, c9, x0, x1, y0, y1⟩ := HSK.out _ hI
                          exact .val _ (by simp [execOp, Act.eval, c18, c9, y0, y1, x0, x1, hge, hge2, hE, hkn0, hadd, HR0.out.2, go_sem]) hI
                      · refine .inl ⟨by kernel_rfl, ?_⟩
                        as_aux_lemma =>
                          intro w2 hI
                          obtain ⟨c18, c9, x0, x1, y0, y1⟩ := HSK.out _ hI
                          exact .val _ (by simp [execOp, Act.eval, c18, c9, y0, y1, x0, x1, hge, hge2, hE, hkn0, hadd, HR0.out.2, go_sem]) hI
                      · refine .inl ⟨by kernel_rfl, ?_⟩
                        as_aux_lemma =>
                          intro w2 hI
                          obtain ⟨c18, c9, x0, x1, y0, y1⟩ := HSK.out _ hI
                          exact .val _ (by simp [execOp, Act.eval, c18, c9, y0, y1, x0, x1, hge, hge2, hE, hkn0, hadd, HR0.out.2, go_sem]) hI
                      · refine .inl ⟨by kernel_rfl, ?_⟩
                        as_aux_lemma =>
                          intro w2 hI
                          obtain ⟨c18, c9, x0, x1, y0, y1⟩ := HSK.out _ hI
                          exact .val _ (by simp [execOp, Act.eval, c18, c9, y0, y1, x0, x1, hge, hge2, hE, hkn0, hadd, HR0.out.2, go_sem]) hI
                      · refine .inl ⟨by kernel_rfl, ?_⟩
                        as_aux_lemma =>
                          intro w2 hI
                          obtain ⟨c18, c9, x0, x1, y0, y1⟩ := HSK.out _ hI
                          exact .call _ _ _ (by simp [execOp, Act.eval, go_sem]) ((dy_pair x _).mono fun e w3 h => ⟨h.1, hI.trans h.2⟩)
                      · refine .inl ⟨by kernel_rfl, ?_⟩
                        as_aux_lemma =>
                          intro w2 hI
                          obtain ⟨c18, c9, x0, x1, y0, y1⟩ := HSK.out _ hI
                          exact .val _ (by simp [execOp, Act.eval, c18, c9, y0, y1, x0, x1, hge, hge2, hE, hkn0, hadd, HR0.out.2, go_sem]) hI
                      · refine .inl ⟨by kernel_rfl, ?_⟩
                        as_aux_lemma =>
                          intro w2 hI
                          obtain ⟨c18, c9, x0, x1, y0, y1⟩ := HSK.out _ hI
                          exact .val _ (by simp [execOp, Act.eval, c18, c9, y0, y1, x0, x1, hge, hge2, hE, hkn0, hadd, HR0.out.2, go_sem]) hI
                      · refine .inl ⟨by kernel_rfl, ?_⟩
                        as_aux_lemma =>
                          intro w2 hI
                          obtain ⟨c18, c9, x0, x1, y0, y1⟩ := HSK.out _ hI
                          exact .val _ (by simp [execOp, Act.eval, c18, c9, y0, y1, x0, x1, hge, hge2, hE, hkn0, hadd, HR0.out.2, go_sem]) hI
                      · refine .inl ⟨by kernel_rfl, ?_⟩
                        as_aux_lemma =>
                          intro w2 hI
                          obtain ⟨c18, c9, x0, x1, y0, y1⟩ := HSK.out _ hI
                          exact .val _ (by simp [execOp, Act.eval, c18, c9, y0, y1, x0, x1, hge, hge2, hE, hkn0, hadd, HR0.out.2, go_sem]) hI
                      · refine .inl ⟨by kernel_rfl, ?_⟩
                        as_aux_lemma =>
                          intro w2 hI
                          obtain ⟨c18, c9, x0, x1, y0, y1⟩ := HSK.out _ hI
                          exact .val _ (by simp [execOp, Act.eval, c18, c9, y0, y1, x0, x1, hge, hge2, hE, hkn0, hadd, HR0.out.2, go_sem]) hI
                      · refine .inl ⟨by kernel_rfl, ?_⟩
                        as_aux_lemma =>
                          intro w2 hI
                          obtain ⟨c18, c9, x0, x1, y0, y1⟩ := HSK.out _ hI
                          exact .val _ (by simp [execOp, Act.eval, c18, c9, y0, y1, x0, x1, hge, hge2, hE, hkn0, hadd, HR0.out.2, go_sem]) hI
                      intro w2 hI
                      have c18 := (HSK.out _ hI).1
                      have c2 := ((HPR.out.2.2.1).fresh hI).cell 0
                      have q2 := ((HPR.out.2.2.1).fresh hI).frozen 0
                      have q18 := ((HPR.out.2.1).fresh hI).frozen 0
                      have c6 := ((HPR.out.2.2.2.2.2.2).fresh hI).cell 0
                      simp at c2 c6
                      have hwk : IntKind.i64.wrap ((kk : Int) + 1) = (kk : Int) + 1 := by rw [IntKind.wrap_i64]; omega
                      have HI := Lib.hid hI
                      clear hI HSK hE
                      cases r0
                      · obtain ⟨h1, h2⟩ := HR0.out
                        obtain rfl : rr = true := h2.symm
                        have HXY : Hid (x ≠ y) := Lib.hid (fun e => by rw [e] at h1; simp at h1)
                        clear h1 h2
                        gi_wp2
                        obtain ⟨g1, g2, g3, g4, g5, g6, g7⟩ := HPR.out
                        refine ⟨(Only.of_fresh HI.out).trans (on1 (by simp) _), .inl ⟨rfl, fun e => ?_⟩⟩
                        rw [List.length_append, g5] at e
                        rw [show ([x] : List FldT).length = 1 from rfl] at e
                        obtain ⟨hq, hy2⟩ := List.getElem?_eq_some_iff.1 g6
                        rw [List.take_succ_eq_append_getElem hq, hy2] at e
                        have := (List.append_inj' e rfl).2
                        simp at this
                        exact HXY.out this
                      · obtain ⟨h1, h2⟩ := HR0.out
                        obtain rfl : rr = false := h2.symm
                        have HXY : Hid (x = y) := Lib.hid (by simp at h1; exact Prod.ext h1.1 h1.2)
                        clear h1 h2
                        have HT : Hid (pre ++ [x] = fs.reverse.take (kk + 1)) := Lib.hid (by
                          obtain ⟨g1, g2, g3, g4, g5, g6, g7⟩ := HPR.out
                          obtain ⟨hq, hy2⟩ := List.getElem?_eq_some_iff.1 g6
                          rw [List.take_succ_eq_append_getElem hq, hy2, HXY.out, ← g4])
                        have hlk : (pre ++ [x]).length = kk + 1 := by rw [List.length_append, HPR.out.2.2.2.2.1]; rfl
                        have HLK := Lib.hid hlk
                        have HB2 := Lib.hid ((HPR.out.2.2.1).fresh HI.out)
                        have HB18' := Lib.hid ((HPR.out.2.1).fresh HI.out)
                        have HO2 := Lib.hid ((HPR.out.1).freshS HI.out)
                        clear hlk
                        by_cases hst : (kk : Int) + 1 = stop
                        · have hs1 : (((kk : Int) + 1) == stop) = true := by simpa using hst
                          have HST := Lib.hid hst
                          have hb618 : b6 ≠ b18 := by omega
                          clear hst
                          gi_wp2
                          refine ⟨(Only.of_fresh HI.out).trans (on1 (by simp) _), .inr ⟨rfl, HO2.out.trans (on1 (by simp) _), ?_, HB2.out.far (by simp; omega) _⟩⟩
                          rw [← HST.out]
                          exact HB18'.out.put0 _
                        · have hs1 : (((kk : Int) + 1) == stop) = false := by simpa using hst
                          have hb618 : b6 ≠ b18 := by omega
                          clear hst
                          gi_wp2
                          refine ⟨(Only.of_fresh HI.out).trans (on1 (by simp) _), HO2.out.trans (on1 (by simp) _), ?_, HB2.out.far (by simp; omega) _, by rw [HLK.out]; exact HT.out⟩
                          rw [HLK.out]
                          exact HB18'.out.put0 _
                    case done =>
                      rintro D xs2 W hD rfl ⟨hO, h18, h2, _⟩ hK
                      rw [List.length_reverse, HNF.out] at h18
                      have HE : Hid (Blk W b18 3 #[.int .i64 (nf : Int)] ∧ Blk W b9 29 #[.slice A1 nf c1] ∧ Blk W b6 3 #[.int .i64 stop] ∧ Blk W b2 4 #[.bool false]) := Lib.hid ⟨h18, H97.out.only hO (fun e => by
                          rcases e with e | e
                          · exact H97.out.ne HT18.out (by decide) e
                          · exact H97.out.ne HT2.out (by decide) e), HX7.out.x6.only hO (fun e => by
                          rcases e with e | e
                          · omega
                          · exact HX7.out.x6.ne HT2.out (by decide) e), h2⟩
                      have c18 := HE.out.1.cell 0
                      have c9 := HE.out.2.1.cell 0
                      have c6 := HE.out.2.2.1.cell 0
                      simp at c18 c9 c6
                      have HSA := Lib.hid (same_ok (HS71.out.away hO HT18.out HT2.out))
                      rw [HNF.out] at HSA
                      go_wp2_with fail
                      with_reducible refine HSA.out.mono ?_
                      rintro e w9 ⟨rfl, hf9⟩
                      have HF9 := Lib.hid hf9
                      have c18 := (HE.out.1.fresh hf9).cell 0
                      have c9 := (HE.out.2.1.fresh hf9).cell 0
                      have c6 := (HE.out.2.2.1.fresh hf9).cell 0
                      simp at c18 c9 c6
                      clear hf9
                      go_wp2_with fail
                      with_reducible refine (same_ok ((HS72.out.away hO HT18.out HT2.out).fresh HF9.out)).mono ?_
                      rintro e w10 ⟨rfl, hf10⟩
                      have HF10 := Lib.hid (HF9.out.trans hf10)
                      clear hf10 c18 c9 c6
                      go_wp2_with fail
                      with_reducible refine (dy_awake _).mono ?_
                      rintro e w11 ⟨rfl, hf11⟩
                      have HF11 := Lib.hid (HF10.out.trans hf11)
                      have c2 := (HE.out.2.2.2.fresh HF11.out).cell 0
                      have q2 := (HE.out.2.2.2.fresh HF11.out).frozen 0
                      simp at c2
                      clear hf11
                      go_wp2
                      have hDl := (Array.getElem?_eq_some_iff.1 hK).1
                      have hK1 : w11.heap[D]? = some (.deferred (some [])) := (Below.block HF11.out D hDl).trans hK
                      have hb11 := HE.out.2.2.2.fresh HF11.out
                      have hnD : D ≠ b2 := fun e => by
                        rw [e] at hK1
                        rw [show w11.heap[b2]? = _ from hb11] at hK1
                        cases hK1
                      have hK2 : (w11.setCell ⟨b2, 0, none⟩ (.bool true)).heap[D]? = some (.deferred (some [])) := (Below.heap_setCell _ _ _ _ hnD).trans hK1
                      refine ⟨by simp, .inl ⟨_, _, rfl, run_takeDeferred hK2, ?_⟩⟩
                      have c5 := ((hb11.put0 (.bool true)).only (Only.putObj _ D (.deferred none)) (fun e => hnD e.symm)).cell 0
                      simp at c5
                      have hfw : Fresh w W := Below.trans HX7.out.fr (Only.below hO HX7.out.fr.size (fun k e => (or_imp.2 ⟨fun e => (by rw [e]; have := HX3.out.fr.size; omega), fun e => (by rw [e]; exact HX7.out.h2)⟩ : (k = b18 ∨ k = b2) → w.heap.size ≤ k) e))
                      refine ⟨.bool true, ?_, rfl, Below.trans ((hfw.trans HF11.out).setF (by have := HX7.out.h2; simpa using this)) (Only.below (Only.putObj _ _ _) (by have := (hfw.trans HF11.out).size; simpa [World.setCell] using this) (fun k e => by rw [e]; have := HX7.out.fr.size; omega))⟩
                      simp [results, Try.f5, go_sem, c5]
                    case stop =>
                      rintro D cc pre W hD ⟨kz, hkz, rfl⟩ (⟨rfl, hne⟩ | ⟨rfl, hO, h18, h2⟩) hK
                      · exact absurd (by rw [List.length_take, List.length_reverse, Nat.min_eq_left hkz]) hne
                      have HE : Hid (Blk W b18 3 #[.int .i64 stop] ∧ Blk W b9 29 #[.slice A1 nf c1] ∧ Blk W b6 3 #[.int .i64 stop] ∧ Blk W b2 4 #[.bool false]) := Lib.hid ⟨h18, H97.out.only hO (fun e => by
                          rcases e with e | e
                          · exact H97.out.ne HT18.out (by decide) e
                          · exact H97.out.ne HT2.out (by decide) e), HX7.out.x6.only hO (fun e => by
                          rcases e with e | e
                          · omega
                          · exact HX7.out.x6.ne HT2.out (by decide) e), h2⟩
                      have c18 := HE.out.1.cell 0
                      have c9 := HE.out.2.1.cell 0
                      have c6 := HE.out.2.2.1.cell 0
                      simp at c18 c9 c6
                      have HSA := Lib.hid (same_ok (HS71.out.away hO HT18.out HT2.out))
                      rw [HNF.out] at HSA
                      refine wpIn_wide.2 ?_
                      have m0 : (stop == stop) = true := by simp
                      by_cases hsn : stop = (nf : Int)
                      · have m1 : (stop == (nf : Int)) = true := by simpa using hsn
                        clear hsn
                        go_wp2_with fail
                        with_reducible refine HSA.out.mono ?_
                        rintro e w9 ⟨rfl, hf9⟩
                        have HF9 := Lib.hid hf9
                        have c18 := (HE.out.1.fresh hf9).cell 0
                        have c9 := (HE.out.2.1.fresh hf9).cell 0
                        have c6 := (HE.out.2.2.1.fresh hf9).cell 0
                        simp at c18 c9 c6
                        clear hf9
                        go_wp2_with fail
                        with_reducible refine (same_ok ((HS72.out.away hO HT18.out HT2.out).fresh HF9.out)).mono ?_
                        rintro e w10 ⟨rfl, hf10⟩
                        have HF10 := Lib.hid (HF9.out.trans hf10)
                        clear hf10 c18 c9 c6
                        go_wp2_with fail
                        with_reducible refine (dy_awake _).mono ?_
                        rintro e w11 ⟨rfl, hf11⟩
                        have HF11 := Lib.hid (HF10.out.trans hf11)
                        have c2 := (HE.out.2.2.2.fresh HF11.out).cell 0
                        have q2 := (HE.out.2.2.2.fresh HF11.out).frozen 0
                        simp at c2
                        clear hf11
                        go_wp2
                        have hDl := (Array.getElem?_eq_some_iff.1 hK).1
                        have hK1 : w11.heap[D]? = some (.deferred (some [])) := (Below.block HF11.out D hDl).trans hK
                        have hb11 := HE.out.2.2.2.fresh HF11.out
                        have hnD : D ≠ b2 := fun e => by
                          rw [e] at hK1
                          rw [show w11.heap[b2]? = _ from hb11] at hK1
                          cases hK1
                        have hK2 : (w11.setCell ⟨b2, 0, none⟩ (.bool true)).heap[D]? = some (.deferred (some [])) := (Below.heap_setCell _ _ _ _ hnD).trans hK1
                        refine ⟨by simp, .inl ⟨_, _, rfl, run_takeDeferred hK2, ?_⟩⟩
                        have c5 := ((hb11.put0 (.bool true)).only (Only.putObj _ D (.deferred none)) (fun e => hnD e.symm)).cell 0
                        simp at c5
                        have hfw : Fresh w W := Below.trans HX7.out.fr (Only.below hO HX7.out.fr.size (fun k e => (or_imp.2 ⟨fun e => (by rw [e]; have := HX3.out.fr.size; omega), fun e => (by rw [e]; exact HX7.out.h2)⟩ : (k = b18 ∨ k = b2) → w.heap.size ≤ k) e))
                        refine ⟨.bool true, ?_, rfl, Below.trans ((hfw.trans HF11.out).setF (by have := HX7.out.h2; simpa using this)) (Only.below (Only.putObj _ _ _) (by have := (hfw.trans HF11.out).size; simpa [World.setCell] using this) (fun k e => by rw [e]; have := HX7.out.fr.size; omega))⟩
                        simp [results, Try.f5, go_sem, c5]
                      · have m1 : (stop == (nf : Int)) = false := by simpa using hsn
                        clear hsn
                        go_wp2_with fail
                        with_reducible refine HSA.out.mono ?_
                        rintro e w9 ⟨rfl, hf9⟩
                        have HF9 := Lib.hid hf9
                        have c18 := (HE.out.1.fresh hf9).cell 0
                        have c9 := (HE.out.2.1.fresh hf9).cell 0
                        have c6 := (HE.out.2.2.1.fresh hf9).cell 0
                        simp at c18 c9 c6
                        clear hf9
                        go_wp2_with fail
                        with_reducible refine (same_ok ((HS72.out.away hO HT18.out HT2.out).fresh HF9.out)).mono ?_
                        rintro e w10 ⟨rfl, hf10⟩
                        have HF10 := Lib.hid (HF9.out.trans hf10)
                        clear hf10 c18 c9 c6
                        go_wp2_with fail
                        with_reducible refine (dy_awake _).mono ?_
                        rintro e w11 ⟨rfl, hf11⟩
                        have HF11 := Lib.hid (HF10.out.trans hf11)
                        have c2 := (HE.out.2.2.2.fresh HF11.out).cell 0
                        have q2 := (HE.out.2.2.2.fresh HF11.out).frozen 0
                        simp at c2
                        clear hf11
                        go_wp2
                        have hDl := (Array.getElem?_eq_some_iff.1 hK).1
                        have hK1 : w11.heap[D]? = some (.deferred (some [])) := (Below.block HF11.out D hDl).trans hK
                        have hb11 := HE.out.2.2.2.fresh HF11.out
                        have hnD : D ≠ b2 := fun e => by
                          rw [e] at hK1
                          rw [show w11.heap[b2]? = _ from hb11] at hK1
                          cases hK1
                        have hK2 : (w11.setCell ⟨b2, 0, none⟩ (.bool true)).heap[D]? = some (.deferred (some [])) := (Below.heap_setCell _ _ _ _ hnD).trans hK1
                        refine ⟨by simp, .inl ⟨_, _, rfl, run_takeDeferred hK2, ?_⟩⟩
                        have c5 := ((hb11.put0 (.bool true)).only (Only.putObj _ D (.deferred none)) (fun e => hnD e.symm)).cell 0
                        simp at c5
                        have hfw : Fresh w W := Below.trans HX7.out.fr (Only.below hO HX7.out.fr.size (fun k e => (or_imp.2 ⟨fun e => (by rw [e]; have := HX3.out.fr.size; omega), fun e => (by rw [e]; exact HX7.out.h2)⟩ : (k = b18 ∨ k = b2) → w.heap.size ≤ k) e))
                        refine ⟨.bool true, ?_, rfl, Below.trans ((hfw.trans HF11.out).setF (by have := HX7.out.h2; simpa using this)) (Only.below (Only.putObj _ _ _) (by have := (hfw.trans HF11.out).size; simpa [World.setCell] using this) (fun k e => by rw [e]; have := HX7.out.fr.size; omega))⟩
                        simp [results, Try.f5, go_sem, c5]
end
theorem DynAll_any (z : AllA) (w : World) (hz : z.Ok w) : Calls Try.prog 5 #[z.v] w fun e w' => e = .returned (.bool true) ∧ Below w.heap.size w w' := by
  show Calls _ _ _ _ (LwP w)
  exact all_any z.lim z.stop z.ops z.more hz.ops hz.more
end Go.Proofs.Ythjajipagfojoaa
