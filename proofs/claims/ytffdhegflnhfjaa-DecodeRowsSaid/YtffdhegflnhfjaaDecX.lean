/-
  The law DecodeBounds.
-/
import Derived.Test.YtffdhegflnhfjaaDecK3
namespace Go.Proofs.Ytffdhegflnhfjaa
set_option maxRecDepth 100000
set_option linter.unusedVariables false
set_option linter.unusedSimpArgs false
open Go.RowKit
def Bd7P (w : World) (e : Ending) (w' : World) : Prop := e = .returned (.bool true) ∧ Fresh w w'
theorem bd_nums {fs : List FldT} {k n : Nat} {f : FldT} {bound : Int} (hk : fs[k]? = some f) (hn : fs.length = n) (hs : (tz fs : Int) ≤ bound) (hb : bound ≤ 16384) : (k : Int) < (n : Int) ∧ k < n ∧ IntKind.i64.wrap ((k : Int) + 1) = (k : Int) + 1 ∧ fz f ≤ 4503599627370496 ∧ IntKind.i64.wrap ((tz (fs.take k) : Int) + (fz f : Int)) = (tz (fs.take (k + 1)) : Int) := by
  have h1 := (List.getElem?_eq_some_iff.1 hk).1
  have h2 := tz_take fs k f hk
  have h3 := tz_take_le fs (k + 1)
  have h4 := tz_lenD fs
  have h5 : fz f ≤ tz (fs.take (k + 1)) := by omega
  refine ⟨by omega, by omega, IntWalk.i64_in _ (by omega), by omega, ?_⟩
  rw [show (tz (fs.take k) : Int) + (fz f : Int) = (tz (fs.take (k + 1)) : Int) by omega]
  exact IntWalk.i64_in _ (by omega)
set_option maxHeartbeats 6400000 in
theorem DecodeBounds_any (z : Case7) (w : World) (hz : z.Ok w) : Calls Try.prog 4 #[z.v] w fun e w' => e = .returned (.bool true) ∧ Below w.heap.size w w' := by
  show Calls _ _ _ _ (Bd7P w)
  have HW := Lib.hid de_awake
  have HRT := Lib.hid (fun W (hf : Fresh w W) => l7_right z W ⟨hz.m0, hz.m1, hz.b0, hz.b1, ⟨hz.bs.le, hz.bs.max, hz.bs.rows.fresh hf, fun x hx => (hz.bs.ok x hx).fresh hf⟩⟩)
  have HROW := Lib.hid hz.bs.rows
  have HOK := Lib.hid hz.bs.ok
  obtain ⟨most, bound, A, c, xs⟩ := z
  simp only [Case7.v] at *
  clear hz
  have HSM : Hid (Case7.Small ⟨most, bound, ⟨A, c, xs⟩⟩ → 0 ≤ most ∧ most ≤ 65536 ∧ 0 ≤ bound ∧ bound ≤ 16384 ∧ xs.length ≤ 120 ∧ ∀ b ∈ xs, b.l.length ≤ 600) := Lib.hid (fun h => ⟨h.m0, h.m1, h.b0, h.b1, h.n, h.l⟩)
  have HFIN : Hid (∀ W, Fresh w W → Bd7P w (.returned (.bool true)) W) := Lib.hid (fun W h => ⟨rfl, h⟩)
  obtain ⟨n, hn⟩ : ∃ n, xs.length = n := ⟨_, rfl⟩
  have HN := Lib.hid hn
  rw [hn] at HRT HSM ⊢
  clear hn
  generalize Bd7P w = PP at *
  go_enter Try.func4, Try.ntmps4
  go_upto_region 1 with fail
  refine wp_gen (fun W => Blk W w.heap.size 24 #[.int .i64 most, .int .i64 bound, .slice A n c] ∧ Fresh w W) ⟨Blk.new _ _ _, Fresh.alloc _ _⟩ ?_
  rintro W1 ⟨hb1, hf1⟩
  have HB1 := Lib.hid hb1
  have HF1 := Lib.hid hf1
  obtain ⟨c0, c1, c2⟩ := hb1.c3
  have HZB : Hid (w.heap.size ≤ w.heap.size) := Lib.hid (Nat.le_refl _)
  obtain ⟨zb, hzb⟩ : ∃ zb, w.heap.size = zb := ⟨_, rfl⟩
  have HZ0 : Hid (w.heap.size = zb) := Lib.hid hzb
  rw [hzb] at HB1 c0 c1 c2 ⊢
  clear hb1 hf1 hzb HZB
  go_wp2_with fail
  with_reducible refine (HRT.out _ HF1.out).mono ?_
  rintro e w2 ⟨r, rfl, hr, hf2⟩
  have HR := Lib.hid hr
  have HF2 := Lib.hid (HF1.out.trans hf2)
  have HB2 := Lib.hid (HB1.out.fresh hf2)
  clear hr hf2 c0 c1 c2 HRT
  cases r with
  | false =>
    go_wp2_with fail
    with_reducible refine (HW.out _).mono ?_
    rintro e w3 ⟨rfl, hf3⟩
    have HF3 := Lib.hid (HF2.out.trans hf3)
    clear hf3
    go_wp2
    exact HFIN.out _ HF3.out
  | true =>
    obtain ⟨m0, m1, b0, b1, n1, l1⟩ := HSM.out (HR.out rfl)
    have HL1 := Lib.hid l1
    have HNW := Lib.hid (s7_new most bound m0 m1 b0 b1 w w2 HF2.out)
    have HMM := Lib.hid (And.intro m0 (And.intro m1 (And.intro b0 b1)))
    clear l1 HSM HR m0 m1 b0 b1
    obtain ⟨c0, c1, c2⟩ := HB2.out.c3
    go_wp2_with fail
    with_reducible refine HNW.out.mono ?_
    rintro e w3 ⟨d, p, rfl, hs3, hf3⟩
    have HS3 := Lib.hid hs3
    have HB3 := Lib.hid (HB2.out.fresh hf3)
    clear hs3 hf3 c0 c1 c2 HNW
    obtain ⟨c0, c1, c2⟩ := HB3.out.c3
    go_wp2_with fail
    clear c0 c1 c2
    go_loopw [34] (fun i wr => ∃ (k : Nat) (v : Value) (fs : List FldT) (lm : Int) (dead : Bool), k ≤ n ∧ i = .int .i64 (k : Int) ∧ S7 w wr d p v fs lm most bound dead ∧ Blk wr zb 24 #[.int .i64 most, .int .i64 bound, .slice A n c]) (fun i _ => n - (intOf i).toNat)
    case atStart => exact ⟨0, _, [], most, false, Nat.zero_le _, rfl, HS3.out, HB3.out⟩
    case round =>
      obtain ⟨k, v, fs, lm, dead, hk, rfl, hs, hbz⟩ := hrel
      have HS := Lib.hid hs
      have HBZ := Lib.hid hbz
      clear hs hbz HS3 HB3
      by_cases hlt : k < n
      · have hlt' : (k : Int) < (n : Int) := by omega
        obtain ⟨b, hbk⟩ : ∃ b, xs[k]? = some b := ⟨_, List.getElem?_eq_getElem (by rw [HN.out]; exact hlt)⟩
        have hok := HOK.out b (List.mem_of_getElem? hbk)
        have hb600 := HL1.out b (List.mem_of_getElem? hbk)
        obtain ⟨g, o, rfl, hgb, hgc⟩ := HROW.out.one k b hbk
        have hgc := HS.out.fr.cell (p := ⟨g, o + k, none⟩) hgb ▸ hgc
        simp only [BSl.cells, List.getElem?_cons_zero] at hgc
        have HDE := Lib.hid (s7_decode HS.out b hok (by omega))
        have hinv := rd7_inv HS.out b.l
        generalize rd7 most bound dead fs lm b.l = R at *
        obtain ⟨er, out, gs, lm2⟩ := R
        have HINV := Lib.hid hinv
        have HLEN : Hid (out.length ≤ 1000000) := Lib.hid (by
          have h1 := hinv.sum
          have h2 := tz_lenD (out.map (·.1))
          have h3 := HMM.out.2.2.2
          rw [List.length_map] at h2
          simp only at h1
          omega)
        clear hinv hok hb600 hbk hgb
        obtain ⟨bA, bc, bl⟩ := b
        simp only at hgc HDE
        generalize bl.length = bn at *
        go_wp2_with fail
        with_reducible refine HDE.out.mono ?_
        rintro e w5 ⟨A1, c1, v', rfl, hl5, hs5, hf5⟩
        simp only at hl5 hs5
        have HL5 := Lib.hid hl5
        have HS5 := Lib.hid hs5
        have HBZ5 := Lib.hid (hf5.blk HBZ.out (by decide) (by decide) (by decide))
        clear hl5 hs5 hf5 hgc HDE
        simp only
        have HFL := Lib.hid (fun W (hf : Fresh w5 W) => de_fields A1 c1 out W (HL5.out.rows.fresh hf) HLEN.out)
        unfold FldsP at HFL
        obtain ⟨m, hm⟩ : ∃ m, out.length = m := ⟨_, rfl⟩
        have HM := Lib.hid hm
        rw [hm] at HFL ⊢
        clear hm
        go_wp2_with fail
        with_reducible refine (HFL.out _ (Fresh.refl _)).mono ?_
        rintro e w6 ⟨fp, rfl, hfp, hmf, hf6⟩
        have HMF := Lib.hid hmf
        have HF6 := Lib.hid hf6
        have HML : Hid ((out.map (·.1)).length = m) := Lib.hid (by rw [List.length_map, HM.out])
        have HSUM : Hid ((tz (out.map (·.1)) : Int) ≤ bound) := Lib.hid HINV.out.sum
        clear hfp hmf hf6
        generalize out.map (·.1) = ff at *
        go_wp2_with fail
        go_loopw [9, 47] (fun s i wr => ∃ j : Nat, j ≤ m ∧ i = .int .i64 (j : Int) ∧ s = .int .i64 (tz (ff.take j) : Int) ∧ Fresh w6 wr) (fun s i _ => m - (intOf i).toNat)
        case atStart => exact ⟨0, Nat.zero_le _, rfl, rfl, Fresh.refl _⟩
        case round =>
          obtain ⟨j, hj, rfl, rfl, hf⟩ := hrel
          have HF := Lib.hid hf
          clear hf
          by_cases hjl : j < m
          · obtain ⟨f, hfj⟩ : ∃ f, ff[j]? = some f := ⟨_, List.getElem?_eq_getElem (by rw [HML.out]; exact hjl)⟩
            obtain ⟨hj1, _, hj2, hj3, hj4⟩ := bd_nums hfj HML.out HSUM.out HMM.out.2.2.2
            obtain ⟨q, o', hq, hqb, hq0, hq1⟩ := HMF.out.atD2 j f hfj
            injection hq with hq
            injection hq with hq2 hq3
            subst hq2 hq3
            rw [Nat.zero_add] at hq0 hq1
            have hq0 := (HF.out.cell (p := ⟨fp, j * 2, none⟩) hqb).trans hq0
            have hq1 := (HF.out.cell (p := ⟨fp, j * 2 + 1, none⟩) hqb).trans hq1
            have HSZ := Lib.hid (fun W => dy_size f W hj3)
            obtain ⟨F1, F2⟩ := f
            simp only at hq0 hq1 HSZ
            clear hfj hj3 hqb
            generalize fz (F1, F2) = zf at *
            generalize tz (ff.take j) = t0 at *
            generalize ht1 : tz (ff.take (j + 1)) = t1 at *
            go_upto_region 14 with fail
            refine wp_gen (fun W => Blk W wr.heap.size 46 #[.string F1, .string F2] ∧ Fresh wr W) ⟨Blk.new _ _ _, Fresh.alloc _ _⟩ ?_
            rintro W7 ⟨hb7, hf7⟩
            obtain ⟨x0, x1⟩ := hb7.c2
            have HF7 := Lib.hid (HF.out.trans hf7)
            clear hb7 hf7 hq0 hq1
            go_wp2_with fail
            with_reducible refine (HSZ.out _).mono ?_
            rintro e w8 ⟨rfl, hf8⟩
            have HF8 := Lib.hid (HF7.out.trans hf8)
            clear hf8
            go_wp2
            exact ⟨⟨j + 1, by omega, by go_num, by rw [ht1], HF8.out⟩, by simp [intOf]; omega⟩
          · obtain rfl : j = m := by omega
            have hnj : ¬ (j : Int) < (j : Int) := by omega
            have HFX := Lib.hid (HF6.out.trans HF.out)
            have HS8 := Lib.hid (HS5.out.fresh HFX.out)
            have HB8 := Lib.hid (HBZ5.out.fresh HFX.out)
            have HTB := Lib.hid (de_table w.heap.size d p v' gs lm2 most bound _ wr HS8.out.dec HS8.out.fr.size HS8.out.len)
            unfold CpyP at HTB
            have hsum : ¬ bound < (tz (ff.take j) : Int) := by
              rw [List.take_of_length_le (by rw [HML.out]; exact Nat.le_refl _)]
              have := HSUM.out
              omega
            have hlm : ¬ most < lm2 := by have := HINV.out.l1; simp only at this; omega
            have htz : ¬ lm2 < (tz gs : Int) := by have := HINV.out.tz; simp only at this; omega
            generalize tz (ff.take j) = tf at *
            obtain ⟨tg, htg⟩ : ∃ tg, tz gs = tg := ⟨_, rfl⟩
            have HTG := Lib.hid htg
            rw [htg] at htz
            have hd1 : decide (most < lm2) = false := decide_eq_false hlm
            have hd2 : decide (lm2 < (tg : Int)) = false := decide_eq_false htz
            have hd3 : decide (bound < (tf : Int)) = false := decide_eq_false hsum
            clear htg
            go_wp2_with fail
            with_reducible refine HTB.out.mono ?_
            rintro e w9 ⟨p9, v9, rfl, ht9, hf9, _, _⟩
            have HT9 := Lib.hid ht9
            have HS9 := Lib.hid (HS8.out.fresh hf9)
            have HB9 := Lib.hid (HB8.out.fresh hf9)
            have HF9 := Lib.hid (HFX.out.trans hf9)
            clear ht9 hf9 HTB
            have HLM : Hid (∀ W, Fresh w9 W → Calls Try.prog 18 #[.pointer (some ⟨p9, 0, none⟩)] W fun e w' => e = .returned (.int .i64 lm2) ∧ Fresh W w') := Lib.hid (fun W hf => (dy_limit (HT9.out.fresh hf)).mono (fun e w' h => ⟨h.1, by rw [h.2]; exact Fresh.refl _⟩))
            have HSI : Hid (∀ W, Fresh w9 W → Calls Try.prog 19 #[.pointer (some ⟨p9, 0, none⟩)] W fun e w' => e = .returned (.int .i64 (tg : Int)) ∧ Fresh W w') := Lib.hid (fun W hf => (dy_sizeT (HT9.out.fresh hf)).mono (fun e w' h => ⟨by rw [← HTG.out]; exact h.1, by rw [h.2]; exact Fresh.refl _⟩))
            have HFD : Hid (∀ W, Fresh w9 W → Calls Try.prog 15 #[.slice A1 j c1] W fun e w' => ∃ q, e = .returned (.slice (some ⟨q, 0, none⟩) j j) ∧ Fresh W w') := Lib.hid (fun W hf => (HFL.out W (HF9.out.trans hf)).mono (fun e w' h => by
              obtain ⟨q, h1, _, _, h2⟩ := h
              exact ⟨q, h1, h2⟩))
            have e9 : ((j : Int) == (j : Int)) = true := beq_self_eq_true _
            have HSK : Hid (∀ w', Fresh w9 w' → w'.cell? ⟨zb, 0, none⟩ = some (.int .i64 most) ∧ w'.cell? ⟨zb, 1, none⟩ = some (.int .i64 bound) ∧ Fresh w9 w') := Lib.hid (fun w' hf => ⟨(HB9.out.fresh hf).cell 0, (HB9.out.fresh hf).cell 1, hf⟩)
            clear HFL HMF
            go_upto_region 17 with fail
            go_region_held3 (fun w' => w'.cell? ⟨zb, 0, none⟩ = some (.int .i64 most) ∧ w'.cell? ⟨zb, 1, none⟩ = some (.int .i64 bound) ∧ Fresh w9 w')
              ((refine HSK.out _ ?_; first | with_reducible assumption | with_reducible exact Fresh.drew _))
              (first | (go_at_call 18; (with_reducible refine (HLM.out _ (by first | with_reducible assumption | with_reducible exact Fresh.drew _)).mono ?_); rintro e wa ⟨rfl, hfa⟩; have hga : Fresh w9 wa := Fresh.trans (by first | with_reducible assumption | with_reducible exact Fresh.drew _) hfa; clear hfa) | (go_at_call 19; (with_reducible refine (HSI.out _ (by first | with_reducible assumption | with_reducible exact Fresh.drew _)).mono ?_); rintro e wb ⟨rfl, hfb⟩; have hgb : Fresh w9 wb := Fresh.trans (by first | with_reducible assumption | with_reducible exact Fresh.drew _) hfb; clear hfb) | (go_at_call 15; (with_reducible refine (HFD.out _ (by first | with_reducible assumption | with_reducible exact Fresh.drew _)).mono ?_); rintro e wc ⟨qf, rfl, hfc⟩; have hgc : Fresh w9 wc := Fresh.trans (by first | with_reducible assumption | with_reducible exact Fresh.drew _) hfc; clear hfc))
            all_goals
              go_wp2
              exact ⟨⟨k + 1, v', gs, lm2, _, by omega, by go_num, HS9.out.fresh hgc, HB9.out.fresh hgc⟩, by simp [intOf]; omega⟩
      · obtain rfl : k = n := by omega
        have hnlt : ¬ (k : Int) < (k : Int) := by omega
        go_wp2_with fail
        with_reducible refine (HW.out _).mono ?_
        rintro e w3 ⟨rfl, hf3⟩
        have HF3 := Lib.hid (HS.out.fr.trans hf3)
        clear hf3
        go_wp2
        exact HFIN.out _ HF3.out
end Go.Proofs.Ytffdhegflnhfjaa

