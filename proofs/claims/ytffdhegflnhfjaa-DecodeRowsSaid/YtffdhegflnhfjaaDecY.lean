/-
  The law DecodeEmpty.
-/
import Derived.Test.YtffdhegflnhfjaaDecK3
import Derived.Test.YtffdhegflnhfjaaLnEq
namespace Go.Proofs.Ytffdhegflnhfjaa
set_option maxRecDepth 100000
set_option linter.unusedVariables false
set_option linter.unusedSimpArgs false
open Go.RowKit
def Em7P (w : World) (e : Ending) (w' : World) : Prop := e = .returned (.bool true) ∧ Fresh w w'
/-- Two decoders without tables, the second one new. -/
structure E7 (w0 w : World) (d p f q : Nat) (v : Value) (fs : List FldT) (lm bound : Int) (dead : Bool) : Prop where
  a : S7 w0 w d p v fs lm 0 bound dead
  b : S7 w0 w f q (.slice none 0 0) [] 0 0 bound false
  df : d < f
  dq : d < q
  pf : p < f
  pq : p < q
  vf : ∀ k, v.ownBlock = some k → k ≠ f ∧ k ≠ q
theorem E7.fresh {w0 w w' : World} {d p f q : Nat} {v : Value} {fs : List FldT} {lm bound : Int} {dead : Bool} (h : E7 w0 w d p f q v fs lm bound dead) (hf : Fresh w w') : E7 w0 w' d p f q v fs lm bound dead := { h with a := h.a.fresh hf, b := h.b.fresh hf }
def E7P (w0 w : World) (d p f q : Nat) (bound : Int) (R : Nat × List LnD × List FldT × Int) (e : Ending) (W : World) : Prop :=
  ∃ A1 c1 v', e = .returned (.tuple #[.slice A1 R.2.1.length c1, .int .i64 (R.1 : Int)]) ∧ Lns W A1 c1 R.2.1 ∧ E7 w0 W d p f q v' R.2.2.1 R.2.2.2 bound (decide (R.1 ≠ 0)) ∧ Far7 w W
theorem e7_decode {w0 w : World} {d p f q : Nat} {v : Value} {fs : List FldT} {lm bound : Int} {dead : Bool} (h : E7 w0 w d p f q v fs lm bound dead) (b : BSl) (hb : b.Ok w0) (hl : b.l.length ≤ 100000000) :
    Calls Try.prog 11 #[.pointer (some ⟨d, 0, none⟩), .slice b.A b.l.length b.c] w (E7P w0 w d p f q bound (rd7 0 bound dead fs lm b.l)) := by
  refine (s7_decodeQ h.a b.A b.c b.l hb.le (by have := hb.max; unfold maxLen; omega) (hb.bs.fresh h.a.fr) (h.a.notIn b hb) hl).mono ?_
  rintro e W ⟨A1, c1, v', h1, h2, h3, h4, ho, hg⟩
  have hf := h.b.dec.blk.lt
  have hq := h.b.dec.tab.blk.lt
  have hdf := h.df
  have hdq := h.dq
  have hpf := h.pf
  have hpq := h.pq
  refine ⟨A1, c1, v', h1, h2, ⟨h3, h.b.apart ho h.a.low ?_ ?_ (fun k hk => by cases hk), h.df, h.dq, h.pf, h.pq, fun k hk => ?_⟩, h4⟩
  · rintro (e | e | e)
    · omega
    · omega
    · exact (h.vf _ e).1 rfl
  · rintro (e | e | e)
    · omega
    · omega
    · exact (h.vf _ e).2 rfl
  · rcases hg k hk with e | e
    · exact h.vf k e
    · omega
theorem s7_newB (most bound : Int) (h0 : 0 ≤ most) (h1 : most ≤ 65536) (hb0 : 0 ≤ bound) (hb1 : bound ≤ 16384) (w0 w : World) (hf : Fresh w0 w) :
    Calls Try.prog 10 #[.int .i64 most, .int .i64 bound] w fun e w' => ∃ d p, e = .returned (.tuple #[.pointer (some ⟨d, 0, none⟩), .int .i64 0]) ∧ S7 w0 w' d p (.slice none 0 0) [] most most bound false ∧ Fresh w w' ∧ w.heap.size ≤ d ∧ w.heap.size ≤ p := by
  refine (de_new most bound w h0 h1 hb0 hb1).mono ?_
  rintro e w' ⟨d, p, rfl, hp, hd, hdec, hf2⟩
  have := hf.size
  exact ⟨d, p, rfl, ⟨hdec _, by omega, by omega, (fun k hk => by cases hk), by omega, (fun k hk => by cases hk), hf.trans hf2, h0, Int.le_refl _, h1, by simpa [tz] using h0, hb0, hb1⟩, hf2, by omega, hp⟩
theorem tz_nil {fs : List FldT} {lm : Int} (h1 : lm ≤ 0) (h2 : (tz fs : Int) ≤ lm) : fs = [] := by
  have := tz_lenD fs
  exact List.length_eq_zero_iff.1 (by omega)
set_option maxHeartbeats 6400000 in
theorem DecodeEmpty_any (bound : Int) (s : BSls) (b : BSl) (w : World) (hbd : -9223372036854775808 ≤ bound ∧ bound ≤ 9223372036854775807) (hs : s.Ok w) (hb : b.Ok w) :
    Calls Try.prog 5 #[.int .i64 bound, .slice s.A s.xs.length s.c, .slice b.A b.l.length b.c] w fun e w' => e = .returned (.bool true) ∧ Below w.heap.size w w' := by
  show Calls _ _ _ _ (Em7P w)
  have HW := Lib.hid de_awake
  have HRT := Lib.hid (fun W (hf : Fresh w W) => l7_right ⟨0, bound, s⟩ W ⟨by simp, by simp, hbd.1, hbd.2, ⟨hs.le, hs.max, hs.rows.fresh hf, fun x hx => (hs.ok x hx).fresh hf⟩⟩)
  have HSM : Hid (Case7.Small ⟨0, bound, s⟩ → 0 ≤ bound ∧ bound ≤ 16384 ∧ s.xs.length ≤ 120 ∧ ∀ b ∈ s.xs, b.l.length ≤ 600) := Lib.hid (fun h => ⟨h.b0, h.b1, h.n, h.l⟩)
  have HROW := Lib.hid hs.rows
  have HOK := Lib.hid hs.ok
  have HB := Lib.hid hb
  simp only [Case7.v] at HRT
  obtain ⟨A, c, xs⟩ := s
  simp only at *
  have HFIN : Hid (∀ W, Fresh w W → Em7P w (.returned (.bool true)) W) := Lib.hid (fun W h => ⟨rfl, h⟩)
  have hbl9 : b.l.length ≤ 140737488351232 := Nat.le_trans hb.le hb.max
  clear hs hb hbd
  obtain ⟨n, hn⟩ : ∃ n, xs.length = n := ⟨_, rfl⟩
  have HN := Lib.hid hn
  rw [hn] at HRT HSM ⊢
  obtain ⟨m, hm⟩ : ∃ m, b.l.length = m := ⟨_, rfl⟩
  have HM := Lib.hid hm
  rw [hm] at hbl9 ⊢
  clear hn hm
  generalize Em7P w = PP at *
  go_enter Try.func5, Try.ntmps5
  go_wp2_with fail
  with_reducible refine (HRT.out _ (Fresh.refl _)).mono ?_
  rintro e w2 ⟨r, rfl, hr, hf2⟩
  have HR := Lib.hid hr
  have HF2 := Lib.hid hf2
  clear hr hf2 HRT
  cases r with
  | false =>
    go_wp2_with fail
    with_reducible refine (HW.out _).mono ?_
    rintro e w3 ⟨rfl, hf3⟩
    have HF3 := Lib.hid (HF2.out.trans hf3)
    clear hf3
    go_wp2
    exact HFIN.out _ HF3.out
  | true =>
    by_cases hm3 : 300 < m
    · have hm3' : (300 : Int) < (m : Int) := by omega
      go_wp2_with fail
      with_reducible refine (HW.out _).mono ?_
      rintro e w3 ⟨rfl, hf3⟩
      have HF3 := Lib.hid (HF2.out.trans hf3)
      clear hf3
      go_wp2
      exact HFIN.out _ HF3.out
    · have hm3' : ¬ (300 : Int) < (m : Int) := by omega
      obtain ⟨b0, b1, n1, l1⟩ := HSM.out (HR.out rfl)
      have HL1 := Lib.hid l1
      have HNW := Lib.hid (s7_newB 0 bound (by decide) (by decide) b0 b1 w)
      have HBM := Lib.hid (And.intro b0 b1)
      have HML : Hid (b.l.length ≤ 300) := Lib.hid (by rw [HM.out]; omega)
      clear l1 HSM HR b0 b1 hm3
      go_wp2_with fail
      with_reducible refine (HNW.out _ HF2.out).mono ?_
      rintro e w3 ⟨d, p, rfl, hs3, hf3, _, _⟩
      have HS3 := Lib.hid hs3
      clear hs3 hf3
      go_wp2_with fail
      with_reducible refine (HNW.out _ HS3.out.fr).mono ?_
      rintro e w4 ⟨f, q, rfl, hs4, hf4, hf5, hq5⟩
      have HE4 : Hid (E7 w w4 d p f q (.slice none 0 0) [] 0 bound false) := Lib.hid ⟨HS3.out.fresh hf4, hs4, by have := HS3.out.dec.blk.lt; omega, by have := HS3.out.dec.blk.lt; omega, by have := HS3.out.dec.tab.blk.lt; omega, by have := HS3.out.dec.tab.blk.lt; omega, fun k hk => by cases hk⟩
      clear hs4 hf4 hf5 hq5 HS3 HNW
      go_wp2
      go_loopw [55] (fun i wr => ∃ (k : Nat) (v : Value) (fs : List FldT) (lm : Int) (dead : Bool), k ≤ n ∧ i = .int .i64 (k : Int) ∧ E7 w wr d p f q v fs lm bound dead) (fun i _ => n - (intOf i).toNat)
      case atStart => exact ⟨0, _, [], 0, false, Nat.zero_le _, rfl, HE4.out⟩
      case round =>
        obtain ⟨k, v, fs, lm, dead, hk, rfl, he⟩ := hrel
        have HE := Lib.hid he
        clear he HE4
        by_cases hlt : k < n
        · have hlt' : (k : Int) < (n : Int) := by omega
          obtain ⟨x, hxk⟩ : ∃ x, xs[k]? = some x := ⟨_, List.getElem?_eq_getElem (by rw [HN.out]; exact hlt)⟩
          have hok := HOK.out x (List.mem_of_getElem? hxk)
          have hx600 := HL1.out x (List.mem_of_getElem? hxk)
          obtain ⟨g, o, rfl, hgb, hgc⟩ := HROW.out.one k x hxk
          have hgc := HE.out.a.fr.cell (p := ⟨g, o + k, none⟩) hgb ▸ hgc
          simp only [BSl.cells, List.getElem?_cons_zero] at hgc
          have HDE := Lib.hid (e7_decode HE.out x hok (by omega))
          generalize rd7 0 bound dead fs lm x.l = R at *
          obtain ⟨er, out, gs, lm2⟩ := R
          clear hok hx600 hxk hgb
          obtain ⟨xA, xc, xl⟩ := x
          unfold E7P at HDE
          simp only at hgc HDE
          generalize xl.length = xn at *
          go_wp2_with fail
          with_reducible refine HDE.out.mono ?_
          rintro e w5 ⟨A1, c1, v', rfl, _, he5, _⟩
          have HE5 := Lib.hid he5
          clear he5 HDE hgc
          go_wp2
          exact ⟨⟨k + 1, v', gs, lm2, _, by omega, by go_num, HE5.out⟩, by simp [intOf]; omega⟩
        · obtain rfl : k = n := by omega
          have hnlt : ¬ (k : Int) < (k : Int) := by omega
          have HDD := Lib.hid (de_dead w.heap.size d p v fs lm 0 bound dead wr HE.out.a.dec)
          cases dead with
          | true =>
            go_wp2_with fail
            with_reducible refine HDD.out.mono ?_
            rintro e w5 ⟨rfl, rfl⟩
            go_wp2_with fail
            with_reducible refine (HW.out _).mono ?_
            rintro e w3 ⟨rfl, hf3⟩
            have HF3 := Lib.hid (HE.out.a.fr.trans hf3)
            clear hf3
            go_wp2
            exact HFIN.out _ HF3.out
          | false =>
            have hfs : fs = [] := tz_nil HE.out.a.l1 HE.out.a.tz
            have hlm : lm = 0 := by have := HE.out.a.l0; have := HE.out.a.l1; omega
            subst hfs hlm
            have HDE := Lib.hid (e7_decode HE.out b HB.out (by have := HML.out; omega))
            have HDF := Lib.hid (fun W (hf : S7 w W f q (.slice none 0 0) [] 0 0 bound false) => s7_decodeQ hf b.A b.c b.l HB.out.le (by have := HB.out.max; unfold maxLen; omega) (HB.out.bs.fresh hf.fr) (hf.notIn b HB.out) (by have := HML.out; omega))
            have hinv := rd7_inv HE.out.a b.l
            unfold E7P at HDE
            unfold Dec7Q at HDF
            rw [HM.out] at HDE HDF
            generalize rd7 0 bound false [] 0 b.l = R at *
            obtain ⟨er, out, gs, lm2⟩ := R
            have hgs : gs = [] := tz_nil hinv.l1 hinv.tz
            have HLEN : Hid (out.length ≤ 1000000) := Lib.hid (by
              have h1 := hinv.sum
              have h2 := tz_lenD (out.map (·.1))
              have h3 := HBM.out.2
              rw [List.length_map] at h2
              simp only at h1
              omega)
            subst hgs
            simp only at HDE HDF
            clear hinv
            generalize decide (er ≠ 0) = dd at *
            go_wp2_with fail
            with_reducible refine HDD.out.mono ?_
            rintro e w5 ⟨rfl, rfl⟩
            go_wp2_with fail
            with_reducible refine HDE.out.mono ?_
            rintro e w5 ⟨A1, c1, v5, rfl, hl5, he5, _⟩
            have HL5 := Lib.hid hl5
            have hlen : out.length ≤ 1000000 := HLEN.out
            have HE5 := Lib.hid he5
            clear hl5 he5 HDE
            go_wp2_with fail
            with_reducible refine (HDF.out _ HE5.out.b).mono ?_
            rintro e w6 ⟨A2, c2, v6, rfl, hl6, hs6, hf6, ho6, _⟩
            have HL6 := Lib.hid (Lns.far hf6 HL5.out)
            have HM6 := Lib.hid hl6
            have HS6 : Hid (S7 w w6 d p v5 [] lm2 0 bound dd) := Lib.hid (HE5.out.a.apart ho6 HE5.out.b.low (by
              have h1 := HE5.out.df
              have h2 := HE5.out.dq
              rintro (e | e | e)
              · omega
              · omega
              · cases e) (by
              have h1 := HE5.out.pf
              have h2 := HE5.out.pq
              rintro (e | e | e)
              · omega
              · omega
              · cases e) (fun k hk => by
              have h1 := HE5.out.vf k hk
              rintro (e | e | e)
              · exact h1.1 e
              · exact h1.2 e
              · cases e))
            clear hl6 hs6 hf6 ho6 HDF
            have HTB := Lib.hid (fun W (hf : Fresh w6 W) => de_table w.heap.size d p v5 [] lm2 0 bound dd W (HS6.out.dec.fresh hf) (Nat.le_trans HS6.out.fr.size hf.size) (by simp))
            unfold CpyP at HTB
            generalize hol : out.length = ol at *
            have e9 : ((er : Int) == (er : Int)) = true := beq_self_eq_true _
            have e8 : ((ol : Int) == (ol : Int)) = true := beq_self_eq_true _
            go_wp2_with fail
            with_reducible refine (HTB.out _ (Fresh.refl _)).mono ?_
            rintro e w7 ⟨p7, v7, rfl, _, hf7, _, _⟩
            have HF7 := Lib.hid hf7
            clear hf7
            go_wp2_with fail
            with_reducible refine (HTB.out _ HF7.out).mono ?_
            rintro e w8 ⟨p8, v8, rfl, ht8, hf8, _, _⟩
            have HF8 := Lib.hid (HF7.out.trans hf8)
            have HLN := Lib.hid (dy_len ht8)
            clear hf8 ht8
            go_wp2_with fail
            with_reducible refine HLN.out.mono ?_
            rintro e w9 ⟨rfl, hw⟩
            obtain rfl : w8 = w9 := hw.symm
            simp only [List.length_nil]
            rw [show ((0 : Nat) : Int) = 0 from rfl]
            go_wp2
            go_loopw [101] (fun i wr => ∃ j : Nat, j ≤ ol ∧ i = .int .i64 (j : Int) ∧ Fresh w8 wr) (fun i _ => ol - (intOf i).toNat)
            case atStart => exact ⟨0, Nat.zero_le _, rfl, Fresh.refl _⟩
            case round =>
              obtain ⟨j, hj, rfl, hf⟩ := hrel
              have HF := Lib.hid (HF8.out.trans hf)
              have HFJ := Lib.hid hf
              clear hf
              by_cases hjl : j < ol
              · have hjl' : (j : Int) < (ol : Int) := by omega
                obtain ⟨y, hy⟩ : ∃ y, out[j]? = some y := ⟨_, List.getElem?_eq_getElem (by rw [hol]; exact hjl)⟩
                obtain ⟨b1, o1, rfl, hb1, g0, g1, g2⟩ := (HL6.out.rows.fresh HF.out).lnAt j y hy
                obtain ⟨b2, o2, rfl, hb2, k0, k1, k2⟩ := (HM6.out.rows.fresh HF.out).lnAt j y hy
                obtain ⟨⟨F1, F2⟩, nv⟩ := y
                simp only at g0 g1 g2 k0 k1 k2
                have hE := run_eq_line F1 F2 nv
                clear hb1 hb2 hy
                go_upto_region 21 with fail
                go_quiet (fail)
                all_goals
                  go_wp2
                  go_roundw
                  case rel => exact ⟨j + 1, by omega, by go_num, HFJ.out.trans (Fresh.drewN _ _)⟩
                  case measure => simp [intOf]; omega
              · obtain rfl : j = ol := by omega
                have hnj : ¬ (j : Int) < (j : Int) := by omega
                go_wp2_with fail
                with_reducible refine (HW.out _).mono ?_
                rintro e w10 ⟨rfl, hf10⟩
                have HF10 := Lib.hid ((HS6.out.fr.trans HF.out).trans hf10)
                clear hf10
                go_wp2
                exact HFIN.out _ HF10.out
end Go.Proofs.Ytffdhegflnhfjaa

