/-
  The law's one: Cut.
-/
import Derived.Test.YthfifeclmikbgaaQueS
namespace Go.Proofs.Ythfifeclmikbgaa
set_option linter.unusedVariables false
set_option linter.unusedSimpArgs false
open Go.RowKit
section
variable {base q R n : Nat} {by_ it : Int} {ro : Rows} {w : World}
set_option maxRecDepth 100000 in
set_option maxHeartbeats 6400000 in
theorem one_cut_no (A zA : Option Addr) (c t m zn zc : Nat) (a bb cc nn : Int) (x y : QI) (r : List QI) (h : QAt w base q R n by_ it ro) (ht : t < n) (hr : (ro t).2 = y :: r) (hl : LS w A c (saidL (ro t).2)) (hm : (ro t).2.length = m) (hd : nn < 0 ∨ (y.b.length : Int) < nn) :
    Calls Try.prog 14 #[.pointer (some ⟨q, 0, none⟩), .slice A m c, .agg #[.int .i64 a, .int .i64 bb, .int .i64 cc, .slice zA zn zc], .agg #[.int .i64 3, .int .i64 (t : Int), .int .i64 nn, .int .i64 x.num, .slice x.HA x.h.length x.hc, .slice x.BA x.b.length x.bc]] w (OneP base q R n by_ it ro t ⟨3, (t : Int), nn, x⟩ w) := by
  have hm1 : r.length + 1 = m := by rw [hr] at hm; simpa using hm
  have HCU := Lib.hid (fun W (hw : Fresh w W) => qu_cut_range t nn y (h.fresh hw) ht (by rw [hr]; rfl) hd)
  have hl' : LS w A c (y.said :: saidL r) := by rw [hr] at hl; exact hl
  obtain ⟨g, o, hA, hgl, u0, u1, u2⟩ := hl'.rows.at3 0 y.said rfl
  have HFIN : Hid (∀ w', Fresh w w' → OneP base q R n by_ it ro t ⟨3, (t : Int), nn, x⟩ w (.returned (.tuple #[.slice A m c, .bool true])) w') := Lib.hid (fun w' hw => OneP.same h hl (by
    rw [hr]
    show nextS _ _ ⟨3, _, _, _⟩ _ = _
    have hd' : nn < 0 ∨ ((QI.said y).2.2.length : Int) < nn := hd
    simp [nextS, saidL, hd']) hm hw)
  have hsz : ((strB y.b).size : Int) = (y.b.length : Int) := by rw [strB_size]
  rw [← hsz] at hd
  have HCE : Hid (∀ W, Fresh w W → W.cell? ⟨g, o + 2, none⟩ = some (.string (strB y.b))) := Lib.hid (fun W hw => by rw [hw.cell hgl]; simpa [QI.said] using u2)
  have hmm : (0 : Int) < (m : Int) := by omega
  have hmn : 0 < m := by omega
  have hm0 : ((m : Int) == 0) = false := by simp; omega
  rw [hA] at HFIN ⊢
  generalize strB y.b = S2 at *
  clear h hl hl' hr hm hA u0 u1 u2 hm1 hgl hsz
  unfold CutNo at HCU
  go_enter Try.func14, Try.ntmps14
  go_upto_region 25 with fail
  obtain ⟨b0, hb0⟩ : ∃ b0, w.heap.size = b0 := ⟨_, rfl⟩
  rw [hb0]
  refine wp_gen (fun W => Fresh w W ∧ Blk W (b0 + 1) 36 #[.int .i64 3, .int .i64 (t : Int), .int .i64 nn, .int .i64 x.num, .slice x.HA x.h.length x.hc, .slice x.BA x.b.length x.bc]) ⟨(Fresh.alloc _ _).allocS _, Blk.mkAt (by simp; omega)⟩ ?_
  clear hb0
  rintro W ⟨hf0, ho0⟩
  have HF0 := Lib.hid hf0
  have HO0 := Lib.hid ho0
  have o1 := ho0.cell 1
  have o2 := ho0.cell 2
  have HD := Lib.hid hd
  clear hf0 ho0 hd
  go_wp2_with fail
  with_reducible refine (HCU.out _ HF0.out).mono ?_
  rintro e w2 ⟨rfl, hf2⟩
  have HF2 := Lib.hid (HF0.out.trans hf2)
  have ho2 := HO0.out.fresh hf2
  have y2 := HCE.out w2 HF2.out
  clear o1 o2
  have o2 := ho2.cell 2
  clear hf2 ho2
  by_cases h0 : nn < 0
  · go_upto_region 26 with fail
    go_quiet (fail)
    have HF3 := Lib.hid (fun k => HF2.out.trans (Fresh.drewN w2 k))
    clear y2 o2
    go_wp2
    go_ret2
    exact HFIN.out _ (HF3.out _)
  · have h1 : (S2.size : Int) < nn := by have := HD.out; omega
    have h0' : decide (nn < 0) = false := by simpa using h0
    go_upto_region 26 with fail
    go_quiet (fail)
    have HF3 := Lib.hid (fun k => HF2.out.trans (Fresh.drewN w2 k))
    clear y2 o2
    go_wp2
    go_ret2
    exact HFIN.out _ (HF3.out _)
set_option maxRecDepth 100000 in
set_option maxHeartbeats 6400000 in
theorem one_cut (A zA : Option Addr) (c t m zn zc d : Nat) (a bb cc : Int) (x y : QI) (r : List QI) (h : QAt w base q R n by_ it ro) (ht : t < n) (hr : (ro t).2 = y :: r) (hl : LS w A c (saidL (ro t).2)) (hm : (ro t).2.length = m) (hd : d ≤ y.b.length) :
    Calls Try.prog 14 #[.pointer (some ⟨q, 0, none⟩), .slice A m c, .agg #[.int .i64 a, .int .i64 bb, .int .i64 cc, .slice zA zn zc], .agg #[.int .i64 3, .int .i64 (t : Int), .int .i64 (d : Int), .int .i64 x.num, .slice x.HA x.h.length x.hc, .slice x.BA x.b.length x.bc]] w (OneP base q R n by_ it ro t ⟨3, (t : Int), (d : Int), x⟩ w) := by
  have H := Lib.hid h
  have HR := Lib.hid hr
  have hm1 : r.length + 1 = m := by rw [hr] at hm; simpa using hm
  have hrl : (saidL r).length + 1 = m := by rw [saidL_len]; exact hm1
  have hml : m ≤ 4096 := by have := (h.len ht).1; omega
  obtain ⟨_, _, _, _, _, _, _, _, _, _, hz⟩ := h.first ht (x := y) (by rw [hr]; rfl)
  unfold QI.z at hz
  have HCU := Lib.hid (fun W (hw : Fresh w W) => qu_cut t d y r (h.fresh hw) ht hr hd)
  have hl' : LS w A c (y.said :: saidL r) := by rw [hr] at hl; exact hl
  have HL := Lib.hid hl'
  have HRC := Lib.hid (fun W (hw : LS W A c (y.said :: saidL r)) => rs_cut A c y.said (saidL r) d W hw (by omega) hd (by show y.b.length ≤ _; omega))
  rw [hrl] at HRC
  have HRL := Lib.hid hrl
  obtain ⟨g, o, hA, hgl, u0, u1, u2⟩ := hl'.rows.at3 0 y.said rfl
  have HA := Lib.hid hA
  have HCE : Hid (∀ W, LS W A c (y.said :: saidL r) → W.cell? ⟨g, o + 2, none⟩ = some (.string (strB y.b))) := Lib.hid (fun W hw => by
    obtain ⟨g', o', hA', _, y0, y1, y2⟩ := hw.rows.at3 0 y.said rfl
    rw [hA] at hA'
    injection hA' with hA'
    injection hA' with e1 e2
    subst e1 e2
    simpa [QI.said] using y2)
  have hsz : (strB y.b).size = y.b.length := by rw [strB_size]
  have hex : (strB y.b).extract 0 d = strB (y.b.take d) := by rw [strB_extract]; simp
  have hds : d ≤ (strB y.b).size := by rw [hsz]; exact hd
  have hdi : (d : Int) ≤ ((strB y.b).size : Int) := by omega
  have hd0 : (0 : Int) ≤ (d : Int) := by omega
  have hd1 : decide ((d : Int) < 0) = false := by simp
  have hd2 : decide (((strB y.b).size : Int) < (d : Int)) = false := by simp; omega
  have hd3 : decide (((strB y.b).size) < d) = false := by simp; omega
  have hmm : (0 : Int) < (m : Int) := by omega
  have hmn : 0 < m := by omega
  have hm0 : ((m : Int) == 0) = false := by simp; omega
  have HCV := Lib.hid (fun W g2 (h1 : Blk W g2 5 (bytesA (y.b.take d))) => run_str (P := Try.prog) (BS.row h1) 32 9 5 Try.underlying32 Try.underlying5 Try.underlying9 d)
  have htk : (y.b.take d).length = d := by simp; omega
  rw [htk] at HCV
  rw [hA]
  unfold CutP at HCU
  have HHD := Lib.hid hd
  generalize hS2 : strB y.b = S2 at *
  generalize hS3 : strB (y.b.take d) = S3 at *
  clear h hl hl' hr hm hA u0 u1 u2 hm1 hrl hgl hsz htk hz hS2 hS3 hd
  go_enter Try.func14, Try.ntmps14
  go_upto_region 25 with fail
  obtain ⟨b0, hb0⟩ : ∃ b0, w.heap.size = b0 := ⟨_, rfl⟩
  rw [hb0]
  refine wp_gen (fun W => Fresh w W ∧ Blk W (b0 + 1) 36 #[.int .i64 3, .int .i64 (t : Int), .int .i64 (d : Int), .int .i64 x.num, .slice x.HA x.h.length x.hc, .slice x.BA x.b.length x.bc]) ⟨(Fresh.alloc _ _).allocS _, Blk.mkAt (by simp; omega)⟩ ?_
  clear hb0
  rintro W ⟨hf0, ho0⟩
  have HF0 := Lib.hid hf0
  have HO0 := Lib.hid ho0
  have o1 := ho0.cell 1
  have o2 := ho0.cell 2
  clear hf0 ho0
  go_wp2_with fail
  with_reducible refine (HCU.out _ HF0.out).mono ?_
  rintro e w2 ⟨g2, rfl, hk2, hg2, hq2, ho2⟩
  have HX2 := Lib.hid (And.intro hq2 ho2)
  have HLW : Hid (LS w2 A c (y.said :: saidL r)) := Lib.hid (by
    have hq := H.out.fresh HF0.out
    refine ((HL.out.fresh HF0.out).only ho2 ?_)
    rintro g cs hg (e | e)
    · obtain ⟨cs', h1, _⟩ := hq.rows
      exact hg.ne h1 (by decide) e
    · obtain ⟨cur, h1⟩ := ownQ (hq.own t ht) e
      exact hg.ne h1 (by decide) rfl)
  have hop : Blk w2 (b0 + 1) 36 #[.int .i64 3, .int .i64 (t : Int), .int .i64 (d : Int), .int .i64 x.num, .slice x.HA x.h.length x.hc, .slice x.BA x.b.length x.bc] := by
    have hq := H.out.fresh HF0.out
    refine HO0.out.only ho2 ?_
    rintro (e | e)
    · obtain ⟨cs', h1, _⟩ := hq.rows
      exact HO0.out.ne h1 (by decide) e
    · obtain ⟨cur, h1⟩ := ownQ (hq.own t ht) e
      exact HO0.out.ne h1 (by decide) rfl
  have HOP := Lib.hid hop
  have HK2 := Lib.hid hk2
  have y2 := HCE.out w2 HLW.out
  clear o1 o2
  have o2 := hop.cell 2
  clear hk2 hg2 hq2 ho2 hop
  go_upto_region 26 with fail
  go_quiet (fail)
  rename_i nq
  clear y2 o2
  go_upto_region 28 with fail
  refine wp_gen (fun W3 => Fresh w2 W3) (by first | exact Fresh.drewN _ _ | exact Fresh.refl _) ?_
  intro W3 hf3
  have HSK : Hid (∀ w', Fresh W3 w' → w'.cell? ⟨g, o + 2, none⟩ = some (.string S2) ∧ w'.cell? ⟨b0 + 1, 2, none⟩ = some (.int .i64 (d : Int)) ∧ (convert 32 9 (.slice (some ⟨g2, 0, none⟩) d d)).run Try.prog w' = .ok (.string S3) w' ∧ Fresh W3 w') := Lib.hid (fun w' hw => by
    have hf := hf3.trans hw
    exact ⟨HCE.out w' (HLW.out.fresh hf), (HOP.out.fresh hf).cell 2, HCV.out w' g2 (HK2.out.fresh hf), hw⟩)
  have HRC3 : Hid (∀ w', Fresh W3 w' → Calls Try.prog 26 #[.slice (some ⟨g, o, none⟩) m c, .int .i64 (d : Int)] w' (fun e w4 => ∃ A' c', e = .returned (.slice A' m c') ∧ LS w4 A' c' (cutS y.said d :: saidL r) ∧ Fresh w' w4)) := Lib.hid (fun w' hw => by
    have := HRC.out w' (HLW.out.fresh (hf3.trans hw))
    rw [HA.out] at this
    refine this.mono (fun e w4 hp => ?_)
    obtain ⟨A', c', rfl, h1, h2⟩ := hp
    exact ⟨A', c', by rw [HRL.out], h1, h2⟩)
  have HF3 := Lib.hid hf3
  obtain ⟨v0, v1, v2, _⟩ := HSK.out W3 (Fresh.refl _)
  clear hf3
  go_region_held3 (fun w' => w'.cell? ⟨g, o + 2, none⟩ = some (.string S2) ∧ w'.cell? ⟨b0 + 1, 2, none⟩ = some (.int .i64 (d : Int)) ∧ (convert 32 9 (.slice (some ⟨g2, 0, none⟩) d d)).run Try.prog w' = .ok (.string S3) w' ∧ Fresh W3 w')
    ((refine HSK.out _ ?_; first | with_reducible assumption | with_reducible exact Fresh.drew _))
    (first
      | (go_at_call 26; have hg1 : Fresh W3 _ := Fresh.drew _; (with_reducible refine (HRC3.out _ hg1).mono ?_); rintro e w7 ⟨A', c', rfl, hls, hf7⟩; have hg7 : Fresh W3 w7 := Fresh.trans hg1 hf7; clear hf7 hg1))
  all_goals
    have HG7 := Lib.hid (HF3.out.trans hg7)
    have HLS := Lib.hid hls
    clear hg7 hls HSK
    go_wp2
    go_ret2
    obtain ⟨x1, x2⟩ := HX2.out
    have e1 : (updR ro t ((ro t).1, cutI y d :: r) t).2 = cutI y d :: r := by rw [updR_same]
    refine ⟨A', c', updR ro t ((ro t).1, cutI y d :: r), ?_, ?_, x1.fresh HG7.out, ?_, fun j hj => updR_ne _ _ hj, ?_, ?_⟩
    · rw [e1]
      have := HRL.out
      rw [saidL_len] at this
      rw [List.length_cons, this]
      rfl
    · rw [e1, saidL_cut]
      exact HLS.out
    · rw [e1, HR.out, saidL_cut]
      show _ = nextS _ _ ⟨3, _, (d : Int), _⟩ (y.said :: saidL r)
      have hd' : ¬ ((d : Int) < 0 ∨ ((QI.said y).2.2.length : Int) < (d : Int)) := by
        have := HHD.out
        show ¬ ((d : Int) < 0 ∨ (y.b.length : Int) < (d : Int))
        omega
      simp only [nextS]
      rw [if_neg (by decide), if_neg (by decide), if_pos trivial, if_neg hd']
      simp
    · exact ((Only.of_fresh HF0.out).trans' x2 (fun i _ e => e)).trans (Only.of_fresh HG7.out)
    · intro k hk
      rw [updR_same] at hk
      exact .inl hk
end
end Go.Proofs.Ythfifeclmikbgaa
