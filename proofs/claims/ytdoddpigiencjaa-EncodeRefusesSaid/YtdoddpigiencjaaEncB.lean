/-
  Package encode: literal, Line.
-/
import Derived.Test.YtdoddpigiencjaaEncA
import Derived.Test.YtdoddpigiencjaaMake
namespace Go.Proofs.Ytdoddpigiencjaa
set_option linter.unusedVariables false
set_option linter.unusedSimpArgs false
open Go.RowKit
/-- Bytes of which something is true, told in new memory, with no error. -/
def FormP (Q : List UInt8 → Prop) (w : World) (e : Ending) (w' : World) : Prop := ∃ (L : List UInt8) (A : Option Addr) (c : Nat), e = .returned (.tuple #[.slice A L.length c, .int .i64 0]) ∧ Q L ∧ Own w' w.heap.size 5 1 (.slice A L.length c) L.length (L.map byteV) ∧ Fresh w w'
set_option maxRecDepth 100000 in
set_option maxHeartbeats 3200000 in
theorem en_literal (n v : List UInt8) (m : Nat) (w : World) (hm : m < 2) (hn : n.length ≤ 4096) (hv : v.length ≤ 4096) :
    Calls Try.prog 25 #[.agg #[.string (strB n), .string (strB v)], .int .i64 (m : Int)] w (FormP (IsFormF n v m) w) := by
  have HNM := Lib.hid (fun W => st_name (strB n) W)
  have HE : Hid (∀ (i : Nat) W, i ≤ 61 → Calls Try.prog 26 #[.int .i64 (i : Int), .int .i64 4, .int .i64 (m : Int)] W (EncPost (encL i 4 m) W)) := Lib.hid (fun i W hi => enc_any i 4 m W (by omega) (by omega) (by omega) (by omega))
  have HSH : Hid (∀ (l : List UInt8) A c W, l.length ≤ 4096 → BS W A l → Calls Try.prog 44 #[.slice A l.length c] W (ShortP l W)) := Lib.hid (fun l A c W hl hb => lit_short A c l W hl hb)
  have HCN := Lib.hid (fun W => conv_bytes W n)
  have HCV := Lib.hid (fun W => conv_bytes W v)
  have HSN := Lib.hid hn
  have HSV := Lib.hid hv
  obtain ⟨SN, hSN⟩ : ∃ SN, strB n = SN := ⟨_, rfl⟩
  obtain ⟨SV, hSV⟩ : ∃ SV, strB v = SV := ⟨_, rfl⟩
  rw [hSN] at HCN HNM ⊢
  rw [hSV] at HCV ⊢
  have HN := Lib.hid hSN
  clear hSN hSV
  go_enter Try.func25, Try.ntmps25
  have hb0 := Blk.new w 26 #[.string SN, .string SV]
  have hc0 := hb0.cell 0
  simp only [List.getElem?_toArray, List.getElem?_cons_zero, List.getElem?_cons_succ] at hc0
  go_wp2_with fail
  with_reducible refine (HNM.out _).mono ?_
  rintro e w1 ⟨z, rfl, hz, hf1⟩
  obtain ⟨i, rfl, hi⟩ := FstIx.nat hz
  have HZ : Hid (FstIx (prN (strB n)) (i : Int)) := Lib.hid (by rw [HN.out]; exact hz)
  have HB1 := Lib.hid (hb0.fresh hf1)
  have HF1 := Lib.hid ((Fresh.alloc w (.cells #[.string SN, .string SV] 26)).trans hf1)
  clear hb0 hc0 hz hf1 HNM
  generalize hbx : w.heap.size = bx at HB1 ⊢
  clear hbx
  go_wp2_with fail
  with_reducible refine (HE.out i _ hi).mono ?_
  rintro e w2 ⟨A2, c2, rfl, ho2, hf2⟩
  have HO2 := Lib.hid ho2
  have HB2 := Lib.hid (HB1.out.fresh hf2)
  have HF2 := Lib.hid hf2
  have hxl := encL_length i 4 m (by omega)
  obtain ⟨X, hXX⟩ : ∃ X, encL i 4 m = X := ⟨_, rfl⟩
  have HXX := Lib.hid hXX
  rw [hXX] at HO2 hxl ⊢
  obtain ⟨x, hx⟩ : ∃ x, X.length = x := ⟨_, rfl⟩
  have HX := Lib.hid hx
  rw [hx] at HO2 hxl ⊢
  have hx1 : x ≤ 6 := hxl.2
  have HFP : Hid (∀ (L : List UInt8) (A : Option Addr) (c : Nat) (W : World), IsFormF n v m L → Own W w1.heap.size 5 1 (.slice A L.length c) L.length (L.map byteV) → Fresh w1 W → FormP (IsFormF n v m) w (.returned (.tuple #[.slice A L.length c, .int .i64 0])) W) := Lib.hid (fun L A c W h1 h2 h3 => ⟨L, A, c, rfl, h1, h2.base_le HF1.out.size, HF1.out.trans h3⟩)
  clear ho2 hf2 hx hxl hXX
  have c0 := HB2.out.cell 0
  have c1 := HB2.out.cell 1
  simp only [List.getElem?_toArray, List.getElem?_cons_zero, List.getElem?_cons_succ] at c0 c1
  have hsn := HSN.out
  have hsv := HSV.out
  by_cases hi0 : i = 0
  · subst hi0
    rw [show ((0 : Nat) : Int) = 0 from rfl]
    obtain ⟨cN, w3, hcv3, hb3, hcN, hf3⟩ := HCN.out w2
    go_wp2_with fail
    with_reducible refine (HSH.out n _ _ _ HSN.out hb3).mono ?_
    rintro e w4 ⟨Pn, A4, c4, rfl, hPn, ho4, hf4⟩
    have hpn := (litN_le n (decide (litN n true < litN n false)) (by omega)).2
    rw [← IsLit.len hPn] at hpn
    obtain ⟨y, hy⟩ : ∃ y, Pn.length = y := ⟨_, rfl⟩
    rw [hy] at hpn
    have hle4 : Pn.length ≤ c4 := by obtain ⟨_, _, e, h1, _⟩ := ho4.slice; cases e; exact h1
    obtain ⟨A5, c5, w5, hap5, ho5, hb5, _⟩ := Own.moreN (P := Try.prog) Try.underlying29 u8_infoH 29 ((HO2.out.fresh hf3).fresh hf4) ((HF2.out.trans hf3).trans hf4) (Nat.le_refl _) A4 c4 Pn y (x + y) hy rfl ho4.bytes.1 (by rw [← hy]; exact hle4) (by omega)
    have HO5 := Lib.hid ho5
    have HF5 : Hid (Fresh w1 w5) := Lib.hid hb5
    have HPN := Lib.hid hPn
    have HY := Lib.hid hy
    have HBS5 := Lib.hid (HB1.out.fresh HF5.out)
    have c51 := HBS5.out.cell 1
    simp only [List.getElem?_toArray, List.getElem?_cons_zero, List.getElem?_cons_succ] at c51
    obtain ⟨cV, w6, hcv6, hb6, hcV, hf6⟩ := HCV.out w5
    rw [hy]
    clear hPn ho4 hf4 ho5 hb5 hf3 hb3 hcv3 c0 c1
    go_wp2_with (at_builtin; refine wp_app rfl _ _ _ rfl hap5 rfl rfl rfl ?_)
    with_reducible refine (HSH.out v _ _ _ HSV.out hb6).mono ?_
    rintro e w7 ⟨Pv, A7, c7, rfl, hPv, ho7, hf7⟩
    have hpv := (litN_le v (decide (litN v true < litN v false)) (by omega)).2
    rw [← IsLit.len hPv] at hpv
    obtain ⟨u, hu⟩ : ∃ u, Pv.length = u := ⟨_, rfl⟩
    rw [hu] at hpv
    have hle7 : Pv.length ≤ c7 := by obtain ⟨_, _, e, h1, _⟩ := ho7.slice; cases e; exact h1
    obtain ⟨A8, c8, w8, hap8, ho8, hb8, _⟩ := Own.moreN (P := Try.prog) Try.underlying29 u8_infoH 29 ((HO5.out.fresh hf6).fresh hf7) ((HF5.out.trans hf6).trans hf7) (Nat.le_refl _) A7 c7 Pv u ((x + y + u)) hu rfl ho7.bytes.1 (by rw [← hu]; exact hle7) (by omega)
    have HFIN := Lib.hid (HFP.out ((X ++ Pn) ++ Pv) A8 c8 w8 ⟨0, by omega, HZ.out, Pn, Pv, HPN.out, hPv, by rw [if_pos rfl, HXX.out, List.append_assoc]⟩ (by
      have e : ((X ++ Pn) ++ Pv).length = (x + y + u) := by simp only [List.length_append, HX.out, HY.out, hu]
      rw [e]; exact ho8) hb8)
    rw [show ((X ++ Pn) ++ Pv).length = (x + y + u) by simp only [List.length_append, HX.out, HY.out, hu]] at HFIN
    rw [hu]
    clear hPv ho7 hf7 ho8 hb8 hf6 hb6 hcv6 HFP
    generalize FormP (IsFormF n v m) w = FP at *
    go_wp2_with (at_builtin; first | refine wp_app rfl _ _ _ rfl hap8 rfl rfl rfl ?_ | refine wp_app rfl _ _ _ rfl hap5 rfl rfl rfl ?_)
    exact HFIN.out
  · have hi0d : ((i : Int) == 0) = false := by simp; omega
    have hi0i : ¬ (i : Int) = 0 := by omega
    have HO5 := HO2
    have HF5 := HF2
    obtain ⟨cV, w6, hcv6, hb6, hcV, hf6⟩ := HCV.out w2
    go_wp2_with fail
    with_reducible refine (HSH.out v _ _ _ HSV.out hb6).mono ?_
    rintro e w7 ⟨Pv, A7, c7, rfl, hPv, ho7, hf7⟩
    have hpv := (litN_le v (decide (litN v true < litN v false)) (by omega)).2
    rw [← IsLit.len hPv] at hpv
    obtain ⟨u, hu⟩ : ∃ u, Pv.length = u := ⟨_, rfl⟩
    rw [hu] at hpv
    have hle7 : Pv.length ≤ c7 := by obtain ⟨_, _, e, h1, _⟩ := ho7.slice; cases e; exact h1
    obtain ⟨A8, c8, w8, hap8, ho8, hb8, _⟩ := Own.moreN (P := Try.prog) Try.underlying29 u8_infoH 29 ((HO5.out.fresh hf6).fresh hf7) ((HF5.out.trans hf6).trans hf7) (Nat.le_refl _) A7 c7 Pv u ((x + u)) hu rfl ho7.bytes.1 (by rw [← hu]; exact hle7) (by omega)
    have HFIN := Lib.hid (HFP.out (X ++ Pv) A8 c8 w8 (by
      obtain ⟨Pn, hPn⟩ := lit_ex n (decide (litN n true < litN n false))
      exact ⟨i, hi, HZ.out, Pn, Pv, hPn, hPv, by rw [if_neg hi0, HXX.out, List.nil_append]⟩) (by
      have e : (X ++ Pv).length = (x + u) := by simp only [List.length_append, HX.out, hu]
      rw [e]; exact ho8) hb8)
    rw [show (X ++ Pv).length = (x + u) by simp only [List.length_append, HX.out, hu]] at HFIN
    rw [hu]
    clear hPv ho7 hf7 ho8 hb8 hf6 hb6 hcv6 HFP
    generalize FormP (IsFormF n v m) w = FP at *
    go_wp2_with (at_builtin; refine wp_app rfl _ _ _ rfl hap8 rfl rfl rfl ?_)
    exact HFIN.out
end Go.Proofs.Ytdoddpigiencjaa

