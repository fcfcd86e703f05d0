/-
  The law PayloadPads: its walk.
-/
import Derived.Test.YtcdghmidpaeloaaPayJ
import Derived.Test.YtcdghmidpaeloaaZeros
namespace Go.Proofs.Ytcdghmidpaeloaa
set_option linter.unusedVariables false
open Go.RowKit

section
variable {A : Option Addr} {c : Nat} {l : List UInt8} {w : World}
theorem cut_told (p : Nat) (l : List UInt8) (st : Int) (hst : 1 ≤ st) (hp : p ≤ 255) (h0 : 0 < p) :
    FirstB 0 9 st ((padS p l).take p) 2 ∧ prsF 0 9 st ((padS p l).take p) 2 = (PR0, 101, true) := by
  have h8 : hasB 9 8 = true := by decide +kernel
  have hpd : pdB 0 9 = true := by simp [pdB, h8]
  have hwg : wgB 0 9 = false := by simp [wgB]
  have hah : aheadN 0 9 = 1 := by simp [aheadN, hpd, hwg]
  have hlen : ((padS p l).take p).length = p := by rw [List.length_take, padS_len]; omega
  have hpn : padN 0 9 ((padS p l).take p) = p := by
    obtain ⟨q, rfl⟩ : ∃ q, p = q + 1 := ⟨p - 1, by omega⟩
    simp [padN, hpd, padS, -UInt8.ofNat_add]
    omega
  refine ⟨⟨by omega, fun j hj => ?_, fun _ => ?_⟩, by simp [prsF, lkC, lkD]⟩
  · match j, hj with
    | 0, _ => simp [lookB, srB]; omega
    | 1, _ => simp [lookB, szB, hah, hlen]; omega
  · simp only [lookB, hah, hpn, hlen]
    simp
    omega
theorem cut_told0 (st : Int) (hst : 1 ≤ st) : FirstB 0 9 st [] 1 ∧ prsF 0 9 st [] 1 = (PR0, 106, true) := by
  have h8 : hasB 9 8 = true := by decide +kernel
  have hpd : pdB 0 9 = true := by simp [pdB, h8]
  have hwg : wgB 0 9 = false := by simp [wgB]
  have hah : aheadN 0 9 = 1 := by simp [aheadN, hpd, hwg]
  refine ⟨⟨by omega, fun j hj => ?_, fun _ => ?_⟩, by simp [prsF, lkC, lkD]⟩
  · match j, hj with
    | 0, _ => simp [lookB, srB]; omega
  · simp [lookB, szB, hah]
set_option maxRecDepth 100000 in
set_option maxHeartbeats 6400000 in
theorem pad_bad (st pd : Int) (h : st < 1 ∨ 2147483647 < st ∨ 300 < l.length ∨ pd < 0 ∨ 255 < pd) : Calls Try.prog 4 #[.int .i64 st, .slice A l.length c, .int .i64 pd] w (LawP w) := by
  by_cases h1 : st < 1
  · clear h
    go_enter Try.func4, Try.ntmps4
    go_wp2_with fail
    with_reducible refine (pl_awake _).mono ?_
    rintro e w1 ⟨rfl, hf1⟩
    have HF1 := Lib.hid hf1
    clear hf1
    go_wp2_with fail
    go_ret
    exact ⟨rfl, HF1.out⟩
  have d1 : decide (st < 1) = false := by simpa using h1
  by_cases h2 : 2147483647 < st
  · clear h h1
    go_enter Try.func4, Try.ntmps4
    go_wp2_with fail
    with_reducible refine (pl_awake _).mono ?_
    rintro e w1 ⟨rfl, hf1⟩
    have HF1 := Lib.hid hf1
    clear hf1
    go_wp2_with fail
    go_ret
    exact ⟨rfl, HF1.out⟩
  have d2 : decide (2147483647 < st) = false := by simpa using h2
  by_cases h3 : 300 < l.length
  · have d3 : (300 : Int) < (l.length : Int) := by omega
    clear h h1 h2 h3
    go_enter Try.func4, Try.ntmps4
    go_wp2_with fail
    with_reducible refine (pl_awake _).mono ?_
    rintro e w1 ⟨rfl, hf1⟩
    have HF1 := Lib.hid hf1
    clear hf1
    go_wp2_with fail
    go_ret
    exact ⟨rfl, HF1.out⟩
  have d3 : decide ((300 : Int) < (l.length : Int)) = false := by simp; omega
  by_cases h4 : pd < 0
  · clear h h1 h2 h3
    go_enter Try.func4, Try.ntmps4
    go_wp2_with fail
    with_reducible refine (pl_awake _).mono ?_
    rintro e w1 ⟨rfl, hf1⟩
    have HF1 := Lib.hid hf1
    clear hf1
    go_wp2_with fail
    go_ret
    exact ⟨rfl, HF1.out⟩
  have d4 : decide (pd < 0) = false := by simpa using h4
  have d5 : decide (255 < pd) = true := by simp; omega
  clear h h1 h2 h3 h4
  go_enter Try.func4, Try.ntmps4
  go_wp2_with fail
  with_reducible refine (pl_awake _).mono ?_
  rintro e w1 ⟨rfl, hf1⟩
  have HF1 := Lib.hid hf1
  clear hf1
  go_wp2_with fail
  go_ret
  exact ⟨rfl, HF1.out⟩
set_option maxRecDepth 100000 in
set_option maxHeartbeats 6400000 in
theorem pad_good (N p R1 R2 : Nat) (co : Int) (k0 : Bool) (hl : l.length ≤ 300) (hlc : l.length ≤ c) (hcm : c ≤ maxLen) (hA : BS w A l) (h1 : 1 ≤ N) (h2 : N ≤ 2147483647) (hp : p ≤ 255) (hR1 : l.length + 1 = R1) (hR2 : R1 + p = R2)
    (hk0 : ((l.length : Int) == 0) = k0) (hcase : p = 0 ∧ co = 106 ∨ 0 < p ∧ co = 101)
    (hP3 : ∀ W A2 c2, BS W A2 ((padS p l).take p) → p ≤ c2 → c2 ≤ maxLen → Calls Try.prog 9 #[.agg #[.int .i64 0, .int .i64 9, .int .i64 (N : Int), .slice A2 p c2]] W (FaultTold 0 (N : Int) (p : Int) co true W)) :
    Calls Try.prog 4 #[.int .i64 (N : Int), .slice A l.length c, .int .i64 (p : Int)] w (LawP w) := by
  have d0 : decide ((N : Int) < 1) = false := by simp; omega
  have d1 : decide (2147483647 < (N : Int)) = false := by simp; omega
  have d2 : decide ((300 : Int) < (l.length : Int)) = false := by simp; omega
  have d3 : decide ((p : Int) < 0) = false := by simp
  have d4 : decide ((255 : Int) < (p : Int)) = false := by simp; omega
  have e0 : IntKind.u8.wrap (p : Int) = (p : Int) := IntWalk.u8_in _ (by omega)
  have hb0 : byteV (UInt8.ofNat p) = .int .u8 (p : Int) := by unfold byteV; simp; omega
  have ho0 : Own (w.alloc (.cells #[.int .u8 (p : Int)] 5)) w.heap.size 5 1 (.slice (some ⟨w.heap.size, 0, none⟩) 1 1) 1 ([UInt8.ofNat p].map byteV) := by
    have := Own.lit (w := w) (base := w.heap.size) (E := 5) (sz := 1) (n := 1) (cs := #[.int .u8 (p : Int)]) (Nat.le_refl _) (by simp [maxLen]) rfl
    simpa [hb0] using this
  obtain ⟨A1, c1, w1, hap1, ho1, hbl1, _⟩ := Own.moreN (P := Try.prog) Try.underlying22 u8_info 22 ho0 (w0 := w) ((Below.refl _ _).alloc (Nat.le_refl _) _) (Nat.le_refl _) A c l l.length R1 rfl (by omega) (hA.fresh (Fresh.alloc _ _)) hlc (by omega)
  obtain ⟨A2, c2, w2, hap2, ho2, hol2⟩ := Own.zeros (P := Try.prog) Try.underlying22 Try.underlying3 u8_info 22 ho1 (by omega) (by have := hbl1.size; omega) p R2 hR2 (by omega)
  have hX2 : padS p l = [UInt8.ofNat p] ++ l ++ List.replicate p 0 := by simp [padS]
  rw [← hX2] at ho2
  have hlen2 : (padS p l).length = R2 := by rw [padS_len]; omega
  have hf1 : Fresh w w1 := hbl1
  have hf2 : Fresh w w2 := Below.trans hf1 (Only.below hol2 hf1.size (fun k hk => (ho1.lt k hk).1))
  have hbs2 : BS w2 A2 (padS p l) := (Own.bytes ho2).1
  obtain ⟨A2', c2', e2', hle2, hmx2, _⟩ := ho2.slice
  cases e2'
  have HP1 := Lib.hid (fun W (hw : Fresh w2 W) => parse_data 9 (N : Int) A2 c2 (padS p l) l true W (hbs2.fresh hw) (by omega) hmx2 (by omega) (padS_told p l true (N : Int) (by omega) hp).1 (padS_told p l true (N : Int) (by omega) hp).2)
  rw [hlen2] at HP1
  have HP2 := Lib.hid (fun W (hw : Fresh w W) => parse_data 1 (N : Int) A c l l true W (hA.fresh hw) hlc hcm (by omega) (bare_told l true (N : Int) (by omega)).1 (bare_told l true (N : Int) (by omega)).2)
  have hct := run_cut_to (P := Try.prog) Try.underlying22 u8_size A2 R2 c2 p (by omega)
  have HP3' := Lib.hid (fun W (hw : Fresh w2 W) => hP3 W A2 c2 ((hbs2.fresh hw).take p) (by omega) hmx2)
  have HF2 := Lib.hid hf2
  have HS2 := Lib.hid hA
  have w1' : IntKind.i64.wrap ((R2 : Int) - (l.length : Int)) = (p : Int) + 1 := by rw [IntWalk.i64_in _ (by omega)]; omega
  have w2' : IntKind.i64.wrap ((l.length : Int) + (p : Int)) = (l.length : Int) + (p : Int) := IntWalk.i64_in _ (by omega)
  have w3' : IntKind.i64.wrap ((l.length : Int) + (p : Int) + 1) = (R2 : Int) := by rw [IntWalk.i64_in _ (by omega)]; omega
  have m1 : min (p : Int) ((p : Int) + 1) = (p : Int) := by omega
  have m2 : max (p : Int) 0 = (p : Int) := by omega
  have m3 : (p : Int) < (p : Int) + 1 := by omega
  have HRA := Lib.hid (And.intro ho2 hol2)
  clear ho0 ho1 ho2 hbl1 hol2 hf1 hf2 hbs2 hA hP3 hX2 hb0
  go_enter Try.func4, Try.ntmps4
  go_upto_region 4 with (at_builtin; with_reducible refine wp_app rfl (.tmp 36) (.tmp 37) _ rfl hap1 rfl (by simp [Act.eval, Act.put]) (by simp [Act.eval, Act.put]) ?_)
  clear hap1
  go_upto_region 5 with (at_builtin; with_reducible refine Lib.wpList_append_run _ rfl (.tmp 39) (.tmp 40) _ _ rfl _ _ (by simp [Act.eval, Act.put]) (by simp [Act.eval, Act.put]) _ _ hap2 ?_)
  clear hap2
  have hpl : (0 : Int) ≤ (p : Int) := by omega
  go_wp2_with fail
  with_reducible refine (HP1.out _ (Fresh.refl _)).mono ?_
  rintro e w3 ⟨A3, c3, P3, q3, rfl, hbs3, _, hf3⟩
  have HF3 := Lib.hid hf3
  have HS3 := Lib.hid hbs3
  clear hbs3 hf3 HP1
  go_wp2_with fail
  with_reducible refine (HP2.out _ (HF2.out.trans (HF3.out.trans ((Fresh.alloc _ _).allocS _)))).mono ?_
  rintro e w4 ⟨A4, c4, P4, q4, rfl, hbs4, _, hf4⟩
  have hi3 : Blk w4 w3.heap.size 28 #[.int .i64 0, .int .i64 (N : Int), .slice A3 l.length c3, .bool true, .bool false, .bool false, .int .i64 (R2 : Int), .int .i64 0, .int .i64 0, .int .i64 0, .int .i64 0, .int .i64 0, .bool false, .bool false, .slice P3 0 q3] := ((Blk.new w3 28 #[.int .i64 0, .int .i64 (N : Int), .slice A3 l.length c3, .bool true, .bool false, .bool false, .int .i64 (R2 : Int), .int .i64 0, .int .i64 0, .int .i64 0, .int .i64 0, .int .i64 0, .bool false, .bool false, .slice P3 0 q3]).alloc (.cells #[.int .i64 0, .bool false] 31)).fresh hf4
  have hj3 : Blk w4 (w3.heap.size + 1) 31 #[.int .i64 0, .bool false] := (Blk.mkAt (w := w3.alloc (.cells #[.int .i64 0, .int .i64 (N : Int), .slice A3 l.length c3, .bool true, .bool false, .bool false, .int .i64 (R2 : Int), .int .i64 0, .int .i64 0, .int .i64 0, .int .i64 0, .int .i64 0, .bool false, .bool false, .slice P3 0 q3] 28)) (by simp)).fresh hf4
  have HX4 := Lib.hid (And.intro hi3 (And.intro hj3 (And.intro (HS3.out.fresh (((Fresh.alloc _ _).allocS _).trans hf4)) (And.intro hbs4 (HF3.out.trans (((Fresh.alloc _ _).allocS _).trans hf4))))))
  clear hi3 hj3 hbs4 hf4 HP2 HS3 HF3
  generalize w3.heap.size = g3 at *
  go_wp2_with fail
  with_reducible refine (HP3'.out _ (HX4.out.2.2.2.2.trans ((Fresh.alloc _ _).allocS _))).mono ?_
  rintro e w5 ⟨A5, c5, P5, q5, rfl, _, _, hf5⟩
  go_upto_region 8 with fail
  refine wp_gen (fun W => Blk W g3 28 #[.int .i64 0, .int .i64 (N : Int), .slice A3 l.length c3, .bool true, .bool false, .bool false, .int .i64 (R2 : Int), .int .i64 0, .int .i64 0, .int .i64 0, .int .i64 0, .int .i64 0, .bool false, .bool false, .slice P3 0 q3] ∧ Blk W (g3 + 1) 31 #[.int .i64 0, .bool false] ∧ Blk W w4.heap.size 28 #[.int .i64 0, .int .i64 (N : Int), .slice A4 l.length c4, .bool true, .bool false, .bool false, .int .i64 (l.length : Int), .int .i64 0, .int .i64 0, .int .i64 0, .int .i64 0, .int .i64 0, .bool false, .bool false, .slice P4 0 q4] ∧ Blk W (w4.heap.size + 1) 31 #[.int .i64 0, .bool false] ∧ Blk W (w5.heap.size + 1) 31 #[.int .i64 co, .bool true] ∧ BS W A3 l ∧ BS W A4 l ∧ Fresh w W) ?_ ?_
  focus
    obtain ⟨a1, a2, a3, a4, a5⟩ := HX4.out
    have hf45 : Fresh w4 w5 := (((Fresh.alloc _ _).allocS _).trans hf5)
    have hi4 : Blk w5 w4.heap.size 28 #[.int .i64 0, .int .i64 (N : Int), .slice A4 l.length c4, .bool true, .bool false, .bool false, .int .i64 (l.length : Int), .int .i64 0, .int .i64 0, .int .i64 0, .int .i64 0, .int .i64 0, .bool false, .bool false, .slice P4 0 q4] := ((Blk.new w4 28 #[.int .i64 0, .int .i64 (N : Int), .slice A4 l.length c4, .bool true, .bool false, .bool false, .int .i64 (l.length : Int), .int .i64 0, .int .i64 0, .int .i64 0, .int .i64 0, .int .i64 0, .bool false, .bool false, .slice P4 0 q4]).alloc (.cells #[.int .i64 0, .bool false] 31)).fresh hf5
    have hj4 : Blk w5 (w4.heap.size + 1) 31 #[.int .i64 0, .bool false] := (Blk.mkAt (w := w4.alloc (.cells #[.int .i64 0, .int .i64 (N : Int), .slice A4 l.length c4, .bool true, .bool false, .bool false, .int .i64 (l.length : Int), .int .i64 0, .int .i64 0, .int .i64 0, .int .i64 0, .int .i64 0, .bool false, .bool false, .slice P4 0 q4] 28)) (by simp)).fresh hf5
    have hfe : ∀ (o o' : Obj), Fresh w5 ((w5.alloc o).alloc o') := fun o o' => (Fresh.alloc _ _).allocS _
    exact ⟨(a1.fresh hf45).fresh (hfe _ _), (a2.fresh hf45).fresh (hfe _ _), hi4.fresh (hfe _ _), hj4.fresh (hfe _ _), Blk.mkAt (by simp), (a3.fresh hf45).fresh (hfe _ _), (a4.fresh hf45).fresh (hfe _ _), HF2.out.trans (a5.trans (hf45.trans (hfe _ _)))⟩
  intro W ⟨hb1, hb2, hb3, hb4, hb5, hs1, hs2, hfw⟩
  obtain ⟨p0, p1⟩ := hb2.c2
  obtain ⟨r0, r1⟩ := hb5.c2
  have HB1 := Lib.hid hb1
  have HB3 := Lib.hid hb3
  have HB4 := Lib.hid hb4
  have HS1 := Lib.hid hs1
  have HS2' := Lib.hid hs2
  have HFW := Lib.hid hfw
  have HS0 := Lib.hid (HS2.out.fresh hfw)
  generalize w4.heap.size = g4 at *
  generalize w5.heap.size = g5 at *
  clear hb1 hb2 hb3 hb4 hb5 hs1 hs2 hfw hf5 HX4 HF2 HS2
  rcases hcase with ⟨hp0, rfl⟩ | ⟨hp0, rfl⟩
  · have q0 : decide ((0 : Int) < (p : Int)) = false := by simp; omega
    have q0' : decide (0 < p) = false := by simp; omega
    clear hp0
    go_wp2_with fail
    with_reducible refine (pok 0 false true (by decide) _).mono ?_
    rintro e w6 ⟨rfl, hf6⟩
    obtain ⟨f0, f1⟩ := (HB4.out.fresh hf6).c2
    have HF6 := Lib.hid hf6
    clear hf6
    go_wp2_with fail
    with_reducible refine (pok 0 false true (by decide) _).mono ?_
    rintro e w7 ⟨rfl, hf7⟩
    have hf67 := HF6.out.trans hf7
    have hx := HB1.out.fresh hf67
    have x2 := hx.cell 2
    have x3 := hx.cell 3
    have x6 := hx.cell 6
    simp only [List.getElem?_toArray, List.getElem?_cons_zero, List.getElem?_cons_succ] at x2 x3 x6
    have hy := HB3.out.fresh hf67
    have y2 := hy.cell 2
    have y3 := hy.cell 3
    have y6 := hy.cell 6
    simp only [List.getElem?_toArray, List.getElem?_cons_zero, List.getElem?_cons_succ] at y2 y3 y6
    have s1 := run_str (P := Try.prog) (HS1.out.fresh hf67) 22 9 5 Try.underlying22 Try.underlying5 Try.underlying9 c3
    have s2 := run_str (P := Try.prog) (HS2'.out.fresh hf67) 22 9 5 Try.underlying22 Try.underlying5 Try.underlying9 c4
    have s3 := run_str (P := Try.prog) (HS0.out.fresh hf67) 22 9 5 Try.underlying22 Try.underlying5 Try.underlying9 c
    generalize strB l = S at *
    have k1 : (S.toList == S.toList) = true := beq_self_eq_true _
    have k2 : ((R2 : Int) == (R2 : Int)) = true := beq_self_eq_true _
    have k3 : ((l.length : Int) == (l.length : Int)) = true := beq_self_eq_true _
    have HF7 := Lib.hid (HFW.out.trans hf67)
    clear hx hy hf67 hf7 HF6
    go_wp2_with fail
    with_reducible refine (pl_awake _).mono ?_
    rintro e w8 ⟨rfl, hf8⟩
    have HF8 := Lib.hid (HF7.out.trans hf8)
    clear hf8
    go_wp2_with fail
    go_ret
    exact ⟨rfl, HF8.out⟩
  · have q0 : decide ((0 : Int) < (p : Int)) = true := by simp; omega
    have q0' : decide (0 < p) = true := by simp; omega
    clear hp0
    cases k0
    · go_wp2_with fail
      with_reducible refine (pok 0 false true (by decide) _).mono ?_
      rintro e w6 ⟨rfl, hf6⟩
      obtain ⟨f0, f1⟩ := (HB4.out.fresh hf6).c2
      have HF6 := Lib.hid hf6
      clear hf6
      go_wp2_with fail
      with_reducible refine (pok 0 false true (by decide) _).mono ?_
      rintro e w7 ⟨rfl, hf7⟩
      have hf67 := HF6.out.trans hf7
      have hx := HB1.out.fresh hf67
      have x2 := hx.cell 2
      have x3 := hx.cell 3
      have x6 := hx.cell 6
      simp only [List.getElem?_toArray, List.getElem?_cons_zero, List.getElem?_cons_succ] at x2 x3 x6
      have hy := HB3.out.fresh hf67
      have y2 := hy.cell 2
      have y3 := hy.cell 3
      have y6 := hy.cell 6
      simp only [List.getElem?_toArray, List.getElem?_cons_zero, List.getElem?_cons_succ] at y2 y3 y6
      have s1 := run_str (P := Try.prog) (HS1.out.fresh hf67) 22 9 5 Try.underlying22 Try.underlying5 Try.underlying9 c3
      have s2 := run_str (P := Try.prog) (HS2'.out.fresh hf67) 22 9 5 Try.underlying22 Try.underlying5 Try.underlying9 c4
      have s3 := run_str (P := Try.prog) (HS0.out.fresh hf67) 22 9 5 Try.underlying22 Try.underlying5 Try.underlying9 c
      generalize strB l = S at *
      have k1 : (S.toList == S.toList) = true := beq_self_eq_true _
      have k2 : ((R2 : Int) == (R2 : Int)) = true := beq_self_eq_true _
      have k3 : ((l.length : Int) == (l.length : Int)) = true := beq_self_eq_true _
      have HF7 := Lib.hid (HFW.out.trans hf67)
      clear hx hy hf67 hf7 HF6
      go_wp2_with fail
      with_reducible refine (pl_awake _).mono ?_
      rintro e w8 ⟨rfl, hf8⟩
      have HF8 := Lib.hid (HF7.out.trans hf8)
      clear hf8
      go_wp2_with fail
      go_ret
      exact ⟨rfl, HF8.out⟩
    · go_wp2_with fail
      with_reducible refine (pok 0 false true (by decide) _).mono ?_
      rintro e w6 ⟨rfl, hf6⟩
      obtain ⟨f0, f1⟩ := (HB4.out.fresh hf6).c2
      have HF6 := Lib.hid hf6
      clear hf6
      go_wp2_with fail
      with_reducible refine (pok 0 false true (by decide) _).mono ?_
      rintro e w7 ⟨rfl, hf7⟩
      have hf67 := HF6.out.trans hf7
      have hx := HB1.out.fresh hf67
      have x2 := hx.cell 2
      have x3 := hx.cell 3
      have x6 := hx.cell 6
      simp only [List.getElem?_toArray, List.getElem?_cons_zero, List.getElem?_cons_succ] at x2 x3 x6
      have hy := HB3.out.fresh hf67
      have y2 := hy.cell 2
      have y3 := hy.cell 3
      have y6 := hy.cell 6
      simp only [List.getElem?_toArray, List.getElem?_cons_zero, List.getElem?_cons_succ] at y2 y3 y6
      have s1 := run_str (P := Try.prog) (HS1.out.fresh hf67) 22 9 5 Try.underlying22 Try.underlying5 Try.underlying9 c3
      have s2 := run_str (P := Try.prog) (HS2'.out.fresh hf67) 22 9 5 Try.underlying22 Try.underlying5 Try.underlying9 c4
      have s3 := run_str (P := Try.prog) (HS0.out.fresh hf67) 22 9 5 Try.underlying22 Try.underlying5 Try.underlying9 c
      generalize strB l = S at *
      have k1 : (S.toList == S.toList) = true := beq_self_eq_true _
      have k2 : ((R2 : Int) == (R2 : Int)) = true := beq_self_eq_true _
      have k3 : ((l.length : Int) == (l.length : Int)) = true := beq_self_eq_true _
      have HF7 := Lib.hid (HFW.out.trans hf67)
      clear hx hy hf67 hf7 HF6
      go_wp2_with fail
      with_reducible refine (pl_awake _).mono ?_
      rintro e w8 ⟨rfl, hf8⟩
      have HF8 := Lib.hid (HF7.out.trans hf8)
      clear hf8
      go_wp2_with fail
      go_ret
      exact ⟨rfl, HF8.out⟩
theorem PayloadPads_any (st : Int) (A : Option Addr) (l : List UInt8) (c : Nat) (pd : Int) (w : World) (hst : (Lit.int .i64 st).wf = true) (hlc : l.length ≤ c) (hcm : c ≤ maxLen) (hA : BS w A l) (hpd : (Lit.int .i64 pd).wf = true) :
    Calls Try.prog 4 #[.int .i64 st, .slice A l.length c, .int .i64 pd] w fun e w' => e = .returned (.bool true) ∧ Below w.heap.size w w' := by
  show Calls _ _ _ _ (LawP w)
  by_cases h : st < 1 ∨ 2147483647 < st ∨ 300 < l.length ∨ pd < 0 ∨ 255 < pd
  · exact pad_bad st pd h
  obtain ⟨N, rfl⟩ : ∃ N : Nat, st = (N : Int) := ⟨st.toNat, by omega⟩
  obtain ⟨p, rfl⟩ : ∃ p : Nat, pd = (p : Int) := ⟨pd.toNat, by omega⟩
  by_cases hp : p = 0
  · subst hp
    refine pad_good N 0 (l.length + 1) (l.length + 1) 106 _ (by omega) hlc hcm hA (by omega) (by omega) (by omega) rfl rfl rfl (.inl ⟨rfl, rfl⟩) fun W A2 c2 hb h0 h1 => ?_
    have := parse_fault 0 9 (N : Int) A2 c2 [] 106 true 1 W (BS.nil _ _) (by simp) h1 (by simp) (cut_told0 (N : Int) (by omega)).1 (cut_told0 (N : Int) (by omega)).2
    exact this
  · have hlen : ((padS p l).take p).length = p := by rw [List.length_take, padS_len]; omega
    refine pad_good N p (l.length + 1) (l.length + 1 + p) 101 _ (by omega) hlc hcm hA (by omega) (by omega) (by omega) rfl rfl rfl (.inr ⟨by omega, rfl⟩) fun W A2 c2 hb h0 h1 => ?_
    have := parse_fault 0 9 (N : Int) A2 c2 ((padS p l).take p) 101 true 2 W hb (by omega) h1 (by omega) (cut_told p l (N : Int) (by omega) (by omega) (by omega)).1 (cut_told p l (N : Int) (by omega) (by omega) (by omega)).2
    rw [hlen] at this
    exact this
end
end Go.Proofs.Ytcdghmidpaeloaa
