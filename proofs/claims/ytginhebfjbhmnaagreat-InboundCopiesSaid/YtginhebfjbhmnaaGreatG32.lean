/-
  Texts laid together: DecC DecD.
-/
import Derived.Test.YtginhebfjbhmnaaGreatG31
/-
  Package decode: field.
-/
namespace Go.Proofs.YtginhebfjbhmnaaGreat
set_option maxRecDepth 100000
set_option maxRecDepth 100000
set_option linter.unusedVariables false
set_option linter.unusedSimpArgs false
open Go.RowKit
def FieldP (fs : List FldT) (n : Nat) (l : List UInt8) (w : World) (e : Ending) (w' : World) : Prop := e = .returned (.tuple #[.agg #[.string (fieldR fs n l).2.1.1, .string (fieldR fs n l).2.1.2], .int .i64 ((fieldR fs n l).2.2 : Int), .int .i64 ((fieldR fs n l).1 : Int)]) ∧ Fresh w w'
/-- How the value is read, the name told. -/
def valR (nm : ByteArray) (u : Nat) (l : List UInt8) : Nat × FldT × Nat := if (litR (l.drop u) 4096).2.2 = 0 then (0, (nm, strB (litR (l.drop u) 4096).1), u + (litR (l.drop u) 4096).2.1) else ((litR (l.drop u) 4096).2.2, (strB [], strB []), 0)
theorem fieldR_text {fs : List FldT} {l : List UInt8} (h : (litR l 4096).2.2 = 0) : fieldR fs 0 l = valR (strB (litR l 4096).1) (litR l 4096).2.1 l := by
  unfold fieldR valR
  simp [h]
theorem fieldR_text_no {fs : List FldT} {l : List UInt8} (h : (litR l 4096).2.2 ≠ 0) : fieldR fs 0 l = ((litR l 4096).2.2, (strB [], strB []), 0) := by
  unfold fieldR
  simp [h]
theorem fieldR_entry {fs : List FldT} {n : Nat} {l : List UInt8} {f : FldT} (hn : n ≠ 0) (h : entR fs n = some f) : fieldR fs n l = valR f.1 0 l := by
  unfold fieldR valR
  simp [hn, h]
theorem fieldR_entry_no {fs : List FldT} {n : Nat} {l : List UInt8} (hn : n ≠ 0) (h : entR fs n = none) : fieldR fs n l = (23, (strB [], strB []), 0) := by
  unfold fieldR
  simp [hn, h]
theorem FieldP.mk {fs : List FldT} {n : Nat} {l : List UInt8} {w w' : World} {er u : Nat} {f : FldT} (h : fieldR fs n l = (er, f, u)) (hf : Fresh w w') : FieldP fs n l w (.returned (.tuple #[.agg #[.string f.1, .string f.2], .int .i64 (u : Int), .int .i64 (er : Int)])) w' := ⟨by rw [h], hf⟩
set_option maxHeartbeats 6400000 in
theorem de_field (base d p : Nat) (v : Value) (fs : List FldT) (lim most bound : Int) (dead : Bool) (n : Nat) (A : Option Addr) (c : Nat) (l : List UInt8) (w : World) (h : DecAt w base d p v fs lim most bound dead) (hm : fs.length ≤ 1000000) (hn : n ≤ 2147483647) (hl : l.length ≤ 100000000) (hlc : l.length ≤ c) (hcm : c ≤ maxLen) (hB : BS w A l) :
    Calls Tryz.prog 88 #[.pointer (some ⟨d, 0, none⟩), .int .i64 (n : Int), .slice A l.length c] w (FieldP fs n l w) := by
  have hcm2 := hcm
  unfold maxLen at hcm2
  have HLD0 : Hid (∀ u W, u ≤ l.length → Fresh w W → Calls Tryz.prog 93 #[.slice (cutA A u c) (l.length - u) (c - u), .int .i64 4096] W (LitDP (l.drop u) 4096 W)) := Lib.hid (fun u W hu hf => by
    have := lit_decode (cutA A u c) (c - u) (l.drop u) 4096 W (by rw [List.length_drop]; omega) (by rw [List.length_drop]; omega) (by unfold maxLen; omega) ((hB.fresh hf).cut u c hlc)
    rwa [List.length_drop] at this)
  have HL0 : Hid (∀ W, Fresh w W → Calls Tryz.prog 93 #[.slice A l.length c, .int .i64 4096] W (LitDP l 4096 W)) := Lib.hid (fun W hf => lit_decode A c l 4096 W hl hlc hcm (hB.fresh hf))
  have HEN : Hid (∀ W, Fresh w W → Calls Tryz.prog 87 #[.pointer (some ⟨d, 0, none⟩), .int .i64 (n : Int)] W (EnP fs n W)) := Lib.hid (fun W hf => de_entry base d p v fs lim most bound dead n W (h.fresh hf) hm hn)
  have HCT : Hid (∀ u : Nat, u ≤ l.length → ∀ W, (Instr.slice 28 (.slice A l.length c) (some (.int .i64 (u : Int))) none none).run Tryz.prog W = .ok (.slice (cutA A u c) (l.length - u) (c - u)) W) := Lib.hid (fun u hu => run_cut_from (P := Tryz.prog) Tryz.underlying28 u8_sizeL A l.length c u hu)
  have HMK : Hid (∀ (er u : Nat) (f : FldT) W, fieldR fs n l = (er, f, u) → Fresh w W → FieldP fs n l w (.returned (.tuple #[.agg #[.string f.1, .string f.2], .int .i64 (u : Int), .int .i64 (er : Int)])) W) := Lib.hid (fun er u f W h1 h2 => FieldP.mk h1 h2)
  have HUS : Hid ((litR l 4096).2.2 = 0 → 1 ≤ (litR l 4096).2.1 ∧ (litR l 4096).2.1 ≤ l.length) := Lib.hid (fun h => litR_used l 4096 h)
  generalize FieldP fs n l w = FP at *
  clear h hB
  by_cases h0 : n = 0
  · subst h0
    rw [show ((0 : Nat) : Int) = 0 from rfl]
    by_cases he : (litR l 4096).2.2 = 0
    · have hus := HUS.out he
      have hF := fieldR_text (fs := fs) he
      obtain ⟨O1, hO1⟩ : ∃ O1, (litR l 4096).1 = O1 := ⟨_, rfl⟩
      obtain ⟨u1, hu1⟩ : ∃ u1, (litR l 4096).2.1 = u1 := ⟨_, rfl⟩
      have HL1 : Hid (∀ W, Fresh w W → Calls Tryz.prog 93 #[.slice A l.length c, .int .i64 4096] W fun e w' => ∃ (A : Option Addr) (c : Nat), e = .returned (.tuple #[.slice A O1.length c, .int .i64 (u1 : Int), .int .i64 0]) ∧ BS w' A O1 ∧ Fresh W w') := Lib.hid (fun W hf => (HL0.out W hf).mono (fun e w' hh => by
        obtain ⟨A1, c1, e1, ho, hf1⟩ := hh
        rw [he, hO1, hu1] at e1
        rw [hO1] at ho
        exact ⟨A1, c1, e1, ho.bytes.1, hf1⟩))
      rw [hO1, hu1] at hF
      rw [hu1] at hus
      have HF := Lib.hid hF
      clear hF hO1 hu1 he HUS HEN
      go_enter Tryz.func88, Tryz.ntmps88
      go_wp2_with fail
      with_reducible refine (HL1.out _ (Fresh.alloc _ _)).mono ?_
      rintro e w1 ⟨A1, c1, rfl, hb1, hf1⟩
      have HB1 := Lib.hid ((Blk.new w 62 #[.string ⟨#[]⟩, .string ⟨#[]⟩]).fresh hf1)
      have HF1 := Lib.hid (Fresh.tA hf1)
      obtain ⟨d0, d1⟩ := HB1.out.c2
      have z0 := HB1.out.frozen 0
      have hcv1 := run_str (P := Tryz.prog) hb1 28 9 5 Tryz.underlying28 Tryz.underlying5 Tryz.underlying9 c1
      clear hf1 hb1
      go_upto_region 10 with fail
      refine wp_gen (fun W => Blk W w.heap.size 62 #[.string (strB O1), .string ⟨#[]⟩] ∧ Fresh w W) ⟨HB1.out.set 0 (.string (strB O1)), HF1.out.step _ _ (Nat.le_refl _)⟩ ?_
      rintro W1 ⟨hbw, hfw⟩
      have HBW := Lib.hid hbw
      have HFW := Lib.hid hfw
      clear hbw hfw d0 d1 z0 hcv1
      -- the value
      have hct := HCT.out u1 hus.2
      have HV := Lib.hid (HLD0.out u1 W1 hus.2 HFW.out)
      by_cases he2 : (litR (l.drop u1) 4096).2.2 = 0
      · obtain ⟨O2, hO2⟩ : ∃ O2, (litR (l.drop u1) 4096).1 = O2 := ⟨_, rfl⟩
        obtain ⟨p2, hp2⟩ : ∃ p2, (litR (l.drop u1) 4096).2.1 = p2 := ⟨_, rfl⟩
        have hus2 := litR_used (l.drop u1) 4096 he2
        rw [hp2, List.length_drop] at hus2
        have HV1 : Hid (Calls Tryz.prog 93 #[.slice (cutA A u1 c) (l.length - u1) (c - u1), .int .i64 4096] W1 fun e w' => ∃ (A : Option Addr) (c : Nat), e = .returned (.tuple #[.slice A O2.length c, .int .i64 (p2 : Int), .int .i64 0]) ∧ BS w' A O2 ∧ Fresh W1 w') := Lib.hid (HV.out.mono (fun e w' hh => by
          obtain ⟨A1, c1, e1, ho, hf1⟩ := hh
          rw [he2, hO2, hp2] at e1
          rw [hO2] at ho
          exact ⟨A1, c1, e1, ho.bytes.1, hf1⟩))
        have hF2 := HF.out
        unfold valR at hF2
        rw [if_pos he2, hO2, hp2] at hF2
        have HFIN := Lib.hid (fun W hf => HMK.out 0 (u1 + p2) (strB O1, strB O2) W hF2 hf)
        have eU : ((u1 + p2 : Nat) : Int) = (u1 : Int) + (p2 : Int) := by omega
        rw [eU] at HFIN
        simp only at HFIN
        have hw64 : wrap64 ((u1 : Int) + (p2 : Int)) = (u1 : Int) + (p2 : Int) := (wrap_eq64 _).symm.trans (IntWalk.i64_in _ (by omega))
        clear hF2 hO2 hp2 he2 HV HF eU HMK
        generalize strB O1 = SX at *
        generalize l.length - u1 = lu at *
        generalize c - u1 = cu at *
        generalize cutA A u1 c = AU at *
        go_wp2_with fail
        with_reducible refine HV1.out.mono ?_
        rintro e w5 ⟨A5, c5, rfl, hb5, hf5⟩
        have HB5 := Lib.hid (HBW.out.fresh hf5)
        have HF5 := Lib.hid (HFW.out.trans hf5)
        obtain ⟨x0, x1⟩ := HB5.out.c2
        have z0 := HB5.out.frozen 0
        have z1 := HB5.out.frozen 1
        have hcv5 := run_str (P := Tryz.prog) hb5 28 9 5 Tryz.underlying28 Tryz.underlying5 Tryz.underlying9 c5
        clear hf5 hb5
        generalize strB O2 = SO2 at *
        go_upto_region 14 with fail
        refine wp_gen (fun W => Blk W w.heap.size 62 #[.string SX, .string SO2] ∧ Fresh w W) ⟨HB5.out.set 1 (.string SO2), HF5.out.step _ _ (Nat.le_refl _)⟩ ?_
        rintro W6 ⟨hb6, hf6⟩
        obtain ⟨q0, q1⟩ := hb6.c2
        have y0 := hb6.frozen 0
        have y1 := hb6.frozen 1
        have HB6 := Lib.hid hb6
        have HF6 := Lib.hid hf6
        clear hb6 hf6 x0 x1 z0 z1 hcv5
        go_wp2
        refine wx_gen (fun W => Blk W w.heap.size 62 #[.string SX, .string SO2] ∧ Fresh w W) ⟨(HB6.out.set 0 (.string SX)).set 1 (.string SO2), by repeat (first | with_reducible exact HF6.out | (with_reducible refine Fresh.step2 ?_ ?_; focus (exact Nat.le_refl _)))⟩ ?_
        rintro W7 ⟨hb7, hf7⟩
        obtain ⟨r0, r1⟩ := hb7.c2
        exact bodyPost_ret (v := .tuple #[.agg #[.string SX, .string SO2], .int .i64 ((u1 : Int) + (p2 : Int)), .int .i64 0]) (by simp [results, Tryz.f88, go_sem, r0, r1, hw64]) rfl (HFIN.out W7 hf7)
      · obtain ⟨er2, her2⟩ : ∃ er2, (litR (l.drop u1) 4096).2.2 = er2 := ⟨_, rfl⟩
        rw [her2] at he2
        have HV1 : Hid (Calls Tryz.prog 93 #[.slice (cutA A u1 c) (l.length - u1) (c - u1), .int .i64 4096] W1 fun e w' => ∃ (A : Option Addr) (c n u : Nat), e = .returned (.tuple #[.slice A n c, .int .i64 (u : Int), .int .i64 (er2 : Int)]) ∧ Fresh W1 w') := Lib.hid (HV.out.mono (fun e w' hh => by
          obtain ⟨A1, c1, e1, ho, hf1⟩ := hh
          rw [her2] at e1
          exact ⟨A1, c1, _, _, e1, hf1⟩))
        have hF2 := HF.out
        unfold valR at hF2
        rw [if_neg (by rw [her2]; exact he2), her2] at hF2
        have HFIN := Lib.hid (fun W hf => HMK.out er2 0 (strB [], strB []) W hF2 hf)
        have h0d : ((er2 : Int) != 0) = true := by simp; omega
        have h0i : ¬ (er2 : Int) = 0 := by omega
        clear hF2 her2 HV HF HMK
        generalize strB O1 = SX at *
        generalize l.length - u1 = lu at *
        generalize c - u1 = cu at *
        generalize cutA A u1 c = AU at *
        go_wp2_with fail
        with_reducible refine HV1.out.mono ?_
        rintro e w5 ⟨A5, c5, n5, u5, rfl, hf5⟩
        have HB5 := Lib.hid (HBW.out.fresh hf5)
        have HF5 := Lib.hid (HFW.out.trans hf5)
        obtain ⟨x0, x1⟩ := HB5.out.c2
        have z0 := HB5.out.frozen 0
        have z1 := HB5.out.frozen 1
        clear hf5
        go_wp2
        refine wx_gen (fun W => Blk W w.heap.size 62 #[.string ⟨#[]⟩, .string ⟨#[]⟩] ∧ Fresh w W) ⟨(HB5.out.set 0 (.string ⟨#[]⟩)).set 1 (.string ⟨#[]⟩), by repeat (first | with_reducible exact HF5.out | (with_reducible refine Fresh.step2 ?_ ?_; focus (exact Nat.le_refl _)))⟩ ?_
        rintro W7 ⟨hb7, hf7⟩
        obtain ⟨r0, r1⟩ := hb7.c2
        exact bodyPost_ret (v := .tuple #[.agg #[.string ⟨#[]⟩, .string ⟨#[]⟩], .int .i64 0, .int .i64 (er2 : Int)]) (by simp [results, Tryz.f88, go_sem, r0, r1]) rfl (HFIN.out W7 hf7)
    · have hF := fieldR_text_no (fs := fs) he
      obtain ⟨er, her⟩ : ∃ er, (litR l 4096).2.2 = er := ⟨_, rfl⟩
      have HL1 : Hid (∀ W, Fresh w W → Calls Tryz.prog 93 #[.slice A l.length c, .int .i64 4096] W fun e w' => ∃ (A : Option Addr) (c n u : Nat), e = .returned (.tuple #[.slice A n c, .int .i64 (u : Int), .int .i64 (er : Int)]) ∧ Fresh W w') := Lib.hid (fun W hf => (HL0.out W hf).mono (fun e w' hh => by
        obtain ⟨A1, c1, e1, ho, hf1⟩ := hh
        rw [her] at e1
        exact ⟨A1, c1, _, _, e1, hf1⟩))
      rw [her] at hF he
      have HFIN := Lib.hid (fun W hf => HMK.out er 0 (strB [], strB []) W hF hf)
      have h0d : ((er : Int) != 0) = true := by simp; omega
      have h0i : ¬ (er : Int) = 0 := by omega
      clear hF her HUS HEN HMK
      go_enter Tryz.func88, Tryz.ntmps88
      go_wp2_with fail
      with_reducible refine (HL1.out _ (Fresh.alloc _ _)).mono ?_
      rintro e w1 ⟨A1, c1, n1, u1, rfl, hf1⟩
      have HB1 := Lib.hid ((Blk.new w 62 #[.string ⟨#[]⟩, .string ⟨#[]⟩]).fresh hf1)
      have HF1 := Lib.hid (Fresh.tA hf1)
      obtain ⟨d0, d1⟩ := HB1.out.c2
      have z0 := HB1.out.frozen 0
      have z1 := HB1.out.frozen 1
      clear hf1
      go_wp2
      refine wx_gen (fun W => Blk W w.heap.size 62 #[.string ⟨#[]⟩, .string ⟨#[]⟩] ∧ Fresh w W) ⟨(HB1.out.set 0 (.string ⟨#[]⟩)).set 1 (.string ⟨#[]⟩), by repeat (first | with_reducible exact HF1.out | (with_reducible refine Fresh.step2 ?_ ?_; focus (exact Nat.le_refl _)))⟩ ?_
      rintro W7 ⟨hb7, hf7⟩
      obtain ⟨r0, r1⟩ := hb7.c2
      exact bodyPost_ret (v := .tuple #[.agg #[.string ⟨#[]⟩, .string ⟨#[]⟩], .int .i64 0, .int .i64 (er : Int)]) (by simp [results, Tryz.f88, go_sem, r0, r1]) rfl (HFIN.out W7 hf7)
  · have h0i : ¬ (n : Int) = 0 := by omega
    cases hen : entR fs n with
    | none =>
      have hF := fieldR_entry_no (l := l) h0 hen
      have HFIN := Lib.hid (fun W hf => HMK.out 23 0 (strB [], strB []) W hF hf)
      unfold EnP at HEN
      rw [hen] at HEN
      unfold nofV at HEN
      simp only at HEN
      clear hF hen HUS HMK
      go_enter Tryz.func88, Tryz.ntmps88
      go_wp2_with fail
      with_reducible refine (HEN.out _ (Fresh.alloc _ _)).mono ?_
      rintro e w1 ⟨rfl, hf1⟩
      have hb1 := (Blk.new w 62 #[.string ⟨#[]⟩, .string ⟨#[]⟩]).fresh hf1
      have hf1' := Fresh.tA hf1
      clear hf1
      go_upto_region 7 with fail
      refine wp_gen (fun W => Blk W w.heap.size 62 #[.string ⟨#[]⟩, .string ⟨#[]⟩] ∧ Fresh w W) ⟨hb1.alloc _, hf1'.allocS _⟩ ?_
      rintro W2 ⟨hb2, hf2⟩
      have HB1 := Lib.hid hb2
      have HF1 := Lib.hid hf2
      obtain ⟨d0, d1⟩ := HB1.out.c2
      have z0 := HB1.out.frozen 0
      have z1 := HB1.out.frozen 1
      clear hb1 hf1' hb2 hf2
      go_wp2
      refine wx_gen (fun W => Blk W w.heap.size 62 #[.string ⟨#[]⟩, .string ⟨#[]⟩] ∧ Fresh w W) ⟨(HB1.out.set 0 (.string ⟨#[]⟩)).set 1 (.string ⟨#[]⟩), by repeat (first | with_reducible exact HF1.out | (with_reducible refine Fresh.step2 ?_ ?_; focus (exact Nat.le_refl _)))⟩ ?_
      rintro W7 ⟨hb7, hf7⟩
      obtain ⟨r0, r1⟩ := hb7.c2
      exact bodyPost_ret (v := .tuple #[.agg #[.string ⟨#[]⟩, .string ⟨#[]⟩], .int .i64 0, .int .i64 23]) (by simp [results, Tryz.f88, go_sem, r0, r1]) rfl (HFIN.out W7 hf7)
    | some f =>
      have hF := fieldR_entry (l := l) h0 hen
      unfold EnP at HEN
      rw [hen] at HEN
      simp only at HEN
      obtain ⟨F1, F2⟩ := f
      simp only at HEN hF
      have HF := Lib.hid hF
      clear hF hen HUS
      go_enter Tryz.func88, Tryz.ntmps88
      go_wp2_with fail
      with_reducible refine (HEN.out _ (Fresh.alloc _ _)).mono ?_
      rintro e w1 ⟨rfl, hf1⟩
      have hb1 := (Blk.new w 62 #[.string ⟨#[]⟩, .string ⟨#[]⟩]).fresh hf1
      have hf1' := Fresh.tA hf1
      clear hf1
      go_upto_region 7 with fail
      refine wp_gen (fun W => Blk W w.heap.size 62 #[.string ⟨#[]⟩, .string ⟨#[]⟩] ∧ Blk W w1.heap.size 62 #[.string F1, .string F2] ∧ Fresh w W) ⟨hb1.alloc _, Blk.new w1 _ _, hf1'.allocS _⟩ ?_
      rintro W2 ⟨hb2, hb3, hf2⟩
      have HB1 := Lib.hid hb2
      have HF1 := Lib.hid hf2
      obtain ⟨d0, d1⟩ := HB1.out.c2
      obtain ⟨g0, g1⟩ := hb3.c2
      have z0 := HB1.out.frozen 0
      clear hb1 hf1' hb2 hf2 hb3
      go_upto_region 10 with fail
      refine wp_gen (fun W => Blk W w.heap.size 62 #[.string F1, .string ⟨#[]⟩] ∧ Fresh w W) ⟨HB1.out.set 0 (.string F1), HF1.out.step _ _ (Nat.le_refl _)⟩ ?_
      rintro W1 ⟨hbw, hfw⟩
      have HBW := Lib.hid hbw
      have HFW := Lib.hid hfw
      clear hbw hfw d0 d1 z0 g0 g1
      -- the value
      have HV := Lib.hid (HL0.out W1 HFW.out)
      by_cases he2 : (litR l 4096).2.2 = 0
      · obtain ⟨O2, hO2⟩ : ∃ O2, (litR l 4096).1 = O2 := ⟨_, rfl⟩
        obtain ⟨p2, hp2⟩ : ∃ p2, (litR l 4096).2.1 = p2 := ⟨_, rfl⟩
        have hus2 := litR_used l 4096 he2
        rw [hp2] at hus2
        have HV1 : Hid (Calls Tryz.prog 93 #[.slice A l.length c, .int .i64 4096] W1 fun e w' => ∃ (A : Option Addr) (c : Nat), e = .returned (.tuple #[.slice A O2.length c, .int .i64 (p2 : Int), .int .i64 0]) ∧ BS w' A O2 ∧ Fresh W1 w') := Lib.hid (HV.out.mono (fun e w' hh => by
          obtain ⟨A1, c1, e1, ho, hf1⟩ := hh
          rw [he2, hO2, hp2] at e1
          rw [hO2] at ho
          exact ⟨A1, c1, e1, ho.bytes.1, hf1⟩))
        have hF2 := HF.out
        unfold valR at hF2
        rw [List.drop_zero] at hF2
        rw [if_pos he2, hO2, hp2] at hF2
        have HFIN := Lib.hid (fun W hf => HMK.out 0 (0 + p2) (F1, strB O2) W hF2 hf)
        have eU : ((0 + p2 : Nat) : Int) = (p2 : Int) := by omega
        rw [eU] at HFIN
        simp only at HFIN
        have hw64 : wrap64 (p2 : Int) = (p2 : Int) := (wrap_eq64 _).symm.trans (IntWalk.i64_in _ (by omega))
        clear hF2 hO2 hp2 he2 HV HF eU HMK
        generalize F1 = SX at *
        go_wp2_with fail
        with_reducible refine HV1.out.mono ?_
        rintro e w5 ⟨A5, c5, rfl, hb5, hf5⟩
        have HB5 := Lib.hid (HBW.out.fresh hf5)
        have HF5 := Lib.hid (HFW.out.trans hf5)
        obtain ⟨x0, x1⟩ := HB5.out.c2
        have z0 := HB5.out.frozen 0
        have z1 := HB5.out.frozen 1
        have hcv5 := run_str (P := Tryz.prog) hb5 28 9 5 Tryz.underlying28 Tryz.underlying5 Tryz.underlying9 c5
        clear hf5 hb5
        generalize strB O2 = SO2 at *
        go_upto_region 14 with fail
        refine wp_gen (fun W => Blk W w.heap.size 62 #[.string SX, .string SO2] ∧ Fresh w W) ⟨HB5.out.set 1 (.string SO2), HF5.out.step _ _ (Nat.le_refl _)⟩ ?_
        rintro W6 ⟨hb6, hf6⟩
        obtain ⟨q0, q1⟩ := hb6.c2
        have y0 := hb6.frozen 0
        have y1 := hb6.frozen 1
        have HB6 := Lib.hid hb6
        have HF6 := Lib.hid hf6
        clear hb6 hf6 x0 x1 z0 z1 hcv5
        go_wp2
        refine wx_gen (fun W => Blk W w.heap.size 62 #[.string SX, .string SO2] ∧ Fresh w W) ⟨(HB6.out.set 0 (.string SX)).set 1 (.string SO2), by repeat (first | with_reducible exact HF6.out | (with_reducible refine Fresh.step2 ?_ ?_; focus (exact Nat.le_refl _)))⟩ ?_
        rintro W7 ⟨hb7, hf7⟩
        obtain ⟨r0, r1⟩ := hb7.c2
        exact bodyPost_ret (v := .tuple #[.agg #[.string SX, .string SO2], .int .i64 (p2 : Int), .int .i64 0]) (by simp [results, Tryz.f88, go_sem, r0, r1, hw64]) rfl (HFIN.out W7 hf7)
      · obtain ⟨er2, her2⟩ : ∃ er2, (litR l 4096).2.2 = er2 := ⟨_, rfl⟩
        rw [her2] at he2
        have HV1 : Hid (Calls Tryz.prog 93 #[.slice A l.length c, .int .i64 4096] W1 fun e w' => ∃ (A : Option Addr) (c n u : Nat), e = .returned (.tuple #[.slice A n c, .int .i64 (u : Int), .int .i64 (er2 : Int)]) ∧ Fresh W1 w') := Lib.hid (HV.out.mono (fun e w' hh => by
          obtain ⟨A1, c1, e1, ho, hf1⟩ := hh
          rw [her2] at e1
          exact ⟨A1, c1, _, _, e1, hf1⟩))
        have hF2 := HF.out
        unfold valR at hF2
        rw [List.drop_zero] at hF2
        rw [if_neg (by rw [her2]; exact he2), her2] at hF2
        have HFIN := Lib.hid (fun W hf => HMK.out er2 0 (strB [], strB []) W hF2 hf)
        have h0d : ((er2 : Int) != 0) = true := by simp; omega
        have h0i : ¬ (er2 : Int) = 0 := by omega
        clear hF2 her2 HV HF HMK
        generalize F1 = SX at *
        go_wp2_with fail
        with_reducible refine HV1.out.mono ?_
        rintro e w5 ⟨A5, c5, n5, u5, rfl, hf5⟩
        have HB5 := Lib.hid (HBW.out.fresh hf5)
        have HF5 := Lib.hid (HFW.out.trans hf5)
        obtain ⟨x0, x1⟩ := HB5.out.c2
        have z0 := HB5.out.frozen 0
        have z1 := HB5.out.frozen 1
        clear hf5
        go_wp2
        refine wx_gen (fun W => Blk W w.heap.size 62 #[.string ⟨#[]⟩, .string ⟨#[]⟩] ∧ Fresh w W) ⟨(HB5.out.set 0 (.string ⟨#[]⟩)).set 1 (.string ⟨#[]⟩), by repeat (first | with_reducible exact HF5.out | (with_reducible refine Fresh.step2 ?_ ?_; focus (exact Nat.le_refl _)))⟩ ?_
        rintro W7 ⟨hb7, hf7⟩
        obtain ⟨r0, r1⟩ := hb7.c2
        exact bodyPost_ret (v := .tuple #[.agg #[.string ⟨#[]⟩, .string ⟨#[]⟩], .int .i64 0, .int .i64 (er2 : Int)]) (by simp [results, Tryz.f88, go_sem, r0, r1]) rfl (HFIN.out W7 hf7)
end Go.Proofs.YtginhebfjbhmnaaGreat

/-
  Package decode: resize.
-/
namespace Go.Proofs.YtginhebfjbhmnaaGreat
set_option maxRecDepth 100000
set_option maxRecDepth 100000
set_option linter.unusedVariables false
set_option linter.unusedSimpArgs false
open Go.RowKit
/-- What a decoder may change: its table, and its own word. -/
def DecOnly (d p : Nat) (v : Value) (w w' : World) : Prop := Only (fun k => k = p ∨ v.ownBlock = some k) w w'
theorem de_resize_no (d : Nat) (n k : Nat) (cs : Array Value) (most : Int) (w : World) (hb : Blk w d 90 cs) (hmost : cs[1]? = some (.int .i64 most)) (h : 0 < k ∨ most < (n : Int)) :
    Calls Tryz.prog 81 #[.pointer (some ⟨d, 0, none⟩), .int .i64 (n : Int), .int .i64 (k : Int)] w fun e w' => e = .returned (.int .i64 24) ∧ Fresh w w' := by
  have c1 := (hb.cell 1).trans hmost
  by_cases hk : 0 < k
  · have h1 : decide ((0 : Int) < (k : Int)) = true := decide_eq_true (by omega)
    have h1i : (0 : Int) < (k : Int) := by omega
    go_enter Tryz.func81, Tryz.ntmps81
    go_wp2
    go_ret
    exact ⟨rfl, Fresh.refl _⟩
  · have hk0 : k = 0 := by omega
    subst hk0
    have h2 : most < (n : Int) := by omega
    have h2d : decide (most < (n : Int)) = true := decide_eq_true h2
    rw [show ((0 : Nat) : Int) = 0 from rfl]
    go_enter Tryz.func81, Tryz.ntmps81
    go_wp2
    go_ret
    exact ⟨rfl, Fresh.refl _⟩
set_option maxHeartbeats 1600000 in
theorem de_resize (base d p : Nat) (v : Value) (fs : List FldT) (lim most bound : Int) (dead : Bool) (n : Nat) (w : World) (h : DecAt w base d p v fs lim most bound dead) (hz : tz fs ≤ 4503599627370496) (hn : (n : Int) ≤ most) (hm : most ≤ 65536) (hdp : d ≠ p) (hdv : ∀ k, v.ownBlock = some k → k ≠ d) :
    Calls Tryz.prog 81 #[.pointer (some ⟨d, 0, none⟩), .int .i64 (n : Int), .int .i64 0] w fun e w' => e = .returned (.int .i64 0) ∧ ∃ v', DecAt w' base d p v' (fs.drop (goneN fs n)) n most bound dead ∧ v'.ownBlock = v.ownBlock ∧ Only (fun k => k = p ∨ v.ownBlock = some k) w w' := by
  obtain ⟨c0, c1, c2, c3⟩ := h.blk.c4
  have HBK := Lib.hid h.blk
  have HRS := Lib.hid (dy_resize (n : Int) h.tab hz (by omega) (by omega))
  have h2 : ¬ most < (n : Int) := by omega
  have h2d : decide (most < (n : Int)) = false := decide_eq_false h2
  clear h
  go_enter Tryz.func81, Tryz.ntmps81
  go_wp2_with fail
  with_reducible refine HRS.out.mono ?_
  rintro e w1 ⟨rfl, v', ht, hv, ho⟩
  have HFIN : Hid (∃ v', DecAt w1 base d p v' (fs.drop (goneN fs n)) n most bound dead ∧ v'.ownBlock = v.ownBlock ∧ Only (fun k => k = p ∨ v.ownBlock = some k) w w1) := Lib.hid ⟨v', ⟨HBK.out.only ho (by
    rintro (e | e)
    · exact hdp e
    · exact hdv _ e rfl), ht⟩, hv, ho⟩
  clear ht hv ho c0 c1 c2 c3
  go_wp2
  go_ret
  exact ⟨rfl, HFIN.out⟩
end Go.Proofs.YtginhebfjbhmnaaGreat

