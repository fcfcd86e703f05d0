/-
  A table and the document's list side by side: step.
-/
import Derived.Test.YthjajipagfojoaaDynC
namespace Go.Proofs.Ythjajipagfojoaa
set_option linter.unusedVariables false
set_option linter.unusedSimpArgs false
open Go.RowKit
section
variable {base p c : Nat} {v : Value} {A : Option Addr} {fs : List FldT} {lim : Int} {w : World}
set_option maxHeartbeats 1600000 in
theorem step_add (o : OpT) (h : Side w base p v A c fs lim) (h1 : o.k = 1) (hf : fz o.f ≤ 1000000000000000) : Calls Try.prog 11 #[.pointer (some ⟨p, 0, none⟩), .slice A fs.length c, .int .i64 lim, .agg #[.int .i64 o.k, .int .i64 o.n, .string o.f.1, .string o.f.2]] w (StP w base p v (stepF fs lim o).1 (stepF fs lim o).2) := by
  have H := Lib.hid h
  have HFZ := Lib.hid hf
  have HS : Hid (stepF fs lim o = (addF fs lim o.f, lim)) := Lib.hid (by unfold stepF; rw [if_pos h1])
  obtain ⟨k, n, f⟩ := o
  simp only at h1 hf HS HFZ ⊢
  subst h1
  have hlen := h.len
  have hzl : tz fs ≤ 65536 := by have := h.hz; have := h.l1; omega
  have HZL := Lib.hid hzl
  have HLN := Lib.hid hlen
  clear h hf hzl hlen
  go_enter Try.func11, Try.ntmps11
  go_upto_region 1 with fail
  refine wp_gen (fun W => Fresh w W ∧ Blk W w.heap.size 33 #[.int .i64 1, .int .i64 n, .string f.1, .string f.2]) ⟨Fresh.alloc _ _, Blk.new _ _ _⟩ ?_
  rintro W ⟨hfr, hb⟩
  have HF := Lib.hid hfr
  have HB := Lib.hid hb
  obtain ⟨c0, c1, c2, c3⟩ : W.cell? ⟨w.heap.size, 0, none⟩ = some (.int .i64 1) ∧ W.cell? ⟨w.heap.size, 1, none⟩ = some (.int .i64 n) ∧ W.cell? ⟨w.heap.size, 2, none⟩ = some (.string f.1) ∧ W.cell? ⟨w.heap.size, 3, none⟩ = some (.string f.2) := ⟨hb.cell 0, hb.cell 1, hb.cell 2, hb.cell 3⟩
  clear hfr hb
  go_wp2_with fail
  with_reducible refine (dy_pair f _).mono ?_
  rintro e w1 ⟨rfl, hf1⟩
  have HR := Lib.hid (rf_add A c fs lim f w1 ((H.out.li.fresh (HF.out.trans hf1)).rows) H.out.li.le H.out.li.max (by have := HLN.out; omega) (by have := HZL.out; have := HFZ.out; omega))
  have HB1 := Lib.hid (HB.out.fresh hf1)
  have HF1 := Lib.hid (HF.out.trans hf1)
  clear hf1 c0 c1 c2 c3
  go_wp2_with fail
  with_reducible refine HR.out.mono ?_
  rintro e w2 ⟨A2, cc2, rfl, hle2, hmx2, hmn2, hpr2, hf2⟩
  have HL2 : Hid (LiAt w2 A2 cc2 (addF fs lim f)) := Lib.hid ⟨hle2, hmx2, hmn2, hpr2⟩
  have HF2 := Lib.hid (HF1.out.trans hf2)
  have HB2 := Lib.hid (HB1.out.fresh hf2)
  clear hle2 hmx2 hmn2 hpr2 hf2 HR
  obtain ⟨m, hm⟩ : ∃ m, (addF fs lim f).length = m := ⟨_, rfl⟩
  obtain ⟨n0, hn0⟩ : ∃ n, fs.length = n := ⟨_, rfl⟩
  have hm2 : m ≤ 2048 := by have := tz_add fs lim f H.out.l0; have := tz_len (addF fs lim f); have := H.out.l1; omega
  have hn2 : n0 ≤ 2048 := by have := HLN.out; omega
  have HM := Lib.hid hm
  have HN := Lib.hid hn0
  rw [hm, hn0]
  clear hm hn0
  obtain ⟨c0, c1, c2, c3⟩ : w2.cell? ⟨w.heap.size, 0, none⟩ = some (.int .i64 1) ∧ w2.cell? ⟨w.heap.size, 1, none⟩ = some (.int .i64 n) ∧ w2.cell? ⟨w.heap.size, 2, none⟩ = some (.string f.1) ∧ w2.cell? ⟨w.heap.size, 3, none⟩ = some (.string f.2) := ⟨HB2.out.cell 0, HB2.out.cell 1, HB2.out.cell 2, HB2.out.cell 3⟩
  have HADD := Lib.hid (fun W (hw : Fresh w2 W) => dy_add f (H.out.tab.fresh (HF2.out.trans hw)) (by have := HZL.out; have := HFZ.out; omega) (Nat.le_trans H.out.hb (HF2.out.trans hw).size) H.out.l0 H.out.l1 (by have := HLN.out; omega))
  have HSZ := Lib.hid (fun W => dy_size f W (by have := HFZ.out; omega))
  go_wp2_with fail
  with_reducible refine (HSZ.out _).mono ?_
  rintro e w3 ⟨rfl, hf3⟩
  have HF3 := Lib.hid hf3
  have hb3 := HB2.out.fresh hf3
  clear c0 c1 c2 c3 hf3
  obtain ⟨c2, c3⟩ : w3.cell? ⟨w.heap.size, 2, none⟩ = some (.string f.1) ∧ w3.cell? ⟨w.heap.size, 3, none⟩ = some (.string f.2) := ⟨hb3.cell 2, hb3.cell 3⟩
  clear hb3
  by_cases hfit : (fz f : Int) ≤ lim
  · have hno : ¬ lim < (fz f : Int) := by omega
    have HW := Lib.hid (add_went fs lim f hfit)
    obtain ⟨gn, hgn⟩ : ∃ gn, goneN fs (lim - fz f) = gn := ⟨_, rfl⟩
    have HA := HADD.out _ HF3.out
    rw [hgn] at HA
    have HA' := Lib.hid HA
    have HWW : Hid (m + gn = n0 + 1) := Lib.hid (by have := HW.out; rw [hgn, HM.out, HN.out] at this; exact this)
    clear HA hgn HADD HSZ HW
    go_upto_region 7 with fail
    go_wp2_with fail
    with_reducible refine HA'.out.mono ?_
    rintro e w4 ⟨rfl, v4, ht4, hv4, ho4⟩
    have e4 : (gn : Int) = (n0 : Int) + 1 - (m : Int) := by have := HWW.out; omega
    have HX := Lib.hid (And.intro ht4 (And.intro hv4 ho4))
    clear ht4 hv4 ho4 HA' hfit hno c2 c3
    go_wp2
    refine bodyPost_ret (v := .tuple #[.slice A2 m cc2, .int .i64 lim, .bool true]) (by simp [results, Try.results11, go_sem, e4]) rfl ?_
    obtain ⟨g1, g2, g3⟩ := HX.out
    rw [HS.out]
    refine ⟨A2, cc2, v4, by rw [HM.out], ⟨g1, ?_, ?_, H.out.l0, H.out.l1, tz_add fs lim f H.out.l0⟩, fun k hk => ?_, ?_⟩
    · exact (HL2.out.fresh HF3.out).only g3 (TabAt.apart (H.out.tab.fresh (HF2.out.trans HF3.out)) (by decide) (by decide))
    · exact Nat.le_trans (Nat.le_trans H.out.hb (HF2.out.trans HF3.out).size) g3.size
    · rcases g2 k hk with e | e
      · exact .inl e
      · right; exact Nat.le_trans (HF2.out.trans HF3.out).size e
    · exact (Only.of_fresh (HF2.out.trans HF3.out)).trans g3
  · have hyes : lim < (fz f : Int) := by omega
    have HW : Hid (goneN fs (lim - fz f) = n0) := Lib.hid (by rw [goneN_neg _ _ (by omega), HN.out])
    have HA := HADD.out _ HF3.out
    rw [HW.out] at HA
    have HA' := Lib.hid HA
    clear HA HADD HSZ
    go_upto_region 7 with fail
    go_wp2_with fail
    with_reducible refine HA'.out.mono ?_
    rintro e w4 ⟨rfl, v4, ht4, hv4, ho4⟩
    have HX := Lib.hid (And.intro ht4 (And.intro hv4 ho4))
    clear ht4 hv4 ho4 HA' hfit hyes c2 c3
    go_wp2
    refine bodyPost_ret (v := .tuple #[.slice A2 m cc2, .int .i64 lim, .bool true]) (by simp [results, Try.results11, go_sem]) rfl ?_
    obtain ⟨g1, g2, g3⟩ := HX.out
    rw [HS.out]
    refine ⟨A2, cc2, v4, by rw [HM.out], ⟨g1, ?_, ?_, H.out.l0, H.out.l1, tz_add fs lim f H.out.l0⟩, fun k hk => ?_, ?_⟩
    · exact (HL2.out.fresh HF3.out).only g3 (TabAt.apart (H.out.tab.fresh (HF2.out.trans HF3.out)) (by decide) (by decide))
    · exact Nat.le_trans (Nat.le_trans H.out.hb (HF2.out.trans HF3.out).size) g3.size
    · rcases g2 k hk with e | e
      · exact .inl e
      · right; exact Nat.le_trans (HF2.out.trans HF3.out).size e
    · exact (Only.of_fresh (HF2.out.trans HF3.out)).trans g3
end
end Go.Proofs.Ythjajipagfojoaa
