/-
  The law's step: Clear; no such tenant; any call.
-/
import Derived.Test.YthfifeclmikbgaaQueU
namespace Go.Proofs.Ythfifeclmikbgaa
set_option linter.unusedVariables false
set_option linter.unusedSimpArgs false
open Go.RowKit
section
variable {base q R n : Nat} {by_ it : Int} {ro : Rows} {w : World}
def ClRel (w : World) (M n : Nat) (csm : Array Value) (k : Nat) (wr : World) : Prop :=
  Only (· = M) w wr ∧ ∃ cs, Blk wr M 39 cs ∧ cs.size = n ∧ (∀ j, j < k → cs[j]? = some (.slice none 0 0)) ∧ (∀ j, k ≤ j → cs[j]? = csm[j]?)
set_option maxRecDepth 100000 in
set_option maxHeartbeats 6400000 in
theorem step_clear (M : Nat) (zA : Option Addr) (zn zc : Nat) (o : OpQ) (h : QAt w base q R n by_ it ro) (hM : MAt w M n ro) (hk6 : o.k = 6) :
    Calls Try.prog 10 #[.pointer (some ⟨q, 0, none⟩), .slice (some ⟨M, 0, none⟩) n n, .agg #[.int .i64 (n : Int), .int .i64 by_, .int .i64 it, .slice zA zn zc], o.v] w (StepP base q R M n by_ it ro w) := by
  have H := Lib.hid h
  obtain ⟨csm, hcm, hcn, hcs⟩ := hM.row
  have HCS := Lib.hid hcs
  have h64 := h.n64
  have HLE := Lib.hid (fun k (hk : k ≤ n) => lenR_le ro k n hk (fun j hj => (h.len hj).1))
  have HLL := Lib.hid (fun j (hj : j < n) => (h.len hj).1)
  have HCL := Lib.hid (fun W (hW : QAt W base q R n by_ it ro) => qu_clear hW)
  have HQM := Lib.hid (fun W W' (hW : QAt W base q R n by_ it ro) (cs : Array Value) (hb : Blk W M 39 cs) (ho : Only (· = M) W W') => hW.onlyM hb ho)
  obtain ⟨k, ot, nn, x⟩ := o
  simp only at hk6
  subst hk6
  unfold OpQ.v
  simp only
  have HCM := Lib.hid (And.intro hcm hcn)
  clear h hM hcm hcn hcs
  go_enter Try.func10, Try.ntmps10
  go_upto_region 2 with fail
  refine wp_gen (fun W => Fresh w W) ((Fresh.alloc _ _).allocS _) ?_
  intro W hf0
  have HF0 := Lib.hid hf0
  have HST : Hid (ClRel W M n csm 0 W) := Lib.hid ⟨Only.refl _ _, csm, HCM.out.1.fresh hf0, HCM.out.2, fun j hj => absurd hj (by omega), fun _ _ => rfl⟩
  clear hf0
  go_wp2
  go_loopw [9, 19] (fun s i wr => ∃ k : Nat, k ≤ n ∧ i = .int .i64 (k : Int) ∧ s = .int .i64 (lenR ro k : Int) ∧ ClRel W M n csm k wr) (fun _ i _ => n - (intOf i).toNat)
  case atStart => exact ⟨0, by omega, rfl, by simp [lenR], HST.out⟩
  case round =>
    obtain ⟨k, hk, rfl, rfl, ho, cs, hb, hsz, hc1, hc2⟩ := hrel
    by_cases hlt : k < n
    · have hlt' : (k : Int) < (n : Int) := by omega
      obtain ⟨A, c, hAt, hLS⟩ := HCS.out k hlt
      have y0 : wr.cell? ⟨M, k, none⟩ = some (.slice A (ro k).2.length c) := by rw [hb.cell, hc2 k (Nat.le_refl _)]; exact hAt
      have z0 := hb.frozen k
      have hl1 := HLE.out k (by omega)
      have hl2 := HLL.out k hlt
      have hsu := lenR_succ ro k
      have HREL : Hid (ClRel W M n csm (k + 1) (wr.setCell ⟨M, k, none⟩ (.slice none 0 0))) := Lib.hid (by
        refine ⟨ho.trans (Only.setCell wr ⟨M, k, none⟩ _), _, hb.set k _, by simp [hsz], fun j hj => ?_, fun j hj => ?_⟩
        · by_cases e : j = k
          · subst e; rw [Array.getElem?_setIfInBounds_self_of_lt (by omega)]
          · rw [Array.getElem?_setIfInBounds_ne (by omega)]; exact hc1 j (by omega)
        · rw [Array.getElem?_setIfInBounds_ne (by omega)]; exact hc2 j (by omega))
      have HSU : Hid ((lenR ro (k + 1) : Int) = (lenR ro k : Int) + ((ro k).2.length : Int)) := Lib.hid (by rw [hsu]; omega)
      clear ho hb hsz hc1 hc2 hAt hLS hsu
      generalize lenR ro k = L at *
      generalize (ro k).2.length = L2 at *
      go_wp2
      go_roundw
      case rel => exact ⟨k + 1, by omega, by go_num, by rw [HSU.out], HREL.out⟩
      case measure => simp [intOf]; omega
    · have hkn : k = n := by omega
      subst hkn
      have HB := Lib.hid (And.intro hb hc1)
      have HO := Lib.hid ho
      have HSZ := Lib.hid hsz
      have HQ : Hid (QAt wr base q R k by_ it ro) := Lib.hid (HQM.out W wr (H.out.fresh HF0.out) csm (HCM.out.1.fresh HF0.out) ho)
      clear ho hb hsz hc1 hc2
      obtain ⟨L, hL⟩ : ∃ L, lenR ro k = L := ⟨_, rfl⟩
      have HC := Lib.hid (HCL.out wr HQ.out)
      rw [hL] at HC ⊢
      clear hL
      go_wp2_with fail
      with_reducible refine HC.out.mono ?_
      rintro e w2 ⟨rfl, hq2, ho2⟩
      have HX := Lib.hid (And.intro hq2 ho2)
      clear hq2 ho2
      go_wp2
      go_ret
      have hR : R ≠ M := by
        obtain ⟨cs', h3, _⟩ := HQ.out.rows
        exact h3.ne HB.out.1 (by decide)
      refine ⟨clrR ro k, by simp, HX.out.1, ⟨cs, HB.out.1.only HX.out.2 (fun e => hR e.symm), HSZ.out, fun t ht => ?_⟩, ?_, fun t k' ht hk' => ?_⟩
      · refine ⟨none, 0, ?_, ?_⟩
        · rw [HB.out.2 t ht]; simp [clrR, ht]
        · have : saidL (clrR ro k t).2 = [] := by simp [clrR, ht, saidL]
          rw [this]
          exact LS.nil _
      · exact (Only.of_fresh HF0.out).trans ((HO.out.mono (fun i e => .inr (.inl e))).trans (HX.out.2.mono (fun i e => .inl e)))
      · simp [clrR, ht, Value.ownBlock] at hk'
set_option maxRecDepth 100000 in
set_option maxHeartbeats 6400000 in
theorem step_no (MV : Value) (hMV : ∃ a n c, MV = .slice a n c) (zA : Option Addr) (zn zc : Nat) (o : OpQ) (h : QAt w base q R n by_ it ro) (hk6 : o.k ≠ 6) (ht : o.t < 0 ∨ (n : Int) ≤ o.t) :
    Calls Try.prog 10 #[.pointer (some ⟨q, 0, none⟩), MV, .agg #[.int .i64 (n : Int), .int .i64 by_, .int .i64 it, .slice zA zn zc], o.v] w (LwP w) := by
  have HFI := Lib.hid (fun W (hw : Fresh w W) => qu_first_no o.t (h.fresh hw) (.inl ht))
  have HPU := Lib.hid (fun W (hw : Fresh w W) => qu_put_range o.t o.x (h.fresh hw) ht)
  have HBY := Lib.hid (fun W (hw : Fresh w W) => qu_bytes_no o.t (h.fresh hw) ht)
  have HLN := Lib.hid (fun W (hw : Fresh w W) => qu_len_no o.t (h.fresh hw) ht)
  have HDR := Lib.hid (fun W (hw : Fresh w W) => qu_drop_no o.t o.n (h.fresh hw) (.inl ht))
  obtain ⟨MA, Mn, Mc, rfl⟩ := hMV
  obtain ⟨k, ot, nn, x⟩ := o
  simp only at hk6 ht HFI HPU HBY HLN HDR
  unfold OpQ.v
  simp only [QI.agg] at HPU ⊢
  have e6 : (k == 6) = false := by simpa using hk6
  clear h hk6
  go_enter Try.func10, Try.ntmps10
  go_upto_region 10 with fail
  obtain ⟨b0, hb0⟩ : ∃ b0, w.heap.size = b0 := ⟨_, rfl⟩
  rw [hb0]
  refine wp_gen (fun W => Fresh w W ∧ Blk W b0 24 #[.int .i64 (n : Int), .int .i64 by_, .int .i64 it, .slice zA zn zc] ∧ Blk W (b0 + 1) 36 #[.int .i64 k, .int .i64 ot, .int .i64 nn, .int .i64 x.num, .slice x.HA x.h.length x.hc, .slice x.BA x.b.length x.bc]) ⟨(Fresh.alloc _ _).allocS _, (Blk.mkAt hb0).alloc _, Blk.mkAt (by simp; omega)⟩ ?_
  clear hb0
  rintro W ⟨hf0, hz0, ho0⟩
  have HF0 := Lib.hid hf0
  have HO0 := Lib.hid ho0
  have z0 := hz0.cell 0
  have o1 := ho0.cell 1
  clear hf0 hz0 ho0
  by_cases h0 : ot < 0
  · clear ht
    go_wp2_with fail
    with_reducible refine (HFI.out _ HF0.out).mono ?_
    rintro e w2 ⟨rfl, hf2⟩
    have HF2 := Lib.hid (HF0.out.trans hf2)
    have HO2 := Lib.hid (HO0.out.fresh hf2)
    clear hf2 o1 z0
    unfold zI
    go_upto_region 12 with fail
    refine wp_gen (fun W => Fresh w W ∧ Blk W (b0 + 1) 36 #[.int .i64 k, .int .i64 ot, .int .i64 nn, .int .i64 x.num, .slice x.HA x.h.length x.hc, .slice x.BA x.b.length x.bc]) ⟨HF2.out.allocS _, HO2.out.alloc _⟩ ?_
    rintro W3 ⟨hf3, ho3⟩
    have HF3 := Lib.hid hf3
    have HO3 := Lib.hid ho3
    have o1 := ho3.cell 1
    have o3 := ho3.cell 3
    have o4 := ho3.cell 4
    have o5 := ho3.cell 5
    clear hf3 ho3
    go_wp2_with fail
    with_reducible refine (HPU.out _ HF3.out).mono ?_
    rintro e w4 ⟨rfl, hf4⟩
    have HF4 := Lib.hid (HF3.out.trans hf4)
    have ho4 := HO3.out.fresh hf4
    clear hf4 o1 o3 o4 o5
    have o1 := ho4.cell 1
    have o2 := ho4.cell 2
    clear ho4
    go_wp2_with fail
    with_reducible refine (HBY.out _ HF4.out).mono ?_
    rintro e w5 ⟨rfl, rfl⟩
    go_wp2_with fail
    with_reducible refine (HLN.out _ HF4.out).mono ?_
    rintro e w5 ⟨rfl, rfl⟩
    go_wp2_with fail
    with_reducible refine (HDR.out _ HF4.out).mono ?_
    rintro e w5 ⟨rfl, hf5⟩
    have HF5 := Lib.hid (HF4.out.trans hf5)
    clear hf5 o1 o2
    go_wp2
    go_ret
    exact ⟨rfl, HF5.out⟩
  · have h1 : (n : Int) ≤ ot := by omega
    have h0' : decide (ot < 0) = false := by simpa using h0
    clear ht
    go_wp2_with fail
    with_reducible refine (HFI.out _ HF0.out).mono ?_
    rintro e w2 ⟨rfl, hf2⟩
    have HF2 := Lib.hid (HF0.out.trans hf2)
    have HO2 := Lib.hid (HO0.out.fresh hf2)
    clear hf2 o1 z0
    unfold zI
    go_upto_region 12 with fail
    refine wp_gen (fun W => Fresh w W ∧ Blk W (b0 + 1) 36 #[.int .i64 k, .int .i64 ot, .int .i64 nn, .int .i64 x.num, .slice x.HA x.h.length x.hc, .slice x.BA x.b.length x.bc]) ⟨HF2.out.allocS _, HO2.out.alloc _⟩ ?_
    rintro W3 ⟨hf3, ho3⟩
    have HF3 := Lib.hid hf3
    have HO3 := Lib.hid ho3
    have o1 := ho3.cell 1
    have o3 := ho3.cell 3
    have o4 := ho3.cell 4
    have o5 := ho3.cell 5
    clear hf3 ho3
    go_wp2_with fail
    with_reducible refine (HPU.out _ HF3.out).mono ?_
    rintro e w4 ⟨rfl, hf4⟩
    have HF4 := Lib.hid (HF3.out.trans hf4)
    have ho4 := HO3.out.fresh hf4
    clear hf4 o1 o3 o4 o5
    have o1 := ho4.cell 1
    have o2 := ho4.cell 2
    clear ho4
    go_wp2_with fail
    with_reducible refine (HBY.out _ HF4.out).mono ?_
    rintro e w5 ⟨rfl, rfl⟩
    go_wp2_with fail
    with_reducible refine (HLN.out _ HF4.out).mono ?_
    rintro e w5 ⟨rfl, rfl⟩
    go_wp2_with fail
    with_reducible refine (HDR.out _ HF4.out).mono ?_
    rintro e w5 ⟨rfl, hf5⟩
    have HF5 := Lib.hid (HF4.out.trans hf5)
    clear hf5 o1 o2
    go_wp2
    go_ret
    exact ⟨rfl, HF5.out⟩
end
end Go.Proofs.Ythfifeclmikbgaa
