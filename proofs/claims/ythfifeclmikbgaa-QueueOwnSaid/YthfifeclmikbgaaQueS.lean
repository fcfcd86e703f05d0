/-
  The law's one: First.
-/
import Derived.Test.YthfifeclmikbgaaQueR
import Derived.Test.YthfifeclmikbgaaInc
namespace Go.Proofs.Ythfifeclmikbgaa
set_option linter.unusedVariables false
set_option linter.unusedSimpArgs false
open Go.RowKit
section
variable {base q R n : Nat} {by_ it : Int} {ro : Rows} {w : World}
set_option maxRecDepth 100000 in
set_option maxHeartbeats 6400000 in
theorem one_first (A zA : Option Addr) (c t m zn zc : Nat) (a bb cc nn : Int) (x y : QI) (r : List QI) (h : QAt w base q R n by_ it ro) (ht : t < n) (hr : (ro t).2 = y :: r) (hl : LS w A c (saidL (ro t).2)) (hm : (ro t).2.length = m) :
    Calls Try.prog 14 #[.pointer (some ⟨q, 0, none⟩), .slice A m c, .agg #[.int .i64 a, .int .i64 bb, .int .i64 cc, .slice zA zn zc], .agg #[.int .i64 2, .int .i64 (t : Int), .int .i64 nn, .int .i64 x.num, .slice x.HA x.h.length x.hc, .slice x.BA x.b.length x.bc]] w (OneP base q R n by_ it ro t ⟨2, (t : Int), nn, x⟩ w) := by
  have hm1 : r.length + 1 = m := by rw [hr] at hm; simpa using hm
  have hyo : y.Ok w := h.ok t ht y (by rw [hr]; simp)
  have HFI := Lib.hid (fun W (hw : Fresh w W) => qu_first t y (h.fresh hw) ht (by rw [hr]; rfl))
  have HREF : Hid (∀ W (g1 g2 : Nat), Blk W g1 5 (bytesA y.h) → Blk W g2 5 (bytesA y.b) → Calls Try.prog 15 #[.agg #[.int .i64 y.num, .slice (some ⟨g1, 0, none⟩) y.h.length y.h.length, .slice (some ⟨g2, 0, none⟩) y.b.length y.b.length]] W fun e w' => e = .returned (.agg #[.int .i64 y.num, .string (strB y.h), .string (strB y.b)]) ∧ Fresh W w') := Lib.hid (fun W g1 g2 h1 h2 => qu_ref (clI y g1 g2) W (BS.row h1) (BS.row h2))
  have hl' : LS w A c (y.said :: saidL r) := by rw [hr] at hl; exact hl
  obtain ⟨g, o, hA, hgl, u0, u1, u2⟩ := hl'.rows.at3 0 y.said rfl
  have HFIN : Hid (∀ w', Fresh w w' → OneP base q R n by_ it ro t ⟨2, (t : Int), nn, x⟩ w (.returned (.tuple #[.slice A m c, .bool true])) w') := Lib.hid (fun w' hw => OneP.same h hl (by
    rw [hr]
    show nextS _ _ ⟨2, _, _, _⟩ _ = _
    simp [nextS, saidL]) hm hw)
  have HCE : Hid (∀ W, Fresh w W → W.cell? ⟨g, o, none⟩ = some (.int .i64 y.num) ∧ W.cell? ⟨g, o + 1, none⟩ = some (.string (strB y.h)) ∧ W.cell? ⟨g, o + 2, none⟩ = some (.string (strB y.b))) := Lib.hid (fun W hw => ⟨by rw [hw.cell hgl]; simpa [QI.said] using u0, by rw [hw.cell hgl]; simpa [QI.said] using u1, by rw [hw.cell hgl]; simpa [QI.said] using u2⟩)
  have hmm : (0 : Int) < (m : Int) := by omega
  have hmn : 0 < m := by omega
  have hm0 : ((m : Int) == 0) = false := by simp; omega
  rw [hA] at HFIN ⊢
  unfold FirstP at HFI
  simp only [clI, QI.agg] at HFI
  generalize strB y.h = S1 at *
  generalize strB y.b = S2 at *
  obtain ⟨nb, hnb⟩ : ∃ nb, y.b.length = nb := ⟨_, rfl⟩
  have HNB := Lib.hid hnb
  have hnb2 : nb ≤ 4503599627370496 := by
    obtain ⟨_, _, _, _, _, _, _, _, _, _, hz⟩ := h.first ht (x := y) (by rw [hr]; rfl)
    unfold QI.z at hz
    omega
  rw [hnb] at HFI HREF
  generalize y.h.length = nh at *
  clear h hl hl' hr hm hA hyo hnb u0 u1 u2 hm1 hgl
  go_enter Try.func14, Try.ntmps14
  go_upto_region 16 with fail
  obtain ⟨b0, hb0⟩ : ∃ b0, w.heap.size = b0 := ⟨_, rfl⟩
  rw [hb0]
  refine wp_gen (fun W => Fresh w W ∧ Blk W (b0 + 1) 36 #[.int .i64 2, .int .i64 (t : Int), .int .i64 nn, .int .i64 x.num, .slice x.HA x.h.length x.hc, .slice x.BA x.b.length x.bc]) ⟨(Fresh.alloc _ _).allocS _, Blk.mkAt (by simp; omega)⟩ ?_
  clear hb0
  rintro W ⟨hf0, ho0⟩
  have HF0 := Lib.hid hf0
  have HO0 := Lib.hid ho0
  have o1 := ho0.cell 1
  clear hf0 ho0
  go_wp2_with fail
  with_reducible refine (HFI.out _ HF0.out).mono ?_
  rintro e w2 ⟨g1, g2, rfl, k1, k2, k3, k4, k5, hf2⟩
  have HF2 := Lib.hid (HF0.out.trans hf2)
  have HO2 := Lib.hid (HO0.out.fresh hf2)
  have HK2 := Lib.hid k2
  have HK5 := Lib.hid k5
  have HWW := Lib.hid HF0.out.size
  clear hf2 o1 k1 k2 k3 k4 k5
  go_upto_region 17 with fail
  obtain ⟨b2, hb2⟩ : ∃ b2, w2.heap.size = b2 := ⟨_, rfl⟩
  rw [hb2]
  refine wp_gen (fun W3 => Fresh w W3 ∧ Blk W3 (b0 + 1) 36 #[.int .i64 2, .int .i64 (t : Int), .int .i64 nn, .int .i64 x.num, .slice x.HA x.h.length x.hc, .slice x.BA x.b.length x.bc] ∧ Blk W3 b2 34 #[.int .i64 y.num, .slice (some ⟨g1, 0, none⟩) nh nh, .slice (some ⟨g2, 0, none⟩) nb nb] ∧ Blk W3 g2 5 (bytesA y.b)) ⟨HF2.out.allocS _, HO2.out.alloc _, Blk.mkAt hb2, HK2.out.alloc _⟩ ?_
  clear hb2
  rintro W3 ⟨hf3, ho3, hx3, hk3⟩
  have hs2 := hx3.cell 2
  have HF3 := Lib.hid hf3
  have HO3 := Lib.hid ho3
  have HX3 := Lib.hid hx3
  have HST : Hid (IncS W3 g2 nb W3) := Lib.hid (by have := IncS.start hk3; rw [HNB.out] at this; exact this)
  have HNE1 := Lib.hid (hk3.ne hx3 (by decide))
  have HNE2 := Lib.hid (hk3.ne ho3 (by decide))
  clear hf3 ho3 hx3 hk3
  go_wp2
  go_loopw [138] (fun i wr => ∃ k : Nat, k ≤ nb ∧ i = .int .i64 k ∧ IncS W3 g2 nb wr) (fun i _ => nb - (intOf i).toNat)
  case atStart => exact ⟨0, by omega, rfl, HST.out⟩
  case round =>
    obtain ⟨k, hk, rfl, hI⟩ := hrel
    have hxr := HX3.out.only hI.1 (fun e => HNE1.out e.symm)
    have s2 := hxr.cell 2
    by_cases hlt : k < nb
    · have hlt' : (k : Int) < (nb : Int) := by omega
      obtain ⟨z, hc, hz, hzz, hst⟩ := hI.step k hlt
      have hx8 := UInt8.toNat_lt z
      have HS : Hid (IncS W3 g2 nb (wr.setCell ⟨g2, k, none⟩ (.int .u8 ((z + 1).toNat : Int)))) := hst (z + 1)
      clear hI hst hxr hs2
      generalize (z + 1).toNat = z1 at *
      go_wp2
      go_roundw
      case rel => exact ⟨k + 1, by omega, by go_num, HS.out⟩
      case measure => simp [intOf]; omega
    · have hlt' : ¬ (k : Int) < (nb : Int) := by omega
      have HFR : Hid (Fresh w wr) := Lib.hid (Only.fresh (S := fun _ => False) ((Only.of_fresh HF3.out).trans' hI.1 (fun i hi e => by have := HK5.out; have := HWW.out; omega)) (fun _ _ h => h))
      have hor := HO3.out.only hI.1 (fun e => HNE2.out e.symm)
      have HOR := Lib.hid hor
      have o1 := hor.cell 1
      clear hI hxr hs2 s2 hor
      go_wp2_with fail
      with_reducible refine (HFI.out _ HFR.out).mono ?_
      rintro e w5 ⟨g3, g4, rfl, k1, k2, k3, k4, k5, hf5⟩
      have HF5 := Lib.hid (HFR.out.trans hf5)
      have HK := Lib.hid (And.intro k1 k2)
      clear k1 k2 k3 k4 k5 hf5 o1
      go_upto_region 23 with fail
      obtain ⟨b5, hb5⟩ : ∃ b5, w5.heap.size = b5 := ⟨_, rfl⟩
      rw [hb5]
      refine wp_gen (fun W6 => Fresh w W6 ∧ Fresh w5 W6 ∧ Blk W6 b5 34 #[.int .i64 y.num, .slice (some ⟨g3, 0, none⟩) nh nh, .slice (some ⟨g4, 0, none⟩) nb nb]) ⟨HF5.out.allocS _, Fresh.alloc _ _, Blk.mkAt hb5⟩ ?_
      clear hb5
      rintro W6 ⟨hf6, hf56, hx6⟩
      have HF6 := Lib.hid hf6
      have HSK : Hid (∀ w', Fresh W6 w' → w'.cell? ⟨g, o, none⟩ = some (.int .i64 y.num) ∧ w'.cell? ⟨g, o + 1, none⟩ = some (.string S1) ∧ w'.cell? ⟨g, o + 2, none⟩ = some (.string S2) ∧ w'.cell? ⟨b5, 0, none⟩ = some (.int .i64 y.num) ∧ w'.cell? ⟨b5, 1, none⟩ = some (.slice (some ⟨g3, 0, none⟩) nh nh) ∧ w'.cell? ⟨b5, 2, none⟩ = some (.slice (some ⟨g4, 0, none⟩) nb nb) ∧ Fresh W6 w') := Lib.hid (fun w' hw => by
        obtain ⟨u0, u1, u2⟩ := HCE.out w' (HF6.out.trans hw)
        have hb := hx6.fresh hw
        exact ⟨u0, u1, u2, hb.cell 0, hb.cell 1, hb.cell 2, hw⟩)
      have HRY : Hid (∀ w', Fresh W6 w' → Blk w' g3 5 (bytesA y.h) ∧ Blk w' g4 5 (bytesA y.b)) := Lib.hid (fun w' hw => ⟨HK.out.1.fresh (hf56.trans hw), HK.out.2.fresh (hf56.trans hw)⟩)
      obtain ⟨u0, u1, u2, u3, u4, u5, _⟩ := HSK.out W6 (Fresh.refl _)
      clear hf6 hx6 hf56
      go_region_held3 (fun w' => w'.cell? ⟨g, o, none⟩ = some (.int .i64 y.num) ∧ w'.cell? ⟨g, o + 1, none⟩ = some (.string S1) ∧ w'.cell? ⟨g, o + 2, none⟩ = some (.string S2) ∧ w'.cell? ⟨b5, 0, none⟩ = some (.int .i64 y.num) ∧ w'.cell? ⟨b5, 1, none⟩ = some (.slice (some ⟨g3, 0, none⟩) nh nh) ∧ w'.cell? ⟨b5, 2, none⟩ = some (.slice (some ⟨g4, 0, none⟩) nb nb) ∧ Fresh W6 w')
        ((refine HSK.out _ ?_; first | with_reducible assumption | with_reducible exact Fresh.drew _))
        (first
          | (go_at_call 15; have hg1 : Fresh W6 _ := Fresh.drew _; (with_reducible refine (HREF.out _ g3 g4 (HRY.out _ hg1).1 (HRY.out _ hg1).2).mono ?_); rintro e w7 ⟨rfl, hf7⟩; have hg7 : Fresh W6 w7 := Fresh.trans hg1 hf7; clear hf7 hg1))
      all_goals
        have HG7 := Lib.hid (HF6.out.trans hg7)
        clear hg7 HSK
        go_wp2
        go_ret2
        exact HFIN.out _ HG7.out
end
end Go.Proofs.Ythfifeclmikbgaa
