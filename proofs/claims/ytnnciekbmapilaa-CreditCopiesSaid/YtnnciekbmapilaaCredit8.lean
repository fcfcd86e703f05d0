/-
  The laws' comparison.
-/
import Derived.Test.YtnnciekbmapilaaCredit7
namespace Go.Proofs.Ytnnciekbmapilaa
set_option linter.unusedVariables false
open Go.RowKit

set_option maxHeartbeats 3200000 in
theorem same_any (c g k n p kk : Nat) (f : Nat → Int) (T : Nat) (w : World) (h : Two w c g k n p kk f T) :
    Calls Try.prog 10 #[.pointer (some ⟨c, 0, none⟩), .agg #[.slice (some ⟨p, 0, none⟩) n kk, .int .i64 (T : Int)]] w fun e w' => e = .returned (.bool true) ∧ Fresh w w' := by
  have n1 := h.cr.n1
  have n2 := h.cr.n2
  have HH := Lib.hid h
  clear h
  go_enter Try.func10, Try.ntmps10
  go_wp2_with fail
  refine (cr_parts c g k n (T % n) f _ (HH.out.cr.fresh (Fresh.alloc _ _))).mono ?_
  rintro e w1 ⟨r, rfl, hr, hri, hf1⟩
  have HB3 := Lib.hid ((Blk.new w 31 #[.slice (some ⟨p, 0, none⟩) n kk, .int .i64 (T : Int)]).fresh hf1)
  have HR := Lib.hid hri
  have HF := Lib.hid ((Fresh.alloc w (.cells #[.slice (some ⟨p, 0, none⟩) n kk, .int .i64 (T : Int)] 31)).trans hf1)
  clear hr hri hf1
  obtain ⟨b, hb⟩ : ∃ b, w.heap.size = b := ⟨_, rfl⟩
  rw [hb] at HB3 ⊢
  have HBS := Lib.hid hb
  clear hb
  go_wp2_with fail
  have HCR := Lib.hid (HH.out.cr.fresh HF.out)
  have HI := Lib.hid (HH.out.ints.fresh HF.out)
  have e1 : ((n : Int) != (n : Int)) = false := by simp
  have e2 : (sumN f n != sumN f n) = false := by simp
  have HOK := Lib.hid HCR.out.ok
  have HS1 := Lib.hid (fun w' (hw : Fresh w1 w') => cr_whole c g k n (T % n) f w' (HCR.out.fresh hw))
  have HS2 := Lib.hid (fun w' (hw : Fresh w1 w') => ref_sum p n kk f w' (HI.out.fresh hw) n2 HOK.out.pos HOK.out.mx)
  have HSK : Hid (∀ w', Fresh w1 w' → w'.cell? ⟨b, 0, none⟩ = some (.slice (some ⟨p, 0, none⟩) n kk) ∧ Fresh w1 w') := Lib.hid (fun w' hw => ⟨(HB3.out.fresh hw).cell 0, hw⟩)
  obtain ⟨g0, g1⟩ := HSK.out w1 (Fresh.refl _)
  generalize hs : sumN f n = s at *
  clear hs
  go_region_held3 (fun w' => w'.cell? ⟨b, 0, none⟩ = some (.slice (some ⟨p, 0, none⟩) n kk) ∧ Fresh w1 w')
    ((refine HSK.out _ ?_; first | with_reducible assumption | with_reducible exact Fresh.drew _ | (with_reducible apply Fresh.drewS; with_reducible assumption)))
    (first
      | (go_at_call 17; (with_reducible refine (HS1.out _ (by first | assumption | exact Fresh.drew _)).mono ?_); rintro e w2 ⟨rfl, hf2⟩; have hg2 : Fresh w1 w2 := (Fresh.drew w1).trans hf2)
      | (go_at_call 20; (with_reducible refine (HS2.out _ (by first | assumption | exact Fresh.drew _)).mono ?_); rintro e w3 ⟨rfl, rfl⟩))
  have HG2 := Lib.hid hg2
  clear g0 hf2 hg2 e2 HSK HS1 HS2
  go_wp2_with fail
  go_loopw [25, 6] (fun i _ wr => ∃ j : Nat, j ≤ n ∧ i = .int .i64 j ∧ Fresh w1 wr) (fun i _ _ => n - (intOf i).toNat)
  case atStart => exact ⟨0, by omega, rfl, HG2.out⟩
  case round =>
    obtain ⟨j, hj, rfl, hfr⟩ := hrel
    clear HG2
    have HFR := Lib.hid hfr
    by_cases hlt : j < n
    · have HL := Lib.hid (fun w' (hw : Fresh wr w') => cr_left_yes c g k n (T % n) j f w' (HCR.out.fresh (hfr.trans hw)) hlt)
      have hy0 := HOK.out.pos j hlt
      have HSK : Hid (∀ w', Fresh wr w' → w'.cell? ⟨b, 0, none⟩ = some (.slice (some ⟨p, 0, none⟩) n kk) ∧ w'.cell? ⟨r, j, none⟩ = some (.int .i64 (f j)) ∧ w'.cell? ⟨p, j, none⟩ = some (.int .i64 (f j)) ∧ Fresh wr w') := Lib.hid (fun w' hw => ⟨(HB3.out.fresh (hfr.trans hw)).cell 0, (HR.out.fresh (hfr.trans hw)).cell hlt, (HI.out.fresh (hfr.trans hw)).cell hlt, hw⟩)
      generalize f j = y at *
      obtain ⟨g0, g1, g2, g3⟩ := HSK.out wr (Fresh.refl _)
      have e2 : (y != y) = false := by simp
      have e3 : decide (y < 0) = false := by simp; omega
      have e4 : (j : Int) < (n : Int) := by omega
      clear hfr
      go_wp2_with fail
      go_region_held3 (fun w' => w'.cell? ⟨b, 0, none⟩ = some (.slice (some ⟨p, 0, none⟩) n kk) ∧ w'.cell? ⟨r, j, none⟩ = some (.int .i64 y) ∧ w'.cell? ⟨p, j, none⟩ = some (.int .i64 y) ∧ Fresh wr w')
        ((refine HSK.out _ ?_; first | with_reducible assumption | with_reducible exact Fresh.drew _ | (with_reducible apply Fresh.drewS; with_reducible assumption)))
        (first
          | (go_at_call 14; (with_reducible refine (HL.out _ (by first | assumption | exact Fresh.drew _)).mono ?_); rintro e w4 ⟨rfl, hf2⟩; have hg2 : Fresh wr w4 := (Fresh.drew wr).trans hf2))
      have HG4 := Lib.hid (HFR.out.trans hg2)
      clear g0 g1 g2 hf2 hg2
      go_wp2
      go_roundw
      case rel => exact ⟨j + 1, by omega, by go_num, HG4.out⟩
      case measure => simp [intOf]; omega
    · obtain rfl : j = n := by omega
      have HM1 := Lib.hid (cr_left_no c g k j (T % j) f (-1) wr (HCR.out.fresh hfr) (by omega))
      have HM2 := Lib.hid (fun w' (hw : Fresh wr w') => cr_left_no c g k j (T % j) f (j : Int) w' (HCR.out.fresh (hfr.trans hw)) (by omega))
      clear hfr
      go_wp2_with fail
      refine HM1.out.mono ?_
      rintro e w4 ⟨rfl, hf4⟩
      have HF4 := Lib.hid hf4
      clear hf4
      go_wp2_with fail
      refine (HM2.out _ HF4.out).mono ?_
      rintro e w5 ⟨rfl, hf5⟩
      have HF5 := Lib.hid hf5
      clear hf5
      go_wp2_with fail
      go_ret
      exact ⟨rfl, ((HF.out.trans HFR.out).trans HF4.out).trans HF5.out⟩
end Go.Proofs.Ytnnciekbmapilaa
