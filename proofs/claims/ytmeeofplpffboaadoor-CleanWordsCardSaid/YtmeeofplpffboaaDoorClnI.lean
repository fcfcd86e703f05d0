/-
  The law CleanWords.
-/
import Derived.Test.YtmeeofplpffboaaDoorClnG
import Derived.RegionTactic
import Derived.BigRegion
import Derived.BigQuiet
import Derived.Deep.RegionHeld3
namespace Go.Proofs.YtmeeofplpffboaaDoor
set_option maxRecDepth 100000
set_option linter.unusedVariables false
set_option linter.unusedSimpArgs false
open Go.RowKit
set_option maxHeartbeats 6400000 in
theorem words_long (f1 f2 : ByteArray) (w : World) (h : 5000 < f1.size ∨ 5000 < f2.size) : Calls Tryd.prog 3 #[.agg #[.string f1, .string f2]] w fun e w' => e = .returned (.bool true) ∧ Fresh w w' := by
  have HAW := Lib.hid cl_awake
  by_cases h1 : 5000 < f1.size
  · have d0 : (5000 : Int) < (f1.size : Int) := by omega
    clear h h1
    go_enter Tryd.func3, Tryd.ntmps3
    go_wp2_with fail
    with_reducible refine (HAW.out _).mono ?_
    rintro e w1 ⟨rfl, hf⟩
    have HF := Lib.hid (Fresh.tA hf)
    clear hf
    go_wp2_with fail
    go_ret
    exact ⟨rfl, HF.out⟩
  · have d0 : decide ((5000 : Int) < (f1.size : Int)) = false := decide_eq_false (by omega)
    have d1 : (5000 : Int) < (f2.size : Int) := by omega
    clear h h1
    go_enter Tryd.func3, Tryd.ntmps3
    go_wp2_with fail
    with_reducible refine (HAW.out _).mono ?_
    rintro e w1 ⟨rfl, hf⟩
    have HF := Lib.hid (Fresh.tA hf)
    clear hf
    go_wp2_with fail
    go_ret
    exact ⟨rfl, HF.out⟩
set_option maxHeartbeats 16000000 in
theorem words_all (f1 f2 : ByteArray) (w : World) (h1 : f1.size ≤ 5000) (h2 : f2.size ≤ 5000) : Calls Tryd.prog 3 #[.agg #[.string f1, .string f2]] w fun e w' => e = .returned (.bool true) ∧ Fresh w w' := by
  have HAW := Lib.hid cl_awake
  have d0 : decide ((5000 : Int) < (f1.size : Int)) = false := decide_eq_false (by omega)
  have d1 : decide ((5000 : Int) < (f2.size : Int)) = false := decide_eq_false (by omega)
  have HN1 := Lib.hid (fun w => cl_name f1 w)
  have HN2 := Lib.hid (fun w => rf_name f1 w)
  have HV1 := Lib.hid (fun w => cl_value f2 w (by omega))
  have HV2 := Lib.hid (fun w => rf_value f2 w)
  have HH1 := Lib.hid (fun w => cl_hop f1 f2 w)
  have HH2 := Lib.hid (fun w => rf_hop f1 f2 w)
  have HS1 := Lib.hid (fun w => cl_sen f1 w)
  have HS2 := Lib.hid (fun w => rf_sen f1 w)
  obtain ⟨bn, hbn⟩ : ∃ b, nameB f1.data.toList = b := ⟨_, rfl⟩
  obtain ⟨bv, hbv⟩ : ∃ b, valB f2.data.toList = b := ⟨_, rfl⟩
  obtain ⟨bh, hbh⟩ : ∃ b, hopB f1 f2 = b := ⟨_, rfl⟩
  obtain ⟨bs, hbs⟩ : ∃ b, senB f1 = b := ⟨_, rfl⟩
  rw [hbn] at HN1 HN2
  rw [hbv] at HV1 HV2
  rw [hbh] at HH1 HH2
  rw [hbs] at HS1 HS2
  have en : (bn == bn) = true := by simp
  have ev : (bv == bv) = true := by simp
  have eh : (bh == bh) = true := by simp
  have es : (bs == bs) = true := by simp
  clear hbn hbv hbh hbs h1 h2
  go_enter Tryd.func3, Tryd.ntmps3
  go_upto_region 1 with fail
  refine wp_gen (fun W => Blk W w.heap.size 23 #[.string f1, .string f2] ∧ Fresh w W) ⟨Blk.new w _ _, Fresh.alloc _ _⟩ ?_
  rintro W ⟨hbw, hfw⟩
  obtain ⟨p, hp⟩ : ∃ p, w.heap.size = p := ⟨_, rfl⟩
  rw [hp] at hbw ⊢
  clear hp
  obtain ⟨y0, y1⟩ := hbw.c2
  have HSK : Hid (∀ w', Fresh W w' → w'.cell? ⟨p, 0, none⟩ = some (.string f1) ∧ w'.cell? ⟨p, 1, none⟩ = some (.string f2) ∧ Fresh W w') := Lib.hid (fun w' hw => ⟨(hbw.fresh hw).cell 0, (hbw.fresh hw).cell 1, hw⟩)
  have HFW := Lib.hid hfw
  clear hbw hfw
  go_upto_region 3 with fail
  go_region_held3 (fun w' => w'.cell? ⟨p, 0, none⟩ = some (.string f1) ∧ w'.cell? ⟨p, 1, none⟩ = some (.string f2) ∧ Fresh W w')
    ((refine HSK.out _ ?_; first | with_reducible assumption | with_reducible exact Fresh.drew _))
    (first
      | (go_at_call 9; (with_reducible refine (HN1.out _).mono ?_); rintro e wa ⟨rfl, hwa⟩; have hga : Fresh W wa := by (rw [hwa]; first | with_reducible assumption | with_reducible exact Fresh.drew _))
      | (go_at_call 10; (with_reducible refine (HN2.out _).mono ?_); rintro e wa ⟨rfl, hwa⟩; have hga : Fresh W wa := by (rw [hwa]; first | with_reducible assumption | with_reducible exact Fresh.drew _))
      | (go_at_call 11; (with_reducible refine (HV1.out _).mono ?_); rintro e wa ⟨rfl, hfa⟩; have hga : Fresh W wa := Fresh.trans (by first | with_reducible assumption | with_reducible exact Fresh.drew _) hfa; clear hfa)
      | (go_at_call 12; (with_reducible refine (HV2.out _).mono ?_); rintro e wa ⟨rfl, hwa⟩; have hga : Fresh W wa := by (rw [hwa]; first | with_reducible assumption | with_reducible exact Fresh.drew _))
      | (go_at_call 13; (with_reducible refine (HH1.out _).mono ?_); rintro e wa ⟨rfl, hfa⟩; have hga : Fresh W wa := Fresh.trans (by first | with_reducible assumption | with_reducible exact Fresh.drew _) hfa; clear hfa)
      | (go_at_call 14; (with_reducible refine (HH2.out _).mono ?_); rintro e wa ⟨rfl, hfa⟩; have hga : Fresh W wa := Fresh.trans (by first | with_reducible assumption | with_reducible exact Fresh.drew _) hfa; clear hfa)
      | (go_at_call 15; (with_reducible refine (HS1.out _).mono ?_); rintro e wa ⟨rfl, hwa⟩; have hga : Fresh W wa := by (rw [hwa]; first | with_reducible assumption | with_reducible exact Fresh.drew _))
      | (go_at_call 16; (with_reducible refine (HS2.out _).mono ?_); rintro e wa ⟨rfl, hfa⟩; have hga : Fresh W wa := Fresh.trans (by first | with_reducible assumption | with_reducible exact Fresh.drew _) hfa; clear hfa)
      | (go_at_call 8; (with_reducible refine (HAW.out _).mono ?_); rintro e wa ⟨rfl, hfa⟩; have hga : Fresh W wa := Fresh.trans (by first | with_reducible assumption | with_reducible exact Fresh.drew _) hfa; clear hfa))
  all_goals
    go_wp2_with fail
    go_ret
    exact ⟨rfl, HFW.out.trans hga⟩
theorem CleanWords_any (f : FldT) (w : World) : Calls Tryd.prog 3 #[.agg #[.string f.1, .string f.2]] w fun e w' => e = .returned (.bool true) ∧ Fresh w w' := by
  by_cases h : 5000 < f.1.size ∨ 5000 < f.2.size
  · exact words_long f.1 f.2 w h
  · exact words_all f.1 f.2 w (by omega) (by omega)
end Go.Proofs.YtmeeofplpffboaaDoor

