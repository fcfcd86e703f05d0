/-
  A table and the document's list side by side: same; small.
-/
import Derived.Test.YthjajipagfojoaaDynE
import Derived.Test.YthjajipagfojoaaEqS
namespace Go.Proofs.Ythjajipagfojoaa
set_option linter.unusedVariables false
set_option linter.unusedSimpArgs false
open Go.RowKit
section
variable {base p c : Nat} {v : Value} {A : Option Addr} {fs : List FldT} {lim : Int} {w : World}
set_option maxRecDepth 100000 in
set_option maxHeartbeats 3200000 in
theorem same_ok (h : Side w base p v A c fs lim) : Calls Try.prog 12 #[.pointer (some ⟨p, 0, none⟩), .slice A fs.length c, .int .i64 lim] w fun e w' => e = .returned (.bool true) ∧ Fresh w w' := by
  have H := Lib.hid h
  have hlen := h.len
  have hz := h.hz
  obtain ⟨n, hn⟩ : ∃ n, fs.length = n := ⟨_, rfl⟩
  have HN := Lib.hid hn
  have HLE : Hid (∀ W, Fresh w W → Calls Try.prog 18 #[.pointer (some ⟨p, 0, none⟩)] W fun e w' => e = .returned (.int .i64 (n : Int)) ∧ w' = W) := Lib.hid (fun W hw => by have := dy_len (h.tab.fresh hw); rw [hn] at this; exact this)
  have HSI := Lib.hid (fun W (hw : Fresh w W) => dy_sizeT (h.tab.fresh hw))
  have HLI := Lib.hid (fun W (hw : Fresh w W) => dy_limit (h.tab.fresh hw))
  have HRS := Lib.hid (fun W (hw : Fresh w W) => rf_sizeR A c fs 0 n W ((h.li.fresh hw).rows) (by have := h.len; omega) (by have := h.hz; have := h.l1; omega) (by omega))
  have HG1 := Lib.hid (fun W (hw : Fresh w W) (i : Int) (hi : i < 1 ∨ (fs.length : Int) < i) => dy_get_no i (h.tab.fresh hw) hi)
  rw [List.drop_zero] at HRS
  rw [hn] at hlen ⊢
  rw [hn] at HG1
  obtain ⟨z, hzz⟩ : ∃ z, tz fs = z := ⟨_, rfl⟩
  rw [hzz] at HSI HRS hz
  have hz65 : z ≤ 65536 := by have := h.l1; omega
  have hl65 : lim ≤ 65536 := h.l1
  clear h hn hzz
  have hnz : ¬ lim < (z : Int) := by omega
  clear hz
  go_enter Try.func12, Try.ntmps12
  go_wp2_with fail
  with_reducible refine (HLE.out _ (Fresh.refl _)).mono ?_
  rintro e w1 ⟨rfl, hw⟩
  obtain rfl : w = w1 := hw.symm
  go_wp2_with fail
  with_reducible refine (HSI.out _ (Fresh.refl _)).mono ?_
  rintro e w1 ⟨rfl, hw⟩
  obtain rfl : w = w1 := hw.symm
  go_wp2_with fail
  with_reducible refine (HRS.out _ (Fresh.refl _)).mono ?_
  rintro e w1 ⟨rfl, hf1⟩
  have HF1 := Lib.hid hf1
  clear hf1
  go_wp2_with fail
  with_reducible refine (HLI.out _ HF1.out).mono ?_
  rintro e w2 ⟨rfl, hw⟩
  obtain rfl : w1 = w2 := hw.symm
  go_wp2_with fail
  with_reducible refine (HSI.out _ HF1.out).mono ?_
  rintro e w2 ⟨rfl, hw⟩
  obtain rfl : w1 = w2 := hw.symm
  go_wp2_with fail
  go_loopw [40] (fun i wr => ∃ k : Nat, k ≤ n ∧ i = .int .i64 (k : Int) ∧ Fresh w wr) (fun i _ => n - (intOf i).toNat)
  case atStart => exact ⟨0, by omega, rfl, HF1.out⟩
  case round =>
    obtain ⟨k, hk, rfl, hf⟩ := hrel
    have HF := Lib.hid hf
    clear hf
    by_cases hlt : k < n
    · have hlt' : (k : Int) < (n : Int) := by omega
      obtain ⟨f, hfk⟩ : ∃ f, fs.reverse[k]? = some f := ⟨_, List.getElem?_eq_getElem (by rw [List.length_reverse, HN.out]; exact hlt)⟩
      have hfk2 : fs[n - 1 - k]? = some f := by rw [List.getElem?_reverse (by rw [HN.out]; exact hlt), HN.out] at hfk; exact hfk
      have HGET := Lib.hid (dy_get ((k : Int) + 1) (n - 1 - k) f (H.out.tab.fresh HF.out) hfk2 (by rw [HN.out]; omega) (by rw [HN.out]; omega))
      obtain ⟨bx, ox, hA, hbx, hy0, hy1⟩ := (H.out.li.fresh HF.out).rows.at2 k f hfk
      have HY := Lib.hid (And.intro hbx (And.intro hy0 hy1))
      subst hA
      clear hfk hfk2 hbx hy0 hy1
      go_wp2_with fail
      with_reducible refine HGET.out.mono ?_
      rintro e w2 ⟨rfl, hf2⟩
      have HF2 := Lib.hid hf2
      clear hf2
      go_upto_region 7 with fail
      refine wp_gen (fun W => Fresh w2 W ∧ Blk W w2.heap.size 31 #[.string f.1, .string f.2]) ⟨?_, ?_⟩ ?_
      · repeat (first | with_reducible exact Fresh.refl _ | with_reducible apply Fresh.drewS | with_reducible apply Fresh.allocS | (with_reducible refine Fresh.step2 ?_ ?_; simp))
      · exact Blk.new _ _ _
      rintro W ⟨hfW, hbW⟩
      have HFW := Lib.hid (HF2.out.trans hfW)
      obtain ⟨hbx, hy0, hy1⟩ := HY.out
      have HSK : Hid (∀ w', Fresh W w' → w'.cell? ⟨w2.heap.size, 0, none⟩ = some (.string f.1) ∧ w'.cell? ⟨w2.heap.size, 1, none⟩ = some (.string f.2) ∧ w'.cell? ⟨bx, ox + k * 2, none⟩ = some (.string f.1) ∧ w'.cell? ⟨bx, ox + k * 2 + 1, none⟩ = some (.string f.2) ∧ Fresh W w') := Lib.hid (fun w' hw => ⟨(hbW.fresh hw).cell 0, (hbW.fresh hw).cell 1, ((HFW.out.trans hw).cell (p := ⟨bx, ox + k * 2, none⟩) hbx).trans hy0, ((HFW.out.trans hw).cell (p := ⟨bx, ox + k * 2 + 1, none⟩) hbx).trans hy1, hw⟩)
      clear hbx hy0 hy1 hfW hbW
      have hE : ∀ W, (Op.equalIn 10000 42 (.agg #[.string f.1, .string f.2]) (.agg #[.string f.1, .string f.2])).run Try.prog W = .ok true W := fun W => run_eq_pair _ _ _ _ W true (by simp)
      go_region_held3 (fun w' => w'.cell? ⟨w2.heap.size, 0, none⟩ = some (.string f.1) ∧ w'.cell? ⟨w2.heap.size, 1, none⟩ = some (.string f.2) ∧ w'.cell? ⟨bx, ox + k * 2, none⟩ = some (.string f.1) ∧ w'.cell? ⟨bx, ox + k * 2 + 1, none⟩ = some (.string f.2) ∧ Fresh W w')
        ((refine HSK.out _ ?_; first | with_reducible assumption | with_reducible exact Fresh.drew _))
        (first | (go_at_call 15; (with_reducible refine (dy_pair f _).mono ?_); rintro e w3 ⟨rfl, hf3⟩; have hg3 : Fresh W w3 := Fresh.trans (by first | with_reducible assumption | with_reducible exact Fresh.drew _) hf3; clear hf3))
      all_goals
        go_wp2_with fail
        go_roundw
        case rel => exact ⟨k + 1, by omega, by go_num, HF.out.trans (HFW.out.trans hg3)⟩
        case measure => simp [intOf]; omega
    · obtain rfl : k = n := by omega
      have hnlt : ¬ (k : Int) < (k : Int) := by omega
      have HN1 := Lib.hid (HG1.out _ HF.out ((k : Int) + 1) (.inr (by omega)))
      go_wp2_with fail
      with_reducible refine HN1.out.mono ?_
      rintro e w2 ⟨rfl, hf2⟩
      have HF2 := Lib.hid (HF.out.trans hf2)
      clear hf2
      go_upto_region 11 with fail
      refine wp_gen (fun W => Fresh w2 W) ?_ ?_
      · repeat (first | with_reducible exact Fresh.refl _ | with_reducible apply Fresh.drewS | with_reducible apply Fresh.allocS | (with_reducible refine Fresh.step2 ?_ ?_; simp))
      intro W hfW
      have HFW := Lib.hid (HF2.out.trans hfW)
      clear hfW
      go_wp2_with fail
      with_reducible refine (HG1.out _ HFW.out 0 (.inl (by omega))).mono ?_
      rintro e w3 ⟨rfl, hf3⟩
      have HF3 := Lib.hid (HFW.out.trans hf3)
      clear hf3
      go_wp2
      go_ret
      refine ⟨rfl, HF3.out.trans ?_⟩
      repeat (first | with_reducible exact Fresh.refl _ | with_reducible apply Fresh.drewS | with_reducible apply Fresh.allocS | (with_reducible refine Fresh.step2 ?_ ?_; simp))
end
end Go.Proofs.Ythjajipagfojoaa
