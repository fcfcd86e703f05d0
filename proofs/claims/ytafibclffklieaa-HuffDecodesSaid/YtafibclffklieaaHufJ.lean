/-
  The law HuffEncodes.
-/
import Derived.Test.YtafibclffklieaaHufI
namespace Go.Proofs.Ytafibclffklieaa
set_option linter.unusedVariables false
set_option linter.unusedSimpArgs false
open Go.RowKit
theorem IsEnc.text {l O : List UInt8} (h : IsEnc l O) {p : Nat} (hp : p ≤ 7) (h8 : (szB l + p) % 8 = 0) : txB (encB l ++ ones p) = txB (bitsL O) := by
  obtain ⟨q, hq, e⟩ := h
  have k := congrArg List.length e
  rw [bitsL_length, List.length_append] at k
  simp only [ones, List.length_replicate] at k
  unfold szB at h8
  have : p = q := by omega
  subst this
  rw [e]
/-- Text and Bits of a text say the same. -/
theorem rf_text_enc {l O : List UInt8} (h : IsEnc l O) (hl : l.length ≤ 100000000) (W : World) : Calls Try.prog 13 #[.string (strB l)] W fun e w' => e = .returned (.string (txB (bitsL O))) ∧ Fresh W w' :=
  (rf_text W l hl).mono (fun e w' hh => by
    obtain ⟨⟨p, hp, h8, he⟩, hf⟩ := hh
    exact ⟨by rw [he, h.text hp h8], hf⟩)
set_option maxRecDepth 100000 in
set_option maxHeartbeats 3200000 in
theorem HuffEncodes_any (A : Option Addr) (l : List UInt8) (c : Nat) (w : World) (hlc : l.length ≤ c) (hcm : c ≤ maxLen) (hA : BS w A l) :
    Calls Try.prog 4 #[.slice A l.length c] w fun e w' => e = .returned (.bool true) ∧ Below w.heap.size w w' := by
  unfold maxLen at hcm
  have HW := Lib.hid hf_awake
  by_cases h200 : 200 < l.length
  · have h200' : (200 : Int) < (l.length : Int) := by omega
    clear hA
    go_enter Try.func4, Try.ntmps4
    go_wp2_with fail
    with_reducible refine (HW.out _).mono ?_
    rintro e w2 ⟨rfl, hf⟩
    have HF := Lib.hid hf
    clear hf
    go_wp2
    go_ret
    exact ⟨rfl, HF.out⟩
  · have h200' : ¬ (200 : Int) < (l.length : Int) := by omega
    obtain ⟨n, hn⟩ : ∃ n, l.length = n := ⟨_, rfl⟩
    have HN := Lib.hid hn
    have HE := Lib.hid (huff_encode A c l w hA (by omega))
    have HS : Hid (∀ W, Fresh w W → (convert 27 9 (.slice A l.length c)).run Try.prog W = .ok (.string (strB l)) W) := Lib.hid (fun W h =>
      run_str (P := Try.prog) (hA.fresh h) 27 9 5 Try.underlying27 Try.underlying5 Try.underlying9 c)
    have HZ : Hid (∀ W, Fresh w W → Calls Try.prog 14 #[.slice A l.length c] W fun e w' => e = .returned (.int .i64 (((szB l + 7) / 8 : Nat) : Int)) ∧ W = w') := Lib.hid (fun W h => hf_size A c l W (hA.fresh h) (by omega))
    have HT : Hid (∀ O, IsEnc l O → ∀ W, Calls Try.prog 13 #[.string (strB l)] W fun e w' => e = .returned (.string (txB (bitsL O))) ∧ Fresh W w') := Lib.hid (fun O h W => rf_text_enc h (by omega) W)
    rw [hn] at HE HS HZ h200 h200' hlc ⊢
    obtain ⟨SL, hSL⟩ : ∃ SL, strB l = SL := ⟨_, rfl⟩
    rw [hSL] at HS HT
    have HSL := Lib.hid hSL
    clear hA hn hSL
    go_enter Try.func4, Try.ntmps4
    go_wp2_with fail
    with_reducible refine HE.out.mono ?_
    rintro e w1 ⟨O, A1, c1, rfl, henc, hown, hf1⟩
    have HEN := Lib.hid henc
    have HT1 := Lib.hid (HT.out O henc)
    have HB1 := Lib.hid hown.bytes.1
    have HF1 := Lib.hid hf1
    have hOl : O.length = (szB l + 7) / 8 := henc.len
    have hOb : O.length ≤ 1000 := by have := szB_le l; rw [HN.out] at this; omega
    have HD : Hid (∀ W, Fresh w1 W → Calls Try.prog 15 #[.slice A1 O.length c1] W (DecF (bitsL O) W)) := Lib.hid (fun W h => huff_decode A1 c1 O W (HB1.out.fresh h) (by omega))
    have HRB : Hid (∀ W, Calls Try.prog 12 #[.string (strB O)] W fun e w' => e = .returned (.string (txB (bitsL O))) ∧ Fresh W w') := Lib.hid (fun W => rf_bits W O (by omega))
    have HS1 : Hid (∀ W, Fresh w1 W → (convert 27 9 (.slice A1 O.length c1)).run Try.prog W = .ok (.string (strB O)) W) := Lib.hid (fun W h =>
      run_str (P := Try.prog) (HB1.out.fresh h) 27 9 5 Try.underlying27 Try.underlying5 Try.underlying9 c1)
    have HDE : Hid (decE (bitsL O) = (0, l)) := Lib.hid henc.dec
    rw [← hOl] at HZ
    clear hOl
    clear hown hf1 henc HE HT
    generalize strB O = SO at *
    generalize txB (bitsL O) = T at *
    generalize O.length = m at *
    have HSK : Hid (∀ w', Fresh w1 w' → (convert 27 9 (.slice A1 m c1)).run Try.prog w' = .ok (.string SO) w' ∧ (convert 27 9 (.slice A n c)).run Try.prog w' = .ok (.string SL) w' ∧ Fresh w1 w') := Lib.hid (fun w' hw => ⟨HS1.out _ hw, HS.out _ (HF1.out.trans hw), hw⟩)
    have e4 : (T.toList == T.toList) = true := beq_self_eq_true _
    have e5 : ((m : Int) != (m : Int)) = false := by simp
    obtain ⟨u0, u1, _⟩ := HSK.out w1 (Fresh.refl _)
    go_upto_region 4 with fail
    go_region_held3 (fun w' => (convert 27 9 (.slice A1 m c1)).run Try.prog w' = .ok (.string SO) w' ∧ (convert 27 9 (.slice A n c)).run Try.prog w' = .ok (.string SL) w' ∧ Fresh w1 w')
      ((refine HSK.out _ ?_; first | with_reducible assumption | with_reducible exact Fresh.drew _))
      (first
        | (go_at_call 12; (with_reducible refine (HRB.out _).mono ?_); rintro e w5 ⟨rfl, hf5⟩; have hg5 : Fresh w1 w5 := Fresh.trans (by first | with_reducible assumption | with_reducible exact Fresh.drew _) hf5; clear hf5)
        | (go_at_call 13; (with_reducible refine (HT1.out _).mono ?_); rintro e w6 ⟨rfl, hf6⟩; have hg6 : Fresh w1 w6 := Fresh.trans (by first | with_reducible assumption | with_reducible exact Fresh.drew _) hf6; clear hf6)
        | (go_at_call 14; (with_reducible refine (HZ.out _ (Fresh.trans HF1.out (by with_reducible assumption))).mono ?_); rintro e w7 ⟨rfl, rfl⟩))
    all_goals
      go_wp2_with fail
      with_reducible refine (HD.out _ (by with_reducible assumption)).mono ?_
      rintro e w8 ⟨A2, c2, rfl, hown2, hf8⟩
      rw [HDE.out] at hown2 ⊢
      have hb2 := hown2.bytes.1
      have HF8 : Hid (Fresh w1 w8) := Lib.hid (Fresh.trans (by with_reducible assumption) hf8)
      clear hown2 hf8
      have hcv2 := run_str (P := Try.prog) hb2 27 9 5 Try.underlying27 Try.underlying5 Try.underlying9 c2
      rw [HSL.out] at hcv2
      have hcv3 := HS.out w8 (HF1.out.trans HF8.out)
      simp only [HN.out] at hcv2 ⊢
      have e6 : (SL.toList == SL.toList) = true := beq_self_eq_true _
      go_wp2_with fail
      with_reducible refine (HW.out _).mono ?_
      rintro e w9 ⟨rfl, hf9⟩
      have HF9 := Lib.hid ((HF1.out.trans HF8.out).trans hf9)
      clear hf9
      go_wp2
      go_ret
      exact ⟨rfl, HF9.out⟩
end Go.Proofs.Ytafibclffklieaa
