/-
  The law OctetNum: its walk.
-/
import Derived.Test.YtpadnempbpemmaaOctetV
namespace Go.Proofs.Ytpadnempbpemmaa
set_option linter.unusedVariables false
open Go.RowKit

set_option maxRecDepth 100000 in
set_option maxHeartbeats 8000000 in
theorem OctetNum_any (A : Option Addr) (l : List UInt8) (c : Nat) (w : World) (hlc : l.length ≤ c) (hcm : c ≤ maxLen) (hA : BS w A l) :
    Calls Try.prog 4 #[.slice A l.length c] w fun e w' => e = .returned (.bool true) ∧ Below w.heap.size w w' := by
  unfold maxLen at hcm
  have HS : Hid (∀ W, BS W A l → (convert 23 9 (.slice A l.length c)).run Try.prog W = .ok (.string (strB l)) W) := fun W h =>
    run_str (P := Try.prog) h 23 9 5 Try.underlying23 Try.underlying5 Try.underlying9 c
  have HA := Lib.hid hA
  clear hA
  by_cases h8 : l.length ≤ 8
  · have HN := Lib.hid (fun w h => onum_yes A c l w h8 h)
    have HR := Lib.hid (fun w => ref_num l w h8)
    by_cases h0 : l.length = 0
    · have hl : l = [] := List.eq_nil_of_length_eq_zero h0
      subst hl
      have HB := Lib.hid (fun w => obig_no 0 0 w (by omega))
      have hz : numL [] = 0 := rfl
      rw [hz] at HN HR
      clear hz h0
      simp only [List.length_nil] at HN HS ⊢
      have HE : Hid (∀ W, (convert 23 9 (.slice none 0 0)).run Try.prog W = .ok (.string (strB [])) W) := fun W =>
        run_str (P := Try.prog) (BS.nil W none) 23 9 5 Try.underlying23 Try.underlying5 Try.underlying9 0
      have hs := HS.out
      have hsn : ∀ W, (convert 23 9 (.slice A 0 c)).run Try.prog W = .ok (.string (strB [])) W := fun W => hs W (BS.nil W A)
      have he := HE.out
      clear HS hs
      generalize strB [] = S at *
      go_enter Try.func4, Try.ntmps4
      go_wp2_with fail
      refine (HN.out _ HA.out).mono ?_
      rintro e w1 ⟨rfl, rfl⟩
      go_wp2_with fail
      go_region_held3 (fun w' => (convert 23 9 (.slice A 0 c)).run Try.prog w' = .ok (.string S) w')
        (first | go_keep | exact hsn _)
        (first | (go_at_call 11; refine (HR.out _).mono ?_; rintro e w2 ⟨rfl, rfl⟩) | (go_at_call 7; refine (HB.out _).mono ?_; rintro e w3 ⟨rfl, rfl⟩) | (go_at_call 8; refine (awake_true _).mono ?_; rintro e w4 ⟨rfl, hf4⟩))
      go_wp2_with fail
      go_ret
      exact ⟨rfl, (Fresh.drew _).trans hf4⟩
    · have HB := Lib.hid (fun w => obig_yes (numL l) l.length w (numL_lt64 l h8) (by omega) (by omega))
      have HSB : Hid (∀ W g, Blk W g 5 (bytesA (bigL (numL l) l.length)) → (convert 23 9 (.slice (some ⟨g, 0, none⟩) l.length l.length)).run Try.prog W = .ok (.string (strB l)) W) := fun W g h => by
        have := str_eq_big (numL l) l.length W g h
        rwa [bigL_numL _ l rfl] at this
      have hs := HS.out
      generalize numL l = z at *
      generalize strB l = S at *
      generalize hn : l.length = n at *
      clear hn
      go_enter Try.func4, Try.ntmps4
      go_wp2_with fail
      refine (HN.out _ HA.out).mono ?_
      rintro e w1 ⟨rfl, rfl⟩
      have hs1 := HS.out _ HA.out.drew_
      clear hs
      go_wp2_with fail
      go_region_with (first | (go_at_call 11; refine (HR.out _).mono ?_; rintro e w2 ⟨rfl, rfl⟩) | (go_at_call 7; refine (HB.out _).mono ?_; rintro e w3 ⟨rfl, hb3, hf3⟩; have hcb := HSB.out w3 w.heap.size hb3; have hs3 := HS.out _ (HA.out.drew_.fresh hf3)) | (go_at_call 8; refine (awake_true _).mono ?_; rintro e w4 ⟨rfl, hf4⟩))
      all_goals
        go_wp2_with fail
        go_ret
        exact ⟨rfl, (Fresh.drew _).trans (hf3.trans hf4)⟩
  · have HN := Lib.hid (fun w => onum_no A c l.length w (by omega) (by omega))
    have h9 : (8 : Int) < (l.length : Int) := by omega
    go_enter Try.func4, Try.ntmps4
    go_wp2_with fail
    refine (HN.out _).mono ?_
    rintro e w1 ⟨rfl, rfl⟩
    go_wp2_with fail
    refine (awake_true _).mono ?_
    rintro e w4 ⟨rfl, hf4⟩
    go_wp2_with fail
    go_ret
    exact ⟨rfl, hf4⟩
end Go.Proofs.Ytpadnempbpemmaa
