/-
  The laws CleanLower and CleanWords.
-/
import Derived.Test.YtmeeofplpffboaaDoorClnG
import Derived.RegionTactic
import Derived.BigRegion
import Derived.BigQuiet
import Derived.Deep.RegionHeld3
namespace Go.Proofs.YtmeeofplpffboaaDoor
set_option maxRecDepth 100000
set_option linter.unusedVariables false
set_option linter.unusedSimpArgs false
open Go.RowKit
set_option maxHeartbeats 6400000 in
theorem CleanLower_any (s : ByteArray) (w : World) (ws : s.size ≤ maxLen) : Calls Tryd.prog 6 #[.string s] w fun e w' => e = .returned (.bool true) ∧ Fresh w w' := by
  have HAW := Lib.hid cl_awake
  by_cases h0 : 3000 < s.size
  · have d0 : (3000 : Int) < (s.size : Int) := by omega
    clear h0 ws
    go_enter Tryd.func6, Tryd.ntmps6
    go_wp2_with fail
    with_reducible refine (HAW.out _).mono ?_
    rintro e w1 ⟨rfl, hf⟩
    have HF := Lib.hid hf
    clear hf
    go_wp2_with fail
    go_ret
    exact ⟨rfl, HF.out⟩
  have d0 : decide ((3000 : Int) < (s.size : Int)) = false := decide_eq_false (by omega)
  obtain ⟨l, hl⟩ : ∃ l, s.data.toList = l := ⟨_, rfl⟩
  have hll : l.length = s.size := by rw [← hl, ← Lib.size_eq]
  have HL1 : Hid (∀ w, Calls Tryd.prog 21 #[.string s] w fun e w' => e = .returned (.string (strB (lowL l))) ∧ Fresh w w') := Lib.hid (fun w => by
    have := cl_low l w (by omega)
    rw [← hl, strB_ext] at this
    rw [← hl]
    exact this)
  have HL2 : Hid (∀ w, Calls Tryd.prog 21 #[.string (strB (lowL l))] w fun e w' => e = .returned (.string (strB (lowL l))) ∧ Fresh w w') := Lib.hid (fun w => by
    have := cl_low (lowL l) w (by rw [lowL_len]; omega)
    rw [lowL_two] at this
    exact this)
  obtain ⟨T, hT⟩ : ∃ T, strB (lowL l) = T := ⟨_, rfl⟩
  rw [hT] at HL1 HL2
  have HTS : T.size = s.size := by rw [← hT, strB_size, lowL_len, hll]
  have HX : Hid (∀ (k : Nat) (hk : k < s.size) (hk2 : k < T.size), T[k]'hk2 = lowC (s[k]'hk)) := Lib.hid (fun k hk hk2 => by
    have h1 := Lib.data_getElem? T k hk2
    have h2 := Lib.data_getElem? s k hk
    rw [show T.data.toList = lowL l by rw [← hT]; rfl] at h1
    rw [hl] at h2
    unfold lowL at h1
    rw [List.getElem?_map, h2] at h1
    simpa using h1.symm)
  have HN1 := Lib.hid (fun w => cl_name T w)
  have HN2 := Lib.hid (fun w => rf_name T w)
  obtain ⟨nb, hnb⟩ : ∃ b, nameB T.data.toList = b := ⟨_, rfl⟩
  rw [hnb] at HN1 HN2
  have hss : ((s.size : Int) != (s.size : Int)) = false := by simp
  have htt : (T.toList != T.toList) = false := by simp
  have htb : (nb == nb) = true := by simp
  have hTZ := HTS
  clear hl hll hT hnb ws HTS
  go_enter Tryd.func6, Tryd.ntmps6
  go_wp2_with fail
  with_reducible refine (HL1.out _).mono ?_
  rintro e w1 ⟨rfl, hf⟩
  have HF1 := Lib.hid hf
  clear hf
  go_wp2_with fail
  with_reducible refine (HL2.out _).mono ?_
  rintro e w2 ⟨rfl, hf⟩
  have HF2 := Lib.hid (HF1.out.trans hf)
  clear hf
  go_wp2
  go_loop [25] (fun i => ∃ k : Nat, k ≤ s.size ∧ i = .int .i64 (k : Int)) (fun i => s.size - (intOf i).toNat)
  case atStart => exact ⟨0, by omega, rfl⟩
  case round =>
    obtain ⟨k, hk, rfl⟩ := hrel
    by_cases hlt : k < s.size
    · have hlt' : (k : Int) < (s.size : Int) := by omega
      have hkT : k < T.size := by omega
      obtain ⟨x, hx⟩ : ∃ x : UInt8, s[k]'hlt = x := ⟨_, rfl⟩
      obtain ⟨y, hy⟩ : ∃ y : UInt8, T[k]'hkT = y := ⟨_, rfl⟩
      have hxy := HX.out k hlt hkT
      rw [hx, hy] at hxy
      by_cases h65 : 65 ≤ x.toNat ∧ x.toNat ≤ 90
      · have a0 : (65 : Int) ≤ (x.toNat : Int) := by omega
        have a1 : (x.toNat : Int) ≤ 90 := by omega
        have hyn := (lowC_up x h65.1 h65.2).2
        rw [← hxy] at hyn
        have e1 : ((y.toNat : Int) != (x.toNat : Int) + 32) = false := by
          rw [hyn]
          simp
        have e2 : ((x.toNat : Int) + 32) % 256 = (x.toNat : Int) + 32 := by omega
        clear h65 hyn hxy
        go_wp2
        go_round
        case rel => exact ⟨k + 1, by omega, by go_num⟩
        case measure => simp [intOf]; omega
      · rw [lowC_no x h65] at hxy
        have e1 : ((y.toNat : Int) != (x.toNat : Int)) = false := by rw [hxy]; simp
        clear hxy
        by_cases h6 : 65 ≤ x.toNat
        · have a0 : decide ((65 : Int) ≤ (x.toNat : Int)) = true := decide_eq_true (by omega)
          have a1 : decide ((x.toNat : Int) ≤ 90) = false := decide_eq_false (by omega)
          clear h65 h6
          go_wp2
          go_round
          case rel => exact ⟨k + 1, by omega, by go_num⟩
          case measure => simp [intOf]; omega
        · have a0 : decide ((65 : Int) ≤ (x.toNat : Int)) = false := decide_eq_false (by omega)
          clear h65 h6
          go_wp2
          go_round
          case rel => exact ⟨k + 1, by omega, by go_num⟩
          case measure => simp [intOf]; omega
    · obtain rfl : k = s.size := by omega
      clear hTZ
      go_wp2_with fail
      with_reducible refine (HN1.out _).mono ?_
      rintro e w3 ⟨rfl, hw⟩
      obtain rfl : w2 = w3 := hw.symm
      go_wp2_with fail
      with_reducible refine (HN2.out _).mono ?_
      rintro e w3 ⟨rfl, hw⟩
      obtain rfl : w2 = w3 := hw.symm
      go_wp2_with fail
      with_reducible refine (HAW.out _).mono ?_
      rintro e w3 ⟨rfl, hf⟩
      have HF3 := Lib.hid (HF2.out.trans hf)
      clear hf
      go_wp2_with fail
      go_ret
      exact ⟨rfl, HF3.out⟩
end Go.Proofs.YtmeeofplpffboaaDoor

