/-
  The law PrefixEncodes: its walk.
-/
import Derived.Test.YtjefjpabihmfeaaPrefixV2
import Derived.Deep.RegionWith
import Derived.Deep.RegionHeld3
namespace Go.Proofs.Ytjefjpabihmfeaa
set_option linter.unusedVariables false
open Go.RowKit

theorem encL_mark (n b m : Nat) (hb1 : 1 ≤ b) (hb8 : b ≤ 8) (hm : m < 2 ^ (8 - b)) (h : 0 < (encL n b m).length) : (encL n b m)[0].toNat / 2 ^ b = m := by
  have hp : 2 ^ b * 2 ^ (8 - b) = 256 := by rw [← Nat.pow_add, show b + (8 - b) = 8 by omega]
  have hp0 : 0 < 2 ^ b := Nat.pow_pos (by omega)
  have hmb : m * 2 ^ b + 2 ^ b ≤ 256 := by
    have : (m + 1) * 2 ^ b ≤ 2 ^ (8 - b) * 2 ^ b := Nat.mul_le_mul_right _ hm
    rw [Nat.add_mul, Nat.mul_comm (2 ^ (8 - b))] at this
    omega
  have key : ∀ t, t < 2 ^ b → (UInt8.ofNat (m * 2 ^ b + t)).toNat / 2 ^ b = m := fun t ht => by
    have : (UInt8.ofNat (m * 2 ^ b + t)).toNat = m * 2 ^ b + t := by simp; omega
    rw [this, Nat.add_comm, Nat.add_mul_div_right _ _ hp0, Nat.div_eq_of_lt ht]
    omega
  by_cases h1 : n < 2 ^ b - 1
  · have hl : encL n b m = [UInt8.ofNat (m * 2 ^ b + n)] := by unfold encL; rw [if_pos h1]
    simp only [hl, List.getElem_cons_zero]
    exact key n (by omega)
  · have hl : encL n b m = UInt8.ofNat (m * 2 ^ b + (2 ^ b - 1)) :: tailF 5 (n - (2 ^ b - 1)) := by unfold encL; rw [if_neg h1]
    simp only [hl, List.getElem_cons_zero]
    exact key _ (by omega)

theorem encL_len_mark (n b m : Nat) : (encL n b m).length = (encL n b 0).length := by
  unfold encL
  split <;> simp

theorem okP_zero {n b m : Int} (h : okP n b m) : okP n b 0 := by
  obtain ⟨h1, h2, h3, h4, h5, h6⟩ := h
  exact ⟨h1, h2, h3, h4, by omega, by omega⟩

set_option maxRecDepth 100000 in
set_option maxHeartbeats 8000000 in
theorem PrefixEncodes_any (n b m : Int) (w : World) (hn : -9223372036854775808 ≤ n ∧ n ≤ 9223372036854775807) (hb : -9223372036854775808 ≤ b ∧ b ≤ 9223372036854775807) (hm : -9223372036854775808 ≤ m ∧ m ≤ 9223372036854775807) :
    Calls Try.prog 3 #[.int .i64 n, .int .i64 b, .int .i64 m] w fun e w' => e = .returned (.bool true) ∧ Below w.heap.size w w' := by
  have HW := Lib.hid awake_true
  by_cases h1 : okP n b m
  · obtain ⟨n, b, m, rfl, rfl, rfl, hb1, hb8, hn', hm'⟩ := okP_yes h1
    have HR := Lib.hid (fun w => right_yes n b m w hb1 hb8 hn' hm')
    have HE := Lib.hid (enc_any n b m w hb1 hb8 hn' hm')
    have HF := Lib.hid (fun w => ref_enc n b m w hb1 hb8 hn' hm')
    have HL : Hid (∀ W, Calls Try.prog 10 #[.int .i64 n, .int .i64 b] W fun e w' => e = .returned (.int .i64 (encL n b m).length) ∧ Fresh W w') := fun W => by
      rw [encL_len_mark]; exact len_yes n b W hb1 hb8 hn'
    have hLlen := encL_length n b m hn'
    have HD : Hid (∀ A c W, BS W A (encL n b m) → Calls Try.prog 12 #[.slice A (encL n b m).length c, .int .i64 b] W fun e w' => e = .returned (.tuple #[.int .i64 n, .int .i64 (encL n b m).length, .int .i64 0]) ∧ Fresh W w') := fun A c W h => by
      have := dec_any A c b (encL n b m) W hb1 hb8 (by omega) h
      have e := decL_encL n b m [] hb1 hb8 hn' hm'
      rw [List.append_nil] at e
      rw [e] at this
      exact this
    have HM : Hid (∀ A c W, BS W A (encL n b m) → Calls Try.prog 13 #[.slice A (encL n b m).length c, .int .i64 b] W fun e w' => e = .returned (.tuple #[.int .i64 m, .bool true]) ∧ Fresh W w') := fun A c W h => by
      have := mark_yes A c b (encL n b m) W hb1 hb8 (by omega) h
      rw [encL_mark n b m hb1 hb8 hm' (by omega)] at this
      exact this
    have HS : Hid (∀ A c W, BS W A (encL n b m) → (convert 22 9 (.slice A (encL n b m).length c)).run Try.prog W = .ok (.string (strB (encL n b m))) W) := fun A c W h =>
      run_str (P := Try.prog) h 22 9 5 Try.underlying22 Try.underlying5 Try.underlying9 c
    generalize encL n b m = L at *
    generalize strB L = S at *
    clear h1 hm'
    go_enter Try.func3, Try.ntmps3
    go_wp2_with fail
    with_reducible refine HE.out.mono ?_
    rintro e w1 ⟨A1, c1, rfl, ho1, hf1⟩
    have HB1 := Lib.hid ho1.bytes.1
    have HF1 := Lib.hid hf1
    clear ho1 hf1 HE
    go_wp2_with fail
    with_reducible refine (HR.out _).mono ?_
    rintro e w2 ⟨rfl, rfl⟩
    go_wp2_with fail
    with_reducible refine (HD.out _ _ _ HB1.out).mono ?_
    rintro e w2 ⟨rfl, hf2⟩
    have HB2 := Lib.hid (HB1.out.fresh hf2)
    have HF2 := Lib.hid (HF1.out.trans hf2)
    clear hf2 HB1 HF1
    go_wp2_with fail
    with_reducible refine (HM.out _ _ _ HB2.out).mono ?_
    rintro e w3 ⟨rfl, hf3⟩
    have HB3 := Lib.hid (HB2.out.fresh hf3)
    have HF3 := Lib.hid (HF2.out.trans hf3)
    clear hf3 HB2 HF2
    have e1 : ((n : Int) == (n : Int)) = true := beq_self_eq_true _
    have e2 : ((m : Int) == (m : Int)) = true := beq_self_eq_true _
    have e3 : ((L.length : Int) == (L.length : Int)) = true := beq_self_eq_true _
    have e4 : (S.toList == S.toList) = true := beq_self_eq_true _
    have hs0 := HS.out A1 c1 w3 HB3.out
    have hs := HS.out A1 c1 w3.drew (HB3.out.drew_)
    go_wp2_with fail
    go_region_held3 (fun w' => (convert 22 9 (.slice A1 L.length c1)).run Try.prog w' = .ok (.string S) w')
      (first | go_keep | exact HS.out _ _ _ (HB3.out.fresh (by first | exact (Fresh.drew _).trans hf4 | exact ((Fresh.drew _).trans hf4).trans hf5 | exact (((Fresh.drew _).trans hf4).trans hf5).trans hf6)))
      (first | (go_at_call 14; with_reducible refine (HF.out _).mono ?_; rintro e w4 ⟨rfl, hf4⟩) | (go_at_call 10; with_reducible refine (HL.out _).mono ?_; rintro e w5 ⟨rfl, hf5⟩) | (go_at_call 11; with_reducible refine (HW.out _).mono ?_; rintro e w6 ⟨rfl, hf6⟩))
    go_wp2
    go_ret
    exact ⟨rfl, HF3.out.trans ((((Fresh.drew _).trans hf4).trans hf5).trans hf6)⟩
  · have HE := Lib.hid (enc_no n b m w h1)
    have HR := Lib.hid (right_no n b m w h1)
    clear h1
    by_cases h2 : okP n b 0
    · obtain ⟨n, b, rfl, rfl, hb1, hb8, hn'⟩ := okP_yes0 h2
      have HR2 : Hid (∀ w, Calls Try.prog 9 #[.int .i64 (n : Int), .int .i64 (b : Int), .int .i64 0] w fun e w' => e = .returned (.bool true) ∧ w = w') := fun w => right_yes n b 0 w hb1 hb8 hn' (Nat.pow_pos (by omega))
      clear h2
      go_enter Try.func3, Try.ntmps3
      go_wp2_with fail
      with_reducible refine HE.out.mono ?_
      rintro e w1 ⟨rfl, rfl⟩
      go_wp2_with fail
      with_reducible refine HR.out.mono ?_
      rintro e w1 ⟨rfl, rfl⟩
      go_wp2_with fail
      with_reducible refine (HR2.out _).mono ?_
      rintro e w1 ⟨rfl, rfl⟩
      go_wp2_with fail
      with_reducible refine (HW.out _).mono ?_
      rintro e w3 ⟨rfl, hf3⟩
      have HF3 := Lib.hid hf3
      clear hf3
      go_wp2
      go_ret
      exact ⟨rfl, HF3.out⟩
    · have HR2 : Hid (∀ w, Calls Try.prog 9 #[.int .i64 n, .int .i64 b, .int .i64 0] w fun e w' => e = .returned (.bool false) ∧ w = w') := fun w => right_no n b 0 w h2
      have HL := Lib.hid (fun w => len_no n b w h2)
      clear h2
      go_enter Try.func3, Try.ntmps3
      go_wp2_with fail
      with_reducible refine HE.out.mono ?_
      rintro e w1 ⟨rfl, rfl⟩
      go_wp2_with fail
      with_reducible refine HR.out.mono ?_
      rintro e w1 ⟨rfl, rfl⟩
      go_wp2_with fail
      with_reducible refine (HR2.out _).mono ?_
      rintro e w1 ⟨rfl, rfl⟩
      go_wp2_with fail
      with_reducible refine (HL.out _).mono ?_
      rintro e w2 ⟨rfl, hf2⟩
      have HF2 := Lib.hid hf2
      clear hf2
      go_wp2_with fail
      with_reducible refine (HW.out _).mono ?_
      rintro e w3 ⟨rfl, hf3⟩
      have HF3 := Lib.hid hf3
      clear hf3
      go_wp2
      go_ret
      exact ⟨rfl, HF2.out.trans HF3.out⟩
end Go.Proofs.Ytjefjpabihmfeaa
