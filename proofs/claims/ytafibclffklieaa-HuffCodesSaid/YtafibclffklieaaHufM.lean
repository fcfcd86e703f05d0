/-
  The law HuffCodes.
-/
import Derived.Test.YtafibclffklieaaHufI
import Derived.Laws.BitsAllLaws
namespace Go.Proofs.Ytafibclffklieaa
set_option linter.unusedVariables false
set_option linter.unusedSimpArgs false
open Go.RowKit
theorem codeB_bit {a j : Nat} (h : j < ln a) : (codeB a).take (ln a - j) = (codeB a).take (ln a - (j + 1)) ++ [(numF a).testBit j] := by
  have h1 : ln a - (j + 1) < (codeB a).length := by rw [codeB_length]; omega
  rw [show ln a - j = ln a - (j + 1) + 1 by omega, List.take_succ_eq_append_getElem h1]
  have e : (codeB a)[ln a - (j + 1)] = (numF a).testBit j := by
    refine (bitsOf_get (numF a) (ln a) (ln a - (j + 1)) h1).trans ?_
    congr 1
    omega
  rw [e]
theorem code_not_pre {a b : Nat} (ha : a < 257) (hb : b < 257) (hne : a ≠ b) (hl : ln a ≤ ln b) : (txB (codeB b)).extract 0 (ln a) ≠ txB (codeB a) := fun h => by
  have h2 := txB_cut (codeB b) 0 (ln a) (by rw [codeB_length]; omega)
  rw [Nat.zero_add] at h2
  rw [h2, List.drop_zero] at h
  have h3 := txB_inj h
  exact hne (code_pre ha hb (h3 ▸ List.take_prefix _ _) (List.prefix_refl _))
set_option maxRecDepth 100000 in
set_option maxHeartbeats 3200000 in
theorem hc_text (a : Nat) (b : Int) (w : World) (ha : a < 257) (hb : -9223372036854775808 ≤ b ∧ b ≤ 9223372036854775807) :
    Calls Try.prog 3 #[.int .i64 (a : Int), .int .i64 b] w fun e w' => e = .returned (.bool true) ∧ Below w.heap.size w w' := by
  have HW := Lib.hid hf_awake
  have HC := Lib.hid (huff_code a w ha)
  have HCD := Lib.hid (rf_codes ·)
  have HLN := Lib.hid (ln_ok ha)
  have HBIT := Lib.hid (fun j (h : j < ln a) => codeB_bit h)
  have HXB : Hid (numF a < 4294967296) := Lib.hid (by
    have h1 := (sym ha).2.2.2.2.1
    have h2 := (ln_ok ha).2.1
    have : 2 ^ ln a ≤ 2 ^ 30 := Nat.pow_le_pow_right (by omega) h2
    omega)
  obtain ⟨n, hn⟩ : ∃ n, ln a = n := ⟨_, rfl⟩
  obtain ⟨X, hX⟩ : ∃ X, numF a = X := ⟨_, rfl⟩
  have HN := Lib.hid hn
  rw [hn] at HC HLN HBIT
  rw [hX] at HC HXB HBIT
  have hn30 : n ≤ 30 := HLN.out.2.1
  have hX32 : X < 4294967296 := HXB.out
  have a1 : ¬ (a : Int) < 0 := by omega
  have a2 : ¬ (256 : Int) < (a : Int) := by omega
  have a3 : (a : Int) < 257 := by omega
  have a4 : (0 : Int) ≤ (a : Int) := by omega
  clear hn hX
  go_enter Try.func3, Try.ntmps3
  go_wp2_with (go_at_call 8; with_reducible refine HC.out.mono ?_; rintro e w1 ⟨rfl, hf1⟩)
  go_loopw [8, 9] (fun t i wr => ∃ j : Nat, j ≤ n ∧ i = .int .i64 ((j : Int) - 1) ∧ t = .string (txB ((codeB a).take (n - j))) ∧ Fresh w1 wr) (fun _ i _ => (intOf i + 1).toNat)
  case atStart => exact ⟨n, Nat.le_refl _, rfl, by rw [Nat.sub_self]; rfl, Fresh.refl _⟩
  case round =>
    obtain ⟨j, hj, rfl, rfl, hf⟩ := hrel
    rcases j with _ | j
    · rw [Nat.sub_zero, ← HN.out, ← codeB_length a, List.take_length, codeB_length, HN.out]
      have HF := Lib.hid (hf1.trans hf)
      clear hf hf1
      have hTS : (txB (codeB a)).size = n := by rw [txB_size, codeB_length, HN.out]
      have HNE : Hid (∀ b : Nat, b < 257 → a ≠ b → n ≤ ln b → (txB (codeB b)).extract 0 n ≠ txB (codeB a)) := Lib.hid (fun b hb hne hl => by
        have := code_not_pre ha hb hne (by rw [HN.out]; exact hl)
        rwa [HN.out] at this)
      have hca := codC_get ha
      have hz := zero_cods
      have hst := store_cods
      rw [show ((0 : Nat) : Int) - 1 = -1 from rfl]
      go_upto_region 10 with (go_at_call 10; with_reducible refine (HCD.out _).mono ?_; rintro e w3 ⟨rfl, hf3⟩)
      refine wp_gen (fun W => CodsR w w3.heap.size W) ((cods_new w3).from (HF.out.trans hf3)) ?_
      intro W0 hW0
      generalize w3.heap.size = bk at *
      have HW0 := Lib.hid hW0
      have hcell := hW0.cell ha
      clear hz hst hW0 hf3 HCD
      have e4 : ((txB (codeB a)).toList == (txB (codeB a)).toList) = true := beq_self_eq_true _
      generalize txB (codeB a) = T at *
      have EN : Hid (∀ W, Fresh W0 W → Below w.heap.size w W) := Lib.hid (fun W hf => HW0.out.fr.trans hf)
      by_cases b1 : b < 0
      · have b1d : decide (b < 0) = true := by simpa using b1
        go_wp2_with (go_at_call 9; with_reducible refine (HW.out _).mono ?_; rintro e w6 ⟨rfl, hf6⟩)
        go_ret
        exact ⟨rfl, EN.out _ hf6⟩
      have b1d : decide (b < 0) = false := by simpa using b1
      by_cases b2 : 256 < b
      · have b2d : decide (256 < b) = true := by simpa using b2
        go_wp2_with (go_at_call 9; with_reducible refine (HW.out _).mono ?_; rintro e w6 ⟨rfl, hf6⟩)
        go_ret
        exact ⟨rfl, EN.out _ hf6⟩
      have b2d : decide (256 < b) = false := by simpa using b2
      obtain ⟨y, rfl⟩ : ∃ y : Nat, b = y := ⟨b.toNat, by omega⟩
      have hy : y < 257 := by omega
      by_cases b3 : a = y
      · subst b3
        go_wp2_with (go_at_call 9; with_reducible refine (HW.out _).mono ?_; rintro e w6 ⟨rfl, hf6⟩)
        go_ret
        exact ⟨rfl, EN.out _ hf6⟩
      have b3d : ((a : Int) == (y : Int)) = false := by simp; omega
      have b4 : (y : Int) < 257 := by omega
      have b5 : (0 : Int) ≤ (y : Int) := by omega
      have hcy := HW0.out.cell hy
      obtain ⟨m, hm⟩ : ∃ m, ln y = m := ⟨_, rfl⟩
      have hne := HNE.out y hy b3
      have hUz : (txB (codeB y)).size = m := by rw [txB_size, codeB_length, hm]
      rw [hm] at hne
      clear hm HNE
      generalize txB (codeB y) = U at *
      by_cases b6 : m < n
      · have b6' : (m : Int) < (n : Int) := by omega
        have b6d : decide ((m : Int) < (n : Int)) = true := by simpa using b6'
        go_wp2_with (go_at_call 9; with_reducible refine (HW.out _).mono ?_; rintro e w6 ⟨rfl, hf6⟩)
        go_ret
        exact ⟨rfl, EN.out _ hf6⟩
      · have b6' : ¬ (m : Int) < (n : Int) := by omega
        have b6d : decide ((m : Int) < (n : Int)) = false := by simpa using b6'
        have b7 : (n : Int) ≤ (m : Int) := by omega
        have hnb := toList_ne (hne (by omega))
        obtain ⟨V, hV⟩ : ∃ V, U.extract 0 n = V := ⟨_, rfl⟩
        rw [hV] at hnb
        clear hne
        go_wp2_with (go_at_call 9; with_reducible refine (HW.out _).mono ?_; rintro e w6 ⟨rfl, hf6⟩)
        go_ret
        exact ⟨rfl, EN.out _ hf6⟩
    · have e1 : ((j + 1 : Nat) : Int) - 1 = (j : Int) := by omega
      rw [e1]
      have h0 : (0 : Int) ≤ (j : Int) := by omega
      have h32 : (j : Int) < 32 := by omega
      have h0d : decide ((0 : Int) ≤ (j : Int)) = true := by simp
      have h32d : decide ((j : Int) < 32) = true := by simpa using h32
      have hstep := HBIT.out j (by omega)
      obtain ⟨t, ht⟩ : ∃ t, X.testBit j = t := ⟨_, rfl⟩
      rw [ht] at hstep
      have hv : (48 + bits BinOp.and IntKind.u32 ((X : Int) / 2 ^ j) 1) % 256 = ((chB t).toNat : Int) := by
        have e2 : ((X : Int) / 2 ^ j) = ((X / 2 ^ j : Nat) : Int) := by simp
        have h3 : X / 2 ^ j < 4294967296 := Nat.lt_of_le_of_lt (Nat.div_le_self _ _) hX32
        have e3 : (1 : Int) = ((1 : Nat) : Int) := rfl
        rw [e2, e3, u32_and_nat _ _ h3 (by omega), Nat.and_one_is_mod]
        rw [Nat.testBit_eq_decide_div_mod_eq] at ht
        subst ht
        rcases Nat.mod_two_eq_zero_or_one (X / 2 ^ j) with e | e
        · rw [e]; rfl
        · rw [e]; rfl
      have hcv := one_str wr (chB t) _ hv 5
      have HSTEP : Hid (txB ((codeB a).take (n - (j + 1))) ++ strB [chB t] = txB ((codeB a).take (n - j))) := Lib.hid (by rw [hstep]; exact txB_append _ [t])
      have hTz : (txB ((codeB a).take (n - (j + 1)))).size ≤ 100 := by rw [txB_size, List.length_take, codeB_length, HN.out]; omega
      have hUz : (strB [chB t]).size = 1 := rfl
      clear hv hstep ht
      generalize txB ((codeB a).take (n - (j + 1))) = T at *
      generalize strB [chB t] = U at *
      have hcat : ¬ 9223372036854775807 < T.size + U.size := by omega
      go_wp2
      exact ⟨⟨j, by omega, rfl, by rw [← HSTEP.out], hf.trans (Fresh.alloc _ _)⟩, by simp [intOf]⟩
theorem HuffCodes_any (a b : Int) (w : World) (hb0 : -9223372036854775808 ≤ a ∧ a ≤ 9223372036854775807) (hb : -9223372036854775808 ≤ b ∧ b ≤ 9223372036854775807) :
    Calls Try.prog 3 #[.int .i64 a, .int .i64 b] w fun e w' => e = .returned (.bool true) ∧ Below w.heap.size w w' := by
  by_cases ha : 0 ≤ a ∧ a < 257
  · obtain ⟨x, rfl⟩ : ∃ x : Nat, a = x := ⟨a.toNat, by omega⟩
    exact hc_text x b w (by omega) hb
  · have HW := Lib.hid hf_awake
    have HC := Lib.hid (huff_code_no a w (by omega))
    by_cases h0 : a < 0
    · have h0d : decide (a < 0) = true := by simpa using h0
      clear ha
      go_enter Try.func3, Try.ntmps3
      go_wp2_with first | (go_at_call 8; with_reducible refine HC.out.mono ?_; rintro e w1 ⟨rfl, hf1⟩) | (go_at_call 9; with_reducible refine (HW.out _).mono ?_; rintro e w6 ⟨rfl, hf6⟩)
      go_ret
      exact ⟨rfl, hf1.trans hf6⟩
    · have h0d : decide (a < 0) = false := by simpa using h0
      have h1 : 256 < a := by omega
      have h1d : decide (256 < a) = true := by simpa using h1
      clear ha
      go_enter Try.func3, Try.ntmps3
      go_wp2_with first | (go_at_call 8; with_reducible refine HC.out.mono ?_; rintro e w1 ⟨rfl, hf1⟩) | (go_at_call 9; with_reducible refine (HW.out _).mono ?_; rintro e w6 ⟨rfl, hf6⟩)
      go_ret
      exact ⟨rfl, hf1.trans hf6⟩
end Go.Proofs.Ytafibclffklieaa
