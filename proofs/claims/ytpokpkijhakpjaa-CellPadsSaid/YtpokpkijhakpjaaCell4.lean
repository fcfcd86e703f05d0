/-
  Layer 20: the fixed answer; the law CellCounts.
-/
import Derived.Test.YtpokpkijhakpjaaCell3
import Derived.Lib.SlBytesConst
namespace Go.Proofs.Ytpokpkijhakpjaa
set_option linter.unusedVariables false
open Go.RowKit

theorem aw_fill (w : World) : Calls Try.prog 10 #[.slice none 0 0, .int .i64 10] w (FillOk [] 10 w) := fill_ok none 0 [] 10 w (by omega) (by omega) (by simp) (BS.nil _ _)
theorem aw_pad (H : Nat) (w : World) (h : BS w (some ⟨H, 0, none⟩) [97, 98]) : Calls Try.prog 20 #[.int .i64 3, .slice (some ⟨H, 0, none⟩) 2 2, .bool true, .int .i64 10] w (PadOk 3 9 10 [7, 97, 98, 0, 0, 0, 0, 0, 0, 0] w) :=
  pad_ok 3 10 (some ⟨H, 0, none⟩) 2 [97, 98] true w 7 (by omega) (by omega) (by omega) (by omega) rfl (by omega) h
theorem aw_cells (w : World) : Calls Try.prog 23 #[.int .i64 10, .int .i64 6] w fun e w' => e = .returned (.int .i64 2) ∧ w = w' :=
  (ce_cells 10 6 w (by omega) (by omega)).mono fun _ _ h => h
theorem aw_len (w : World) : Calls Try.prog 12 #[.int .i64 10] w fun e w' => e = .returned (.int .i64 28) ∧ w = w' := ce_len_yes 10 w (by omega) (by omega)
theorem aw_room (w : World) : Calls Try.prog 13 #[.int .i64 10] w fun e w' => e = .returned (.int .i64 19) ∧ w = w' := ce_room_yes 10 w (by omega) (by omega)
set_option maxRecDepth 100000 in
set_option maxHeartbeats 3200000 in
theorem ce_awake (w : World) : Calls Try.prog 9 #[] w fun e w' => e = .returned (.bool true) ∧ Fresh w w' := by
  have kc : ∀ (w : World) (C : Array Value) (n c H : Nat), w.heap.size = H → (convert 22 22 (.slice (some ⟨H, 0, none⟩) n c)).run Try.prog (w.alloc (.cells C 5)) = .ok (.slice (some ⟨H, 0, none⟩) n c) (w.alloc (.cells C 5 (C.size, C.size + 1))) := fun w C n c H h => by
    subst h
    exact Lib.run_convert_bytes_const (P := Try.prog) w 22 5 C n c Try.underlying22 Try.underlying5
  go_enter Try.func9, Try.ntmps9
  go_wp2_with fail
  with_reducible refine (aw_fill _).mono ?_
  rintro e w1 ⟨g1, rfl, hg1, hb1, hf1⟩
  have HF1 := Lib.hid hf1
  clear hf1 hg1 hb1
  go_wp2_with fail
  refine (aw_pad w1.heap.size _ (BS.const w1 5 [97, 98] (2, 3))).mono ?_
  rintro e w2 ⟨g2, rfl, hg2, hb2, hf2⟩
  have HF2 := Lib.hid (HF1.out.trans ((Fresh.alloc w1 (.cells (bytesA [97, 98]) 5 (2, 3))).trans hf2))
  have HB2 := Lib.hid hb2
  clear hf2 hg2 hb2 kc
  have hmk := run_makeZ (P := Try.prog) Try.underlying22 u8_info rfl 20 20 rfl (by omega) (by omega)
  go_wp2_with fail
  with_reducible refine (fill_full _ 20 _ 10 _ (by omega) (by omega) (by omega)).mono ?_
  rintro e w3 ⟨rfl, rfl⟩
  clear hmk
  have hgl := HB2.out.lt
  have q0 : w2.cell? ⟨g2, 0, none⟩ = some (.int .u8 7) := by rw [HB2.out.cell]; rfl
  go_wp2_with fail
  with_reducible refine (aw_len _).mono ?_
  rintro e w4 ⟨rfl, rfl⟩
  go_wp2_with fail
  with_reducible refine (aw_room _).mono ?_
  rintro e w4 ⟨rfl, rfl⟩
  go_wp2_with fail
  with_reducible refine (aw_cells _).mono ?_
  rintro e w4 ⟨rfl, rfl⟩
  go_wp2_with fail
  go_ret
  exact ⟨rfl, (HF2.out.allocS _).allocS _⟩
def cntN (c : Int) : Nat → Int → Int
  | 0, _ => 0
  | m + 1, n => if 0 < n then cntN c m (n - (c - 1)) + 1 else 0
theorem ce_right20 (n : Int) (w : World) :
    Calls Try.prog 11 #[.int .i64 n] w fun e w' => e = .returned (.bool (decide (1 ≤ n ∧ n ≤ 1024))) ∧ w = w' := by
  by_cases h0 : 1 ≤ n
  · by_cases h1 : n ≤ 1024
    · have e : decide (1 ≤ n ∧ n ≤ 1024) = true := by simp [h0, h1]
      rw [e]; clear e
      go_enter Try.func11, Try.ntmps11
      go_wp2_with fail
      go_ret
      exact ⟨rfl, rfl⟩
    · have e : decide (1 ≤ n ∧ n ≤ 1024) = false := by simp [h1]
      have h1' : decide (n ≤ 1024) = false := by simpa using h1
      rw [e]; clear e
      go_enter Try.func11, Try.ntmps11
      go_wp2_with fail
      go_ret
      exact ⟨rfl, rfl⟩
  · have e : decide (1 ≤ n ∧ n ≤ 1024) = false := by simp [h0]
    have h1' : decide (1 ≤ n) = false := by simpa using h0
    rw [e]; clear e
    go_enter Try.func11, Try.ntmps11
    go_wp2_with fail
    go_ret
    exact ⟨rfl, rfl⟩
theorem ce_right20_yes (n : Int) (w : World) (h0 : 1 ≤ n) (h1 : n ≤ 1024) : Calls Try.prog 11 #[.int .i64 n] w fun e w' => e = .returned (.bool true) ∧ w = w' := by
  have := ce_right20 n w
  rwa [show decide (1 ≤ n ∧ n ≤ 1024) = true by simp [h0, h1]] at this
theorem ce_right20_no (n : Int) (w : World) (h : ¬ (1 ≤ n ∧ n ≤ 1024)) : Calls Try.prog 11 #[.int .i64 n] w fun e w' => e = .returned (.bool false) ∧ w = w' := by
  have := ce_right20 n w
  rwa [show decide (1 ≤ n ∧ n ≤ 1024) = false by simpa using h] at this
/-- Counting cells one by one. -/
theorem ref_cells (n c : Int) (w : World) (h0 : 1 ≤ n) (hn : n ≤ 3000) (h2 : 2 ≤ c) (hc : c ≤ 5000) :
    Calls Try.prog 24 #[.int .i64 n, .int .i64 c] w fun e w' => e = .returned (.int .i64 (cellsK n c)) ∧ w = w' := by
  have e0 : cellsK n c = (n - 1) / (c - 1) + 1 := if_neg (by omega)
  rw [e0]
  have HK : Hid (∀ m : Int, m + (c - 1) - 1 = (m - 1) + (c - 1) * 1) := Lib.hid (fun m => by omega)
  obtain ⟨K, hK⟩ : ∃ K, (n - 1) / (c - 1) + 1 = K := ⟨_, rfl⟩
  have hK0 : 0 ≤ K := by rw [← hK]; have := Int.ediv_nonneg (show (0 : Int) ≤ n - 1 by omega) (show (0 : Int) ≤ c - 1 by omega); omega
  have hK1 : K ≤ 3000 := by rw [← hK]; have := Int.ediv_le_self (c - 1) (show (0 : Int) ≤ n - 1 by omega); omega
  rw [hK]
  have HS : Hid ((0 < n → (n - 1) / (c - 1) + 1 + 0 = K) ∧ (n ≤ 0 → (0 : Int) = K)) := Lib.hid ⟨fun _ => by omega, fun h => by omega⟩
  clear e0 hK
  go_enter Try.func24, Try.ntmps24
  go_wp2_with fail
  go_loop [0, 5] (fun x k => ∃ (m : Int) (j : Nat), m ≤ 3000 ∧ -5000 ≤ m ∧ x = .int .i64 m ∧ k = .int .i64 (j : Int) ∧ ((0 < m → (m - 1) / (c - 1) + 1 + j = K) ∧ (m ≤ 0 → (j : Int) = K))) (fun x _ => (intOf x).toNat)
  case atStart => exact ⟨n, 0, by omega, by omega, rfl, rfl, HS.out⟩
  case round =>
    obtain ⟨m, j, hm, hm2, rfl, rfl, hR⟩ := hrel
    by_cases hlt : 0 < m
    · have h1 := hR.1 hlt
      have hq := Int.ediv_nonneg (show (0 : Int) ≤ m - 1 by omega) (show (0 : Int) ≤ c - 1 by omega)
      have hj : (j : Int) ≤ 3000 := by omega
      have HN : Hid ((0 < m - (c - 1) → (m - (c - 1) - 1) / (c - 1) + 1 + ((j + 1 : Nat) : Int) = K) ∧ (m - (c - 1) ≤ 0 → ((j + 1 : Nat) : Int) = K)) := Lib.hid (by
        have hd : (m - (c - 1) - 1) / (c - 1) = (m - 1) / (c - 1) - 1 := by
          rw [show m - (c - 1) - 1 = (m - 1) + (c - 1) * (-1) by omega, Int.add_mul_ediv_left _ _ (by omega)]; omega
        refine ⟨fun h => by omega, fun h => ?_⟩
        have : (m - 1) / (c - 1) = 0 := Int.ediv_eq_zero_of_lt (by omega) (by omega)
        omega)
      clear h1 hq hR HS
      go_wp2_with fail
      go_round
      case rel => exact ⟨m - (c - 1), j + 1, by omega, by omega, by go_num, by go_num, HN.out⟩
      case measure => simp [intOf]; omega
    · have h1 : (j : Int) = K := hR.2 (by omega)
      have H1 := Lib.hid h1
      clear hR HS h1
      go_wp2_with fail
      go_ret
      exact ⟨ret_int H1.out, rfl⟩
set_option maxHeartbeats 1600000 in
theorem CellCounts_any (n c : Int) (w : World) (hn : (Lit.int .i64 n).wf = true) (hc : (Lit.int .i64 c).wf = true) :
    Calls Try.prog 7 #[.int .i64 n, .int .i64 c] w fun e w' => e = .returned (.bool true) ∧ Below w.heap.size w w' := by
  have hb1 := wf_i64_bd hn
  have hb2 := wf_i64_bd hc
  by_cases h0 : 3000 < n
  · go_enter Try.func7, Try.ntmps7
    go_wp2_with fail
    refine (ce_awake _).mono ?_
    rintro e w5 ⟨rfl, hf5⟩
    go_wp2_with fail
    go_ret
    exact ⟨rfl, hf5⟩
  · have h0' : decide (3000 < n) = false := by simpa using h0
    have hC := fun w => ce_cells n c w (by omega) (by omega)
    by_cases h1 : n < 1
    · rw [show cellsK n c = 0 from if_pos (.inl h1)] at hC
      have HC := Lib.hid hC
      clear hC h0
      go_enter Try.func7, Try.ntmps7
      go_wp2_with fail
      refine (HC.out _).mono ?_
      rintro e w1 ⟨rfl, rfl⟩
      go_wp2_with fail
      refine (ce_awake _).mono ?_
      rintro e w5 ⟨rfl, hf5⟩
      go_wp2_with fail
      go_ret
      exact ⟨rfl, hf5⟩
    · have h1' : decide (n < 1) = false := by simpa using h1
      by_cases h2 : c < 2
      · rw [show cellsK n c = 0 from if_pos (.inr h2)] at hC
        have HC := Lib.hid hC
        clear hC h0
        go_enter Try.func7, Try.ntmps7
        go_wp2_with fail
        refine (HC.out _).mono ?_
        rintro e w1 ⟨rfl, rfl⟩
        go_wp2_with fail
        refine (ce_awake _).mono ?_
        rintro e w5 ⟨rfl, hf5⟩
        go_wp2_with fail
        go_ret
        exact ⟨rfl, hf5⟩
      · have h2' : decide (c < 2) = false := by simpa using h2
        by_cases h3 : 5000 < c
        · have e1 : cellsK n c = 1 := by
            unfold cellsK
            rw [if_neg (by omega), Int.ediv_eq_zero_of_lt (by omega) (by omega)]; rfl
          rw [e1] at hC
          have HC := Lib.hid hC
          clear hC h0 e1
          go_enter Try.func7, Try.ntmps7
          go_wp2_with fail
          refine (HC.out _).mono ?_
          rintro e w1 ⟨rfl, rfl⟩
          go_wp2_with fail
          refine (ce_awake _).mono ?_
          rintro e w5 ⟨rfl, hf5⟩
          go_wp2_with fail
          go_ret
          exact ⟨rfl, hf5⟩
        · have h3' : decide (5000 < c) = false := by simpa using h3
          have HR := Lib.hid (fun w => ref_cells n c w (by omega) (by omega) (by omega) (by omega))
          have HC := Lib.hid hC
          clear hC h0
          generalize cellsK n c = k at *
          go_enter Try.func7, Try.ntmps7
          go_wp2_with fail
          refine (HC.out _).mono ?_
          rintro e w1 ⟨rfl, rfl⟩
          go_wp2_with fail
          refine (HR.out _).mono ?_
          rintro e w1 ⟨rfl, rfl⟩
          go_wp2_with fail
          refine (ce_awake _).mono ?_
          rintro e w5 ⟨rfl, hf5⟩
          go_wp2_with fail
          go_ret
          exact ⟨rfl, hf5⟩
end Go.Proofs.Ytpokpkijhakpjaa
