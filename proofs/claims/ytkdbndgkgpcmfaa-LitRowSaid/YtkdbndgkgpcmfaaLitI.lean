/-
  The law LitBound.
-/
import Derived.Test.YtkdbndgkgpcmfaaLitH
namespace Go.Proofs.Ytkdbndgkgpcmfaa
set_option linter.unusedVariables false
set_option linter.unusedSimpArgs false
open Go.RowKit
set_option maxRecDepth 100000 in
theorem lit_short_no (A : Option Addr) (n c : Nat) (w : World) (hl : 4096 < n) (hn : n ≤ 9223372036854775807) :
    Calls Try.prog 14 #[.slice A n c] w fun e w' => e = .returned (.slice none 0 0) ∧ w = w' := by
  have HL := Lib.hid (fun W cd => lit_len_no A n c cd W hl hn)
  have HE := Lib.hid (fun W cd => lit_encode_no A n c cd W hl hn)
  go_enter Try.func14, Try.ntmps14
  go_wp2_with first | (go_at_call 12; with_reducible refine (HL.out _ _).mono ?_; rintro e w1 ⟨rfl, rfl⟩) | (go_at_call 9; with_reducible refine (HE.out _ _).mono ?_; rintro e w2 ⟨rfl, rfl⟩)
  go_ret
  exact ⟨rfl, rfl⟩
set_option maxRecDepth 100000 in
set_option maxHeartbeats 3200000 in
theorem LitBound_any (n : Int) (cd : Bool) (w : World) (hb : -9223372036854775808 ≤ n ∧ n ≤ 9223372036854775807) :
    Calls Try.prog 6 #[.int .i64 n, .bool cd] w fun e w' => e = .returned (.bool true) ∧ Below w.heap.size w w' := by
  have HW := Lib.hid lit_awake
  by_cases h0 : n < 0
  · have h0d : decide (n < 0) = true := by simpa using h0
    go_enter Try.func6, Try.ntmps6
    go_wp2_with (go_at_call 8; with_reducible refine (HW.out _).mono ?_; rintro e w2 ⟨rfl, hf⟩)
    go_ret
    exact ⟨rfl, hf⟩
  have h0d : decide (n < 0) = false := by simpa using h0
  by_cases h5 : 5000 < n
  · have h5d : decide (5000 < n) = true := by simpa using h5
    go_enter Try.func6, Try.ntmps6
    go_wp2_with (go_at_call 8; with_reducible refine (HW.out _).mono ?_; rintro e w2 ⟨rfl, hf⟩)
    go_ret
    exact ⟨rfl, hf⟩
  have h5d : decide (5000 < n) = false := by simpa using h5
  obtain ⟨N, rfl⟩ : ∃ N : Nat, n = N := ⟨n.toNat, by omega⟩
  have hN : N ≤ 5000 := by omega
  have hmk := run_makeZ (P := Try.prog) Try.underlying22 u8_infoH rfl N (N : Int) rfl (by omega) (by omega)
  by_cases h4 : 4096 < N
  · have h4' : (4096 : Int) < (N : Int) := by omega
    have HE := Lib.hid (fun W A => lit_encode_no A N N cd W h4 (by omega))
    have HL := Lib.hid (fun W A => lit_len_no A N N cd W h4 (by omega))
    have HS := Lib.hid (fun W A => lit_short_no A N N W h4 (by omega))
    generalize madeCells #[Value.int IntKind.u8 0] N = Z at *
    go_enter Try.func6, Try.ntmps6
    go_wp2_with first | (go_at_call 9; with_reducible refine (HE.out _ _).mono ?_; rintro e w2 ⟨rfl, rfl⟩) | (go_at_call 12; with_reducible refine (HL.out _ _).mono ?_; rintro e w1 ⟨rfl, rfl⟩) | (go_at_call 14; with_reducible refine (HS.out _ _).mono ?_; rintro e w3 ⟨rfl, rfl⟩) | (go_at_call 8; with_reducible refine (HW.out _).mono ?_; rintro e w9 ⟨rfl, hf⟩)
    go_ret
    exact ⟨rfl, (((Fresh.alloc _ _).allocS _).allocS _).trans hf⟩
  · have h4' : ¬ (4096 : Int) < (N : Int) := by omega
    obtain ⟨L, hL⟩ : ∃ L : List UInt8, List.replicate N 0 = L := ⟨_, rfl⟩
    have hLl : L.length = N := by rw [← hL]; simp
    have hb0 : BS (w.alloc (.cells (madeCells #[.int .u8 0] N) 5)) (some ⟨w.heap.size, 0, none⟩) L := by
      rw [madeCells_zero, hL]
      exact BS.row (l := L) (t := 5) (Blk.new w 5 (bytesA L))
    have HE : Hid (Calls Try.prog 9 #[.slice (some ⟨w.heap.size, 0, none⟩) N N, .bool cd] (w.alloc (.cells (madeCells #[.int .u8 0] N) 5)) (LitP L cd (w.alloc (.cells (madeCells #[.int .u8 0] N) 5)))) := Lib.hid (by
      have := lit_encode _ N L cd _ (by omega) hb0
      rwa [hLl] at this)
    have HLR : Hid (∀ P, IsLit L cd P → litR P (N : Int) = (L, litN L cd, 0) ∧ litR P ((N : Int) - 1) = ([], 0, 22)) := Lib.hid (fun P hP => by
      have h1 := litR_lit hP (by omega) [] (N : Int)
      have h2 := litR_lit hP (by omega) [] ((N : Int) - 1)
      rw [List.append_nil, if_neg (by omega), hP.len] at h1
      rw [List.append_nil, if_pos (by omega)] at h2
      exact ⟨h1, h2⟩)
    have hpl := (litN_le L cd (by omega)).2
    obtain ⟨m, hm⟩ : ∃ m, litN L cd = m := ⟨_, rfl⟩
    have HM := Lib.hid hm
    have HLL := Lib.hid hLl
    rw [hm] at HLR hpl
    rw [hLl] at hpl
    clear hb0 hL hm hLl
    generalize madeCells #[Value.int IntKind.u8 0] N = Z at *
    go_enter Try.func6, Try.ntmps6
    go_wp2_with fail
    with_reducible refine HE.out.mono ?_
    rintro e w1 ⟨P, A1, c1, rfl, hP, hown, hf1⟩
    have hPl : P.length = m := hP.len.trans HM.out
    have HF1 := Lib.hid ((Fresh.alloc _ _).trans hf1)
    have HB1 := Lib.hid hown.bytes.1
    have HD : Hid (∀ lim W, Fresh w1 W → Calls Try.prog 13 #[.slice A1 P.length c1, .int .i64 lim] W (LitDP P lim W)) := Lib.hid (fun lim W hf => lit_decode A1 c1 P lim W (by omega) (by obtain ⟨_, _, e, h1, _⟩ := hown.slice; cases e; exact h1) (by obtain ⟨_, _, e, h1, h2, _⟩ := hown.slice; cases e; exact h2) (HB1.out.fresh hf))
    have HLR1 := Lib.hid (HLR.out P hP).1
    have HLR2 := Lib.hid (HLR.out P hP).2
    rw [hPl] at HD ⊢
    clear hP hown hf1 HE HLR hPl hmk
    go_wp2_with fail
    with_reducible refine (HD.out _ _ (Fresh.refl _)).mono ?_
    rintro e w2 ⟨A2, c2, rfl, _, hf2⟩
    rw [HLR1.out]
    simp only
    rw [HLL.out, show ((0 : Nat) : Int) = 0 from rfl]
    have HF2 := Lib.hid hf2
    clear hf2
    go_wp2_with fail
    with_reducible refine (HD.out _ _ HF2.out).mono ?_
    rintro e w3 ⟨A3, c3, rfl, _, hf3⟩
    rw [HLR2.out]
    simp only
    rw [show ([] : List UInt8).length = 0 from rfl, show ((0 : Nat) : Int) = 0 from rfl, show ((22 : Nat) : Int) = 22 from rfl]
    go_wp2_with fail
    with_reducible refine (HW.out _).mono ?_
    rintro e w9 ⟨rfl, hf9⟩
    have HF9 := Lib.hid (((HF1.out.trans HF2.out).trans hf3).trans hf9)
    clear hf9
    go_wp2
    go_ret
    exact ⟨rfl, HF9.out⟩
end Go.Proofs.Ytkdbndgkgpcmfaa
