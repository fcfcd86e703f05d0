/-
  The laws' own fixed answers, and PrefixMarks, PrefixDecodes, PrefixGrows.
-/
import Derived.Test.YtjefjpabihmfeaaPrefixL
import Derived.Lib.SmallJoins
namespace Go.Proofs.Ytjefjpabihmfeaa
set_option linter.unusedVariables false
open Go.RowKit

set_option maxRecDepth 100000 in
set_option maxHeartbeats 1600000 in
theorem awake_true (w : World) : Calls Try.prog 11 #[] w fun e w' => e = .returned (.bool true) ∧ Fresh w w' := by
  have h1 : Calls Try.prog 8 #[.int .i64 1337, .int .i64 5, .int .i64 0] w (EncPost [31, 154, 10] w) := enc_any 1337 5 0 w (by omega) (by omega) (by omega) (by omega)
  have H1 := Lib.hid h1
  have H2 : Hid (∀ W A, BS W A [31, 154, 10, 7] → Calls Try.prog 12 #[.slice A 4 4, .int .i64 5] W fun e w' => e = .returned (.tuple #[.int .i64 1337, .int .i64 3, .int .i64 0]) ∧ Fresh W w') := fun W A h =>
    dec_any A 4 5 [31, 154, 10, 7] W (by omega) (by omega) (by simp) h
  have H3 := Lib.hid (fun w => enc_no 1 9 0 w (fun h => absurd h.2.1 (by omega)))
  have H4 : Hid (∀ W, Calls Try.prog 10 #[.int .i64 10, .int .i64 5] W fun e w' => e = .returned (.int .i64 1) ∧ Fresh W w') := fun W =>
    len_yes 10 5 W (by omega) (by omega) (by omega)
  have HS : Hid (∀ W A c, BS W A [31, 154, 10] → (convert 22 9 (.slice A 3 c)).run Try.prog W = .ok (.string ⟨#[31, 154, 10]⟩) W) := fun W A c h =>
    run_str (P := Try.prog) h 22 9 5 Try.underlying22 Try.underlying5 Try.underlying9 c
  clear h1
  go_enter Try.func11, Try.ntmps11
  go_wp2_with fail
  refine H1.out.mono ?_
  rintro e w1 ⟨A, c, rfl, ho, hf1⟩
  have hb := ho.bytes.1
  have HB := Lib.hid hb
  have HF := Lib.hid hf1
  clear ho hb hf1
  simp only [List.length_cons, List.length_nil, Nat.zero_add, Nat.reduceAdd]
  go_wp2_with fail
  refine (H2.out _ _ (BS.row (Blk.new _ 5 #[.int .u8 31, .int .u8 154, .int .u8 10, .int .u8 7]))).mono ?_
  rintro e w2 ⟨rfl, hf2⟩
  have HF2 := Lib.hid (hf2.tA)
  clear hf2
  go_wp2_with fail
  refine (H3.out _).mono ?_
  rintro e w3 ⟨rfl, rfl⟩
  have hc := HS.out _ _ c (HB.out.fresh HF2.out)
  go_wp2_with fail
  refine (H4.out _).mono ?_
  rintro e w3 ⟨rfl, hf4⟩
  have HF3 := Lib.hid hf4
  clear hf4
  go_wp2
  go_ret
  exact ⟨rfl, HF.out.trans (HF2.out.trans HF3.out)⟩

def hv (x k : Nat) : Nat := x / 2 ^ k
theorem div_pow (x k : Nat) : hv x (k + 1) = hv x k / 2 := by unfold hv; rw [Nat.pow_succ, Nat.div_div_eq_div_mul]

set_option maxHeartbeats 1600000 in
theorem PrefixMarks_any (A : Option Addr) (l : List UInt8) (c : Nat) (b : Int) (w : World) (hlc : l.length ≤ c) (hcm : c ≤ maxLen) (hA : BS w A l) (hb : -9223372036854775808 ≤ b ∧ b ≤ 9223372036854775807) :
    Calls Try.prog 6 #[.slice A l.length c, .int .i64 b] w fun e w' => e = .returned (.bool true) ∧ Below w.heap.size w w' := by
  unfold maxLen at hcm
  have HW := Lib.hid awake_true
  by_cases hno : l.length = 0 ∨ ¬ (1 ≤ b ∧ b ≤ 8)
  · have HM := Lib.hid (mark_no A c l.length b w hno)
    clear hA
    by_cases h0 : l.length = 0
    · rw [h0] at HM ⊢
      clear hno
      go_enter Try.func6, Try.ntmps6
      go_wp2_with fail
      refine HM.out.mono ?_
      rintro e w1 ⟨rfl, rfl⟩
      go_wp2_with fail
      refine (HW.out _).mono ?_
      rintro e w2 ⟨rfl, hf⟩
      have HF := Lib.hid hf
      clear hf
      go_wp2
      go_ret
      exact ⟨rfl, HF.out⟩
    · have h0' : ((l.length : Int) == 0) = false := by rw [beq_eq_false_iff_ne]; omega
      by_cases h1 : b < 1
      · clear hno
        go_enter Try.func6, Try.ntmps6
        go_wp2_with fail
        refine HM.out.mono ?_
        rintro e w1 ⟨rfl, rfl⟩
        go_wp2_with fail
        refine (HW.out _).mono ?_
        rintro e w2 ⟨rfl, hf⟩
        have HF := Lib.hid hf
        clear hf
        go_wp2
        go_ret
        exact ⟨rfl, HF.out⟩
      · have h2 : 8 < b := by omega
        clear hno
        go_enter Try.func6, Try.ntmps6
        go_wp2_with fail
        refine HM.out.mono ?_
        rintro e w1 ⟨rfl, rfl⟩
        go_wp2_with fail
        refine (HW.out _).mono ?_
        rintro e w2 ⟨rfl, hf⟩
        have HF := Lib.hid hf
        clear hf
        go_wp2
        go_ret
        exact ⟨rfl, HF.out⟩
  · obtain ⟨n, rfl⟩ : ∃ n : Nat, b = n := ⟨b.toNat, by omega⟩
    have hb1 : 1 ≤ n := by omega
    have hb8 : n ≤ 8 := by omega
    have hl : 0 < l.length := by omega
    have HM := Lib.hid (mark_yes A c n l w hb1 hb8 hl hA)
    obtain ⟨blk, o, rfl, hlt, hcs⟩ := hA.addr hl
    have hc0 : w.cell? ⟨blk, o, none⟩ = some (.int .u8 l[0].toNat) := hcs 0 hl
    have HC := Lib.hid hc0
    have HLT := Lib.hid hlt
    have hx := UInt8.toNat_lt l[0]
    have h0' : ((l.length : Int) == 0) = false := by rw [beq_eq_false_iff_ne]; omega
    have h1' : ¬ ((n : Int) < 1) := by omega
    have h2' : ¬ (8 < (n : Int)) := by omega
    have hli : (0 : Int) < (l.length : Int) := by omega
    clear hcs hA hlt hno hc0
    rw [show l[0].toNat / 2 ^ n = hv l[0].toNat n from rfl] at HM
    generalize l[0].toNat = x at *
    go_enter Try.func6, Try.ntmps6
    go_wp2_with fail
    refine HM.out.mono ?_
    rintro e w1 ⟨rfl, hf1⟩
    have HF1 := Lib.hid hf1
    have hc1 := hf1.cell (p := ⟨blk, o, none⟩) HLT.out
    rw [HC.out] at hc1
    clear hf1
    go_wp2_with fail
    clear hc1
    go_loop [7, 39] (fun y i => ∃ (k : Nat), k ≤ n ∧ i = .int .i64 k ∧ y = .int .i64 ((hv x k : Nat) : Int)) (fun _ i => n - (intOf i).toNat)
    case atStart => exact ⟨0, by omega, rfl, by simp [hv]⟩
    case round =>
      obtain ⟨k, hk, rfl, rfl⟩ := hrel
      by_cases hlt : k < n
      · have hlt' : (k : Int) < (n : Int) := by omega
        have hle : hv x k ≤ x := Nat.div_le_self _ _
        have HN := Lib.hid (div_pow x k)
        generalize hv x k = z at *
        go_wp2
        go_round
        case rel => exact ⟨k + 1, by omega, by go_num, by rw [HN.out]; simp⟩
        case measure => simp [intOf]; omega
      · obtain rfl : k = n := by omega
        have hlt' : ¬ (k : Int) < (k : Int) := by omega
        have hle : hv x k ≤ x := Nat.div_le_self _ _
        generalize hv x k = z at *
        have hzz : ((z : Int) == (z : Int)) = true := by simp
        go_wp2_with fail
        refine (HW.out _).mono ?_
        rintro e w2 ⟨rfl, hf⟩
        have HF := Lib.hid hf
        clear hf
        go_wp2
        go_ret
        exact ⟨rfl, HF1.out.trans HF.out⟩
end Go.Proofs.Ytjefjpabihmfeaa
