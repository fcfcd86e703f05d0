/-
  The document's answers for octet, and the law's own fixed answers.
-/
import Derived.Test.YtpokpkijhakpjaaOctet
import Derived.Lib.SmallJoins
namespace Go.Proofs.Ytpokpkijhakpjaa
set_option linter.unusedVariables false
open Go.RowKit
set_option maxRecDepth 100000 in
set_option maxHeartbeats 400000 in
theorem ref_big (x n : Nat) (w : World) (hx1 : x < 18446744073709551616) (h2 : n ≤ 64) :
    Calls Try.prog 36 #[.int .u64 x, .int .i64 n] w fun e w' => e = .returned (.string (strB (bigL x n))) ∧ Fresh w w' := by
  have hcv : ∀ (W : World) (z : Int), 0 ≤ z → z < 256 → (convert 22 9 (.slice (some ⟨W.heap.size, 0, none⟩) 1 1)).run Try.prog (W.alloc (.cells #[.int .u8 z] 5)) = .ok (.string (strB [UInt8.ofNat z.toNat])) (W.alloc (.cells #[.int .u8 z] 5)) := by
    intro W z h0 h1
    refine run_str (l := [UInt8.ofNat z.toNat]) (BS.row (t := 5) ?_) _ _ _ Try.underlying22 Try.underlying5 Try.underlying9 1
    rw [byte_mk z h0 h1]
    exact Blk.new _ _ _
  have HCV := Lib.hid hcv
  clear hcv
  go_enter Try.func36, Try.ntmps36
  go_wp2
  go_loopw [0, 5, 6] (fun y s i wr => ∃ (k : Nat), k ≤ n ∧ i = .int .i64 k ∧ y = .int .u64 ((x / 256 ^ k : Nat) : Int) ∧ s = .string (strB ((bigL x n).drop (n - k))) ∧ Fresh w wr) (fun _ _ i _ => n - (intOf i).toNat)
  case atStart => exact ⟨0, by omega, rfl, by simp, by rw [List.drop_eq_nil_of_le (by simp [bigL_length])]; rfl, Fresh.refl _⟩
  case round =>
    obtain ⟨k, hk, rfl, rfl, rfl, hf⟩ := hrel
    by_cases hlt : k < n
    · have hle : x / 256 ^ k ≤ x := Nat.div_le_self _ _
      have HD : Hid ([UInt8.ofNat (((x / 256 ^ k : Nat) : Int) % 256).toNat] ++ (bigL x n).drop (n - k) = (bigL x n).drop (n - (k + 1))) := by
        show _ = _
        have hl : n - (k + 1) < (bigL x n).length := by rw [bigL_length]; omega
        rw [List.drop_eq_getElem_cons hl, show n - (k + 1) + 1 = n - k by omega]
        have e := bigL_get x n (n - (k + 1)) (by omega)
        rw [List.getElem?_eq_getElem hl] at e
        simp only [Option.some.injEq] at e
        rw [e, show n - 1 - (n - (k + 1)) = k by omega]
        generalize x / 256 ^ k = z
        have : ((z : Int) % 256).toNat = z % 256 := by omega
        rw [this]
        have e3 : UInt8.ofNat (z % 256) = UInt8.ofNat z := UInt8.toNat_inj.1 (by simp)
        rw [e3]; rfl
      have HZ : Hid (IntKind.u64.wrap (((x / 256 ^ k : Nat) : Int) / 256) = ((x / 256 ^ (k + 1) : Nat) : Int)) := by
        show _ = _
        rw [Nat.pow_succ, ← Nat.div_div_eq_div_mul]
        generalize x / 256 ^ k = z at hle
        rw [IntKind.wrap_u64]
        omega
      generalize x / 256 ^ k = z at *
      have hz0 : (0 : Int) ≤ (z : Int) := by omega
      have hz2 : (z : Int) < 18446744073709551616 := by omega
      have hm0 : (0 : Int) ≤ (z : Int) % 256 := by omega
      have hm1 : (z : Int) % 256 < 256 := by omega
      have hcv := HCV.out wr _ hm0 hm1
      obtain ⟨S, hS⟩ : ∃ S, S = strB [UInt8.ofNat ((z : Int) % 256).toNat] := ⟨_, rfl⟩
      rw [← hS] at hcv
      have HS := Lib.hid hS
      clear hS
      obtain ⟨R, hR⟩ : ∃ R, R = strB ((bigL x n).drop (n - k)) := ⟨_, rfl⟩
      rw [← hR]
      have HR := Lib.hid hR
      clear hR hle hz2 hx1
      have hSR : S.size + R.size ≤ 9223372036854775807 := by rw [HS.out, HR.out, strB_size, strB_size]; simp [bigL_length]; omega
      go_wp2
      go_roundw
      case rel => exact ⟨k + 1, by omega, by go_num, by rw [HZ.out], by rw [HR.out, HS.out, strB_append, HD.out], hf.trans (Fresh.alloc _ _)⟩
      case measure => simp [intOf]; omega
    · obtain rfl : k = n := by omega
      go_wp2
      go_ret
      exact ⟨by simp, hf⟩

set_option maxHeartbeats 400000 in
theorem ref_num_s (s : ByteArray) (w : World) (hs8 : s.size ≤ 8) :
    Calls Try.prog 31 #[.string s] w fun e w' => e = .returned (.int .u64 (numL s.data.toList)) ∧ w = w' := by
  have hsz : s.size = s.data.toList.length := by rw [Array.length_toList]; rfl
  have HSZ := Lib.hid hsz
  have HG : Hid (∀ k (h : k < s.size), numL (s.data.toList.take (k + 1)) = numL (s.data.toList.take k) * 256 + s[k].toNat) := fun k h => by
    rw [numL_take _ k (by omega)]; rfl
  clear hsz
  obtain ⟨l, hl⟩ : ∃ l, l = s.data.toList := ⟨_, rfl⟩
  rw [← hl] at HG HSZ ⊢
  clear hl
  go_enter Try.func31, Try.ntmps31
  go_wp2
  go_loop [3, 4] (fun x i => ∃ (k : Nat), k ≤ s.size ∧ i = .int .i64 k ∧ x = .int .u64 (numL (l.take k))) (fun _ i => s.size - (intOf i).toNat)
  case atStart => exact ⟨0, by omega, rfl, rfl⟩
  case round =>
    obtain ⟨k, hk, rfl, rfl⟩ := hrel
    have hkl : k ≤ l.length := by have := HSZ.out; omega
    by_cases hlt : k < s.size
    · have hlt' : k < l.length := by have := HSZ.out; omega
      have hn := HG.out k hlt
      have hz1 := numL_take_lt l k 7 (by omega)
      have hb := UInt8.toNat_lt s[k]
      have HN : Hid (((numL (l.take (k + 1)) : Nat) : Int) = (numL (l.take k) : Int) * 256 + (s[k].toNat : Int)) := by
        show _ = _
        rw [hn]; omega
      clear hn
      generalize numL (l.take k) = z at *
      have hz0 : (0 : Int) ≤ (z : Int) := by omega
      have hz2 : (z : Int) < 72057594037927936 := by rw [show (256 : Nat) ^ 7 = 72057594037927936 from rfl] at hz1; omega
      have hb2 : (s[k].toNat : Int) < 256 := by omega
      clear hz1 hb
      go_wp2
      go_round
      case rel => exact ⟨k + 1, by omega, by go_num, by rw [HN.out]⟩
      case measure => simp [intOf]; omega
    · have hkk : k = l.length := by have := HSZ.out; omega
      have HK := Lib.hid hkk
      clear hkk
      go_wp2
      go_ret
      exact ⟨by rw [HK.out]; simp, rfl⟩

theorem ref_num (l : List UInt8) (w : World) (hl : l.length ≤ 8) :
    Calls Try.prog 31 #[.string (strB l)] w fun e w' => e = .returned (.int .u64 (numL l)) ∧ w = w' :=
  ref_num_s (strB l) w (by rw [strB_size]; exact hl)

end Go.Proofs.Ytpokpkijhakpjaa
