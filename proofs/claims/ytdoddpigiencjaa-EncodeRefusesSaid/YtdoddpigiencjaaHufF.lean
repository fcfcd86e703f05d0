/-
  The document's code: bytes as noughts and ones.
-/
import Derived.Test.YtdoddpigiencjaaHufE
import Derived.Test.YtdoddpigiencjaaOwn
import Derived.Test.YtdoddpigiencjaaMore
import Derived.Deep.Cut
namespace Go.Proofs.Ytdoddpigiencjaa
set_option linter.unusedVariables false
set_option linter.unusedSimpArgs false
open Go.RowKit
theorem u8_infoF : (Try.prog.info? 5).map (fun i => (i.zero, i.size, i.bytes)) = some (some (.int .u8 0), 1, 1) := by kernel_rfl
def bitV (D : List Bool) : List Value := (D.map chB).map byteV
/-- The bits so far stand in new memory. -/
def BitR (w : World) (D : List Bool) (out : Value) (wr : World) : Prop := Own wr w.heap.size 5 1 out D.length (bitV D) ∧ Fresh w wr
theorem bb_get (c : UInt8) (j : Nat) (h : j < (bb c).length) : (bb c)[j] = c.toNat.testBit (7 - j) := by
  exact bitsOf_get _ _ _ h
theorem bit_byte (c : UInt8) (j : Nat) (h : j < (bb c).length) : (48 + ((c.toNat / 2 ^ (7 - j) % 2 : Nat) : Int)) = ((chB (bb c)[j]).toNat : Int) := by
  rw [bb_get, Nat.testBit_eq_decide_div_mod_eq]
  rcases Nat.mod_two_eq_zero_or_one (c.toNat / 2 ^ (7 - j)) with e | e
  · rw [e]; rfl
  · rw [e]; rfl
set_option maxRecDepth 100000 in
set_option maxHeartbeats 3200000 in
theorem rf_bits (w : World) (l : List UInt8) (hl : l.length ≤ 100000000) : Calls Try.prog 61 #[.string (strB l)] w fun e w' => e = .returned (.string (txB (bitsL l))) ∧ Fresh w w' := by
  obtain ⟨n, hn⟩ : ∃ n, l.length = n := ⟨_, rfl⟩
  have HN := Lib.hid hn
  obtain ⟨S, hS⟩ : ∃ S, strB l = S := ⟨_, rfl⟩
  have HS := Lib.hid hS
  have hsl : S.size = n := by rw [← hS, strB_size, hn]
  rw [hn] at hl
  rw [hS]
  clear hS hn
  have HR0 : Hid (BitR w (bitsL (l.take 0)) (.slice none 0 0) w) := Lib.hid ⟨Own.nil _ _ _ _, Fresh.refl _⟩
  go_enter Try.func61, Try.ntmps61
  go_wp2
  go_loopw [3, 4] (fun out i wr => ∃ k : Nat, k ≤ n ∧ i = .int .i64 k ∧ BitR w (bitsL (l.take k)) out wr) (fun _ i _ => n - (intOf i).toNat)
  case atStart => exact ⟨0, by omega, rfl, HR0.out⟩
  case round =>
    obtain ⟨k, hk, rfl, hr⟩ := hrel
    have HR := Lib.hid hr
    clear hr
    by_cases hlt : k < n
    · have hlt' : (k : Int) < (n : Int) := by omega
      have h0 : (0 : Int) ≤ (k : Int) := by omega
      have hkl : k < l.length := by rw [HN.out]; exact hlt
      have hk2 : k < S.size := by omega
      have hg : S[k] = l[k] := by
        have := HS.out
        subst this
        rfl
      have HTK : Hid (bitsL (l.take (k + 1)) = bitsL (l.take k) ++ bb l[k]) := Lib.hid (by
        rw [List.take_succ_eq_append_getElem hkl, bitsL_append]
        simp [bitsL])
      generalize l[k] = c at *
      have hc := UInt8.toNat_lt c
      have hbl := bb_length c
      go_wp2
      go_loopw [3, 6] (fun out kk wr => ∃ (j K : Nat), j ≤ 8 ∧ K = 128 / 2 ^ j ∧ kk = .int .i64 (K : Int) ∧ BitR w (bitsL (l.take k) ++ (bb c).take j) out wr) (fun _ kk _ => (intOf kk).toNat)
      case atStart => exact ⟨0, 128, by omega, by simp, rfl, by rw [List.take_zero, List.append_nil]; exact HR.out⟩
      case round =>
        obtain ⟨j, K, hj, hK, rfl, hr⟩ := hrel
        by_cases hj8 : j < 8
        · have hKp : K = 2 ^ (7 - j) := by
            rw [hK, show (128 : Nat) = 2 ^ 7 from rfl, Nat.pow_div (by omega) (by omega)]
          have hK0 : (0 : Int) < (K : Int) := by have := Nat.pow_pos (n := 7 - j) (show 0 < 2 by omega); omega
          have hKn : (K : Int) ≠ 0 := by omega
          have hK1 : (K : Int) ≤ 128 := by have : K ≤ 128 := by rw [hK]; exact Nat.div_le_self _ _
                                           omega
          have hjl : j < (bb c).length := by omega
          obtain ⟨d, hd, hbit⟩ : ∃ d, d = chB ((bb c)[j]'hjl) ∧ (48 + ((c.toNat / K % 2 : Nat) : Int)) = (d.toNat : Int) := ⟨_, rfl, by rw [hKp]; exact bit_byte c j hjl⟩
          obtain ⟨q, hq⟩ : ∃ q, c.toNat / K = q := ⟨_, rfl⟩
          have hq2 : (c.toNat : Int) / (K : Int) = (q : Int) := by rw [← hq]; rfl
          have hq3 : q ≤ 255 := by rw [← hq]; have := Nat.div_le_self c.toNat K; omega
          rw [hq] at hbit
          have hbit2 : 48 + (q : Int) % 2 = (d.toNat : Int) := by rw [← hbit]; omega
          have hd2 := UInt8.toNat_lt d
          have HK2 : Hid (K / 2 = 128 / 2 ^ (j + 1)) := Lib.hid (by rw [hK, Nat.div_div_eq_div_mul, Nat.pow_succ])
          have HK3 : Hid (0 < K) := Lib.hid (by omega)
          obtain ⟨hown, hf⟩ := hr
          have hlen : (bitsL (l.take k) ++ (bb c).take j).length = 8 * k + j := by
            rw [List.length_append, bitsL_length, List.length_take, List.length_take, HN.out, hbl]; omega
          have hsnoc : (bitsL (l.take k) ++ (bb c).take (j + 1)) = (bitsL (l.take k) ++ (bb c).take j) ++ [(bb c)[j]] := by
            rw [List.append_assoc, List.take_succ_eq_append_getElem hjl]
          generalize bitsL (l.take k) ++ (bb c).take j = D at *
          obtain ⟨A', cc, rfl, _, _, _⟩ := hown.slice
          obtain ⟨v', w', hap, ho', hb', hne, _⟩ := hown.push (P := Try.prog) Try.underlying29 u8_infoF rfl (by omega) 29 hf (Nat.le_refl _) #[byteV d] rfl (by intro u hu; simp at hu; subst hu; rfl) (by unfold maxLen; omega) (by omega)
          have HREL : Hid (BitR w (bitsL (l.take k) ++ (bb c).take (j + 1)) v' w') := Lib.hid ⟨by
            rw [hsnoc]
            simpa [bitV, ← hd] using ho', hb'⟩
          unfold byteV at hap
          clear hown hf ho' hb' hne hsnoc hd hbit hK hq HR HTK hKp
          generalize d.toNat = dd at *
          go_wp2_with (at_builtin; refine wp_app rfl _ _ _ rfl hap rfl rfl rfl ?_)
          go_roundw
          case rel => exact ⟨j + 1, K / 2, by omega, HK2.out, by simp, HREL.out⟩
          case measure => have := HK3.out; simp [intOf]; omega
        · have hK0 : ¬ (0 : Int) < (K : Int) := by rw [hK, show j = 8 by omega]; simp
          have HREL : Hid (BitR w (bitsL (l.take (k + 1))) u3 wr) := Lib.hid (by
            rw [HTK.out]
            rwa [List.take_of_length_le (l := bb c) (by omega)] at hr)
          clear hK hr HTK HR
          go_wp2
          go_roundw
          case rel => exact ⟨k + 1, by omega, by go_num, HREL.out⟩
          case measure => simp [intOf]; omega
    · obtain rfl : k = n := by omega
      rw [List.take_of_length_le (by rw [HN.out]; exact Nat.le_refl _)] at HR
      obtain ⟨hown, hf⟩ := HR.out
      obtain ⟨A', cc, rfl, _, _, _⟩ := hown.slice
      have hcv : (convert 29 9 (.slice A' (bitsL l).length cc)).run Try.prog wr = .ok (.string (txB (bitsL l))) wr := by
        obtain ⟨h1, h2⟩ := Own.bytes hown
        have := run_str (P := Try.prog) h1 29 9 5 Try.underlying29 Try.underlying5 Try.underlying9 cc
        rwa [List.length_map] at this
      clear hown HR
      generalize (bitsL l).length = m at *
      go_wp2
      exact bodyPost_ret (v := .string (txB (bitsL l))) (by simp [results, Try.f61, go_sem]) rfl ⟨rfl, hf⟩
end Go.Proofs.Ytdoddpigiencjaa

