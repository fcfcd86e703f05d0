/-
  The document's answers for layer 4: bytes; that every text has a code.
-/
import Derived.Test.YtkdbndgkgpcmfaaLitA
import Derived.Test.YtkdbndgkgpcmfaaOwn
import Derived.Test.YtkdbndgkgpcmfaaMore
namespace Go.Proofs.Ytkdbndgkgpcmfaa
set_option linter.unusedVariables false
set_option linter.unusedSimpArgs false
open Go.RowKit
theorem bits_ex : ∀ D : List Bool, ∃ v, v < 2 ^ D.length ∧ bitsOf v D.length = D
  | [] => ⟨0, by simp, rfl⟩
  | x :: r => by
    obtain ⟨u, hu, he⟩ := bits_ex r
    have hc := bitsOf_cat x.toNat u 1 r.length hu
    refine ⟨x.toNat * 2 ^ r.length + u, ?_, ?_⟩
    · rw [List.length_cons, Nat.pow_succ]
      cases x
      · simp; omega
      · simp; omega
    · rw [List.length_cons, Nat.add_comm r.length 1, hc, he]
      cases x <;> rfl
theorem byte_ex {D : List Bool} (h : D.length = 8) : ∃ c : UInt8, bb c = D := by
  obtain ⟨v, hv, he⟩ := bits_ex D
  rw [h] at hv he
  refine ⟨UInt8.ofNat v, ?_⟩
  unfold bb
  rw [show (UInt8.ofNat v).toNat = v by simp; omega]
  exact he
theorem bits_pack : ∀ (k : Nat) (D : List Bool), D.length = 8 * k → ∃ O, bitsL O = D
  | 0, D, h => ⟨[], by rw [List.length_eq_zero_iff.1 (by omega : D.length = 0)]; rfl⟩
  | k + 1, D, h => by
    obtain ⟨c, hc⟩ := byte_ex (D := D.take 8) (by rw [List.length_take]; omega)
    obtain ⟨O, hO⟩ := bits_pack k (D.drop 8) (by rw [List.length_drop]; omega)
    exact ⟨c :: O, by rw [bitsL_cons, hc, hO, List.take_append_drop]⟩
theorem enc_ex (l : List UInt8) : ∃ O, IsEnc l O := by
  obtain ⟨p, hp, h8, _⟩ := pads (szB l)
  obtain ⟨O, hO⟩ := bits_pack ((szB l + p) / 8) (encB l ++ ones p) (by rw [List.length_append, ones, List.length_replicate]; unfold szB at *; omega)
  exact ⟨O, p, hp, hO⟩
theorem lit_ex (l : List UInt8) (cd : Bool) : ∃ P, IsLit l cd P := by
  cases cd with
  | true =>
    obtain ⟨O, hO⟩ := enc_ex l
    exact ⟨_, O, hO, rfl⟩
  | false => exact ⟨_, l, rfl, rfl⟩
theorem bitsL_at {O : List UInt8} {k j : Nat} (hk : k < O.length) (hj : j < 8) (h : 8 * k + j < (bitsL O).length) : (bitsL O)[8 * k + j] = O[k].toNat.testBit (7 - j) := by
  have e : bitsL O = bitsL (O.take k) ++ (bb O[k] ++ bitsL (O.drop (k + 1))) := by
    rw [← bitsL_cons, ← bitsL_append, ← List.drop_eq_getElem_cons hk, List.take_append_drop]
  have hl : (bitsL (O.take k)).length = 8 * k := by rw [bitsL_length, List.length_take]; omega
  have hb := bb_length O[k]
  have h2 : 8 * k + j < (bitsL (O.take k) ++ (bb O[k] ++ bitsL (O.drop (k + 1)))).length := by rw [← e]; exact h
  have e2 : (bitsL O)[8 * k + j] = (bitsL (O.take k) ++ (bb O[k] ++ bitsL (O.drop (k + 1))))[8 * k + j] := by congr 1
  rw [e2, List.getElem_append_right (by omega), List.getElem_append_left (by omega)]
  rw [bb_get]
  congr 1
  omega
set_option maxRecDepth 100000 in
set_option maxHeartbeats 3200000 in
theorem rf_bytes (w : World) (O : List UInt8) (hl : O.length ≤ 10000000) : Calls Try.prog 18 #[.string (txB (bitsL O))] w fun e w' => e = .returned (.string (strB O)) ∧ Fresh w w' := by
  obtain ⟨n, hn⟩ : ∃ n, O.length = n := ⟨_, rfl⟩
  have HN := Lib.hid hn
  obtain ⟨S, hS⟩ : ∃ S, txB (bitsL O) = S := ⟨_, rfl⟩
  have hsl : S.size = 8 * n := by rw [← hS, txB_size, bitsL_length, hn]
  have HBIT : Hid (∀ (k j : Nat) (hk : k < O.length) (hj : j < 8) (h : 8 * k + j < S.size), S[8 * k + j] = chB (O[k].toNat.testBit (7 - j))) := Lib.hid (fun k j hk hj h => by
    subst hS
    rw [txB_get, bitsL_at hk hj])
  rw [hn] at hl
  rw [hS]
  clear hS hn
  go_enter Try.func18, Try.ntmps18
  go_wp2
  go_loopw [3, 4] (fun out i wr => ∃ k : Nat, k ≤ n ∧ i = .int .i64 (8 * (k : Int)) ∧ Own wr w.heap.size 5 1 out k ((O.take k).map byteV) ∧ Fresh w wr) (fun _ i _ => 8 * n - (intOf i).toNat)
  case atStart => exact ⟨0, by omega, rfl, Own.nil _ _ _ _, Fresh.refl _⟩
  case round =>
    obtain ⟨k, hk, rfl, hown, hf⟩ := hrel
    have HOWN := Lib.hid hown
    have HF := Lib.hid hf
    obtain ⟨A', cc, rfl, _, _, _⟩ := hown.slice
    clear hown hf
    by_cases hlt : k < n
    · have h1 : (8 * (k : Int) + 8) ≤ 8 * (n : Int) := by omega
      have hkO : k < O.length := by rw [HN.out]; exact hlt
      have HB2 : Hid (∀ (j : Nat) (hj : j < 8) (h : 8 * k + j < S.size), S[8 * k + j] = chB (O[k].toNat.testBit (7 - j))) := Lib.hid (fun j hj h => HBIT.out k j hkO hj h)
      have HTK : Hid ((O.take (k + 1)).map byteV = (O.take k).map byteV ++ [byteV O[k]]) := Lib.hid (by rw [List.take_succ_eq_append_getElem hkO, List.map_append]; rfl)
      generalize O[k] = x at *
      have hx := UInt8.toNat_lt x
      go_wp2
      go_loopw [5, 6] (fun cv j wr2 => wr = wr2 ∧ ∃ (j' q : Nat), j' ≤ 8 ∧ j = .int .i64 (j' : Int) ∧ x.toNat / 2 ^ (8 - j') = q ∧ cv = .int .i64 (q : Int)) (fun _ j _ => 8 - (intOf j).toNat)
      case atStart => exact ⟨rfl, 0, 0, by omega, rfl, by simp; omega, rfl⟩
      case round =>
        obtain ⟨rfl, j, q, hj, rfl, hq, rfl⟩ := hrel
        by_cases hj8 : j < 8
        · have h2 : (j : Int) < 8 := by omega
          obtain ⟨z, hz⟩ : ∃ z, 8 * k + j = z := ⟨_, rfl⟩
          have hzz : 8 * (k : Int) + (j : Int) = (z : Int) := by omega
          have hzS : z < S.size := by omega
          have h3 : (z : Int) < 8 * (n : Int) := by omega
          have h4 : (0 : Int) ≤ (z : Int) := by omega
          obtain ⟨t, ht⟩ : ∃ t, x.toNat.testBit (7 - j) = t := ⟨_, rfl⟩
          have hg : S[z] = chB t := by
            have := HB2.out j hj8 (by omega)
            rw [ht] at this
            subst hz
            exact this
          have HQ : Hid (x.toNat / 2 ^ (8 - (j + 1)) = q * 2 + (if t then 1 else 0)) := Lib.hid (by
            rw [Nat.testBit_eq_decide_div_mod_eq] at ht
            have e : 8 - j = (7 - j) + 1 := by omega
            rw [e, Nat.pow_succ, ← Nat.div_div_eq_div_mul] at hq
            rw [show 8 - (j + 1) = 7 - j by omega]
            generalize x.toNat / 2 ^ (7 - j) = y at *
            subst ht hq
            by_cases h : y % 2 = 1
            · simp [h]; omega
            · simp [h]; omega)
          have hq8 : q ≤ 255 := by rw [← hq]; have := Nat.div_le_self x.toNat (2 ^ (8 - j)); omega
          clear hq ht hz
          cases t
          · have hg2 : S[z] = 48 := hg
            clear hg
            go_wp2
            exact ⟨⟨trivial, j + 1, q * 2, by omega, rfl, HQ.out, by go_num⟩, by simp [intOf]; omega⟩
          · have hg2 : S[z] = 49 := hg
            clear hg
            go_wp2
            exact ⟨⟨trivial, j + 1, q * 2 + 1, by omega, rfl, HQ.out, by go_num⟩, by simp [intOf]; omega⟩
        · have h2 : ¬ (j : Int) < 8 := by omega
          obtain rfl : j = 8 := by omega
          simp only [Nat.sub_self, Nat.pow_zero, Nat.div_one] at hq
          obtain ⟨v', w', hap, ho', hb', hne, _⟩ := HOWN.out.push (P := Try.prog) Try.underlying22 u8_infoF rfl (by omega) 22 HF.out (Nat.le_refl _) #[byteV x] rfl (by intro u hu; simp at hu; subst hu; rfl) (by unfold maxLen; omega) (by omega)
          have HREL : Hid (Own w' w.heap.size 5 1 v' (k + 1) ((O.take (k + 1)).map byteV) ∧ Fresh w w') := Lib.hid ⟨by rw [HTK.out]; simpa using ho', hb'⟩
          unfold byteV at hap
          rw [hq] at hap
          have hq8 : q ≤ 255 := by omega
          clear hq ho' hb' hne
          go_wp2_with (at_builtin; refine wp_app rfl _ _ _ rfl hap rfl rfl rfl ?_)
          exact ⟨⟨k + 1, by omega, by go_num, HREL.out.1, HREL.out.2⟩, by simp [intOf]; omega⟩
    · have h1 : ¬ (8 * (k : Int) + 8) ≤ 8 * (n : Int) := by omega
      obtain rfl : k = n := by omega
      have hown := HOWN.out
      rw [List.take_of_length_le (by rw [HN.out]; exact Nat.le_refl _), ← HN.out] at hown
      have hcv := run_str (P := Try.prog) hown.bytes.1 22 9 5 Try.underlying22 Try.underlying5 Try.underlying9 cc
      rw [HN.out] at hcv
      clear hown
      go_wp2
      exact bodyPost_ret (v := .string (strB O)) (by simp [results, Try.f18, go_sem]) rfl ⟨rfl, HF.out⟩
end Go.Proofs.Ytkdbndgkgpcmfaa
