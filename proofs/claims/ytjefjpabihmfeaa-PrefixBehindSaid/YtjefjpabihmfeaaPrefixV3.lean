/-
  The laws PrefixBehind and PrefixEncodes: their walks.
-/
import Derived.Test.YtjefjpabihmfeaaPrefixV2
import Derived.Test.YtjefjpabihmfeaaMore
namespace Go.Proofs.Ytjefjpabihmfeaa
set_option linter.unusedVariables false
open Go.RowKit

theorem pu8_size : ∀ W : World, (Go.sizeOf 5).run Try.prog W = .ok 1 W := fun W => by kernel_rfl

theorem decF_short (f : Nat) : ∀ (g i n r : Nat) (l : List UInt8), 1 ≤ i → i + f ≤ 6 → f ≤ g → r < 128 ^ f → 0 < f → n + r * 128 ^ (i - 1) ≤ 2147483647 → i ≤ l.length → l.length < i + (tailF g r).length →
    (∀ j, i + j < l.length → l[i + j]? = (tailF g r)[j]?) → decF (f + 1) l i n = (0, 0, 16) := by
  induction f with
  | zero => intro g i n r l _ _ _ _ h; omega
  | succ f ih =>
    intro g i n r l hi hif hfg hr _ hn hil hlen hl
    obtain ⟨g, rfl⟩ : ∃ g', g = g' + 1 := ⟨g - 1, by omega⟩
    rcases Nat.eq_or_lt_of_le hil with he | hlt
    · rw [decF, List.getElem?_eq_none (by omega)]
    · have hp : 0 < 128 ^ (i - 1) := Nat.pow_pos (by omega)
      by_cases h : 128 ≤ r
      · have ht : tailF (g + 1) r = UInt8.ofNat (128 + r % 128) :: tailF g (r / 128) := by rw [tailF, if_pos h]
        rw [ht] at hlen hl
        simp only [List.length_cons] at hlen
        have h0 := hl 0 (by omega)
        simp only [Nat.add_zero, List.getElem?_cons_zero] at h0
        have hc : (UInt8.ofNat (128 + r % 128)).toNat = 128 + r % 128 := by simp; omega
        have hf1 : 0 < f := by
          rcases Nat.eq_zero_or_pos f with e | e
          · subst e; simp at hr; omega
          · exact e
        have hpw : 128 ^ (i + 1 - 1) = 128 * 128 ^ (i - 1) := by
          rw [show i + 1 - 1 = (i - 1) + 1 by omega, Nat.pow_succ, Nat.mul_comm]
        have hm : r * 128 ^ (i - 1) = r % 128 * 128 ^ (i - 1) + r / 128 * 128 ^ (i + 1 - 1) := by
          rw [hpw, ← Nat.mul_assoc, ← Nat.add_mul]
          congr 1
          omega
        rw [decF, h0]
        simp only [hc]
        have e1 : (128 + r % 128) % 128 = r % 128 := by omega
        rw [e1, if_neg (by omega), if_neg (by omega), if_neg (by omega)]
        exact ih g (i + 1) (n + r % 128 * 128 ^ (i - 1)) (r / 128) l (by omega) (by omega) (by omega) (by rw [Nat.pow_succ] at hr; omega) hf1 (by omega) (by omega) (by omega) (fun j hj => by
          have := hl (j + 1) (by omega)
          rw [show i + 1 + j = i + (j + 1) by omega, this]
          simp)
      · have ht : tailF (g + 1) r = [UInt8.ofNat r] := by rw [tailF, if_neg h]
        rw [ht] at hlen
        simp at hlen
        omega

theorem decL_short (n bits i : Nat) (h1 : 1 ≤ bits) (h2 : bits ≤ 8) (hn : n ≤ 2147483647) (hi : i < (encL n bits 0).length) : decL ((encL n bits 0).take i) bits = (0, 0, 16) := by
  have hp : 2 ^ bits ≤ 256 := by have : 2 ^ bits ≤ 2 ^ 8 := Nat.pow_le_pow_right (by omega) h2; omega
  have hp0 : 0 < 2 ^ bits := Nat.pow_pos (by omega)
  rcases Nat.eq_zero_or_pos i with rfl | hi0
  · rfl
  · by_cases h : n < 2 ^ bits - 1
    · have : (encL n bits 0).length = 1 := by unfold encL; rw [if_pos h]; rfl
      omega
    · have hl : encL n bits 0 = UInt8.ofNat (2 ^ bits - 1) :: tailF 5 (n - (2 ^ bits - 1)) := by unfold encL; rw [if_neg h]; simp
      rw [hl] at hi ⊢
      simp only [List.length_cons] at hi
      obtain ⟨i, rfl⟩ : ∃ i', i = i' + 1 := ⟨i - 1, by omega⟩
      rw [List.take_succ_cons]
      unfold decL
      simp only [List.getElem?_cons_zero]
      have hc : (UInt8.ofNat (2 ^ bits - 1)).toNat = 2 ^ bits - 1 := by simp; omega
      rw [hc, Nat.mod_eq_of_lt (by omega), if_neg (by omega)]
      refine decF_short 5 5 1 (2 ^ bits - 1) (n - (2 ^ bits - 1)) _ (by omega) (by omega) (by omega) (by simp; omega) (by omega) (by simp; omega) (by simp) ?_ ?_
      · simp; omega
      · intro j hj
        simp at hj
        rw [Nat.add_comm 1 j, List.getElem?_cons_succ, List.getElem?_take_of_lt (by omega)]

set_option maxRecDepth 100000 in
set_option maxHeartbeats 3200000 in
theorem PrefixBehind_any (n b : Int) (A : Option Addr) (l : List UInt8) (c : Nat) (w : World) (hn : -9223372036854775808 ≤ n ∧ n ≤ 9223372036854775807) (hb : -9223372036854775808 ≤ b ∧ b ≤ 9223372036854775807) (hlc : l.length ≤ c) (hcm : c ≤ maxLen) (hA : BS w A l) :
    Calls Try.prog 5 #[.int .i64 n, .int .i64 b, .slice A l.length c] w fun e w' => e = .returned (.bool true) ∧ Below w.heap.size w w' := by
  have HW := Lib.hid awake_true
  by_cases h1 : okP n b 0
  · obtain ⟨n, b, rfl, rfl, hb1, hb8, hn'⟩ := okP_yes0 h1
    have HR1 : Hid (Calls Try.prog 9 #[.int .i64 (n : Int), .int .i64 (b : Int), .int .i64 0] w fun e w' => e = .returned (.bool true) ∧ w = w') := right_yes n b 0 w hb1 hb8 hn' (Nat.pow_pos (by omega))
    clear h1
    by_cases h50 : 50 < l.length
    · have h50' : (50 : Int) < (l.length : Int) := by omega
      clear hA hcm
      go_enter Try.func5, Try.ntmps5
      go_wp2_with fail
      with_reducible refine HR1.out.mono ?_
      rintro e w1 ⟨rfl, rfl⟩
      go_wp2_with fail
      with_reducible refine (HW.out _).mono ?_
      rintro e w3 ⟨rfl, hf3⟩
      have HF3 := Lib.hid hf3
      clear hf3
      go_wp2
      go_ret
      exact ⟨rfl, HF3.out⟩
    · have h50' : ¬ (50 : Int) < (l.length : Int) := by omega
      have HE : Hid (Calls Try.prog 8 #[.int .i64 n, .int .i64 b, .int .i64 0] w (EncPost (encL n b 0) w)) := enc_any n b 0 w hb1 hb8 hn' (Nat.pow_pos (by omega))
      have HA := Lib.hid hA
      have hLlen := encL_length n b 0 hn'
      have HDe : Hid (decL (encL n b 0 ++ l) b = ((n : Int), ((encL n b 0).length : Int), 0)) := decL_encL n b 0 l hb1 hb8 hn' (Nat.pow_pos (by omega))
      have HDs : Hid (∀ i, i < (encL n b 0).length → decL ((encL n b 0).take i) b = (0, 0, 16)) := fun i hi => decL_short n b i hb1 hb8 hn' hi
      generalize encL n b 0 = L at *
      clear hA hcm
      go_enter Try.func5, Try.ntmps5
      go_wp2_with fail
      with_reducible refine HR1.out.mono ?_
      rintro e w1 ⟨rfl, rfl⟩
      go_wp2_with fail
      with_reducible refine HE.out.mono ?_
      rintro e w1 ⟨A1, c1, rfl, ho1, hf1⟩
      obtain ⟨hbs1, _⟩ := ho1.bytes
      obtain ⟨A1', c1', ee, hlc1, hcm1, _⟩ := ho1.slice
      cases ee
      obtain ⟨v2, w2, hap2, ho2, hb2, _⟩ := Own.more (P := Try.prog) Try.underlying22 pu8_info 22 (Own.lit (w := w1) (base := w1.heap.size) (E := 5) (sz := 1) (n := 0) (cs := #[]) (Nat.le_refl _) (by simp [maxLen]) rfl) ((Below.refl w1.heap.size w1).alloc (Nat.le_refl _) _) (Nat.le_refl _) A1 c1 L (hbs1.fresh (Fresh.alloc _ _)) hlc1 (by unfold maxLen; omega) (by omega)
      have hA2 : BS w2 A l := (HA.out.fresh hf1).fresh hb2
      obtain ⟨A2, c2, rfl, hlc2, hcm2, _⟩ := ho2.slice
      obtain ⟨v3, w3, hap3, ho3, hb3, _⟩ := Own.more (P := Try.prog) Try.underlying22 pu8_info 22 ho2 hb2 (Nat.le_refl _) A c l hA2 hlc (by unfold maxLen; omega) (by omega)
      have ho3' : Own w3 w1.heap.size 5 1 v3 (L ++ l).length ((L ++ l).map byteV) := by simpa using ho3
      obtain ⟨A3, c3, rfl, hlc3, hcm3, _⟩ := ho3'.slice
      have hbs3 := ho3'.bytes.1
      have HD3 := Lib.hid (dec_any A3 c3 b (L ++ l) w3 hb1 hb8 (by simp; omega) hbs3)
      rw [HDe.out] at HD3
      simp only [Nat.zero_add] at hap2 hap3
      have hll : (L ++ l).length = L.length + l.length := by simp
      rw [hll] at HD3 hap3
      have HB1 := Lib.hid (hbs1.fresh hb3)
      have HF1 := Lib.hid (hf1.trans hb3)
      clear ho1 ho2 ho3 ho3' hbs1 hbs3 hA2 hb2 hb3 hf1 hlc3 hll
      unfold decV at HD3
      go_wp2_with (at_builtin; first | with_reducible refine wp_app rfl _ _ _ rfl hap2 rfl rfl rfl ?_ | with_reducible refine wp_app rfl _ _ _ rfl hap3 rfl rfl rfl ?_ | refine wp_app rfl _ _ _ rfl hap2 rfl rfl rfl ?_ | refine wp_app rfl _ _ _ rfl hap3 rfl rfl rfl ?_)
      with_reducible refine HD3.out.mono ?_
      rintro e w4 ⟨rfl, hf4⟩
      have HB4 := Lib.hid (HB1.out.fresh hf4)
      have HF4 := Lib.hid (HF1.out.trans hf4)
      clear hf4 hap2 hap3 HD3 HDe HA HB1 HF1 HE HR1
      have e1 : ((n : Int) == (n : Int)) = true := beq_self_eq_true _
      have HDk : Hid (∀ k (W : World), k < L.length → BS W A1 L → Calls Try.prog 12 #[.slice A1 k c1, .int .i64 b] W fun e w' => e = .returned (.tuple #[.int .i64 0, .int .i64 0, .int .i64 16]) ∧ Fresh W w') := fun k W hk h => by
        have := dec_any A1 c1 b (L.take k) W hb1 hb8 (by simp; omega) (h.take k)
        rw [HDs.out k hk, List.length_take, Nat.min_eq_left (by omega)] at this
        exact this
      clear HDs
      go_wp2
      go_loopw [60] (fun i wr => ∃ (k : Nat), k ≤ L.length ∧ i = .int .i64 k ∧ BS wr A1 L ∧ Fresh w wr) (fun i _ => L.length - (intOf i).toNat)
      case atStart => exact ⟨0, by omega, rfl, HB4.out, HF4.out⟩
      case round =>
        obtain ⟨k, hk, rfl, hbk, hfk⟩ := hrel
        have HBk := Lib.hid hbk
        have HFk := Lib.hid hfk
        clear hbk hfk
        by_cases hlt : k < L.length
        · have hlt' : (k : Int) < (L.length : Int) := by omega
          have hcut := run_cut_to (P := Try.prog) Try.underlying22 pu8_size A1 L.length c1 k (by omega)
          go_wp2_with fail
          with_reducible refine (HDk.out k _ hlt HBk.out).mono ?_
          rintro e w5 ⟨rfl, hf5⟩
          have HB5 := Lib.hid (HBk.out.fresh hf5)
          have HF5 := Lib.hid (HFk.out.trans hf5)
          clear hf5
          go_wp2
          go_roundw
          case rel => exact ⟨k + 1, by omega, by go_num, HB5.out, HF5.out⟩
          case measure => simp [intOf]; omega
        · have hlt' : ¬ (k : Int) < (L.length : Int) := by omega
          go_wp2_with fail
          with_reducible refine (HW.out _).mono ?_
          rintro e w6 ⟨rfl, hf6⟩
          have HF6 := Lib.hid (HFk.out.trans hf6)
          clear hf6
          go_wp2
          go_ret
          exact ⟨rfl, HF6.out⟩
  · have HR1 := Lib.hid (right_no n b 0 w h1)
    clear h1
    go_enter Try.func5, Try.ntmps5
    go_wp2_with fail
    refine HR1.out.mono ?_
    rintro e w1 ⟨rfl, rfl⟩
    go_wp2_with fail
    refine (HW.out _).mono ?_
    rintro e w3 ⟨rfl, hf3⟩
    have HF3 := Lib.hid hf3
    clear hf3
    go_wp2
    go_ret
    exact ⟨rfl, HF3.out⟩
end Go.Proofs.Ytjefjpabihmfeaa
