/-
  The document's answers for octet, and the law's own fixed answers.
-/
import Derived.Test.YtjbonafpolmmmaaOctet
import Derived.Lib.SmallJoins
namespace Go.Proofs.Ytjbonafpolmmmaa
set_option linter.unusedVariables false
open Go.RowKit
set_option maxRecDepth 100000 in
set_option maxHeartbeats 400000 in
theorem ref_big (x n : Nat) (w : World) (hx1 : x < 18446744073709551616) (h2 : n ≤ 64) :
    Calls Try.prog 9 #[.int .u64 x, .int .i64 n] w fun e w' => e = .returned (.string (strB (bigL x n))) ∧ Fresh w w' := by
  have hcv : ∀ (W : World) (z : Int), 0 ≤ z → z < 256 → (convert 23 9 (.slice (some ⟨W.heap.size, 0, none⟩) 1 1)).run Try.prog (W.alloc (.cells #[.int .u8 z] 5)) = .ok (.string (strB [UInt8.ofNat z.toNat])) (W.alloc (.cells #[.int .u8 z] 5)) := by
    intro W z h0 h1
    refine run_str (l := [UInt8.ofNat z.toNat]) (BS.row (t := 5) ?_) _ _ _ Try.underlying23 Try.underlying5 Try.underlying9 1
    rw [byte_mk z h0 h1]
    exact Blk.new _ _ _
  have HCV := Lib.hid hcv
  clear hcv
  go_enter Try.func9, Try.ntmps9
  go_wp2
  go_loopw [0, 5, 6] (fun y s i wr => ∃ (k : Nat), k ≤ n ∧ i = .int .i64 k ∧ y = .int .u64 ((x / 256 ^ k : Nat) : Int) ∧ s = .string (strB ((bigL x n).drop (n - k))) ∧ Fresh w wr) (fun _ _ i _ => n - (intOf i).toNat)
  case atStart => exact ⟨0, by omega, rfl, by simp, by rw [List.drop_eq_nil_of_le (by simp [bigL_length])]; rfl, Fresh.refl _⟩
  case round =>
    obtain ⟨k, hk, rfl, rfl, rfl, hf⟩ := hrel
    by_cases hlt : k < n
    · have hle : x / 256 ^ k ≤ x := Nat.div_le_self _ _
      have HD : Hid ([UInt8.ofNat (((x / 256 ^ k : Nat) : Int) % 256).toNat] ++ (bigL x n).drop (n - k) = (bigL x n).drop (n - (k + 1))) := by
        show _ = _
        have hl : n - (k + 1) < (bigL x n).length := by rw [bigL_length]; omega
        rw [List.drop_eq_getElem_cons hl, show n - (k + 1) + 1 = n - k by omega]
        have e := bigL_get x n (n - (k + 1)) (by omega)
        rw [List.getElem?_eq_getElem hl] at e
        simp only [Option.some.injEq] at e
        rw [e, show n - 1 - (n - (k + 1)) = k by omega]
        generalize x / 256 ^ k = z
        have : ((z : Int) % 256).toNat = z % 256 := by omega
        rw [this]
        have e3 : UInt8.ofNat (z % 256) = UInt8.ofNat z := UInt8.toNat_inj.1 (by simp)
        rw [e3]; rfl
      have HZ : Hid (IntKind.u64.wrap (((x / 256 ^ k : Nat) : Int) / 256) = ((x / 256 ^ (k + 1) : Nat) : Int)) := by
        show _ = _
        rw [Nat.pow_succ, ← Nat.div_div_eq_div_mul]
        generalize x / 256 ^ k = z at hle
        rw [IntKind.wrap_u64]
        omega
      generalize x / 256 ^ k = z at *
      have hz0 : (0 : Int) ≤ (z : Int) := by omega
      have hz2 : (z : Int) < 18446744073709551616 := by omega
      have hm0 : (0 : Int) ≤ (z : Int) % 256 := by omega
      have hm1 : (z : Int) % 256 < 256 := by omega
      have hcv := HCV.out wr _ hm0 hm1
      obtain ⟨S, hS⟩ : ∃ S, S = strB [UInt8.ofNat ((z : Int) % 256).toNat] := ⟨_, rfl⟩
      rw [← hS] at hcv
      have HS := Lib.hid hS
      clear hS
      obtain ⟨R, hR⟩ : ∃ R, R = strB ((bigL x n).drop (n - k)) := ⟨_, rfl⟩
      rw [← hR]
      have HR := Lib.hid hR
      clear hR hle hz2 hx1
      have hSR : S.size + R.size ≤ 9223372036854775807 := by rw [HS.out, HR.out, strB_size, strB_size]; simp [bigL_length]; omega
      go_wp2
      go_roundw
      case rel => exact ⟨k + 1, by omega, by go_num, by rw [HZ.out], by rw [HR.out, HS.out, strB_append, HD.out], hf.trans (Fresh.alloc _ _)⟩
      case measure => simp [intOf]; omega
    · obtain rfl : k = n := by omega
      go_wp2
      go_ret
      exact ⟨by simp, hf⟩

set_option maxHeartbeats 400000 in
theorem ref_num_s (s : ByteArray) (w : World) (hs8 : s.size ≤ 8) :
    Calls Try.prog 11 #[.string s] w fun e w' => e = .returned (.int .u64 (numL s.data.toList)) ∧ w = w' := by
  have hsz : s.size = s.data.toList.length := by rw [Array.length_toList]; rfl
  have HSZ := Lib.hid hsz
  have HG : Hid (∀ k (h : k < s.size), numL (s.data.toList.take (k + 1)) = numL (s.data.toList.take k) * 256 + s[k].toNat) := fun k h => by
    rw [numL_take _ k (by omega)]; rfl
  clear hsz
  obtain ⟨l, hl⟩ : ∃ l, l = s.data.toList := ⟨_, rfl⟩
  rw [← hl] at HG HSZ ⊢
  clear hl
  go_enter Try.func11, Try.ntmps11
  go_wp2
  go_loop [3, 4] (fun x i => ∃ (k : Nat), k ≤ s.size ∧ i = .int .i64 k ∧ x = .int .u64 (numL (l.take k))) (fun _ i => s.size - (intOf i).toNat)
  case atStart => exact ⟨0, by omega, rfl, rfl⟩
  case round =>
    obtain ⟨k, hk, rfl, rfl⟩ := hrel
    have hkl : k ≤ l.length := by have := HSZ.out; omega
    by_cases hlt : k < s.size
    · have hlt' : k < l.length := by have := HSZ.out; omega
      have hn := HG.out k hlt
      have hz1 := numL_take_lt l k 7 (by omega)
      have hb := UInt8.toNat_lt s[k]
      have HN : Hid (((numL (l.take (k + 1)) : Nat) : Int) = (numL (l.take k) : Int) * 256 + (s[k].toNat : Int)) := by
        show _ = _
        rw [hn]; omega
      clear hn
      generalize numL (l.take k) = z at *
      have hz0 : (0 : Int) ≤ (z : Int) := by omega
      have hz2 : (z : Int) < 72057594037927936 := by rw [show (256 : Nat) ^ 7 = 72057594037927936 from rfl] at hz1; omega
      have hb2 : (s[k].toNat : Int) < 256 := by omega
      clear hz1 hb
      go_wp2
      go_round
      case rel => exact ⟨k + 1, by omega, by go_num, by rw [HN.out]⟩
      case measure => simp [intOf]; omega
    · have hkk : k = l.length := by have := HSZ.out; omega
      have HK := Lib.hid hkk
      clear hkk
      go_wp2
      go_ret
      exact ⟨by rw [HK.out]; simp, rfl⟩

theorem ref_num (l : List UInt8) (w : World) (hl : l.length ≤ 8) :
    Calls Try.prog 11 #[.string (strB l)] w fun e w' => e = .returned (.int .u64 (numL l)) ∧ w = w' :=
  ref_num_s (strB l) w (by rw [strB_size]; exact hl)

theorem num_10 : numL [1, 0] = 256 := by decide
theorem big_258 : bigL 258 3 = [0, 1, 2] := by decide
theorem bigPost_258 (w : World) : BigPost 258 3 w = fun e w' => e = .returned (.slice (some ⟨w.heap.size, 0, none⟩) 3 3) ∧ Blk w' w.heap.size 5 (bytesA [0, 1, 2]) ∧ Fresh w w' := by
  unfold BigPost
  rw [big_258]

set_option maxHeartbeats 800000 in
theorem awake_true (w : World) :
    Calls Try.prog 8 #[] w fun e w' => e = .returned (.bool true) ∧ Fresh w w' := by
  have kc := fun (w : World) (C : Array Value) (n c g : Nat) (hg : g = w.heap.size) => Joins.run_convert_bytes_const_at (P := Try.prog) w 23 5 C n c g hg Try.underlying23 Try.underlying5
  go_enter Try.func8, Try.ntmps8
  go_wp2_with fail
  refine (onum_yes _ 2 [1, 0] _ (by decide) (BS.row (t := 5) (Blk.new _ _ _))).mono ?_
  rw [num_10]
  rintro e w1 ⟨rfl, rfl⟩
  go_wp2_with fail
  have hb1 : BS ((w.alloc (.cells (bytesA [1, 0]) 5)).alloc (.cells #[.int .u8 97, .int .u8 98, .int .u8 99] 5 (3, 4))) (some ⟨w.heap.size + 1, 0, none⟩) [97, 98, 99] := fun _ =>
    ⟨w.heap.size + 1, 0, rfl, by simp, fun j hj => by
      rw [Joins.cell_alloc_mark_at _ _ _ _ _ _ (by simp)]
      match j, hj with
      | 0, _ => rfl
      | 1, _ => rfl
      | 2, _ => rfl⟩
  have hN := onew _ 3 [97, 98, 99] _ hb1 (by decide)
  refine hN.mono ?_
  clear hN hb1
  rintro e w2 ⟨rfl, hI2, hB2, hf2⟩
  have hF2 : Fresh w w2 := (Fresh.alloc _ _).trans ((Fresh.alloc _ _).trans hf2)
  clear hf2
  simp only [World.size_alloc] at hI2 hB2 ⊢
  generalize hq : w.heap.size + 1 + 1 + 1 = q at *
  generalize hg2 : w.heap.size + 1 + 1 = g at *
  have HQ := Lib.hid hq
  have HG2 := Lib.hid hg2
  clear hq hg2
  go_wp2_with fail
  refine (oleft _ _ _ _ _ hI2).mono ?_
  rintro e w3 ⟨rfl, rfl⟩
  go_wp2_with fail
  refine (obyte _ _ _ _ _ hI2).mono ?_
  rintro e w3 ⟨h3, _⟩
  obtain ⟨rfl, hI3, ho3⟩ := h3 (by decide)
  clear h3 hI2
  go_wp2_with fail
  refine (obig_yes 258 3 _ (by omega) (by omega) (by omega)).mono ?_
  rw [bigPost_258]
  rintro e w4 ⟨rfl, hb4, hf4⟩
  have hc4 := run_str (P := Try.prog) (BS.row hb4) 23 9 5 Try.underlying23 Try.underlying5 Try.underlying9 3
  have e4 : strB [0, 1, 2] = ⟨#[0, 1, 2]⟩ := rfl
  rw [e4] at hc4
  have hI4 := Lib.hid (hI3.fresh hf4)
  have hq3 : q < w3.heap.size := hI3.blk.lt
  clear hb4 hI3 e4
  simp only [List.length_cons, List.length_nil, Nat.zero_add, Nat.reduceAdd] at hc4
  go_wp2_with fail
  have hR := orest _ _ _ _ _ hI4.out
  refine hR.mono ?_
  clear hR
  rintro e w5 ⟨rfl, hI5, ho5, hbs5⟩
  have hc5 := run_str (P := Try.prog) (show BS w5 (cutA (some ⟨g, 0, none⟩) 1 3) [98, 99] from hbs5) 23 9 5 Try.underlying23 Try.underlying5 Try.underlying9 2
  have e5 : strB [98, 99] = ⟨#[98, 99]⟩ := rfl
  rw [e5] at hc5
  clear hc4 e5
  simp only [List.length_cons, List.length_nil, Nat.zero_add, Nat.reduceAdd, List.drop_succ_cons, List.drop_zero] at hc5 hI5 ⊢
  go_wp2_with fail
  refine (oleft _ _ _ _ _ hI5).mono ?_
  rintro e w6 ⟨rfl, rfl⟩
  go_wp2_with fail
  go_ret
  have e1 := HQ.out
  have e2 := HG2.out
  have h24 : Only (· = q) w2 w5 := (ho3.trans (Only.of_fresh hf4)).trans ho5
  exact ⟨rfl, (Only.trans' (Only.of_fresh (S := fun _ => False) hF2) h24 (fun i hi e => by omega)).fresh (fun _ _ h => h)⟩
end Go.Proofs.Ytjbonafpolmmmaa
