/-
  What the document says of slots; the law CellFills.
-/
import Derived.Test.YtpokpkijhakpjaaCell4
import Derived.Deep.RegionHeld3
import Derived.IntWalk
namespace Go.Proofs.Ytpokpkijhakpjaa
set_option linter.unusedVariables false
open Go.RowKit

set_option maxHeartbeats 800000 in
theorem ref_fill (l : List UInt8) (n : Nat) (w : World) (hn : n ≤ 1024) (hl : l.length ≤ n + 9) :
    Calls Try.prog 14 #[.string (strB l), .int .i64 (n : Int)] w fun e w' => e = .returned (.string (strB (fillL l n))) ∧ Fresh w w' := by
  have hs : (strB l).size = l.length := strB_size l
  have HB := Lib.hid (fun w => rbytes 250 0 0 (List.replicate (n + 9 - l.length) 0) w (by omega) (by simp; omega))
  have HE : Hid (strB l ++ strB (frB2 250 0 0 (List.replicate (n + 9 - l.length) 0)) = strB (fillL l n)) := Lib.hid (by rw [strB_append]; rfl)
  generalize strB l = S at *
  go_enter Try.func14, Try.ntmps14
  go_wp2_with fail
  go_loop [5] (fun s => ∃ k : Nat, k ≤ n + 9 - l.length ∧ s = .string (strB (List.replicate k 0))) (fun s => match s with | .string b => n + 9 - b.size | _ => 0)
  case atStart => exact ⟨0, by omega, rfl⟩
  case round =>
    obtain ⟨k, hk, rfl⟩ := hrel
    have hz : (strB (List.replicate k 0)).size = k := by rw [strB_size, List.length_replicate]
    by_cases hlt : l.length + k < n + 9
    · have HN : Hid (strB (List.replicate k 0) ++ ⟨#[0]⟩ = strB (List.replicate (k + 1) 0)) := Lib.hid (by
        rw [show (⟨#[0]⟩ : ByteArray) = strB [0] from rfl, strB_append, List.replicate_succ'])
      have HZ2 : Hid ((strB (List.replicate (k + 1) 0)).size = k + 1) := Lib.hid (by rw [strB_size, List.length_replicate])
      generalize strB (List.replicate k 0) = T at *
      go_wp2_with fail
      go_round
      case rel => exact ⟨k + 1, by omega, congrArg _ HN.out⟩
      case measure =>
        show n + 9 - (T ++ (⟨#[0]⟩ : ByteArray)).size < n + 9 - T.size
        rw [HN.out, HZ2.out, hz]; omega
    · obtain rfl : k = n + 9 - l.length := by omega
      generalize strB (List.replicate (n + 9 - l.length) 0) = T at *
      go_wp2_with fail
      refine (HB.out _).mono ?_
      rintro e w1 ⟨rfl, hf⟩
      have hz2 : (strB (frB2 250 0 0 (List.replicate (n + 9 - l.length) 0))).size = 9 + (n + 9 - l.length) := by rw [strB_size, frB2_length, List.length_replicate]
      generalize strB (frB2 250 0 0 (List.replicate (n + 9 - l.length) 0)) = U at *
      go_wp2_with fail
      go_ret
      exact ⟨by show Ending.returned (.string (S ++ U)) = _; rw [HE.out], hf⟩
set_option maxRecDepth 100000 in
set_option maxHeartbeats 3200000 in
theorem CellFills_any (A : Option Addr) (l : List UInt8) (c : Nat) (n : Int) (w : World) (hlc : l.length ≤ c) (hcm : c ≤ maxLen) (hA : BS w A l) (_ : (Lit.int .i64 n).wf = true) :
    Calls Try.prog 3 #[.slice A l.length c, .int .i64 n] w fun e w' => e = .returned (.bool true) ∧ Below w.heap.size w w' := by
  unfold maxLen at hcm
  by_cases h0 : l.length ≤ 1200
  · by_cases h1 : 1 ≤ n ∧ n ≤ 1024
    · obtain ⟨N, rfl⟩ : ∃ N : Nat, n = (N : Int) := ⟨n.toNat, by omega⟩
      obtain ⟨h1, h2⟩ := h1
      by_cases h3 : l.length ≤ N + 9
      · have HF := Lib.hid (fun w hA => fill_ok A c l N w (by omega) (by omega) h3 hA)
        have HR := Lib.hid (fun w => ref_fill l N w (by omega) h3)
        have HA := Lib.hid hA
        clear hA
        go_enter Try.func3, Try.ntmps3
        go_wp2_with fail
        refine (HF.out _ HA.out).mono ?_
        rintro e w1 ⟨g, rfl, hg, hb1, hf1⟩
        have HB1 := Lib.hid hb1
        have HF1 := Lib.hid hf1
        have HA1 := Lib.hid (HA.out.fresh hf1)
        clear hg hb1 hf1 HF
        go_wp2_with fail
        with_reducible refine (ce_right20_yes N _ (by omega) (by omega)).mono ?_
        rintro e w2 ⟨rfl, rfl⟩
        go_wp2_with fail
        have hlen := fillL_length l N h3
        have HSK : Hid (∀ w', Fresh w1 w' → (convert 22 9 (.slice (some ⟨g, 0, none⟩) (N + 18) (N + 18))).run Try.prog w' = .ok (.string (strB (fillL l N))) w' ∧ (convert 22 9 (.slice A l.length c)).run Try.prog w' = .ok (.string (strB l)) w' ∧ Fresh w1 w') := Lib.hid (fun w' hw => by
          refine ⟨?_, run_str (HA1.out.fresh hw) 22 9 5 Try.underlying22 Try.underlying5 Try.underlying9 c, hw⟩
          have := run_str (P := Try.prog) (BS.row (HB1.out.fresh hw)) 22 9 5 Try.underlying22 Try.underlying5 Try.underlying9 (N + 18)
          rwa [hlen] at this)
        obtain ⟨g0, g1, g2⟩ := HSK.out w1 (Fresh.refl _)
        generalize strB (fillL l N) = S1 at *
        generalize strB l = S2 at *
        have e1 : (S1.toList == S1.toList) = true := beq_self_eq_true _
        have e2 : ((N : Int) + 18 == (N : Int) + 18) = true := by simp
        have e3 : ((N : Int) + 9 == (N : Int) + 9) = true := by simp
        have e4 : IntKind.i64.wrap ((N : Int) + 18) = (N : Int) + 18 := IntWalk.i64_in _ (by omega)
        have e5 : IntKind.i64.wrap ((N : Int) + 9) = (N : Int) + 9 := IntWalk.i64_in _ (by omega)
        clear hlen h0
        go_region_held3 (fun w' => (convert 22 9 (.slice (some ⟨g, 0, none⟩) (N + 18) (N + 18))).run Try.prog w' = .ok (.string S1) w' ∧ (convert 22 9 (.slice A l.length c)).run Try.prog w' = .ok (.string S2) w' ∧ Fresh w1 w')
          ((refine HSK.out _ ?_; first | with_reducible assumption | with_reducible exact Fresh.drew _ | (with_reducible apply Fresh.drewS; with_reducible assumption)))
          (first
            | (go_at_call 14; (with_reducible refine (HR.out _).mono ?_); rintro e w3 ⟨rfl, hf3⟩; have hg3 : Fresh w1 w3 := (Fresh.drew w1).trans hf3)
            | (go_at_call 12; (with_reducible refine (ce_len_yes N _ (by omega) (by omega)).mono ?_); rintro e w4 ⟨rfl, rfl⟩)
            | (go_at_call 13; (with_reducible refine (ce_room_yes N _ (by omega) (by omega)).mono ?_); rintro e w5 ⟨rfl, rfl⟩)
            | (go_at_call 9; (with_reducible refine (ce_awake _).mono ?_); rintro e w6 ⟨rfl, hf6⟩; have hg6 : Fresh w1 w6 := Fresh.trans (by assumption) hf6))
        have HG6 := Lib.hid (HF1.out.trans hg6)
        clear g0 g1 HSK hg6 hg3 hf3 hf6
        go_wp2_with fail
        go_ret
        exact ⟨rfl, HG6.out⟩
      · have HF := Lib.hid (fun w => fill_full A l.length c N w (by omega) (by omega) (by omega))
        have h3' : (N : Int) + 9 < (l.length : Int) := by omega
        clear hA
        go_enter Try.func3, Try.ntmps3
        go_wp2_with fail
        with_reducible refine (HF.out _).mono ?_
        rintro e w1 ⟨rfl, rfl⟩
        go_wp2_with fail
        with_reducible refine (ce_right20_yes N _ (by omega) (by omega)).mono ?_
        rintro e w2 ⟨rfl, rfl⟩
        go_wp2_with fail
        refine (ce_awake _).mono ?_
        rintro e w5 ⟨rfl, hf5⟩
        go_wp2_with fail
        go_ret
        exact ⟨rfl, hf5⟩
    · have HF := Lib.hid (fun w => fill_range (.slice A l.length c) n w h1)
      have H20 := Lib.hid (fun w => ce_right20_no n w h1)
      have HL := Lib.hid (fun w => ce_len_no n w h1)
      have HM := Lib.hid (fun w => ce_room_no n w h1)
      clear hA h1
      go_enter Try.func3, Try.ntmps3
      go_wp2_with fail
      with_reducible refine (HF.out _).mono ?_
      rintro e w1 ⟨rfl, rfl⟩
      go_wp2_with fail
      with_reducible refine (H20.out _).mono ?_
      rintro e w2 ⟨rfl, rfl⟩
      go_wp2_with fail
      with_reducible refine (HL.out _).mono ?_
      rintro e w2 ⟨rfl, rfl⟩
      go_wp2_with fail
      with_reducible refine (HM.out _).mono ?_
      rintro e w2 ⟨rfl, rfl⟩
      go_wp2_with fail
      refine (ce_awake _).mono ?_
      rintro e w5 ⟨rfl, hf5⟩
      go_wp2_with fail
      go_ret
      exact ⟨rfl, hf5⟩
  · clear hA
    have h0' : (1200 : Int) < (l.length : Int) := by omega
    go_enter Try.func3, Try.ntmps3
    go_wp2_with fail
    refine (ce_awake _).mono ?_
    rintro e w5 ⟨rfl, hf5⟩
    go_wp2_with fail
    go_ret
    exact ⟨rfl, hf5⟩
end Go.Proofs.Ytpokpkijhakpjaa
