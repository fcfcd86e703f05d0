/-
  The law CellAlike: its walk.
-/
import Derived.Test.YtpokpkijhakpjaaCell6
import Derived.WalkLawsBesides
namespace Go.Proofs.Ytpokpkijhakpjaa
set_option linter.unusedVariables false
open Go.RowKit

theorem allF_rowG {most : Int} (qs : List Fr) (hq : ∀ q ∈ qs, q.st ≤ 2147483647 ∧ q.pl.length ≤ 16777215 ∧ (q.pl.length : Int) ≤ most) (t : List UInt8) (ht : t.length ≤ 8) : ∀ n, (rowB qs ++ t).length ≤ n → allF most n (rowB qs ++ t) = some (qs, t) := by
  induction qs with
  | nil =>
    intro n hn
    refine allF_16 ?_
    unfold parseK
    rw [if_pos (by simp [rowB]; omega)]
  | cons q qs ih =>
    intro n hn
    obtain ⟨h1, h2, h3⟩ := hq q (by simp)
    have e : rowB (q :: qs) ++ t = frB2 q.x q.y q.st q.pl ++ (rowB qs ++ t) := by simp [rowB]
    rw [e] at hn ⊢
    have hk : parseK (frB2 q.x q.y q.st q.pl ++ (rowB qs ++ t)) most = 0 := by rw [frB2_parse _ _ _ _ _ _ (by omega), if_neg (by omega)]
    obtain ⟨m, hm, hA⟩ := allF_0 hn hk
    have hlf : lenF (frB2 q.x q.y q.st q.pl ++ (rowB qs ++ t)) = 9 + q.pl.length := by unfold lenF; rw [frB2_num _ _ _ _ _ (by omega)]
    have hd : (frB2 q.x q.y q.st q.pl ++ (rowB qs ++ t)).drop (9 + q.pl.length) = rowB qs ++ t := by
      rw [List.drop_append_of_le_length (by rw [frB2_length]; omega), List.drop_of_length_le (by rw [frB2_length]; omega)]
      rfl
    rw [hlf, hd] at hm hA
    rw [hA, ih (fun p hp => hq p (by simp [hp])) m hm]
    have hh : headF (frB2 q.x q.y q.st q.pl ++ (rowB qs ++ t)) = q := by
      unfold headF
      rw [List.getD_eq_getElem?_getD, List.getD_eq_getElem?_getD, frB2_get3, frB2_get4, frB2_stream _ _ _ _ _ h1, frB2_num _ _ _ _ _ (by omega), frB2_pl]
      rfl
    rw [hh]
    rfl
theorem open_row (qs : List Fr) (n : Nat) (hn : n ≤ 1024) (hq : ∀ q ∈ qs, q.st ≤ 2147483647) (hl : (rowB qs).length ≤ n + 9) : openR (fillL (rowB qs) n) = some (qs.filter notFil) := by
  have e : fillL (rowB qs) n = rowB (qs ++ [⟨250, 0, 0, List.replicate (n + 9 - (rowB qs).length) 0⟩]) ++ [] := by rw [rowB_snoc]; simp [fillL]
  have hL := fillL_length (rowB qs) n hl
  have hq' : ∀ q ∈ qs, q.pl.length ≤ n := fun q hm => by
    have h9 : (frB2 q.x q.y q.st q.pl).length ≤ (rowB qs).length := by
      obtain ⟨a, b, rfl⟩ := List.append_of_mem hm
      simp [rowB]; omega
    rw [frB2_length] at h9; omega
  unfold openR
  rw [hL, e, allF_rowG _ (fun q hm => by
    rcases List.mem_append.1 hm with hm | hm
    · have := hq' q hm; have := hq q hm; exact ⟨by omega, by omega, by omega⟩
    · rw [List.mem_singleton] at hm; subst hm; exact ⟨by simp, by simp; omega, by simp; omega⟩) [] (by simp) _ (by rw [← e, hL]; omega)]
  have hf : notFil ⟨250, 0, 0, List.replicate (n + 9 - (rowB qs).length) 0⟩ = false := rfl
  simp [hf]
theorem open_empty (n : Nat) (hn : n ≤ 1024) : openR (fillL [] n) = some [] := open_row [] n hn (by simp) (by simp [rowB])
set_option maxRecDepth 100000 in
set_option maxHeartbeats 6400000 in
theorem CellAlike_any (A : Option Addr) (a : List UInt8) (ca : Nat) (B : Option Addr) (b : List UInt8) (cb : Nat) (n : Int) (w : World) (hac : a.length ≤ ca) (hcm : ca ≤ maxLen) (hA : BS w A a) (hbc : b.length ≤ cb) (hcm2 : cb ≤ maxLen) (hB : BS w B b) (_ : (Lit.int .i64 n).wf = true) :
    Calls Try.prog 8 #[.slice A a.length ca, .slice B b.length cb, .int .i64 n] w fun e w' => e = .returned (.bool true) ∧ Below w.heap.size w w' := by
  unfold maxLen at hcm hcm2
  by_cases h0 : a.length ≤ 1100
  · have d0 : decide ((1100 : Int) < (a.length : Int)) = false := by simp; omega
    by_cases h00 : b.length ≤ 1100
    · have d00 : decide ((1100 : Int) < (b.length : Int)) = false := by simp; omega
      by_cases h1 : 1 ≤ n ∧ n ≤ 1024
      · obtain ⟨N, rfl⟩ : ∃ N : Nat, n = (N : Int) := ⟨n.toNat, by omega⟩
        obtain ⟨h1, h2⟩ := h1
        have HZ := Lib.hid (fun w => fill_ok none 0 [] N w (by omega) (by omega) (by simp) (BS.nil _ _))
        by_cases h3 : a.length ≤ N + 9
        · have HFA := Lib.hid (fun w hA => fill_ok A ca a N w (by omega) (by omega) h3 hA)
          by_cases h4 : b.length ≤ N + 9
          · have HFB := Lib.hid (fun w hA => fill_ok B cb b N w (by omega) (by omega) h4 hA)
            have HA := Lib.hid hA
            have HB := Lib.hid hB
            clear hA hB
            go_enter Try.func8, Try.ntmps8
            go_wp2_with fail
            refine (HFA.out _ HA.out).mono ?_
            rintro e w1 ⟨g1, rfl, hg1, hb1, hf1⟩
            have HB1 := Lib.hid hb1
            have HF1 := Lib.hid hf1
            clear hg1 hb1 hf1 HFA
            go_wp2_with fail
            refine (HFB.out _ (HB.out.fresh HF1.out)).mono ?_
            rintro e w2 ⟨g2, rfl, hg2, hb2, hf2⟩
            have HB2 := Lib.hid (HB1.out.fresh hf2)
            have HF2 := Lib.hid (HF1.out.trans hf2)
            clear hg2 hb2 hf2 HFB HB1 HF1
            go_wp2_with fail
            refine (HZ.out _).mono ?_
            rintro e w3 ⟨g3, rfl, hg3, hb3, hf3⟩
            have HB3 := Lib.hid (HB2.out.fresh hf3)
            have HF3 := Lib.hid (HF2.out.trans hf3)
            have HOP := Lib.hid (open_any (some ⟨g3, 0, none⟩) (N + 18) (fillL [] N) N w3 (by omega) (by omega) (fillL_length [] N (by simp)) (by rw [fillL_length [] N (by simp)]; omega) (by unfold maxLen; omega) (BS.row hb3))
            rw [open_empty N (by omega)] at HOP
            clear hg3 hb3 hf3 HZ HB2 HF2
            go_wp2_with fail
            refine HOP.out.mono ?_
            rintro e w4 ⟨hy, _⟩
            obtain ⟨A5, n5, c5, fs, rfl, hn5, _, _, hf4⟩ := hy _ rfl
            have hn5' : n5 = 0 := hn5
            subst hn5'
            have HF4 := Lib.hid (HF3.out.trans hf4)
            have HB4 := Lib.hid (HB3.out.fresh hf4)
            have HA4 := Lib.hid (HA.out.fresh HF4.out)
            clear hy hn5 hf4 HF3 HB3 HOP
            have hlen := fillL_length a N h3
            have htk : (fillL a N).take a.length = a := by unfold fillL; exact List.take_left
            have hct := run_cut_to (P := Try.prog) Try.underlying22 u8_size' (some ⟨g1, 0, none⟩) (N + 18) (N + 18) a.length (by omega)
            have HSK : Hid (∀ w', Fresh w4 w' → (convert 22 9 (.slice (some ⟨g1, 0, none⟩) a.length (N + 18))).run Try.prog w' = .ok (.string (strB a)) w' ∧ (convert 22 9 (.slice A a.length ca)).run Try.prog w' = .ok (.string (strB a)) w' ∧ Fresh w4 w') := Lib.hid (fun w' hw => by
              refine ⟨?_, run_str (HA4.out.fresh hw) 22 9 5 Try.underlying22 Try.underlying5 Try.underlying9 ca, hw⟩
              have := run_str (P := Try.prog) (BS.take (BS.row (HB4.out.fresh hw)) a.length) 22 9 5 Try.underlying22 Try.underlying5 Try.underlying9 (N + 18)
              rw [htk] at this
              exact this)
            obtain ⟨g0, g1', g2'⟩ := HSK.out w4.drew (Fresh.drew _)
            generalize strB a = S1 at *
            have e1 : (S1.toList == S1.toList) = true := beq_self_eq_true _
            have e2 : ((N : Int) + 18 == (N : Int) + 18) = true := by simp
            have e3 : (((N + 18 : Nat) : Int) == ((N + 18 : Nat) : Int)) = true := by simp
            have e4 : IntKind.i64.wrap ((N : Int) + 18) = (N : Int) + 18 := IntWalk.i64_in _ (by omega)
            have m1 : (a.length : Int) < ((N + 18 : Nat) : Int) := by omega
            have m2 : (a.length : Int) < (N : Int) + 18 := by omega
            have m3 : decide ((a.length : Int) ≤ (N : Int) + 18) = true := by simp; omega
            have m4 : a.length ≤ N + 18 := by omega
            have m10 : ((N : Int) + 18 < (a.length : Int)) = False := eq_false (by omega)
            have m8 : min (a.length : Int) ((N : Int) + 18) = (a.length : Int) := by omega
            have m9 : min (a.length : Int) ((N + 18 : Nat) : Int) = (a.length : Int) := by omega
            have m5 : (0 : Int) ≤ (a.length : Int) := by omega
            have m6 : (a.length : Int) ≤ ((N + 18 : Nat) : Int) := by omega
            have m7 : (a.length : Int) ≤ (N : Int) + 18 := by omega
            clear hlen htk h0 h00
            go_wp2_with fail
            go_still_tail 46, (by kernel_rfl)
            change wpList _ _ _ _ _ (World.drew _)
            go_wp2_with fail
            refine (ce_awake _).mono ?_
            rintro e w6 ⟨rfl, hf6⟩
            have HF6 := Lib.hid ((HF4.out.drewS).trans hf6)
            clear hf6
            go_wp2_with fail
            go_ret
            exact ⟨rfl, HF6.out⟩
          · have HFB := Lib.hid (fun w => fill_full B b.length cb N w (by omega) (by omega) (by omega))
            have HA := Lib.hid hA
            clear hA hB h0 h00
            go_enter Try.func8, Try.ntmps8
            go_wp2_with fail
            refine (HFA.out _ HA.out).mono ?_
            rintro e w1 ⟨g1, rfl, _, _, hf1⟩
            have HF1 := Lib.hid hf1
            clear hf1 HFA
            go_wp2_with fail
            refine (HFB.out _).mono ?_
            rintro e w2 ⟨rfl, rfl⟩
            go_wp2_with fail
            refine (HZ.out _).mono ?_
            rintro e w3 ⟨g3, rfl, _, _, hf3⟩
            have HF3 := Lib.hid (HF1.out.trans hf3)
            clear hf3
            go_wp2_with fail
            refine (ce_awake _).mono ?_
            rintro e w5 ⟨rfl, hf5⟩
            have HF5 := Lib.hid (HF3.out.trans hf5)
            clear hf5
            go_wp2_with fail
            go_ret
            exact ⟨rfl, HF5.out⟩
        · have HFA := Lib.hid (fun w => fill_full A a.length ca N w (by omega) (by omega) (by omega))
          by_cases h4 : b.length ≤ N + 9
          · have HFB := Lib.hid (fun w hA => fill_ok B cb b N w (by omega) (by omega) h4 hA)
            have HB := Lib.hid hB
            clear hA hB h0 h00
            go_enter Try.func8, Try.ntmps8
            go_wp2_with fail
            refine (HFA.out _).mono ?_
            rintro e w1 ⟨rfl, rfl⟩
            go_wp2_with fail
            refine (HFB.out _ HB.out).mono ?_
            rintro e w2 ⟨g2, rfl, _, _, hf1⟩
            have HF1 := Lib.hid hf1
            clear hf1 HFB
            go_wp2_with fail
            refine (HZ.out _).mono ?_
            rintro e w3 ⟨g3, rfl, _, _, hf3⟩
            have HF3 := Lib.hid (HF1.out.trans hf3)
            clear hf3
            go_wp2_with fail
            refine (ce_awake _).mono ?_
            rintro e w5 ⟨rfl, hf5⟩
            have HF5 := Lib.hid (HF3.out.trans hf5)
            clear hf5
            go_wp2_with fail
            go_ret
            exact ⟨rfl, HF5.out⟩
          · have HFB := Lib.hid (fun w => fill_full B b.length cb N w (by omega) (by omega) (by omega))
            clear hA hB h0 h00
            go_enter Try.func8, Try.ntmps8
            go_wp2_with fail
            refine (HFA.out _).mono ?_
            rintro e w1 ⟨rfl, rfl⟩
            go_wp2_with fail
            refine (HFB.out _).mono ?_
            rintro e w2 ⟨rfl, rfl⟩
            go_wp2_with fail
            refine (HZ.out _).mono ?_
            rintro e w3 ⟨g3, rfl, _, _, hf3⟩
            have HF3 := Lib.hid hf3
            clear hf3
            go_wp2_with fail
            refine (ce_awake _).mono ?_
            rintro e w5 ⟨rfl, hf5⟩
            have HF5 := Lib.hid (HF3.out.trans hf5)
            clear hf5
            go_wp2_with fail
            go_ret
            exact ⟨rfl, HF5.out⟩
      · have HFA := Lib.hid (fun v w => fill_range v n w h1)
        clear hA hB h1 h0 h00
        go_enter Try.func8, Try.ntmps8
        go_wp2_with fail
        refine (HFA.out _ _).mono ?_
        rintro e w1 ⟨rfl, rfl⟩
        go_wp2_with fail
        refine (HFA.out _ _).mono ?_
        rintro e w2 ⟨rfl, rfl⟩
        go_wp2_with fail
        refine (HFA.out _ _).mono ?_
        rintro e w3 ⟨rfl, rfl⟩
        go_wp2_with fail
        refine (ce_awake _).mono ?_
        rintro e w5 ⟨rfl, hf5⟩
        have HF5 := Lib.hid (hf5)
        clear hf5
        go_wp2_with fail
        go_ret
        exact ⟨rfl, HF5.out⟩
    · have d2 : (1100 : Int) < (b.length : Int) := by omega
      clear hA hB h00 h0
      go_enter Try.func8, Try.ntmps8
      go_wp2_with fail
      refine (ce_awake _).mono ?_
      rintro e w5 ⟨rfl, hf5⟩
      have HF5 := Lib.hid (hf5)
      clear hf5
      go_wp2_with fail
      go_ret
      exact ⟨rfl, HF5.out⟩
  · have d2 : (1100 : Int) < (a.length : Int) := by omega
    clear hA hB h0
    go_enter Try.func8, Try.ntmps8
    go_wp2_with fail
    refine (ce_awake _).mono ?_
    rintro e w5 ⟨rfl, hf5⟩
    have HF5 := Lib.hid (hf5)
    clear hf5
    go_wp2_with fail
    go_ret
    exact ⟨rfl, HF5.out⟩
end Go.Proofs.Ytpokpkijhakpjaa
