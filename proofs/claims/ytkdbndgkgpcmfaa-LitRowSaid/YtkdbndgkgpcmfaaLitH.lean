/-
  The laws LitEncodes, LitShort, LitDecodes.
-/
import Derived.Test.YtkdbndgkgpcmfaaLitG
namespace Go.Proofs.Ytkdbndgkgpcmfaa
set_option linter.unusedVariables false
set_option linter.unusedSimpArgs false
open Go.RowKit
theorem lit_number (cd : Bool) (w : World) : Calls Try.prog 11 #[.bool cd] w fun e w' => e = .returned (.int .i64 (if cd then 1 else 0)) ∧ w = w' := by
  cases cd with
  | true =>
    rw [if_pos rfl]
    go_enter Try.func11, Try.ntmps11
    go_wp2
    go_ret
    exact ⟨rfl, rfl⟩
  | false =>
    rw [if_neg (by simp)]
    go_enter Try.func11, Try.ntmps11
    go_wp2
    go_ret
    exact ⟨rfl, rfl⟩
set_option maxRecDepth 100000 in
set_option maxHeartbeats 3200000 in
theorem LitEncodes_any (A : Option Addr) (l : List UInt8) (c : Nat) (cd : Bool) (w : World) (hlc : l.length ≤ c) (hcm : c ≤ maxLen) (hA : BS w A l) :
    Calls Try.prog 3 #[.slice A l.length c, .bool cd] w fun e w' => e = .returned (.bool true) ∧ Below w.heap.size w w' := by
  unfold maxLen at hcm
  have HW := Lib.hid lit_awake
  by_cases h200 : 300 < l.length
  · have h200' : (300 : Int) < (l.length : Int) := by omega
    clear hA
    go_enter Try.func3, Try.ntmps3
    go_wp2_with fail
    with_reducible refine (HW.out _).mono ?_
    rintro e w2 ⟨rfl, hf⟩
    have HF := Lib.hid hf
    clear hf
    go_wp2
    go_ret
    exact ⟨rfl, HF.out⟩
  · have h200' : ¬ (300 : Int) < (l.length : Int) := by omega
    have HE := Lib.hid (lit_encode A c l cd w (by omega) hA)
    have HZ : Hid (∀ W, Fresh w W → Calls Try.prog 12 #[.slice A l.length c, .bool cd] W fun e w' => e = .returned (.int .i64 (litN l cd : Int)) ∧ Fresh W w') := Lib.hid (fun W hf => lit_len A c l cd W (by omega) (hA.fresh hf))
    have HS : Hid (∀ W, Fresh w W → (convert 22 9 (.slice A l.length c)).run Try.prog W = .ok (.string (strB l)) W) := Lib.hid (fun W h =>
      run_str (P := Try.prog) (hA.fresh h) 22 9 5 Try.underlying22 Try.underlying5 Try.underlying9 c)
    have HRE : Hid (∀ P, IsLit l cd P → ∀ W, Calls Try.prog 10 #[.string (strB l), .int .i64 (if cd then 1 else 0)] W fun e w' => e = .returned (.string (strB P)) ∧ Fresh W w') := Lib.hid (fun P hP W => rf4_encode W l P cd hP (by omega))
    have HNU := Lib.hid (lit_number cd)
    have HLR : Hid (∀ P, IsLit l cd P → litR P (l.length : Int) = (l, litN l cd, 0)) := Lib.hid (fun P hP => by
      have := litR_lit hP (by omega) [] (l.length : Int)
      rw [List.append_nil, if_neg (by omega), hP.len] at this
      exact this)
    have hpl := (litN_le l cd (by omega)).2
    generalize (if cd = true then (1 : Int) else 0) = mk at *
    obtain ⟨SL, hSL⟩ : ∃ SL, strB l = SL := ⟨_, rfl⟩
    have HSL := Lib.hid hSL
    rw [hSL] at HS HRE
    obtain ⟨n, hn⟩ : ∃ n, l.length = n := ⟨_, rfl⟩
    have HN := Lib.hid hn
    simp only [hn] at HE HZ HS HLR h200 h200' hlc hpl ⊢
    obtain ⟨m, hm⟩ : ∃ m, litN l cd = m := ⟨_, rfl⟩
    have HM := Lib.hid hm
    rw [hm] at HZ HLR hpl
    clear hA hSL hn hm
    go_enter Try.func3, Try.ntmps3
    go_wp2_with fail
    with_reducible refine HE.out.mono ?_
    rintro e w1 ⟨P, A1, c1, rfl, hP, hown, hf1⟩
    have HB1 := Lib.hid hown.bytes.1
    have HF1 := Lib.hid hf1
    have hPl : P.length = m := hP.len.trans HM.out
    have HRE1 := Lib.hid (HRE.out P hP)
    have HD1 : Hid (∀ W, Fresh w1 W → Calls Try.prog 13 #[.slice A1 P.length c1, .int .i64 (n : Int)] W (LitDP P (n : Int) W)) := Lib.hid (fun W hf => lit_decode A1 c1 P (n : Int) W (by omega) (by obtain ⟨_, _, e, h1, _⟩ := hown.slice; cases e; exact h1) (by obtain ⟨_, _, e, h1, h2, _⟩ := hown.slice; cases e; exact h2) (HB1.out.fresh hf))
    have HLR1 := Lib.hid (HLR.out P hP)
    have HS1 : Hid (∀ W, Fresh w1 W → (convert 22 9 (.slice A1 P.length c1)).run Try.prog W = .ok (.string (strB P)) W) := Lib.hid (fun W h =>
      run_str (P := Try.prog) (HB1.out.fresh h) 22 9 5 Try.underlying22 Try.underlying5 Try.underlying9 c1)
    rw [hPl] at HD1 HS1 ⊢
    clear hown hf1 hP hPl HRE HLR HE
    generalize strB P = SP at *
    have HSK : Hid (∀ w', Fresh w1 w' → (convert 22 9 (.slice A1 m c1)).run Try.prog w' = .ok (.string SP) w' ∧ (convert 22 9 (.slice A n c)).run Try.prog w' = .ok (.string SL) w' ∧ Fresh w1 w') := Lib.hid (fun w' hw => ⟨HS1.out _ hw, HS.out _ (HF1.out.trans hw), hw⟩)
    have e4 : (SP.toList == SP.toList) = true := beq_self_eq_true _
    have e5 : (SL.toList == SL.toList) = true := beq_self_eq_true _
    go_upto_region 4 with fail
    refine wp_region_held_drew (S := (fun w' => (convert 22 9 (.slice A1 m c1)).run Try.prog w' = .ok (.string SP) w' ∧ (convert 22 9 (.slice A n c)).run Try.prog w' = .ok (.string SL) w' ∧ Fresh w1 w')) (by kernel_rfl) (HSK.out _ (Fresh.drew _)) (fun hHeld => ?_)
    refine wpAnyH_take (i := 0) (v := ?_) rfl (by kernel_rfl) (by kernel_rfl) (by kernel_rfl) (fun _ _ _ h => h) (Or.inl ⟨by rfl, ?_⟩) (by assumption) ?_; rotate_left; focus (intro w hSw; (try dsimp only at hSw); go_simp; (try with_reducible rfl); done)
    (try simp only [Act.put, List.getElem_toArray, List.getElem_cons_zero, List.getElem_cons_succ, List.setIfInBounds_toArray, List.set_cons_zero, List.set_cons_succ])
    refine wpAnyH_take (i := 1) (v := ?_) rfl (by kernel_rfl) (by kernel_rfl) (by kernel_rfl) (fun _ _ _ h => h) (Or.inl ⟨by rfl, ?_⟩) (by assumption) ?_; rotate_left; focus (intro w hSw; (try dsimp only at hSw); go_simp; (try with_reducible rfl); done)
    (try simp only [Act.put, List.getElem_toArray, List.getElem_cons_zero, List.getElem_cons_succ, List.setIfInBounds_toArray, List.set_cons_zero, List.set_cons_succ])
    refine wpAnyH_take (i := 2) (v := ?_) rfl (by kernel_rfl) (by kernel_rfl) (by kernel_rfl) (fun _ _ _ h => h) (Or.inl ⟨by rfl, ?_⟩) (by assumption) ?_; rotate_left; focus (intro w hSw; (try dsimp only at hSw); go_simp; (try with_reducible rfl); done)
    (try simp only [Act.put, List.getElem_toArray, List.getElem_cons_zero, List.getElem_cons_succ, List.setIfInBounds_toArray, List.set_cons_zero, List.set_cons_succ])
    refine wpAnyH_take (i := 3) (v := ?_) rfl (by kernel_rfl) (by kernel_rfl) (by kernel_rfl) (fun _ _ _ h => h) (Or.inl ⟨by rfl, ?_⟩) (by assumption) ?_; rotate_left; focus (intro w hSw; (try dsimp only at hSw); go_simp; (try with_reducible rfl); done)
    (try simp only [Act.put, List.getElem_toArray, List.getElem_cons_zero, List.getElem_cons_succ, List.setIfInBounds_toArray, List.set_cons_zero, List.set_cons_succ])
    refine wpAnyH_take (i := 4) (v := ?_) rfl (by kernel_rfl) (by kernel_rfl) (by kernel_rfl) (fun _ _ _ h => h) (Or.inl ⟨by rfl, ?_⟩) (by assumption) ?_; rotate_left; focus (intro w hSw; (try dsimp only at hSw); go_simp; (try with_reducible rfl); done)
    (try simp only [Act.put, List.getElem_toArray, List.getElem_cons_zero, List.getElem_cons_succ, List.setIfInBounds_toArray, List.set_cons_zero, List.set_cons_succ])
    refine wpAnyH_take (i := 5) (v := ?_) rfl (by kernel_rfl) (by kernel_rfl) (by kernel_rfl) (fun _ _ _ h => h) (Or.inl ⟨by rfl, ?_⟩) (by assumption) ?_; rotate_left; focus (intro w hSw; (try dsimp only at hSw); go_simp; (try with_reducible rfl); done)
    (try simp only [Act.put, List.getElem_toArray, List.getElem_cons_zero, List.getElem_cons_succ, List.setIfInBounds_toArray, List.set_cons_zero, List.set_cons_succ])
    refine wpAnyH_take (i := 6) (v := ?_) rfl (by kernel_rfl) (by kernel_rfl) (by kernel_rfl) (fun _ _ _ h => h) (Or.inl ⟨by rfl, ?_⟩) (by assumption) ?_; rotate_left; focus (intro w hSw; (try dsimp only at hSw); go_simp; (try with_reducible rfl); done)
    (try simp only [Act.put, List.getElem_toArray, List.getElem_cons_zero, List.getElem_cons_succ, List.setIfInBounds_toArray, List.set_cons_zero, List.set_cons_succ])
    refine wpAnyH_take (i := 7) (v := ?_) rfl (by kernel_rfl) (by kernel_rfl) (by kernel_rfl) (fun _ _ _ h => h) (Or.inl ⟨by rfl, ?_⟩) (by assumption) ?_; rotate_left; focus (intro w hSw; (try dsimp only at hSw); go_simp; (try with_reducible rfl); done)
    (try simp only [Act.put, List.getElem_toArray, List.getElem_cons_zero, List.getElem_cons_succ, List.setIfInBounds_toArray, List.set_cons_zero, List.set_cons_succ])
    refine wpAnyH_ready (rs := [8]) (by kernel_rfl) (by simp) ?_
    refine AllReadyH.cons rfl (fun K hK => ?_) AllReadyH.nil
    (go_simp; go_at_call 11; (with_reducible refine (HNU.out _).mono ?_); rintro e w2 ⟨rfl, rfl⟩)
    refine hK.out _ _ hHeld (fun hHeld => ?_)
    clear hK K
    (try simp only [Act.put, List.getElem_toArray, List.getElem_cons_zero, List.getElem_cons_succ, List.setIfInBounds_toArray, List.set_cons_zero, List.set_cons_succ])
    refine wpAnyH_ready (rs := [9]) (by kernel_rfl) (by simp) ?_
    refine AllReadyH.cons rfl (fun K hK => ?_) AllReadyH.nil
    (go_simp; go_at_call 10; (with_reducible refine (HRE1.out _).mono ?_); rintro e w3 ⟨rfl, hf3⟩; have hg3 : Fresh w1 w3 := Fresh.trans (Fresh.drew _) hf3; clear hf3)
    refine hK.out _ _ (HSK.out _ hg3) (fun hHeld => ?_)
    clear hK K
    (try simp only [Act.put, List.getElem_toArray, List.getElem_cons_zero, List.getElem_cons_succ, List.setIfInBounds_toArray, List.set_cons_zero, List.set_cons_succ])
    refine wpAnyH_take (i := 10) (v := ?_) rfl (by kernel_rfl) (by kernel_rfl) (by kernel_rfl) (fun _ _ _ h => h) (Or.inl ⟨by rfl, ?_⟩) (by assumption) ?_; rotate_left; focus (intro w hSw; (try dsimp only at hSw); go_simp; (try with_reducible rfl); done)
    (try simp only [Act.put, List.getElem_toArray, List.getElem_cons_zero, List.getElem_cons_succ, List.setIfInBounds_toArray, List.set_cons_zero, List.set_cons_succ])
    refine wpAnyH_take (i := 11) (v := ?_) rfl (by kernel_rfl) (by kernel_rfl) (by kernel_rfl) (fun _ _ _ h => h) (Or.inl ⟨by rfl, ?_⟩) (by assumption) ?_; rotate_left; focus (intro w hSw; (try dsimp only at hSw); go_simp; (try with_reducible rfl); done)
    (try simp only [Act.put, List.getElem_toArray, List.getElem_cons_zero, List.getElem_cons_succ, List.setIfInBounds_toArray, List.set_cons_zero, List.set_cons_succ])
    refine wpAnyH_take (i := 12) (v := ?_) rfl (by kernel_rfl) (by kernel_rfl) (by kernel_rfl) (fun _ _ _ h => h) (Or.inl ⟨by rfl, ?_⟩) (by assumption) ?_; rotate_left; focus (intro w hSw; (try dsimp only at hSw); go_simp; (try with_reducible rfl); done)
    (try simp only [Act.put, List.getElem_toArray, List.getElem_cons_zero, List.getElem_cons_succ, List.setIfInBounds_toArray, List.set_cons_zero, List.set_cons_succ])
    refine wpAnyH_take (i := 13) (v := ?_) rfl (by kernel_rfl) (by kernel_rfl) (by kernel_rfl) (fun _ _ _ h => h) (Or.inl ⟨by rfl, ?_⟩) (by assumption) ?_; rotate_left; focus (intro w hSw; (try dsimp only at hSw); go_simp; (try with_reducible rfl); done)
    (try simp only [Act.put, List.getElem_toArray, List.getElem_cons_zero, List.getElem_cons_succ, List.setIfInBounds_toArray, List.set_cons_zero, List.set_cons_succ])
    refine wpAnyH_take (i := 14) (v := ?_) rfl (by kernel_rfl) (by kernel_rfl) (by kernel_rfl) (fun _ _ _ h => h) (Or.inl ⟨by rfl, ?_⟩) (by assumption) ?_; rotate_left; focus (intro w hSw; (try dsimp only at hSw); go_simp; (try with_reducible rfl); done)
    (try simp only [Act.put, List.getElem_toArray, List.getElem_cons_zero, List.getElem_cons_succ, List.setIfInBounds_toArray, List.set_cons_zero, List.set_cons_succ])
    refine wpAnyH_take (i := 16) (v := ?_) rfl (by kernel_rfl) (by kernel_rfl) (by kernel_rfl) (fun _ _ _ h => h) (Or.inl ⟨by rfl, ?_⟩) (by assumption) ?_; rotate_left; focus (intro w hSw; (try dsimp only at hSw); go_simp; (try with_reducible rfl); done)
    (try simp only [Act.put, List.getElem_toArray, List.getElem_cons_zero, List.getElem_cons_succ, List.setIfInBounds_toArray, List.set_cons_zero, List.set_cons_succ])
    refine wpAnyH_take (i := 17) (v := ?_) rfl (by kernel_rfl) (by kernel_rfl) (by kernel_rfl) (fun _ _ _ h => h) (Or.inl ⟨by rfl, ?_⟩) (by assumption) ?_; rotate_left; focus (intro w hSw; (try dsimp only at hSw); go_simp; (try with_reducible rfl); done)
    (try simp only [Act.put, List.getElem_toArray, List.getElem_cons_zero, List.getElem_cons_succ, List.setIfInBounds_toArray, List.set_cons_zero, List.set_cons_succ])
    refine wpAnyH_ready (rs := [15]) (by kernel_rfl) (by simp) ?_
    refine AllReadyH.cons rfl (fun K hK => ?_) AllReadyH.nil
    (go_simp; go_at_call 12; (with_reducible refine (HZ.out _ (HF1.out.trans hg3)).mono ?_); rintro e w4 ⟨rfl, hf4⟩; have hg4 : Fresh w1 w4 := Fresh.trans hg3 hf4; clear hf4)
    refine hK.out _ _ (HSK.out _ hg4) (fun hHeld => ?_)
    clear hK K
    (try simp only [Act.put, List.getElem_toArray, List.getElem_cons_zero, List.getElem_cons_succ, List.setIfInBounds_toArray, List.set_cons_zero, List.set_cons_succ])
    refine wpAnyH_take (i := 18) (v := ?_) rfl (by kernel_rfl) (by kernel_rfl) (by kernel_rfl) (fun _ _ _ h => h) (Or.inl ⟨by rfl, ?_⟩) (by assumption) ?_; rotate_left; focus (intro w hSw; (try dsimp only at hSw); go_simp; (try with_reducible rfl); done)
    (try simp only [Act.put, List.getElem_toArray, List.getElem_cons_zero, List.getElem_cons_succ, List.setIfInBounds_toArray, List.set_cons_zero, List.set_cons_succ])
    refine wpAnyH_take (i := 19) (v := ?_) rfl (by kernel_rfl) (by kernel_rfl) (by kernel_rfl) (fun _ _ _ h => h) (Or.inl ⟨by rfl, ?_⟩) (by assumption) ?_; rotate_left; focus (intro w hSw; (try dsimp only at hSw); go_simp; (try with_reducible rfl); done)
    (try simp only [Act.put, List.getElem_toArray, List.getElem_cons_zero, List.getElem_cons_succ, List.setIfInBounds_toArray, List.set_cons_zero, List.set_cons_succ])
    refine wpAnyH_done (by kernel_rfl) ?_ _
    go_wp2_with fail
    with_reducible refine (HD1.out _ hg4).mono ?_
    rintro e w5 ⟨A5, c5, rfl, hown5, hf5⟩
    rw [HLR1.out] at hown5 ⊢
    simp only at hown5 ⊢
    have hb5 := hown5.bytes.1
    have HF5 := Lib.hid (HF1.out.trans (hg4.trans hf5))
    have hcv5 := run_str (P := Try.prog) hb5 22 9 5 Try.underlying22 Try.underlying5 Try.underlying9 c5
    have hcv6 := HS.out w5 HF5.out
    rw [HSL.out, HN.out] at hcv5
    rw [HN.out, show ((0 : Nat) : Int) = 0 from rfl]
    clear hown5 hb5 hf5
    go_wp2_with fail
    with_reducible refine (HW.out _).mono ?_
    rintro e w9 ⟨rfl, hf9⟩
    have HF9 := Lib.hid (HF5.out.trans hf9)
    clear hf9
    go_wp2
    go_ret
    exact ⟨rfl, HF9.out⟩
set_option maxRecDepth 100000 in
set_option maxHeartbeats 3200000 in
theorem LitShort_any (A : Option Addr) (l : List UInt8) (c : Nat) (w : World) (hlc : l.length ≤ c) (hcm : c ≤ maxLen) (hA : BS w A l) :
    Calls Try.prog 4 #[.slice A l.length c] w fun e w' => e = .returned (.bool true) ∧ Below w.heap.size w w' := by
  unfold maxLen at hcm
  have HW := Lib.hid lit_awake
  by_cases h200 : 300 < l.length
  · have h200' : (300 : Int) < (l.length : Int) := by omega
    clear hA
    go_enter Try.func4, Try.ntmps4
    go_wp2_with fail
    with_reducible refine (HW.out _).mono ?_
    rintro e w2 ⟨rfl, hf⟩
    have HF := Lib.hid hf
    clear hf
    go_wp2
    go_ret
    exact ⟨rfl, HF.out⟩
  · have h200' : ¬ (300 : Int) < (l.length : Int) := by omega
    obtain ⟨P0, hP0⟩ := lit_ex l false
    obtain ⟨P1, hP1⟩ := lit_ex l true
    have HS : Hid (∀ W, Fresh w W → (convert 22 9 (.slice A l.length c)).run Try.prog W = .ok (.string (strB l)) W) := Lib.hid (fun W h =>
      run_str (P := Try.prog) (hA.fresh h) 22 9 5 Try.underlying22 Try.underlying5 Try.underlying9 c)
    have HR0 : Hid (∀ W, Calls Try.prog 10 #[.string (strB l), .int .i64 0] W fun e w' => e = .returned (.string (strB P0)) ∧ Fresh W w') := Lib.hid (fun W => rf4_encode W l P0 false hP0 (by omega))
    have HR1 : Hid (∀ W, Calls Try.prog 10 #[.string (strB l), .int .i64 1] W fun e w' => e = .returned (.string (strB P1)) ∧ Fresh W w') := Lib.hid (fun W => rf4_encode W l P1 true hP1 (by omega))
    have HSH : Hid (∀ W, Fresh w W → Calls Try.prog 14 #[.slice A l.length c] W (ShortP l W)) := Lib.hid (fun W hf => lit_short A c l W (by omega) (hA.fresh hf))
    have z0 : (strB P0).size = litN l false := by rw [strB_size, hP0.len]
    have z1 : (strB P1).size = litN l true := by rw [strB_size, hP1.len]
    have HSP : Hid (∀ W e W', Fresh w W → ShortP l W e W' → ∃ (A : Option Addr) (c n : Nat), e = .returned (.slice A n c) ∧ (convert 22 9 (.slice A n c)).run Try.prog W' = .ok (.string (if litN l true < litN l false then strB P1 else strB P0)) W' ∧ Fresh W W') := Lib.hid (fun W e W' hf h => by
      obtain ⟨P, A1, c1, he, hP, ho, hf2⟩ := h
      refine ⟨A1, c1, P.length, he, ?_, hf2⟩
      have hcv := run_str (P := Try.prog) ho.bytes.1 22 9 5 Try.underlying22 Try.underlying5 Try.underlying9 c1
      by_cases hlt : litN l true < litN l false
      · rw [decide_eq_true hlt] at hP
        rw [if_pos hlt, hP1.uniq hP]
        exact hcv
      · rw [decide_eq_false hlt] at hP
        rw [if_neg hlt, hP0.uniq hP]
        exact hcv)
    clear hP0 hP1 hA
    generalize litN l false = m0 at *
    generalize litN l true = m1 at *
    generalize strB P0 = S0 at *
    generalize strB P1 = S1 at *
    generalize strB l = SL at *
    have HSK : Hid (∀ w', Fresh w w' → (convert 22 9 (.slice A l.length c)).run Try.prog w' = .ok (.string SL) w' ∧ Fresh w w') := Lib.hid (fun w' hw => ⟨HS.out _ hw, hw⟩)
    have e4 : (S0.toList == S0.toList) = true := beq_self_eq_true _
    have e5 : (S1.toList == S1.toList) = true := beq_self_eq_true _
    generalize l.length = n at *
    go_enter Try.func4, Try.ntmps4
    go_upto_region 3 with fail
    refine wp_region_held_drew (S := (fun w' => (convert 22 9 (.slice A n c)).run Try.prog w' = .ok (.string SL) w' ∧ Fresh w w')) (by kernel_rfl) (HSK.out _ (Fresh.drew _)) (fun hHeld => ?_)
    refine wpAnyH_take (i := 0) (v := ?_) rfl (by kernel_rfl) (by kernel_rfl) (by kernel_rfl) (fun _ _ _ h => h) (Or.inl ⟨by rfl, ?_⟩) (by assumption) ?_; rotate_left; focus (intro w hSw; (try dsimp only at hSw); go_simp; (try with_reducible rfl); done)
    (try simp only [Act.put, List.getElem_toArray, List.getElem_cons_zero, List.getElem_cons_succ, List.setIfInBounds_toArray, List.set_cons_zero, List.set_cons_succ])
    refine wpAnyH_take (i := 1) (v := ?_) rfl (by kernel_rfl) (by kernel_rfl) (by kernel_rfl) (fun _ _ _ h => h) (Or.inl ⟨by rfl, ?_⟩) (by assumption) ?_; rotate_left; focus (intro w hSw; (try dsimp only at hSw); go_simp; (try with_reducible rfl); done)
    (try simp only [Act.put, List.getElem_toArray, List.getElem_cons_zero, List.getElem_cons_succ, List.setIfInBounds_toArray, List.set_cons_zero, List.set_cons_succ])
    refine wpAnyH_take (i := 3) (v := ?_) rfl (by kernel_rfl) (by kernel_rfl) (by kernel_rfl) (fun _ _ _ h => h) (Or.inl ⟨by rfl, ?_⟩) (by assumption) ?_; rotate_left; focus (intro w hSw; (try dsimp only at hSw); go_simp; (try with_reducible rfl); done)
    (try simp only [Act.put, List.getElem_toArray, List.getElem_cons_zero, List.getElem_cons_succ, List.setIfInBounds_toArray, List.set_cons_zero, List.set_cons_succ])
    refine wpAnyH_take (i := 4) (v := ?_) rfl (by kernel_rfl) (by kernel_rfl) (by kernel_rfl) (fun _ _ _ h => h) (Or.inl ⟨by rfl, ?_⟩) (by assumption) ?_; rotate_left; focus (intro w hSw; (try dsimp only at hSw); go_simp; (try with_reducible rfl); done)
    (try simp only [Act.put, List.getElem_toArray, List.getElem_cons_zero, List.getElem_cons_succ, List.setIfInBounds_toArray, List.set_cons_zero, List.set_cons_succ])
    refine wpAnyH_ready (rs := [2]) (by kernel_rfl) (by simp) ?_
    refine AllReadyH.cons rfl (fun K hK => ?_) AllReadyH.nil
    (go_simp; go_at_call 10; (with_reducible refine (HR0.out _).mono ?_); rintro e w3 ⟨rfl, hf3⟩; have hg3 : Fresh w w3 := Fresh.trans (Fresh.drew _) hf3; clear hf3)
    refine hK.out _ _ (HSK.out _ hg3) (fun hHeld => ?_)
    clear hK K
    (try simp only [Act.put, List.getElem_toArray, List.getElem_cons_zero, List.getElem_cons_succ, List.setIfInBounds_toArray, List.set_cons_zero, List.set_cons_succ])
    refine wpAnyH_ready (rs := [5]) (by kernel_rfl) (by simp) ?_
    refine AllReadyH.cons rfl (fun K hK => ?_) AllReadyH.nil
    (go_simp; go_at_call 10; (with_reducible refine (HR1.out _).mono ?_); rintro e w4 ⟨rfl, hf4⟩; have hg4 : Fresh w w4 := Fresh.trans hg3 hf4; clear hf4)
    refine hK.out _ _ (HSK.out _ hg4) (fun hHeld => ?_)
    clear hK K
    (try simp only [Act.put, List.getElem_toArray, List.getElem_cons_zero, List.getElem_cons_succ, List.setIfInBounds_toArray, List.set_cons_zero, List.set_cons_succ])
    refine wpAnyH_ready (rs := [6]) (by kernel_rfl) (by simp) ?_
    refine AllReadyH.cons rfl (fun K hK => ?_) AllReadyH.nil
    go_simp
    refine hK.out _ _ hHeld (fun hHeld => ?_)
    clear hK K
    (try simp only [Act.put, List.getElem_toArray, List.getElem_cons_zero, List.getElem_cons_succ, List.setIfInBounds_toArray, List.set_cons_zero, List.set_cons_succ])
    refine wpAnyH_ready (rs := [7]) (by kernel_rfl) (by simp) ?_
    refine AllReadyH.cons rfl (fun K hK => ?_) AllReadyH.nil
    go_simp
    refine hK.out _ _ hHeld (fun hHeld => ?_)
    clear hK K
    (try simp only [Act.put, List.getElem_toArray, List.getElem_cons_zero, List.getElem_cons_succ, List.setIfInBounds_toArray, List.set_cons_zero, List.set_cons_succ])
    refine wpAnyH_done (by kernel_rfl) ?_ _
    by_cases hlt : m1 < m0
    · have hlt' : (m1 : Int) < (m0 : Int) := by omega
      have HSQ := Lib.hid (fun e W' h => HSP.out w4 e W' hg4 h)
      rw [if_pos hlt] at HSQ
      go_wp2_with fail
      with_reducible refine (HSH.out _ hg4).mono ?_
      rintro e w5 he
      obtain ⟨A5, c5, n5, rfl, hcv5, hf5⟩ := HSQ.out _ _ he
      clear he
      go_wp2_with fail
      with_reducible refine (HW.out _).mono ?_
      rintro e w9 ⟨rfl, hf9⟩
      have HF9 := Lib.hid ((hg4.trans hf5).trans hf9)
      clear hf9
      go_wp2
      go_ret
      exact ⟨rfl, HF9.out⟩
    · have hlt' : ¬ (m1 : Int) < (m0 : Int) := by omega
      have HSQ := Lib.hid (fun e W' h => HSP.out w4 e W' hg4 h)
      rw [if_neg hlt] at HSQ
      go_wp2_with fail
      with_reducible refine (HSH.out _ hg4).mono ?_
      rintro e w5 he
      obtain ⟨A5, c5, n5, rfl, hcv5, hf5⟩ := HSQ.out _ _ he
      clear he
      go_wp2_with fail
      with_reducible refine (HW.out _).mono ?_
      rintro e w9 ⟨rfl, hf9⟩
      have HF9 := Lib.hid ((hg4.trans hf5).trans hf9)
      clear hf9
      go_wp2
      go_ret
      exact ⟨rfl, HF9.out⟩
set_option maxRecDepth 100000 in
set_option maxHeartbeats 3200000 in
theorem LitDecodes_any (A : Option Addr) (l : List UInt8) (c : Nat) (lim : Int) (w : World) (hlc : l.length ≤ c) (hcm : c ≤ maxLen) (hA : BS w A l) (hb : -9223372036854775808 ≤ lim ∧ lim ≤ 9223372036854775807) :
    Calls Try.prog 5 #[.slice A l.length c, .int .i64 lim] w fun e w' => e = .returned (.bool true) ∧ Below w.heap.size w w' := by
  have hcm2 := hcm
  unfold maxLen at hcm2
  have HW := Lib.hid lit_awake
  by_cases h200 : 80 < l.length
  · have h200' : (80 : Int) < (l.length : Int) := by omega
    clear hA
    go_enter Try.func5, Try.ntmps5
    go_wp2_with fail
    with_reducible refine (HW.out _).mono ?_
    rintro e w2 ⟨rfl, hf⟩
    have HF := Lib.hid hf
    clear hf
    go_wp2
    go_ret
    exact ⟨rfl, HF.out⟩
  · have h200' : ¬ (80 : Int) < (l.length : Int) := by omega
    have HD := Lib.hid (lit_decode A c l lim w (by omega) hlc hcm hA)
    have HR := Lib.hid (fun W => rf4_decode W l lim (by omega))
    have HS : Hid (∀ W, Fresh w W → (convert 22 9 (.slice A l.length c)).run Try.prog W = .ok (.string (strB l)) W) := Lib.hid (fun W h =>
      run_str (P := Try.prog) (hA.fresh h) 22 9 5 Try.underlying22 Try.underlying5 Try.underlying9 c)
    unfold Lit4P at HR
    have HDP : Hid (∀ e W, LitDP l lim w e W → ∃ (A : Option Addr) (c : Nat), e = .returned (.tuple #[.slice A (litR l lim).1.length c, .int .i64 ((litR l lim).2.1 : Int), .int .i64 ((litR l lim).2.2 : Int)]) ∧ BS W A (litR l lim).1 ∧ Fresh w W) := Lib.hid (fun e W h => by
      obtain ⟨A1, c1, he, ho, hf⟩ := h
      exact ⟨A1, c1, he, ho.bytes.1, hf⟩)
    generalize litR l lim = R at *
    obtain ⟨O, u, er⟩ := R
    simp only at HR HDP
    clear hA
    generalize strB l = SL at *
    generalize l.length = n at *
    have e1 : ((u : Int) == (u : Int)) = true := beq_self_eq_true _
    have e2 : ((er : Int) == (er : Int)) = true := beq_self_eq_true _
    go_enter Try.func5, Try.ntmps5
    go_wp2_with fail
    with_reducible refine HD.out.mono ?_
    rintro e w1 he
    obtain ⟨A1, c1, rfl, hb1, hf1⟩ := HDP.out _ _ he
    have HB1 := Lib.hid hb1
    have HF1 := Lib.hid hf1
    have hs1 := HS.out w1 hf1
    clear he hb1 hf1
    go_wp2_with fail
    with_reducible refine (HR.out _).mono ?_
    rintro e w2 ⟨rfl, hf2⟩
    have hcv := run_str (P := Try.prog) (HB1.out.fresh hf2) 22 9 5 Try.underlying22 Try.underlying5 Try.underlying9 c1
    have HF2 := Lib.hid (HF1.out.trans hf2)
    clear hf2 hs1 HD HDP HR
    obtain ⟨SO, hSO⟩ : ∃ SO, strB O = SO := ⟨_, rfl⟩
    rw [hSO] at hcv
    simp only [hSO]
    have e3 : (SO.toList == SO.toList) = true := beq_self_eq_true _
    generalize O.length = m at *
    go_wp2_with fail
    with_reducible refine (HW.out _).mono ?_
    rintro e w9 ⟨rfl, hf9⟩
    have HF9 := Lib.hid (HF2.out.trans hf9)
    clear hf9
    go_wp2
    go_ret
    exact ⟨rfl, HF9.out⟩
end Go.Proofs.Ytkdbndgkgpcmfaa
