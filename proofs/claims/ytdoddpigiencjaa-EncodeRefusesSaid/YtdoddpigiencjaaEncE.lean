/-
  The document's answers for layer 8.
-/
import Derived.Test.YtdoddpigiencjaaEncD
namespace Go.Proofs.Ytdoddpigiencjaa
set_option linter.unusedVariables false
set_option linter.unusedSimpArgs false
open Go.RowKit
set_option maxRecDepth 100000 in
set_option maxHeartbeats 1600000 in
theorem rf8_short (l P : List UInt8) (w : World) (hP : IsShort l P) (hl : l.length ≤ 10000) : Calls Try.prog 30 #[.string (strB l)] w fun e w' => e = .returned (.string (strB P)) ∧ Fresh w w' := by
  obtain ⟨P0, hP0⟩ := lit_ex l false
  obtain ⟨P1, hP1⟩ := lit_ex l true
  have HR0 : Hid (∀ W, Calls Try.prog 49 #[.string (strB l), .int .i64 0] W fun e w' => e = .returned (.string (strB P0)) ∧ Fresh W w') := Lib.hid (fun W => rf4_encode W l P0 false hP0 hl)
  have HR1 : Hid (∀ W, Calls Try.prog 49 #[.string (strB l), .int .i64 1] W fun e w' => e = .returned (.string (strB P1)) ∧ Fresh W w') := Lib.hid (fun W => rf4_encode W l P1 true hP1 hl)
  have z0 : (strB P0).size = litN l false := by rw [strB_size, hP0.len]
  have z1 : (strB P1).size = litN l true := by rw [strB_size, hP1.len]
  have HSP : Hid (strB P = if litN l true < litN l false then strB P1 else strB P0) := Lib.hid (by
    unfold IsShort at hP
    by_cases hlt : litN l true < litN l false
    · rw [decide_eq_true hlt] at hP
      rw [if_pos hlt, hP1.uniq hP]
    · rw [decide_eq_false hlt] at hP
      rw [if_neg hlt, hP0.uniq hP])
  rw [HSP.out]
  clear hP0 hP1 HSP hP
  generalize litN l false = m0 at *
  generalize litN l true = m1 at *
  generalize strB P0 = S0 at *
  generalize strB P1 = S1 at *
  generalize strB l = SL at *
  by_cases hlt : m1 < m0
  · have hlt' : (m1 : Int) < (m0 : Int) := by omega
    rw [if_pos hlt]
    go_enter Try.func30, Try.ntmps30
    go_wp2_with (go_at_call 49; first | (with_reducible refine (HR0.out _).mono ?_; rintro e w1 ⟨rfl, hf1⟩) | (with_reducible refine (HR1.out _).mono ?_; rintro e w2 ⟨rfl, hf2⟩))
    go_ret
    exact ⟨rfl, hf1.trans hf2⟩
  · have hlt' : ¬ (m1 : Int) < (m0 : Int) := by omega
    rw [if_neg hlt]
    go_enter Try.func30, Try.ntmps30
    go_wp2_with (go_at_call 49; first | (with_reducible refine (HR0.out _).mono ?_; rintro e w1 ⟨rfl, hf1⟩) | (with_reducible refine (HR1.out _).mono ?_; rintro e w2 ⟨rfl, hf2⟩))
    go_ret
    exact ⟨rfl, hf1.trans hf2⟩
set_option maxRecDepth 100000 in
set_option maxHeartbeats 1600000 in
theorem rf8_name (nm : ByteArray) (w : World) : Calls Try.prog 29 #[.string nm] w fun e w' => (∃ z : Int, FstIx (prN nm) z ∧ e = .returned (.int .i64 z)) ∧ Fresh w w' := by
  have HE : Hid (∀ j : Nat, j < 61 → ∀ w, Calls Try.prog 47 #[.int .i64 ((j : Int) + 1)] w (EntP j w)) := Lib.hid (fun j hj w => st_entry j ((j : Int) + 1) w rfl hj)
  have ix0 := run_ix0
  go_enter Try.func29, Try.ntmps29
  go_wp2_with fail
  go_loopw [3] (fun i wr => ∃ (j : Nat), j ≤ 61 ∧ i = .int .i64 ((j : Int) + 1) ∧ (∀ i, i < j → prN nm (fldAt i) = false) ∧ Fresh w wr) (fun i _ => 62 - (intOf i).toNat)
  case atStart => exact ⟨0, by omega, rfl, fun i hi => by omega, Fresh.refl _⟩
  case round =>
    obtain ⟨j, hj, rfl, hn, hf⟩ := hrel
    have HF := Lib.hid hf
    have HNO := Lib.hid hn
    clear hf hn
    by_cases hlt : j < 61
    · have d0 : decide ((j : Int) + 1 ≤ 61) = true := decide_eq_true (by omega)
      have d0' : (j : Int) + 1 ≤ 61 := by omega
      have HEJ := Lib.hid (HE.out j hlt)
      obtain ⟨b, hb⟩ : ∃ b, prN nm (fldAt j) = b := ⟨_, rfl⟩
      have HB := Lib.hid hb
      have hbb : ((fldAt j).1.toList == nm.toList) = b := hb
      unfold EntP at HEJ
      generalize hfj : fldAt j = fj at hbb HEJ
      clear hb
      cases b
      · go_wp2_with fail
        with_reducible refine (HEJ.out _).mono ?_
        rintro e w2 ⟨rfl, hf2⟩
        have HF2 := Lib.hid (HF.out.trans hf2)
        clear hf2 hfj
        go_wp2_with fail
        go_roundw
        case rel => exact ⟨j + 1, by omega, by go_num, fun i hi => by
          by_cases e : i = j
          · subst e; exact HB.out
          · exact HNO.out i (by omega), HF2.out⟩
        case measure => simp [intOf]; omega
      · go_wp2_with fail
        with_reducible refine (HEJ.out _).mono ?_
        rintro e w2 ⟨rfl, hf2⟩
        have HF2 := Lib.hid (HF.out.trans hf2)
        clear hf2 hfj
        go_wp2_with fail
        exact bodyPost_ret (v := .int .i64 ((j : Int) + 1)) (by simp [results, Try.f29, go_sem]) rfl ⟨⟨_, .inr ⟨j, hlt, rfl, HB.out, HNO.out⟩, rfl⟩, HF2.out⟩
    · have d0 : decide ((j : Int) + 1 ≤ 61) = false := decide_eq_false (by omega)
      have d0' : ¬ (j : Int) + 1 ≤ 61 := by omega
      go_wp2_with fail
      exact bodyPost_ret (v := .int .i64 0) (by simp [results, Try.f29, go_sem]) rfl ⟨⟨_, .inl ⟨rfl, fun i hi => HNO.out i (by omega)⟩, rfl⟩, HF.out⟩
set_option maxRecDepth 100000 in
set_option maxHeartbeats 3200000 in
theorem rf8_line (x : Ln) (L : List UInt8) (w : World) (hL : IsLine x L) (hn : x.n.length ≤ 10000) (hv : x.v.length ≤ 10000) :
    Calls Try.prog 11 #[.string (strB x.n), .string (strB x.v), .int .i64 (if x.nv then 1 else 0)] w fun e w' => e = .returned (.string (strB L)) ∧ Fresh w w' := by
  obtain ⟨n, v, nv⟩ := x
  simp only at hn hv ⊢
  have HFD := Lib.hid (fun W => rf_find (strB n, strB v) W)
  have HNM := Lib.hid (fun W => rf8_name (strB n) W)
  have HS : Hid (∀ l P W, IsShort l P → l.length ≤ 10000 → Calls Try.prog 30 #[.string (strB l)] W fun e w' => e = .returned (.string (strB P)) ∧ Fresh W w') := Lib.hid (fun l P W h hl => rf8_short l P W h hl)
  have HE : Hid (∀ (i b m : Nat) W, i ≤ 61 → 1 ≤ b → b ≤ 8 → m < 2 ^ (8 - b) → Calls Try.prog 28 #[.int .i64 (i : Int), .int .i64 (b : Int), .int .i64 (m : Int)] W fun e w' => e = .returned (.string (strB (encL i b m))) ∧ Fresh W w') := Lib.hid (fun i b m W h1 h2 h3 h4 => ref_enc i b m W h2 h3 (by omega) h4)
  obtain ⟨z, ex, hz, hix, hl⟩ := hL
  have HIX := Lib.hid hix
  simp only at hl
  -- the form that is written out
  have HF : Hid (∀ (m : Nat), m < 2 → IsFormF n v m L → ∃ (i : Nat) (Pn Pv : List UInt8), i ≤ 61 ∧ FstIx (prN (strB n)) (i : Int) ∧ IsShort n Pn ∧ IsShort v Pv ∧ L = encL i 4 m ++ ((if i = 0 then Pn else []) ++ Pv)) := Lib.hid (fun m _ h => by
    obtain ⟨i, hi, hx, Pn, Pv, h1, h2, h3⟩ := h
    exact ⟨i, Pn, Pv, hi, hx, h1, h2, h3⟩)
  by_cases hyes : ex = true ∧ nv = false
  · obtain ⟨rfl, rfl⟩ := hyes
    have hl2 : L = encL z 7 1 := hl
    subst hl2
    have HE7 : Hid (∀ W, Calls Try.prog 28 #[.int .i64 (z : Int), .int .i64 7, .int .i64 1] W fun e w' => e = .returned (.string (strB (encL z 7 1))) ∧ Fresh W w') := Lib.hid (fun W => HE.out z 7 1 W hz (by omega) (by omega) (by omega))
    simp only [Bool.false_eq_true, if_false]
    clear HE HF HNM hl hix
    generalize strB (encL z 7 1) = R at *
    go_enter Try.func11, Try.ntmps11
    go_wp2_with fail
    with_reducible refine (HFD.out _).mono ?_
    rintro e w1 ⟨z2, ex2, rfl, hix2, hf1⟩
    obtain ⟨rfl, rfl⟩ := FdIx.uniq HIX.out hix2
    rw [if_pos rfl]
    clear hix2
    go_wp2_with (go_at_call 28; with_reducible refine (HE7.out _).mono ?_; rintro e w2 ⟨rfl, hf2⟩)
    go_ret
    exact ⟨rfl, hf1.trans hf2⟩
  · obtain ⟨m, hm⟩ : ∃ m : Nat, (if nv = true then 1 else 0) = m := ⟨_, rfl⟩
    have hm2 : m < 2 := by subst hm; cases nv <;> simp
    have hmi : (if nv = true then (1 : Int) else 0) = (m : Int) := by subst hm; cases nv <;> rfl
    have hform : IsFormF n v m L := by
      subst hm
      cases nv with
      | true => exact hl
      | false =>
        cases ex with
        | true => exact absurd ⟨rfl, rfl⟩ hyes
        | false => exact hl
    obtain ⟨i, Pn, Pv, hi, hxi, hPn, hPv, rfl⟩ := HF.out m hm2 hform
    have HXI := Lib.hid hxi
    have HE4 : Hid (∀ W, Calls Try.prog 28 #[.int .i64 (i : Int), .int .i64 4, .int .i64 (m : Int)] W fun e w' => e = .returned (.string (strB (encL i 4 m))) ∧ Fresh W w') := Lib.hid (fun W => HE.out i 4 m W hi (by omega) (by omega) (by omega))
    have HSN := Lib.hid (fun W => HS.out n Pn W hPn hn)
    have HSV := Lib.hid (fun W => HS.out v Pv W hPv hv)
    have e1 := (litN_le n (decide (litN n true < litN n false)) (by omega)).2
    have e2 := (litN_le v (decide (litN v true < litN v false)) (by omega)).2
    rw [← IsLit.len hPn] at e1
    rw [← IsLit.len hPv] at e2
    have e3 := encL_length i 4 m (by omega)
    have s1 : (strB Pn).size ≤ 41000 := by rw [strB_size]; omega
    have s2 : (strB Pv).size ≤ 41000 := by rw [strB_size]; omega
    have s3 : (strB (encL i 4 m)).size ≤ 6 := by rw [strB_size]; omega
    rw [hmi]
    have htest : ex = false ∨ m = 1 := by
      subst hm
      cases nv
      · cases ex
        · exact .inl rfl
        · exact absurd ⟨rfl, rfl⟩ hyes
      · exact .inr rfl
    clear HE HF HS hl hix hform hxi hPn hPv e1 e2 e3 hm hmi hyes
    by_cases hi0 : i = 0
    · subst hi0
      rw [if_pos rfl]
      have hcat1 : strB (encL 0 4 m) ++ strB Pn = strB (encL 0 4 m ++ Pn) := strB_append _ _
      have hcat2 : strB (encL 0 4 m ++ Pn) ++ strB Pv = strB (encL 0 4 m ++ (Pn ++ Pv)) := by rw [strB_append, List.append_assoc]
      have s4 : (strB (encL 0 4 m ++ Pn)).size ≤ 41006 := by rw [← hcat1, ByteArray.size_append]; omega
      have HC1 := Lib.hid hcat1
      have HC2 := Lib.hid hcat2
      clear hcat1 hcat2
      generalize strB (encL 0 4 m ++ (Pn ++ Pv)) = R2 at *
      generalize strB (encL 0 4 m ++ Pn) = R1 at *
      generalize strB (encL 0 4 m) = R0 at *
      generalize strB Pn = SP at *
      generalize strB Pv = SQ at *
      have q1 : ¬ 9223372036854775807 < R0.size + SP.size := by omega
      have q2 : ¬ 9223372036854775807 < R1.size + SQ.size := by omega
      have hap : ByteArray.append R0 SP = R1 := HC1.out
      go_enter Try.func11, Try.ntmps11
      go_wp2_with fail
      with_reducible refine (HFD.out _).mono ?_
      rintro e w1 ⟨z2, ex2, rfl, hix2, hf1⟩
      obtain ⟨rfl, rfl⟩ := FdIx.uniq HIX.out hix2
      clear hix2
      obtain ⟨exi, hexi⟩ : ∃ exi : Int, (if ex = true then (1 : Int) else 0) = exi := ⟨_, rfl⟩
      rw [hexi]
      have ht2 : exi = 0 ∨ (exi = 1 ∧ m = 1) := by
        rcases htest with h | h
        · left; rw [← hexi, h]; rfl
        · cases ex
          · left; rw [← hexi]; rfl
          · right; exact ⟨by rw [← hexi]; rfl, h⟩
      clear hexi htest
      rcases ht2 with rfl | ⟨rfl, rfl⟩
      all_goals
        try rw [show ((1 : Nat) : Int) = 1 from rfl] at HE4 ⊢
        go_wp2_with fail
        with_reducible refine (HNM.out _).mono ?_
        rintro e w2 ⟨⟨z3, hz3, rfl⟩, hf2⟩
        obtain rfl := FstIx.uniq hz3 HXI.out
        clear hz3
        rw [show ((0 : Nat) : Int) = 0 from rfl] at HE4 ⊢
        go_wp2_with first | (go_at_call 28; with_reducible refine (HE4.out _).mono ?_; rintro e w3 ⟨rfl, hf3⟩) | (go_at_call 30; first | (with_reducible refine (HSN.out _).mono ?_; rintro e w4 ⟨rfl, hf4⟩) | (with_reducible refine (HSV.out _).mono ?_; rintro e w5 ⟨rfl, hf5⟩))
        go_ret
        exact ⟨by rw [← HC2.out, ← HC1.out]; rfl, (((hf1.trans hf2).trans hf3).trans hf4).trans hf5⟩
    · rw [if_neg hi0, List.nil_append]
      have hcat1 : strB (encL i 4 m) ++ strB Pv = strB (encL i 4 m ++ Pv) := strB_append _ _
      have HC1 := Lib.hid hcat1
      clear hcat1
      generalize strB (encL i 4 m ++ Pv) = R1 at *
      generalize strB (encL i 4 m) = R0 at *
      generalize strB Pv = SQ at *
      have q1 : ¬ 9223372036854775807 < R0.size + SQ.size := by omega
      have hi0i : ¬ (i : Int) = 0 := by omega
      go_enter Try.func11, Try.ntmps11
      go_wp2_with fail
      with_reducible refine (HFD.out _).mono ?_
      rintro e w1 ⟨z2, ex2, rfl, hix2, hf1⟩
      obtain ⟨rfl, rfl⟩ := FdIx.uniq HIX.out hix2
      clear hix2
      obtain ⟨exi, hexi⟩ : ∃ exi : Int, (if ex = true then (1 : Int) else 0) = exi := ⟨_, rfl⟩
      rw [hexi]
      have ht2 : exi = 0 ∨ (exi = 1 ∧ m = 1) := by
        rcases htest with h | h
        · left; rw [← hexi, h]; rfl
        · cases ex
          · left; rw [← hexi]; rfl
          · right; exact ⟨by rw [← hexi]; rfl, h⟩
      clear hexi htest
      rcases ht2 with rfl | ⟨rfl, rfl⟩
      all_goals
        try rw [show ((1 : Nat) : Int) = 1 from rfl] at HE4 ⊢
        go_wp2_with fail
        with_reducible refine (HNM.out _).mono ?_
        rintro e w2 ⟨⟨z3, hz3, rfl⟩, hf2⟩
        obtain rfl := FstIx.uniq hz3 HXI.out
        clear hz3
        go_wp2_with first | (go_at_call 28; with_reducible refine (HE4.out _).mono ?_; rintro e w3 ⟨rfl, hf3⟩) | (go_at_call 30; (with_reducible refine (HSV.out _).mono ?_; rintro e w5 ⟨rfl, hf5⟩))
        go_ret
        exact ⟨by rw [← HC1.out]; rfl, ((hf1.trans hf2).trans hf3).trans hf5⟩
end Go.Proofs.Ytdoddpigiencjaa

