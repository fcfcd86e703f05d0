/-
  The document's answers for layer 4: Encode, Decode.
-/
import Derived.Test.YtkdbndgkgpcmfaaLitE
import Derived.Test.YtkdbndgkgpcmfaaHufO
import Derived.Test.YtkdbndgkgpcmfaaPrefixL
namespace Go.Proofs.Ytkdbndgkgpcmfaa
set_option linter.unusedVariables false
set_option linter.unusedSimpArgs false
open Go.RowKit
theorem mark_cast (cd : Bool) : (if cd then (1 : Int) else 0) = ((if cd then 1 else 0 : Nat) : Int) := by cases cd <;> rfl
set_option maxRecDepth 100000 in
set_option maxHeartbeats 3200000 in
theorem rf4_encode (w : World) (l P : List UInt8) (cd : Bool) (hP : IsLit l cd P) (hl : l.length ≤ 10000) : Calls Try.prog 10 #[.string (strB l), .int .i64 (if cd then 1 else 0)] w fun e w' => e = .returned (.string (strB P)) ∧ Fresh w w' := by
  obtain ⟨O, ho, rfl⟩ := hP
  have hpn := payN_le l cd
  have hol := pay_len ho
  have HE : Hid (∀ W, Calls Try.prog 20 #[.int .i64 (O.length : Int), .int .i64 7, .int .i64 (if cd then 1 else 0)] W fun e w' => e = .returned (.string (strB (encL O.length 7 (if cd then 1 else 0)))) ∧ Fresh W w') := Lib.hid (fun W => by
    rw [mark_cast]
    exact ref_enc O.length 7 (if cd then 1 else 0) W (by omega) (by omega) (by omega) (by cases cd <;> simp))
  have hx := encL_length O.length 7 (if cd then 1 else 0) (by omega)
  have hcat : strB (encL O.length 7 (if cd then 1 else 0)) ++ strB O = strB (encL O.length 7 (if cd then 1 else 0) ++ O) := strB_append _ _
  have hxs : (strB (encL O.length 7 (if cd then 1 else 0))).size ≤ 6 := by rw [strB_size]; omega
  have hos : (strB O).size = O.length := strB_size O
  have HCAT := Lib.hid hcat
  have hob : O.length ≤ 40000 := by omega
  clear hcat hol hpn hx
  cases cd with
  | true =>
    have HT : Hid (∀ W, Calls Try.prog 19 #[.string (strB l)] W fun e w' => e = .returned (.string (txB (bitsL O))) ∧ Fresh W w') := Lib.hid (fun W => rf_text_enc ho (by omega) W)
    have HB : Hid (∀ W, Calls Try.prog 18 #[.string (txB (bitsL O))] W fun e w' => e = .returned (.string (strB O)) ∧ Fresh W w') := Lib.hid (fun W => rf_bytes W O (by omega))
    simp only [if_true] at *
    clear ho
    generalize txB (bitsL O) = T at *
    generalize strB (encL O.length 7 1) = X at *
    generalize strB O = Y at *
    generalize O.length = n at *
    generalize strB l = SL at *
    have h9 : ¬ 9223372036854775807 < X.size + Y.size := by omega
    go_enter Try.func10, Try.ntmps10
    go_wp2_with first | (go_at_call 19; with_reducible refine (HT.out _).mono ?_; rintro e w1 ⟨rfl, hf1⟩) | (go_at_call 18; with_reducible refine (HB.out _).mono ?_; rintro e w2 ⟨rfl, hf2⟩) | (go_at_call 20; with_reducible refine (HE.out _).mono ?_; rintro e w3 ⟨rfl, hf3⟩)
    go_ret
    exact ⟨by rw [← HCAT.out]; rfl, (hf1.trans hf2).trans hf3⟩
  | false =>
    have h2 : O = l := ho
    subst h2
    simp only [Bool.false_eq_true, if_false] at *
    clear ho
    generalize strB (encL O.length 7 0) = X at *
    generalize strB O = Y at *
    generalize O.length = n at *
    have h9 : ¬ 9223372036854775807 < X.size + Y.size := by omega
    go_enter Try.func10, Try.ntmps10
    go_wp2_with (go_at_call 20; with_reducible refine (HE.out _).mono ?_; rintro e w3 ⟨rfl, hf3⟩)
    go_ret
    exact ⟨by rw [← HCAT.out]; rfl, hf3⟩
theorem strB_cut (l : List UInt8) (a m : Nat) (h : a + m ≤ l.length) : (strB l).extract a (a + m) = strB ((l.drop a).take m) := by
  apply ByteArray.ext
  apply Array.ext'
  simp only [ByteArray.data_extract, Array.toList_extract, strB_data, List.extract_eq_take_drop]
  congr 1
  omega
theorem textR_coded {b O : List UInt8} {er : Nat} (lim : Int) (hde : decE (bitsL b) = (er, O)) : textR b true lim = if er = 0 then (if lim < (O.length : Int) then (22, []) else (0, O)) else (er, []) := by
  unfold textR
  simp only [if_true, hde]
  by_cases h : er = 0
  · subst h; simp
  · simp [h]
def Lit4P (l : List UInt8) (lim : Int) (w : World) (e : Ending) (w' : World) : Prop := e = .returned (.tuple #[.string (strB (litR l lim).1), .int .i64 ((litR l lim).2.1 : Int), .int .i64 ((litR l lim).2.2 : Int)]) ∧ Fresh w w'
theorem Lit4P.mk {l : List UInt8} {lim : Int} {w w' : World} {O : List UInt8} {u er : Nat} (h : litR l lim = (O, u, er)) (hf : Fresh w w') : Lit4P l lim w (.returned (.tuple #[.string (strB O), .int .i64 (u : Int), .int .i64 (er : Int)])) w' := ⟨by rw [h], hf⟩
set_option maxRecDepth 100000 in
set_option maxHeartbeats 3200000 in
theorem rf4_decode (w : World) (l : List UInt8) (lim : Int) (hl : l.length ≤ 200) : Calls Try.prog 15 #[.string (strB l), .int .i64 lim] w (Lit4P l lim w) := by
  have HPD : Hid (Calls Try.prog 26 #[.string (strB l), .int .i64 7] w fun e w' => e = .returned (decV (decL l 7)) ∧ Fresh w w') := Lib.hid (ref_dec 7 l w (by omega) (by omega) hl)
  have hsz : (strB l).size = l.length := strB_size l
  rcases decL_cases l with h | h | ⟨N, u, h, hu1, hul, hN⟩
  · have HFIN : Hid (∀ W, Fresh w W → Lit4P l lim w (.returned (.tuple #[.string (strB []), .int .i64 0, .int .i64 22])) W) := Lib.hid (fun W hf => Lit4P.mk (er := 22) (u := 0) (by unfold litR; rw [h]; rfl) hf)
    rw [h] at HPD
    generalize Lit4P l lim w = LP at *
    generalize strB l = S at *
    clear h
    go_enter Try.func15, Try.ntmps15
    go_wp2_with fail
    with_reducible refine HPD.out.mono ?_
    rintro e w1 ⟨rfl, hf1⟩
    unfold decV
    go_wp2
    exact HFIN.out _ hf1
  · have HFIN : Hid (∀ W, Fresh w W → Lit4P l lim w (.returned (.tuple #[.string (strB []), .int .i64 0, .int .i64 16])) W) := Lib.hid (fun W hf => Lit4P.mk (er := 16) (u := 0) (by unfold litR; rw [h]; rfl) hf)
    rw [h] at HPD
    generalize Lit4P l lim w = LP at *
    generalize strB l = S at *
    clear h
    go_enter Try.func15, Try.ntmps15
    go_wp2_with fail
    with_reducible refine HPD.out.mono ?_
    rintro e w1 ⟨rfl, hf1⟩
    unfold decV
    go_wp2
    exact HFIN.out _ hf1
  · by_cases hsh : l.length < u + N
    · have HFIN : Hid (∀ W, Fresh w W → Lit4P l lim w (.returned (.tuple #[.string (strB []), .int .i64 0, .int .i64 16])) W) := Lib.hid (fun W hf => Lit4P.mk (er := 16) (u := 0) (by
        unfold litR
        rw [h]
        simp only
        rw [if_neg (by simp), if_pos (by omega)]) hf)
      rw [h] at HPD
      generalize Lit4P l lim w = LP at *
      generalize strB l = S at *
      clear h
      generalize l.length = n at *
      have h1 : (n : Int) < (u : Int) + (N : Int) := by omega
      go_enter Try.func15, Try.ntmps15
      go_wp2_with fail
      with_reducible refine HPD.out.mono ?_
      rintro e w1 ⟨rfl, hf1⟩
      unfold decV
      go_wp2
      exact HFIN.out _ hf1
    · have hl0 : 0 < l.length := by omega
      have hS0 : 0 < (strB l).size := by rw [hsz]; exact hl0
      obtain ⟨x, hx⟩ : ∃ x, l[0] = x := ⟨_, rfl⟩
      have hg : (strB l)[0] = x := hx
      have hh : l.headD 0 = x := by
        have := headD_app l [] hl0
        rw [List.append_nil] at this
        exact this.trans hx
      obtain ⟨cd, hcd⟩ : ∃ cd, decide (1 ≤ x.toNat / 128) = cd := ⟨_, rfl⟩
      obtain ⟨b, hb⟩ : ∃ b, (l.drop u).take N = b := ⟨_, rfl⟩
      have hbl : b.length = N := by rw [← hb, List.length_take, List.length_drop]; omega
      have hcut : (strB l).extract u (u + N) = strB b := by rw [strB_cut _ _ _ (by omega), hb]
      have hLR : litR l lim = if (textR b cd lim).1 = 0 then ((textR b cd lim).2, u + N, 0) else ([], 0, (textR b cd lim).1) := by
        unfold litR
        rw [h]
        simp only
        rw [if_neg (by simp), if_neg (by omega), hh, hcd]
        simp only [Int.toNat_natCast]
        rw [hb]
        rfl
      have HLR := Lib.hid hLR
      have HMK : Hid (∀ (O : List UInt8) (u2 er : Nat) (W : World), litR l lim = (O, u2, er) → Fresh w W → Lit4P l lim w (.returned (.tuple #[.string (strB O), .int .i64 (u2 : Int), .int .i64 (er : Int)])) W) := Lib.hid (fun _ _ _ _ h1 h2 => Lit4P.mk h1 h2)
      have HBI : Hid (∀ W, Calls Try.prog 28 #[.string (strB b)] W fun e w' => e = .returned (.string (txB (bitsL b))) ∧ Fresh W w') := Lib.hid (fun W => rf_bits W b (by omega))
      have HDE : Hid (∀ W, Calls Try.prog 27 #[.string (txB (bitsL b))] W fun e w' => e = .returned (.tuple #[.string (strB (decE (bitsL b)).2), .int .i64 ((decE (bitsL b)).1 : Int)]) ∧ Fresh W w') := Lib.hid (fun W => rf_decode W (bitsL b) (by rw [bitsL_length]; omega))
      have hbs : (strB b).size = N := by rw [strB_size, hbl]
      have hx8 := UInt8.toNat_lt x
      have HDL := Lib.hid (decE_cases (bitsL b))
      have e2 : ((u + N : Nat) : Int) = (u : Int) + (N : Int) := by omega
      rw [h] at HPD
      clear h hb hLR hh hx
      generalize Lit4P l lim w = LP at *
      generalize strB l = S at *
      generalize l.length = n at *
      have h1 : ¬ (n : Int) < (u : Int) + (N : Int) := by omega
      have h2 : (u : Int) ≤ (u : Int) + (N : Int) := by omega
      have h3 : (u : Int) + (N : Int) ≤ (n : Int) := by omega
      have h4 : ((u : Int) + (N : Int)).toNat = u + N := by omega
      have h5 : (0 : Int) ≤ (u : Int) := by omega
      cases cd with
      | true =>
        have hx1 : (128 : Int) ≤ (x.toNat : Int) := by have := of_decide_eq_true hcd; omega
        obtain ⟨er, O, hde⟩ : ∃ er O, decE (bitsL b) = (er, O) := ⟨_, _, rfl⟩
        have hR := textR_coded lim hde
        rw [hde] at HDE HDL
        have hOs : (strB O).size = O.length := strB_size O
        generalize strB b = SB at *
        generalize txB (bitsL b) = T at *
        clear hde
        by_cases h0 : er = 0
        · subst h0
          rw [if_pos rfl] at hR
          by_cases hlim : lim < (O.length : Int)
          · rw [if_pos hlim] at hR
            rw [hR] at HLR
            have HFIN := Lib.hid (fun W hf => HMK.out [] 0 22 W HLR.out hf)
            clear hR HMK HLR
            generalize strB O = SO at *
            generalize O.length = m at *
            go_enter Try.func15, Try.ntmps15
            go_wp2_with fail
            with_reducible refine HPD.out.mono ?_
            rintro e w1 ⟨rfl, hf1⟩
            unfold decV
            go_wp2_with first | (go_at_call 28; with_reducible refine (HBI.out _).mono ?_; rintro e w2 ⟨rfl, hf2⟩) | (go_at_call 27; with_reducible refine (HDE.out _).mono ?_; rintro e w3 ⟨rfl, hf3⟩)
            exact HFIN.out _ ((hf1.trans hf2).trans hf3)
          · rw [if_neg hlim] at hR
            rw [hR] at HLR
            have HFIN := Lib.hid (fun W hf => HMK.out O (u + N) 0 W HLR.out hf)
            rw [e2] at HFIN
            clear hR HMK HLR
            generalize strB O = SO at *
            generalize O.length = m at *
            go_enter Try.func15, Try.ntmps15
            go_wp2_with fail
            with_reducible refine HPD.out.mono ?_
            rintro e w1 ⟨rfl, hf1⟩
            unfold decV
            go_wp2_with first | (go_at_call 28; with_reducible refine (HBI.out _).mono ?_; rintro e w2 ⟨rfl, hf2⟩) | (go_at_call 27; with_reducible refine (HDE.out _).mono ?_; rintro e w3 ⟨rfl, hf3⟩)
            exact HFIN.out _ ((hf1.trans hf2).trans hf3)
        · rw [if_neg h0] at hR
          rw [hR] at HLR
          have HLR2 := Lib.hid (HLR.out.trans (if_neg h0))
          have HFIN := Lib.hid (fun W hf => HMK.out [] 0 er W HLR2.out hf)
          have h0' : ¬ (er : Int) = 0 := by omega
          have h0d : ((er : Int) != 0) = true := by simpa using h0'
          clear hR HMK HLR HLR2
          generalize strB O = SO at *
          generalize O.length = m at *
          go_enter Try.func15, Try.ntmps15
          go_wp2_with fail
          with_reducible refine HPD.out.mono ?_
          rintro e w1 ⟨rfl, hf1⟩
          unfold decV
          go_wp2_with first | (go_at_call 28; with_reducible refine (HBI.out _).mono ?_; rintro e w2 ⟨rfl, hf2⟩) | (go_at_call 27; with_reducible refine (HDE.out _).mono ?_; rintro e w3 ⟨rfl, hf3⟩)
          exact HFIN.out _ ((hf1.trans hf2).trans hf3)
      | false =>
        have hx1 : ¬ (128 : Int) ≤ (x.toNat : Int) := by have := of_decide_eq_false hcd; omega
        have hR : textR b false lim = if lim < (b.length : Int) then (22, []) else (0, b) := textR_ok (O := b) (cd := false) rfl
        rw [hbl] at hR
        by_cases hlim : lim < (N : Int)
        · rw [if_pos hlim] at hR
          rw [hR] at HLR
          have HFIN := Lib.hid (fun W hf => HMK.out [] 0 22 W HLR.out hf)
          clear hR HMK HLR
          generalize strB b = SB at *
          go_enter Try.func15, Try.ntmps15
          go_wp2_with fail
          with_reducible refine HPD.out.mono ?_
          rintro e w1 ⟨rfl, hf1⟩
          unfold decV
          go_wp2
          exact HFIN.out _ hf1
        · rw [if_neg hlim] at hR
          rw [hR] at HLR
          have HFIN := Lib.hid (fun W hf => HMK.out b (u + N) 0 W HLR.out hf)
          rw [e2] at HFIN
          clear hR HMK HLR
          generalize strB b = SB at *
          go_enter Try.func15, Try.ntmps15
          go_wp2_with fail
          with_reducible refine HPD.out.mono ?_
          rintro e w1 ⟨rfl, hf1⟩
          unfold decV
          go_wp2
          exact HFIN.out _ hf1
end Go.Proofs.Ytkdbndgkgpcmfaa
