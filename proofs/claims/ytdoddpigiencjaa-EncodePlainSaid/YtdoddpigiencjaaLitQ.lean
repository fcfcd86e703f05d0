/-
  Texts laid together: LitE LitF.
-/
import Derived.Test.YtdoddpigiencjaaLitP
import Derived.Test.YtdoddpigiencjaaOwn
import Derived.Test.YtdoddpigiencjaaMore
import Derived.Test.YtdoddpigiencjaaHufP4
import Derived.Test.YtdoddpigiencjaaPrefP
/-
  The document's answers for layer 4: bytes; that every text has a code.
-/
namespace Go.Proofs.Ytdoddpigiencjaa
set_option linter.unusedVariables false
set_option linter.unusedSimpArgs false
open Go.RowKit
theorem bits_ex : ∀ D : List Bool, ∃ v, v < 2 ^ D.length ∧ bitsOf v D.length = D
  | [] => ⟨0, by simp, rfl⟩
  | x :: r => by
    obtain ⟨u, hu, he⟩ := bits_ex r
    have hc := bitsOf_cat x.toNat u 1 r.length hu
    refine ⟨x.toNat * 2 ^ r.length + u, ?_, ?_⟩
    · rw [List.length_cons, Nat.pow_succ]
      cases x
      · simp; omega
      · simp; omega
    · rw [List.length_cons, Nat.add_comm r.length 1, hc, he]
      cases x <;> rfl
theorem byte_ex {D : List Bool} (h : D.length = 8) : ∃ c : UInt8, bb c = D := by
  obtain ⟨v, hv, he⟩ := bits_ex D
  rw [h] at hv he
  refine ⟨UInt8.ofNat v, ?_⟩
  unfold bb
  rw [show (UInt8.ofNat v).toNat = v by simp; omega]
  exact he
theorem bits_pack : ∀ (k : Nat) (D : List Bool), D.length = 8 * k → ∃ O, bitsL O = D
  | 0, D, h => ⟨[], by rw [List.length_eq_zero_iff.1 (by omega : D.length = 0)]; rfl⟩
  | k + 1, D, h => by
    obtain ⟨c, hc⟩ := byte_ex (D := D.take 8) (by rw [List.length_take]; omega)
    obtain ⟨O, hO⟩ := bits_pack k (D.drop 8) (by rw [List.length_drop]; omega)
    exact ⟨c :: O, by rw [bitsL_cons, hc, hO, List.take_append_drop]⟩
theorem enc_ex (l : List UInt8) : ∃ O, IsEnc l O := by
  obtain ⟨p, hp, h8, _⟩ := pads (szB l)
  obtain ⟨O, hO⟩ := bits_pack ((szB l + p) / 8) (encB l ++ ones p) (by rw [List.length_append, ones, List.length_replicate]; unfold szB at *; omega)
  exact ⟨O, p, hp, hO⟩
theorem lit_ex (l : List UInt8) (cd : Bool) : ∃ P, IsLit l cd P := by
  cases cd with
  | true =>
    obtain ⟨O, hO⟩ := enc_ex l
    exact ⟨_, O, hO, rfl⟩
  | false => exact ⟨_, l, rfl, rfl⟩
theorem bitsL_at {O : List UInt8} {k j : Nat} (hk : k < O.length) (hj : j < 8) (h : 8 * k + j < (bitsL O).length) : (bitsL O)[8 * k + j] = O[k].toNat.testBit (7 - j) := by
  have e : bitsL O = bitsL (O.take k) ++ (bb O[k] ++ bitsL (O.drop (k + 1))) := by
    rw [← bitsL_cons, ← bitsL_append, ← List.drop_eq_getElem_cons hk, List.take_append_drop]
  have hl : (bitsL (O.take k)).length = 8 * k := by rw [bitsL_length, List.length_take]; omega
  have hb := bb_length O[k]
  have h2 : 8 * k + j < (bitsL (O.take k) ++ (bb O[k] ++ bitsL (O.drop (k + 1)))).length := by rw [← e]; exact h
  have e2 : (bitsL O)[8 * k + j] = (bitsL (O.take k) ++ (bb O[k] ++ bitsL (O.drop (k + 1))))[8 * k + j] := by congr 1
  rw [e2, List.getElem_append_right (by omega), List.getElem_append_left (by omega)]
  rw [bb_get]
  congr 1
  omega
set_option maxRecDepth 100000 in
set_option maxHeartbeats 3200000 in
theorem rf_bytes (w : World) (O : List UInt8) (hl : O.length ≤ 10000000) : Calls Try.prog 66 #[.string (txB (bitsL O))] w fun e w' => e = .returned (.string (strB O)) ∧ Fresh w w' := by
  obtain ⟨n, hn⟩ : ∃ n, O.length = n := ⟨_, rfl⟩
  have HN := Lib.hid hn
  obtain ⟨S, hS⟩ : ∃ S, txB (bitsL O) = S := ⟨_, rfl⟩
  have hsl : S.size = 8 * n := by rw [← hS, txB_size, bitsL_length, hn]
  have HBIT : Hid (∀ (k j : Nat) (hk : k < O.length) (hj : j < 8) (h : 8 * k + j < S.size), S[8 * k + j] = chB (O[k].toNat.testBit (7 - j))) := Lib.hid (fun k j hk hj h => by
    subst hS
    rw [txB_get, bitsL_at hk hj])
  rw [hn] at hl
  rw [hS]
  clear hS hn
  go_enter Try.func66, Try.ntmps66
  go_wp2
  go_loopw [3, 4] (fun out i wr => ∃ k : Nat, k ≤ n ∧ i = .int .i64 (8 * (k : Int)) ∧ Own wr w.heap.size 5 1 out k ((O.take k).map byteV) ∧ Fresh w wr) (fun _ i _ => 8 * n - (intOf i).toNat)
  case atStart => exact ⟨0, by omega, rfl, Own.nil _ _ _ _, Fresh.refl _⟩
  case round =>
    obtain ⟨k, hk, rfl, hown, hf⟩ := hrel
    have HOWN := Lib.hid hown
    have HF := Lib.hid hf
    obtain ⟨A', cc, rfl, _, _, _⟩ := hown.slice
    clear hown hf
    by_cases hlt : k < n
    · have h1 : (8 * (k : Int) + 8) ≤ 8 * (n : Int) := by omega
      have hkO : k < O.length := by rw [HN.out]; exact hlt
      have HB2 : Hid (∀ (j : Nat) (hj : j < 8) (h : 8 * k + j < S.size), S[8 * k + j] = chB (O[k].toNat.testBit (7 - j))) := Lib.hid (fun j hj h => HBIT.out k j hkO hj h)
      have HTK : Hid ((O.take (k + 1)).map byteV = (O.take k).map byteV ++ [byteV O[k]]) := Lib.hid (by rw [List.take_succ_eq_append_getElem hkO, List.map_append]; rfl)
      generalize O[k] = x at *
      have hx := UInt8.toNat_lt x
      go_wp2
      go_loopw [5, 6] (fun cv j wr2 => wr = wr2 ∧ ∃ (j' q : Nat), j' ≤ 8 ∧ j = .int .i64 (j' : Int) ∧ x.toNat / 2 ^ (8 - j') = q ∧ cv = .int .i64 (q : Int)) (fun _ j _ => 8 - (intOf j).toNat)
      case atStart => exact ⟨rfl, 0, 0, by omega, rfl, by simp; omega, rfl⟩
      case round =>
        obtain ⟨rfl, j, q, hj, rfl, hq, rfl⟩ := hrel
        by_cases hj8 : j < 8
        · have h2 : (j : Int) < 8 := by omega
          obtain ⟨z, hz⟩ : ∃ z, 8 * k + j = z := ⟨_, rfl⟩
          have hzz : 8 * (k : Int) + (j : Int) = (z : Int) := by omega
          have hzS : z < S.size := by omega
          have h3 : (z : Int) < 8 * (n : Int) := by omega
          have h4 : (0 : Int) ≤ (z : Int) := by omega
          obtain ⟨t, ht⟩ : ∃ t, x.toNat.testBit (7 - j) = t := ⟨_, rfl⟩
          have hg : S[z] = chB t := by
            have := HB2.out j hj8 (by omega)
            rw [ht] at this
            subst hz
            exact this
          have HQ : Hid (x.toNat / 2 ^ (8 - (j + 1)) = q * 2 + (if t then 1 else 0)) := Lib.hid (by
            rw [Nat.testBit_eq_decide_div_mod_eq] at ht
            have e : 8 - j = (7 - j) + 1 := by omega
            rw [e, Nat.pow_succ, ← Nat.div_div_eq_div_mul] at hq
            rw [show 8 - (j + 1) = 7 - j by omega]
            generalize x.toNat / 2 ^ (7 - j) = y at *
            subst ht hq
            by_cases h : y % 2 = 1
            · simp [h]; omega
            · simp [h]; omega)
          have hq8 : q ≤ 255 := by rw [← hq]; have := Nat.div_le_self x.toNat (2 ^ (8 - j)); omega
          clear hq ht hz
          cases t
          · have hg2 : S[z] = 48 := hg
            clear hg
            go_wp2
            exact ⟨⟨trivial, j + 1, q * 2, by omega, rfl, HQ.out, by go_num⟩, by simp [intOf]; omega⟩
          · have hg2 : S[z] = 49 := hg
            clear hg
            go_wp2
            exact ⟨⟨trivial, j + 1, q * 2 + 1, by omega, rfl, HQ.out, by go_num⟩, by simp [intOf]; omega⟩
        · have h2 : ¬ (j : Int) < 8 := by omega
          obtain rfl : j = 8 := by omega
          simp only [Nat.sub_self, Nat.pow_zero, Nat.div_one] at hq
          obtain ⟨v', w', hap, ho', hb', hne, _⟩ := HOWN.out.push (P := Try.prog) Try.underlying29 u8_infoF rfl (by omega) 29 HF.out (Nat.le_refl _) #[byteV x] rfl (by intro u hu; simp at hu; subst hu; rfl) (by unfold maxLen; omega) (by omega)
          have HREL : Hid (Own w' w.heap.size 5 1 v' (k + 1) ((O.take (k + 1)).map byteV) ∧ Fresh w w') := Lib.hid ⟨by rw [HTK.out]; simpa using ho', hb'⟩
          unfold byteV at hap
          rw [hq] at hap
          have hq8 : q ≤ 255 := by omega
          clear hq ho' hb' hne
          go_wp2_with (at_builtin; refine wp_app rfl _ _ _ rfl hap rfl rfl rfl ?_)
          exact ⟨⟨k + 1, by omega, by go_num, HREL.out.1, HREL.out.2⟩, by simp [intOf]; omega⟩
    · have h1 : ¬ (8 * (k : Int) + 8) ≤ 8 * (n : Int) := by omega
      obtain rfl : k = n := by omega
      have hown := HOWN.out
      rw [List.take_of_length_le (by rw [HN.out]; exact Nat.le_refl _), ← HN.out] at hown
      have hcv := run_str (P := Try.prog) hown.bytes.1 29 9 5 Try.underlying29 Try.underlying5 Try.underlying9 cc
      rw [HN.out] at hcv
      clear hown
      go_wp2
      exact bodyPost_ret (v := .string (strB O)) (by simp [results, Try.f66, go_sem]) rfl ⟨rfl, HF.out⟩
end Go.Proofs.Ytdoddpigiencjaa

/-
  The document's answers for layer 4: Encode, Decode.
-/
namespace Go.Proofs.Ytdoddpigiencjaa
set_option linter.unusedVariables false
set_option linter.unusedSimpArgs false
open Go.RowKit
theorem mark_cast (cd : Bool) : (if cd then (1 : Int) else 0) = ((if cd then 1 else 0 : Nat) : Int) := by cases cd <;> rfl
set_option maxRecDepth 100000 in
set_option maxHeartbeats 3200000 in
theorem rf4_encode (w : World) (l P : List UInt8) (cd : Bool) (hP : IsLit l cd P) (hl : l.length ≤ 10000) : Calls Try.prog 49 #[.string (strB l), .int .i64 (if cd then 1 else 0)] w fun e w' => e = .returned (.string (strB P)) ∧ Fresh w w' := by
  obtain ⟨O, ho, rfl⟩ := hP
  have hpn := payN_le l cd
  have hol := pay_len ho
  have HE : Hid (∀ W, Calls Try.prog 28 #[.int .i64 (O.length : Int), .int .i64 7, .int .i64 (if cd then 1 else 0)] W fun e w' => e = .returned (.string (strB (encL O.length 7 (if cd then 1 else 0)))) ∧ Fresh W w') := Lib.hid (fun W => by
    rw [mark_cast]
    exact ref_enc O.length 7 (if cd then 1 else 0) W (by omega) (by omega) (by omega) (by cases cd <;> simp))
  have hx := encL_length O.length 7 (if cd then 1 else 0) (by omega)
  have hcat : strB (encL O.length 7 (if cd then 1 else 0)) ++ strB O = strB (encL O.length 7 (if cd then 1 else 0) ++ O) := strB_append _ _
  have hxs : (strB (encL O.length 7 (if cd then 1 else 0))).size ≤ 6 := by rw [strB_size]; omega
  have hos : (strB O).size = O.length := strB_size O
  have HCAT := Lib.hid hcat
  have hob : O.length ≤ 40000 := by omega
  clear hcat hol hpn hx
  cases cd with
  | true =>
    have HT : Hid (∀ W, Calls Try.prog 67 #[.string (strB l)] W fun e w' => e = .returned (.string (txB (bitsL O))) ∧ Fresh W w') := Lib.hid (fun W => rf_text_enc ho (by omega) W)
    have HB : Hid (∀ W, Calls Try.prog 66 #[.string (txB (bitsL O))] W fun e w' => e = .returned (.string (strB O)) ∧ Fresh W w') := Lib.hid (fun W => rf_bytes W O (by omega))
    simp only [if_true] at *
    clear ho
    generalize txB (bitsL O) = T at *
    generalize strB (encL O.length 7 1) = X at *
    generalize strB O = Y at *
    generalize O.length = n at *
    generalize strB l = SL at *
    have h9 : ¬ 9223372036854775807 < X.size + Y.size := by omega
    go_enter Try.func49, Try.ntmps49
    go_wp2_with first | (go_at_call 67; with_reducible refine (HT.out _).mono ?_; rintro e w1 ⟨rfl, hf1⟩) | (go_at_call 66; with_reducible refine (HB.out _).mono ?_; rintro e w2 ⟨rfl, hf2⟩) | (go_at_call 28; with_reducible refine (HE.out _).mono ?_; rintro e w3 ⟨rfl, hf3⟩)
    go_ret
    exact ⟨by rw [← HCAT.out]; rfl, (hf1.trans hf2).trans hf3⟩
  | false =>
    have h2 : O = l := ho
    subst h2
    simp only [Bool.false_eq_true, if_false] at *
    clear ho
    generalize strB (encL O.length 7 0) = X at *
    generalize strB O = Y at *
    generalize O.length = n at *
    have h9 : ¬ 9223372036854775807 < X.size + Y.size := by omega
    go_enter Try.func49, Try.ntmps49
    go_wp2_with (go_at_call 28; with_reducible refine (HE.out _).mono ?_; rintro e w3 ⟨rfl, hf3⟩)
    go_ret
    exact ⟨by rw [← HCAT.out]; rfl, hf3⟩
theorem strB_cut (l : List UInt8) (a m : Nat) (h : a + m ≤ l.length) : (strB l).extract a (a + m) = strB ((l.drop a).take m) := by
  apply ByteArray.ext
  apply Array.ext'
  simp only [ByteArray.data_extract, Array.toList_extract, strB_data, List.extract_eq_take_drop]
  congr 1
  omega
theorem textR_coded {b O : List UInt8} {er : Nat} (lim : Int) (hde : decE (bitsL b) = (er, O)) : textR b true lim = if er = 0 then (if lim < (O.length : Int) then (22, []) else (0, O)) else (er, []) := by
  unfold textR
  simp only [if_true, hde]
  by_cases h : er = 0
  · subst h; simp
  · simp [h]
def Lit4P (l : List UInt8) (lim : Int) (w : World) (e : Ending) (w' : World) : Prop := e = .returned (.tuple #[.string (strB (litR l lim).1), .int .i64 ((litR l lim).2.1 : Int), .int .i64 ((litR l lim).2.2 : Int)]) ∧ Fresh w w'
theorem Lit4P.mk {l : List UInt8} {lim : Int} {w w' : World} {O : List UInt8} {u er : Nat} (h : litR l lim = (O, u, er)) (hf : Fresh w w') : Lit4P l lim w (.returned (.tuple #[.string (strB O), .int .i64 (u : Int), .int .i64 (er : Int)])) w' := ⟨by rw [h], hf⟩
set_option maxRecDepth 100000 in
set_option maxHeartbeats 3200000 in
theorem rf4_decode (w : World) (l : List UInt8) (lim : Int) (hl : l.length ≤ 10000000) : Calls Try.prog 39 #[.string (strB l), .int .i64 lim] w (Lit4P l lim w) := by
  have HPD : Hid (Calls Try.prog 35 #[.string (strB l), .int .i64 7] w fun e w' => e = .returned (decV (decL l 7)) ∧ Fresh w w') := Lib.hid (ref_dec 7 l w (by omega) (by omega) (by omega))
  have hsz : (strB l).size = l.length := strB_size l
  rcases decL_cases l with h | h | ⟨N, u, h, hu1, hul, hN⟩
  · have HFIN : Hid (∀ W, Fresh w W → Lit4P l lim w (.returned (.tuple #[.string (strB []), .int .i64 0, .int .i64 22])) W) := Lib.hid (fun W hf => Lit4P.mk (er := 22) (u := 0) (by unfold litR; rw [h]; rfl) hf)
    rw [h] at HPD
    generalize Lit4P l lim w = LP at *
    generalize strB l = S at *
    clear h
    go_enter Try.func39, Try.ntmps39
    go_wp2_with fail
    with_reducible refine HPD.out.mono ?_
    rintro e w1 ⟨rfl, hf1⟩
    unfold decV
    go_wp2
    exact HFIN.out _ hf1
  · have HFIN : Hid (∀ W, Fresh w W → Lit4P l lim w (.returned (.tuple #[.string (strB []), .int .i64 0, .int .i64 16])) W) := Lib.hid (fun W hf => Lit4P.mk (er := 16) (u := 0) (by unfold litR; rw [h]; rfl) hf)
    rw [h] at HPD
    generalize Lit4P l lim w = LP at *
    generalize strB l = S at *
    clear h
    go_enter Try.func39, Try.ntmps39
    go_wp2_with fail
    with_reducible refine HPD.out.mono ?_
    rintro e w1 ⟨rfl, hf1⟩
    unfold decV
    go_wp2
    exact HFIN.out _ hf1
  · by_cases hsh : l.length < u + N
    · have HFIN : Hid (∀ W, Fresh w W → Lit4P l lim w (.returned (.tuple #[.string (strB []), .int .i64 0, .int .i64 16])) W) := Lib.hid (fun W hf => Lit4P.mk (er := 16) (u := 0) (by
        unfold litR
        rw [h]
        simp only
        rw [if_neg (by simp), if_pos (by omega)]) hf)
      rw [h] at HPD
      generalize Lit4P l lim w = LP at *
      generalize strB l = S at *
      clear h
      generalize l.length = n at *
      have h1 : (n : Int) < (u : Int) + (N : Int) := by omega
      go_enter Try.func39, Try.ntmps39
      go_wp2_with fail
      with_reducible refine HPD.out.mono ?_
      rintro e w1 ⟨rfl, hf1⟩
      unfold decV
      go_wp2
      exact HFIN.out _ hf1
    · have hl0 : 0 < l.length := by omega
      have hS0 : 0 < (strB l).size := by rw [hsz]; exact hl0
      obtain ⟨x, hx⟩ : ∃ x, l[0] = x := ⟨_, rfl⟩
      have hg : (strB l)[0] = x := hx
      have hh : l.headD 0 = x := by
        have := headD_app l [] hl0
        rw [List.append_nil] at this
        exact this.trans hx
      obtain ⟨cd, hcd⟩ : ∃ cd, decide (1 ≤ x.toNat / 128) = cd := ⟨_, rfl⟩
      obtain ⟨b, hb⟩ : ∃ b, (l.drop u).take N = b := ⟨_, rfl⟩
      have hbl : b.length = N := by rw [← hb, List.length_take, List.length_drop]; omega
      have hcut : (strB l).extract u (u + N) = strB b := by rw [strB_cut _ _ _ (by omega), hb]
      have hLR : litR l lim = if (textR b cd lim).1 = 0 then ((textR b cd lim).2, u + N, 0) else ([], 0, (textR b cd lim).1) := by
        unfold litR
        rw [h]
        simp only
        rw [if_neg (by simp), if_neg (by omega), hh, hcd]
        simp only [Int.toNat_natCast]
        rw [hb]
        rfl
      have HLR := Lib.hid hLR
      have HMK : Hid (∀ (O : List UInt8) (u2 er : Nat) (W : World), litR l lim = (O, u2, er) → Fresh w W → Lit4P l lim w (.returned (.tuple #[.string (strB O), .int .i64 (u2 : Int), .int .i64 (er : Int)])) W) := Lib.hid (fun _ _ _ _ h1 h2 => Lit4P.mk h1 h2)
      have HBI : Hid (∀ W, Calls Try.prog 61 #[.string (strB b)] W fun e w' => e = .returned (.string (txB (bitsL b))) ∧ Fresh W w') := Lib.hid (fun W => rf_bits W b (by omega))
      have HDE : Hid (∀ W, Calls Try.prog 60 #[.string (txB (bitsL b))] W fun e w' => e = .returned (.tuple #[.string (strB (decE (bitsL b)).2), .int .i64 ((decE (bitsL b)).1 : Int)]) ∧ Fresh W w') := Lib.hid (fun W => rf_decode W (bitsL b) (by rw [bitsL_length]; omega))
      have hbs : (strB b).size = N := by rw [strB_size, hbl]
      have hx8 := UInt8.toNat_lt x
      have HDL := Lib.hid (decE_cases (bitsL b))
      have e2 : ((u + N : Nat) : Int) = (u : Int) + (N : Int) := by omega
      rw [h] at HPD
      clear h hb hLR hh hx
      generalize Lit4P l lim w = LP at *
      generalize strB l = S at *
      generalize l.length = n at *
      have h1 : ¬ (n : Int) < (u : Int) + (N : Int) := by omega
      have h2 : (u : Int) ≤ (u : Int) + (N : Int) := by omega
      have h3 : (u : Int) + (N : Int) ≤ (n : Int) := by omega
      have h4 : ((u : Int) + (N : Int)).toNat = u + N := by omega
      have h5 : (0 : Int) ≤ (u : Int) := by omega
      cases cd with
      | true =>
        have hx1 : (128 : Int) ≤ (x.toNat : Int) := by have := of_decide_eq_true hcd; omega
        obtain ⟨er, O, hde⟩ : ∃ er O, decE (bitsL b) = (er, O) := ⟨_, _, rfl⟩
        have hR := textR_coded lim hde
        rw [hde] at HDE HDL
        have hOs : (strB O).size = O.length := strB_size O
        generalize strB b = SB at *
        generalize txB (bitsL b) = T at *
        clear hde
        by_cases h0 : er = 0
        · subst h0
          rw [if_pos rfl] at hR
          by_cases hlim : lim < (O.length : Int)
          · rw [if_pos hlim] at hR
            rw [hR] at HLR
            have HFIN := Lib.hid (fun W hf => HMK.out [] 0 22 W HLR.out hf)
            clear hR HMK HLR
            generalize strB O = SO at *
            generalize O.length = m at *
            go_enter Try.func39, Try.ntmps39
            go_wp2_with fail
            with_reducible refine HPD.out.mono ?_
            rintro e w1 ⟨rfl, hf1⟩
            unfold decV
            go_wp2_with first | (go_at_call 61; with_reducible refine (HBI.out _).mono ?_; rintro e w2 ⟨rfl, hf2⟩) | (go_at_call 60; with_reducible refine (HDE.out _).mono ?_; rintro e w3 ⟨rfl, hf3⟩)
            exact HFIN.out _ ((hf1.trans hf2).trans hf3)
          · rw [if_neg hlim] at hR
            rw [hR] at HLR
            have HFIN := Lib.hid (fun W hf => HMK.out O (u + N) 0 W HLR.out hf)
            rw [e2] at HFIN
            clear hR HMK HLR
            generalize strB O = SO at *
            generalize O.length = m at *
            go_enter Try.func39, Try.ntmps39
            go_wp2_with fail
            with_reducible refine HPD.out.mono ?_
            rintro e w1 ⟨rfl, hf1⟩
            unfold decV
            go_wp2_with first | (go_at_call 61; with_reducible refine (HBI.out _).mono ?_; rintro e w2 ⟨rfl, hf2⟩) | (go_at_call 60; with_reducible refine (HDE.out _).mono ?_; rintro e w3 ⟨rfl, hf3⟩)
            exact HFIN.out _ ((hf1.trans hf2).trans hf3)
        · rw [if_neg h0] at hR
          rw [hR] at HLR
          have HLR2 := Lib.hid (HLR.out.trans (if_neg h0))
          have HFIN := Lib.hid (fun W hf => HMK.out [] 0 er W HLR2.out hf)
          have h0' : ¬ (er : Int) = 0 := by omega
          have h0d : ((er : Int) != 0) = true := by simpa using h0'
          clear hR HMK HLR HLR2
          generalize strB O = SO at *
          generalize O.length = m at *
          go_enter Try.func39, Try.ntmps39
          go_wp2_with fail
          with_reducible refine HPD.out.mono ?_
          rintro e w1 ⟨rfl, hf1⟩
          unfold decV
          go_wp2_with first | (go_at_call 61; with_reducible refine (HBI.out _).mono ?_; rintro e w2 ⟨rfl, hf2⟩) | (go_at_call 60; with_reducible refine (HDE.out _).mono ?_; rintro e w3 ⟨rfl, hf3⟩)
          exact HFIN.out _ ((hf1.trans hf2).trans hf3)
      | false =>
        have hx1 : ¬ (128 : Int) ≤ (x.toNat : Int) := by have := of_decide_eq_false hcd; omega
        have hR : textR b false lim = if lim < (b.length : Int) then (22, []) else (0, b) := textR_ok (O := b) (cd := false) rfl
        rw [hbl] at hR
        by_cases hlim : lim < (N : Int)
        · rw [if_pos hlim] at hR
          rw [hR] at HLR
          have HFIN := Lib.hid (fun W hf => HMK.out [] 0 22 W HLR.out hf)
          clear hR HMK HLR
          generalize strB b = SB at *
          go_enter Try.func39, Try.ntmps39
          go_wp2_with fail
          with_reducible refine HPD.out.mono ?_
          rintro e w1 ⟨rfl, hf1⟩
          unfold decV
          go_wp2
          exact HFIN.out _ hf1
        · rw [if_neg hlim] at hR
          rw [hR] at HLR
          have HFIN := Lib.hid (fun W hf => HMK.out b (u + N) 0 W HLR.out hf)
          rw [e2] at HFIN
          clear hR HMK HLR
          generalize strB b = SB at *
          go_enter Try.func39, Try.ntmps39
          go_wp2_with fail
          with_reducible refine HPD.out.mono ?_
          rintro e w1 ⟨rfl, hf1⟩
          unfold decV
          go_wp2
          exact HFIN.out _ hf1
end Go.Proofs.Ytdoddpigiencjaa

