/-
  Package huff: Encode.
-/
import Derived.Test.YtkdbndgkgpcmfaaHuf6
import Derived.Laws.BitsAllLaws
namespace Go.Proofs.Ytkdbndgkgpcmfaa
set_option linter.unusedVariables false
set_option linter.unusedSimpArgs false
open Go.RowKit
attribute [local go_sem high] fold_lnA run_index_lnA
/-- So far k bytes' codes are told, but for the last W bits. -/
def EncR (w : World) (p : Nat) (l : List UInt8) (k most : Nat) (out bits waiting : Value) (wr : World) : Prop :=
  ∃ (O : List UInt8) (V W : Nat), bits = .int .u64 (V : Int) ∧ V < 2 ^ 64 ∧ waiting = .int .i64 (W : Int) ∧ W < most ∧ Own wr w.heap.size 5 1 out O.length (O.map byteV) ∧ bitsL O ++ bitsOf V W = encB (l.take k) ∧ Fresh w wr
theorem EncR.fresh {w : World} {p : Nat} {l : List UInt8} {k most : Nat} {out bits waiting : Value} {wr wr' : World} (h : EncR w p l k most out bits waiting wr) (hf : Fresh wr wr') : EncR w p l k most out bits waiting wr' := by
  obtain ⟨O, V, W, a, b, c, d, e, f, g⟩ := h
  exact ⟨O, V, W, a, b, c, d, e.fresh hf, f, g.trans hf⟩
theorem or_shift (V W y nu : Nat) (hy : y ≤ 30) (hW : W < 8) (hn : nu < 2 ^ y) :
    ∃ V2 : Nat, bits .or .u64 (IntKind.u64.wrap ((V : Int) * 2 ^ y)) (IntKind.u64.wrap (nu : Int)) = (V2 : Int) ∧ V2 < 2 ^ 64 ∧ bitsOf V2 (W + y) = bitsOf V W ++ bitsOf nu y := by
  have hn64 : nu < 2 ^ 64 := Nat.lt_of_lt_of_le hn (Nat.pow_le_pow_right (by omega) (by omega))
  have ha : V * 2 ^ y % 2 ^ 64 < 2 ^ 64 := Nat.mod_lt _ (by decide)
  refine ⟨(V * 2 ^ y % 2 ^ 64) ||| nu, ?_, Nat.or_lt_two_pow ha hn64, ?_⟩
  · have e1 : IntKind.u64.wrap ((V : Int) * 2 ^ y) = ((V * 2 ^ y % 2 ^ 64 : Nat) : Int) := by
      rw [IntKind.wrap_u64]
      simp
    have e2 : IntKind.u64.wrap (nu : Int) = (nu : Int) := by
      rw [IntKind.wrap_u64]
      have : (2 : Nat) ^ 64 = 18446744073709551616 := by decide
      omega
    rw [e1, e2, bits_or_u64_nat _ _ ha hn64]
  · apply List.ext_getElem
    · simp [bitsOf_length]
    · intro i h1 h2
      rw [bitsOf_length] at h1
      rw [bitsOf_get, Nat.testBit_or, Nat.testBit_mod_two_pow, Nat.testBit_mul_two_pow]
      by_cases h : i < W
      · rw [List.getElem_append_left (by rw [bitsOf_length]; exact h), bitsOf_get]
        have hj : y ≤ W + y - 1 - i := by omega
        have h64 : W + y - 1 - i < 64 := by omega
        have hnu : nu.testBit (W + y - 1 - i) = false := Nat.testBit_lt_two_pow (Nat.lt_of_lt_of_le hn (Nat.pow_le_pow_right (by omega) hj))
        rw [hnu, show W + y - 1 - i - y = W - 1 - i by omega]
        simp [hj, h64]
      · rw [List.getElem_append_right (by rw [bitsOf_length]; omega), bitsOf_get, bitsOf_length]
        have hj : ¬ y ≤ W + y - 1 - i := by omega
        rw [show W + y - 1 - i = y - 1 - (i - W) by omega] at hj ⊢
        simp [hj]
theorem or_ones (V W q : Nat) (hq : W + q = 8) : ∃ c9 : UInt8, bits .or .u8 (IntKind.u8.wrap (IntKind.u64.wrap ((V : Int) * 2 ^ q))) (IntKind.u8.wrap (IntKind.u8.wrap (2 ^ q) - 1)) = (c9.toNat : Int) ∧ bb c9 = bitsOf V W ++ ones q ∨ q = 8 := by
  by_cases h8 : q = 8
  · exact ⟨0, .inr h8⟩
  have hq7 : q ≤ 7 := by omega
  have hp : 2 ^ q ≤ 2 ^ 7 := Nat.pow_le_pow_right (by omega) hq7
  have hp0 : 0 < 2 ^ q := Nat.pow_pos (by omega)
  have ha : V * 2 ^ q % 2 ^ 8 < 2 ^ 8 := Nat.mod_lt _ (by decide)
  have e1 : IntKind.u8.wrap (IntKind.u64.wrap ((V : Int) * 2 ^ q)) = ((V * 2 ^ q % 2 ^ 8 : Nat) : Int) := by
    rw [IntKind.wrap_u64, IntKind.wrap_u8]
    have : ((V : Int) * 2 ^ q) = ((V * 2 ^ q : Nat) : Int) := by simp
    rw [this]
    omega
  have e2 : IntKind.u8.wrap (IntKind.u8.wrap (2 ^ q) - 1) = ((2 ^ q - 1 : Nat) : Int) := by
    have : ((2 : Int) ^ q) = ((2 ^ q : Nat) : Int) := by simp
    rw [this, IntKind.wrap_u8, IntKind.wrap_u8]
    omega
  have hlt : V * 2 ^ q % 2 ^ 8 ||| (2 ^ q - 1) < 2 ^ 8 := Nat.or_lt_two_pow ha (by omega)
  refine ⟨UInt8.ofNat (V * 2 ^ q % 2 ^ 8 ||| (2 ^ q - 1)), .inl ⟨?_, ?_⟩⟩
  · rw [e1, e2, u8_or_nat _ _ (by omega) (by omega)]
    have : (UInt8.ofNat (V * 2 ^ q % 2 ^ 8 ||| (2 ^ q - 1))).toNat = (V * 2 ^ q % 2 ^ 8 ||| (2 ^ q - 1)) := by
      rw [UInt8.toNat_ofNat']
      exact Nat.mod_eq_of_lt hlt
    rw [this]
  · unfold bb
    rw [show (UInt8.ofNat (V * 2 ^ q % 2 ^ 8 ||| (2 ^ q - 1))).toNat = (V * 2 ^ q % 2 ^ 8 ||| (2 ^ q - 1)) by
      rw [UInt8.toNat_ofNat']
      exact Nat.mod_eq_of_lt hlt]
    apply List.ext_getElem
    · simp [bitsOf_length, ones]; omega
    · intro i h1 h2
      rw [bitsOf_length] at h1
      rw [bitsOf_get, Nat.testBit_or, Nat.testBit_mod_two_pow, Nat.testBit_mul_two_pow, Nat.testBit_two_pow_sub_one]
      by_cases h : i < W
      · rw [List.getElem_append_left (by rw [bitsOf_length]; exact h), bitsOf_get]
        have hj : q ≤ 8 - 1 - i := by omega
        have hj2 : ¬ 8 - 1 - i < q := by omega
        have hj3 : 8 - 1 - i < 8 := by omega
        rw [show 8 - 1 - i - q = W - 1 - i by omega]
        simp [hj, hj2, hj3]
      · rw [List.getElem_append_right (by rw [bitsOf_length]; omega)]
        have hj : ¬ q ≤ 8 - 1 - i := by omega
        have hj2 : 8 - 1 - i < q := by omega
        simp [hj, hj2, ones]
theorem emit (V w' : Nat) : bb (UInt8.ofNat (V / 2 ^ w')) ++ bitsOf V w' = bitsOf V (8 + w') := by
  unfold bb
  rw [bitsOf_append, show (UInt8.ofNat (V / 2 ^ w')).toNat = V / 2 ^ w' % 2 ^ 8 by simp, bitsOf_mod _ 8 8 (Nat.le_refl _)]
/-- The text of bytes, told in new memory. -/
def EncP (p : Nat) (l : List UInt8) (w : World) (e : Ending) (w' : World) : Prop :=
  ∃ (O : List UInt8) (A : Option Addr) (c : Nat), e = .returned (.slice A O.length c) ∧ IsEnc l O ∧ ∃ base, w.heap.size ≤ base ∧ Own w' base 5 1 (.slice A O.length c) O.length (O.map byteV) ∧ CodAt w' p (hdC 1 0 1) Cod.made ∧ Only (· = p) w w'
set_option maxRecDepth 100000 in
set_option maxHeartbeats 3200000 in
theorem hf_encode (p : Nat) (r : Bool) (A : Option Addr) (c : Nat) (l : List UInt8) (w : World) (h : CoderAt w p r) (hA : ∀ b o, A = some ⟨b, o, none⟩ → 0 < l.length → b ≠ p) (hB : BS w A l) (hl : l.length ≤ 100000000) :
    Calls Try.prog 31 #[.pointer (some ⟨p, 0, none⟩), .slice A l.length c] w (EncP p l w) := by
  have HR := Lib.hid (hf_ready p r w h)
  have H := Lib.hid hB
  have HSZ := Lib.hid (fun W (hb : BS W A l) => hf_size A c l W hb hl)
  obtain ⟨n, hn⟩ : ∃ n, l.length = n := ⟨_, rfl⟩
  have HN := Lib.hid hn
  have HA := Lib.hid hA
  have hsz := szB_le l
  rw [hn] at HSZ hl hsz ⊢
  obtain ⟨N, hN⟩ : ∃ N, (szB l + 7) / 8 = N := ⟨_, rfl⟩
  rw [hN] at HSZ
  have hNl : N ≤ 1000000000 := by omega
  have hmk := run_make0 (P := Try.prog) Try.underlying22 u8_infoH rfl N (by omega) (by omega)
  clear h hn hA hB
  go_enter Try.func31, Try.ntmps31
  go_wp2_with fail
  with_reducible refine HR.out.mono ?_
  rintro e w2 ⟨rfl, hc2, ho2⟩
  have HX := Lib.hid (And.intro hc2 ho2)
  have HB2 : Hid (BS w2 A l) := Lib.hid (fun hn => (H.out.only ho2 (fun b o e hb => HA.out b o e hn hb)) hn)
  clear hc2 ho2
  go_wp2_with fail
  with_reducible refine (HSZ.out _ HB2.out).mono ?_
  rintro e w3 ⟨rfl, rfl⟩
  go_upto_region 5 with fail
  refine wp_gen (fun W => EncR w2 p l 0 8 (.slice (some ⟨w2.heap.size, 0, none⟩) 0 N) (.int .u64 0) (.int .i64 0) W) ⟨[], 0, 0, rfl, by decide, rfl, by omega, Own.made w2 5 (.int .u8 0) N (by unfold maxLen; omega), rfl, Fresh.alloc _ _⟩ ?_
  intro W3 hr3
  have HR3 := Lib.hid hr3
  clear hr3 hmk
  go_wp2
  go_loopw [6, 7, 8, 19] (fun out bits waiting i wr => ∃ k : Nat, k ≤ n ∧ i = .int .i64 k ∧ EncR w2 p l k 8 out bits waiting wr) (fun _ _ _ i _ => n - (intOf i).toNat)
  case atStart => exact ⟨0, by omega, rfl, HR3.out⟩
  case round =>
    obtain ⟨k, hk, rfl, O, V, W, rfl, hV, rfl, hW, hown, hbits, hf⟩ := hrel
    by_cases hlt : k < n
    · have hlt' : (k : Int) < (n : Int) := by omega
      have hkl : k < l.length := by rw [HN.out]; exact hlt
      obtain ⟨b, o, rfl, hb, hc⟩ := (HB2.out.fresh hf) (by rw [HN.out]; omega)
      have hck := hc k hkl
      have hx := UInt8.toNat_lt l[k]
      have hx1 : (l[k].toNat : Int) ≤ 256 := by omega
      have hx0 : (0 : Int) ≤ (l[k].toNat : Int) := by omega
      have hx2 : (l[k].toNat : Int) < 257 := by omega
      have hL := lnI_eq (s := l[k].toNat) (by omega)
      have hln := (ln_ok (s := l[k].toNat) (by omega)).2.1
      have hnu := (sym (s := l[k].toNat) (by omega)).2.2.2.2.1
      have y1 : wr.cell? ⟨p, 4 + l[k].toNat, none⟩ = some (.int .u32 (numF l[k].toNat : Int)) := by
        have hcod := HX.out.1.fresh hf
        exact (hcod.cellL _).trans (Cod.get_num hcod.1 (by omega))
      have HTK : Hid (encB (l.take (k + 1)) = encB (l.take k) ++ bitsOf (numF l[k].toNat) (ln l[k].toNat)) := Lib.hid (by
        rw [List.take_succ_eq_append_getElem hkl, encB_append]
        simp [encB, codeB])
      unfold byteV at hck
      generalize l[k] = x at *
      generalize ln x.toNat = y at *
      generalize numF x.toNat = nu at *
      obtain ⟨V2, hV2, hV3, hV4⟩ := or_shift V W y nu hln hW hnu
      have e1 : IntKind.i64.wrap ((W : Int) + (y : Int)) = (W : Int) + (y : Int) := IntWalk.i64_in _ (by omega)
      have HIN : Hid (EncR w2 p l (k + 1) 38 u6 (.int .u64 (V2 : Int)) (.int .i64 ((W : Int) + (y : Int))) wr) := Lib.hid ⟨O, V2, W + y, rfl, hV3, by simp, by omega, hown, by rw [HTK.out, ← hbits, hV4, List.append_assoc], hf⟩
      clear hc hown hbits hf hV3 hV4 hV
      go_upto_region 8 with fail
      go_quiet (fail)
      clear y1 hV2
      have HIN2 := Lib.hid (HIN.out.fresh (Fresh.drewN wr nq))
      clear HIN
      go_wp2
      obtain ⟨w4, hw4⟩ : ∃ w4, wr.drewN nq = w4 := ⟨_, rfl⟩
      rw [hw4] at HIN2 ⊢
      clear hw4
      go_loopw [6, 8] (fun out waiting wv => EncR w2 p l (k + 1) 38 out (.int .u64 (V2 : Int)) waiting wv) (fun _ waiting _ => (intOf waiting).toNat)
      case atStart => exact HIN2.out
      case round =>
        obtain ⟨O, V', W', he, hV, rfl, hW', hown, hbits, hf⟩ := hrel
        simp at he
        obtain rfl : V2 = V' := by omega
        by_cases h8 : 8 ≤ W'
        · obtain ⟨v, rfl⟩ : ∃ v, W' = v + 8 := ⟨W' - 8, by omega⟩
          have h8' : (8 : Int) ≤ ((v + 8 : Nat) : Int) := by omega
          have e2 : IntKind.i64.wrap (((v + 8 : Nat) : Int) - 8) = (v : Int) := by rw [IntKind.wrap_i64]; omega
          have e3 : ((V2 : Int) / 2 ^ v % 256) = ((UInt8.ofNat (V2 / 2 ^ v)).toNat : Int) := by
            simp
          have hOl : O.length * 8 ≤ szB l := by
            have h1 := congrArg List.length hbits
            rw [List.length_append, bitsL_length, bitsOf_length] at h1
            have h2 : (encB (l.take (k + 1))).length ≤ szB l := by
              have := szB_append (l.take (k + 1)) (l.drop (k + 1))
              rw [List.take_append_drop] at this
              have h3 : (encB (l.take (k + 1))).length = szB (l.take (k + 1)) := rfl
              omega
            omega
          obtain ⟨A', cc, rfl, _, _, _⟩ := hown.slice
          obtain ⟨v', w', hap, ho', hb', hne, _⟩ := hown.push (P := Try.prog) Try.underlying22 u8_infoH rfl (by omega) 22 hf (Nat.le_refl _) #[byteV (UInt8.ofNat (V2 / 2 ^ v))] rfl (by intro u hu; simp at hu; subst hu; rfl) (by unfold maxLen; omega) (by omega)
          have HREL : Hid (EncR w2 p l (k + 1) 38 v' (.int .u64 (V2 : Int)) (.int .i64 (v : Int)) w') := Lib.hid ⟨O ++ [UInt8.ofNat (V2 / 2 ^ v)], V2, v, rfl, hV, rfl, by omega, by simpa using ho', by
            rw [← hbits, bitsL_append, List.append_assoc, show v + 8 = 8 + v by omega, ← emit]
            rfl, hb'⟩
          unfold byteV at hap
          generalize (UInt8.ofNat (V2 / 2 ^ v)).toNat = c2 at *
          clear hown hbits hf ho' hb' hne hOl
          go_upto_region 12 with fail
          go_wp2_with (at_builtin; refine wp_app rfl _ _ _ rfl hap rfl rfl rfl ?_)
          go_roundw
          case rel => exact HREL.out
          case measure => simp [intOf]; omega
        · have h8' : ¬ (8 : Int) ≤ (W' : Int) := by omega
          have HREL : Hid (EncR w2 p l (k + 1) 8 u6 (.int .u64 (V2 : Int)) (.int .i64 (W' : Int)) wr) := Lib.hid ⟨O, V2, W', rfl, hV, rfl, by omega, hown, hbits, hf⟩
          clear hown hbits hf
          go_wp2
          go_roundw
          case rel => exact ⟨k + 1, by omega, by go_num, HREL.out⟩
          case measure => simp [intOf]; omega
    · obtain rfl : k = n := by omega
      rw [List.take_of_length_le (by rw [HN.out]; exact Nat.le_refl _)] at hbits
      by_cases h0 : 0 < W
      · have h0' : (0 : Int) < (W : Int) := by omega
        obtain ⟨q, hq⟩ : ∃ q, W + q = 8 := ⟨8 - W, by omega⟩
        have e1 : IntKind.i64.wrap (8 - (W : Int)) = (q : Int) := by rw [IntKind.wrap_i64]; omega
        have e2 : (8 : Int) - (W : Int) = (q : Int) := by omega
        have i1 : (0 : Int) ≤ (q : Int) := by omega
        obtain ⟨A', cc, rfl, _, _, _⟩ := hown.slice
        obtain ⟨c9, hc9⟩ := or_ones V W q hq
        have hc9 := hc9.resolve_right (by omega)
        obtain ⟨hc9, hb9⟩ := hc9
        have hOl : O.length * 8 ≤ szB l := by
          have h1 := congrArg List.length hbits
          rw [List.length_append, bitsL_length, bitsOf_length] at h1
          have h3 : (encB l).length = szB l := rfl
          omega
        have hbk : Blk ((wr.alloc (.cells #[.int .u8 (c9.toNat : Int)] 5)).drew) wr.heap.size 5 (bytesA [c9]) := (Blk.new wr 5 (bytesA [c9])).drew
        obtain ⟨A9, cc9, w9, hap, ho9, hf9, _⟩ := Own.moreN (P := Try.prog) Try.underlying22 u8_infoH 22 (hown.fresh ((Fresh.alloc wr (.cells #[.int .u8 (c9.toNat : Int)] 5)).drewS)) (hf.trans ((Fresh.alloc wr (.cells #[.int .u8 (c9.toNat : Int)] 5)).drewS)) (Nat.le_refl _) (some ⟨wr.heap.size, 0, none⟩) 1 [c9] 1 (O.length + 1) rfl rfl (BS.row hbk) (by omega) (by omega)
        have HFIN : Hid (EncP p l w (.returned (.slice A9 (O.length + 1) cc9)) w9) := Lib.hid ⟨O ++ [c9], A9, cc9, by simp, ⟨q, by omega, by
          rw [bitsL_append, ← hbits, List.append_assoc]
          show bitsL O ++ (bb c9 ++ []) = _
          rw [hb9]; simp⟩, w2.heap.size, HX.out.2.size, by simpa using ho9, HX.out.1.fresh hf9, HX.out.2.trans (Only.of_fresh hf9)⟩
        clear hown hbits hf ho9 hf9 hb9 hOl hbk
        go_upto_region 16 with fail
        go_region_law (with_reducible refine step_app rfl (.tmp 56) (.tmp 65) _ rfl hap rfl (by simp [Act.eval, Act.put]) (by simp [Act.eval, Act.put]) ?_)
        all_goals
          clear hc9 hap
          go_wp2
          go_ret
          exact HFIN.out
      · obtain rfl : W = 0 := by omega
        obtain ⟨A', cc, rfl, _, _, _⟩ := hown.slice
        have HFIN : Hid (EncP p l w (.returned (.slice A' O.length cc)) wr) := Lib.hid ⟨O, A', cc, rfl, ⟨0, by omega, by rw [← hbits]; simp [bitsOf, ones]⟩, w2.heap.size, HX.out.2.size, hown, HX.out.1.fresh hf, HX.out.2.trans (Only.of_fresh hf)⟩
        clear hown hbits hf
        rw [show ((0 : Nat) : Int) = 0 from rfl]
        go_wp2
        go_ret
        exact HFIN.out
end Go.Proofs.Ytkdbndgkgpcmfaa
