/-
  Package huff: padding; Decode.
-/
import Derived.Test.YtkdbndgkgpcmfaaHuf8
namespace Go.Proofs.Ytkdbndgkgpcmfaa
set_option linter.unusedVariables false
set_option linter.unusedSimpArgs false
open Go.RowKit
theorem pad_byte (x r : Nat) (hr : r ≤ 7) : padOk (bitsOf x r) = ((x % 2 ^ r : Nat) == 2 ^ r - 1) := by
  have hp : 0 < 2 ^ r := Nat.pow_pos (by omega)
  have hm : x % 2 ^ r < 2 ^ r := Nat.mod_lt _ hp
  have key : padOk (bitsOf x r) = true ↔ x % 2 ^ r = 2 ^ r - 1 := by
    constructor
    · intro h
      have h1 := (padOk_ones h).1
      rw [bitsOf_length, ← ones_bits, ← bitsOf_mod x r r (Nat.le_refl _)] at h1
      exact bitsOf_inj hm (by omega) h1
    · intro h
      rw [← bitsOf_mod x r r (Nat.le_refl _), h, ones_bits]
      exact ones_pad hr
  cases hb : padOk (bitsOf x r) with
  | true => simp [key.1 hb]
  | false =>
    have : ¬ x % 2 ^ r = 2 ^ r - 1 := fun h => by rw [key.2 h] at hb; cases hb
    simp [this]
theorem padOk_long {D : List Bool} (h : 7 < D.length) : padOk D = false := by
  unfold padOk
  rw [decide_eq_false (by omega)]
  rfl
theorem last_bits (l : List UInt8) (x : UInt8) (r : Nat) (hr : r ≤ 8) : (bitsL (l ++ [x])).drop (8 * (l ++ [x]).length - r) = bitsOf x.toNat r := by
  have e : bb x = bitsOf (x.toNat / 2 ^ r) (8 - r) ++ bitsOf x.toNat r := by
    unfold bb
    rw [← bitsOf_append, show 8 - r + r = 8 by omega]
  rw [bitsL_append, show bitsL [x] = bb x from by simp [bitsL], e, ← List.append_assoc, List.drop_left']
  rw [List.length_append, bitsL_length, bitsOf_length, List.length_append]
  simp
  omega
set_option maxRecDepth 100000 in
set_option maxHeartbeats 1600000 in
theorem hf_padding (A : Option Addr) (c r : Nat) (l : List UInt8) (w : World) (hB : BS w A l) (hl : l.length ≤ 100000000) (hr : r ≤ 8 * l.length) :
    Calls Try.prog 46 #[.slice A l.length c, .int .i64 (r : Int)] w fun e w' => e = .returned (.bool (padOk ((bitsL l).drop (8 * l.length - r)))) ∧ w = w' := by
  have hlen : ((bitsL l).drop (8 * l.length - r)).length = r := by rw [List.length_drop, bitsL_length]; omega
  by_cases h0 : r = 0
  · subst h0
    have hp : padOk ((bitsL l).drop (8 * l.length - 0)) = true := by
      rw [show (bitsL l).drop (8 * l.length - 0) = [] from List.length_eq_zero_iff.1 hlen]; rfl
    rw [hp]
    clear hlen hB hp
    generalize l.length = n at *
    rw [show ((0 : Nat) : Int) = 0 from rfl]
    go_enter Try.func46, Try.ntmps46
    go_wp2
    go_ret
    exact ⟨rfl, rfl⟩
  by_cases h7 : 7 < r
  · have hp : padOk ((bitsL l).drop (8 * l.length - r)) = false := padOk_long (by omega)
    rw [hp]
    have e0 : ((r : Int) == 0) = false := by simp; omega
    have e1 : decide ((r : Int) ≤ 7) = false := by simp; omega
    have e2 : ¬ (r : Int) ≤ 7 := by omega
    have e3 : decide (r ≤ 7) = false := by simp; omega
    clear hlen hB hp
    generalize l.length = n at *
    go_enter Try.func46, Try.ntmps46
    go_wp2
    go_ret
    exact ⟨rfl, rfl⟩
  · have hlp : 0 < l.length := by omega
    obtain ⟨l', x, rfl⟩ : ∃ l' x, l = l' ++ [x] := ⟨l.dropLast, l.getLast (by intro h; subst h; simp at hlp), (List.dropLast_concat_getLast _).symm⟩
    rw [last_bits l' x r (by omega), pad_byte _ _ (by omega)]
    obtain ⟨b, o, rfl, hbl, hc⟩ := hB hlp
    have hck := hc l'.length (by simp)
    simp at hck
    unfold byteV at hck
    have hx := UInt8.toNat_lt x
    obtain ⟨m, hm⟩ : ∃ m, l'.length = m := ⟨_, rfl⟩
    rw [show (l' ++ [x]).length = m + 1 by simp [hm]] at *
    rw [hm] at hck
    have e0 : ((r : Int) == 0) = false := by simp; omega
    have e1 : (r : Int) ≤ 7 := by omega
    have e2 : (0 : Int) ≤ (r : Int) := by omega
    clear hc hB hlen
    go_enter Try.func46, Try.ntmps46
    have HE : Hid ((bits BinOp.and IntKind.u8 (x.toNat : Int) ((2 ^ r - 1) % 256) == (2 ^ r - 1) % 256) = ((x.toNat % 2 ^ r : Nat) == 2 ^ r - 1)) := Lib.hid (by
      have hp : 2 ^ r ≤ 2 ^ 7 := Nat.pow_le_pow_right (by omega) (by omega)
      have hp0 : 0 < 2 ^ r := Nat.pow_pos (by omega)
      have h1 : ((2 : Int) ^ r - 1) % 256 = ((2 ^ r - 1 : Nat) : Int) := by
        have : ((2 : Int) ^ r) = ((2 ^ r : Nat) : Int) := by simp
        rw [this]
        omega
      rw [h1, u8_and_nat _ _ hx (by omega), Nat.and_two_pow_sub_one_eq_mod]
      rw [Bool.eq_iff_iff]
      simp only [beq_iff_eq]
      omega)
    go_wp2
    go_ret
    exact ⟨ret_bool HE.out, rfl⟩
/-- What is told of a text: its bytes, or an error. -/
def DecP (D : List Bool) (p : Nat) (w : World) (e : Ending) (w' : World) : Prop :=
  ∃ (A : Option Addr) (c base : Nat), e = .returned (.tuple #[.slice A (decE D).2.length c, .int .i64 ((decE D).1 : Int)]) ∧ w.heap.size ≤ base ∧ Own w' base 5 1 (.slice A (decE D).2.length c) (decE D).2.length ((decE D).2.map byteV) ∧ CodAt w' p (hdC 1 0 1) Cod.made ∧ Only (· = p) w w'
/-- So far bytes O are told, of the first at bits. -/
def DecR (D : List Bool) (at_ : Nat) (O : List UInt8) : Prop := decS D.length D = (decS D.length (D.drop at_)).map fun x => (O ++ x.1, x.2)
theorem DecR.start (D : List Bool) : DecR D 0 [] := by
  unfold DecR
  cases h : decS D.length D with
  | none => simp [h]
  | some x => simp [h]
theorem DecR.step {D : List Bool} {at_ s : Nat} {O : List UInt8} (h : DecR D at_ O) (hs : nextS (D.drop at_) = some s) (h6 : s ≠ 256) : DecR D (at_ + ln s) (O ++ [UInt8.ofNat s]) := by
  unfold DecR at h ⊢
  have hp := (nextS_some.1 hs).2.length_le
  have hl := (ln_ok (nextS_some.1 hs).1).1
  rw [codeB_length, List.length_drop] at hp
  obtain ⟨f, hf⟩ : ∃ f, D.length = f + 1 := ⟨D.length - 1, by omega⟩
  rw [h]
  have e : decS D.length (D.drop at_) = (decS D.length (D.drop (at_ + ln s))).map fun x => (UInt8.ofNat s :: x.1, x.2) := by
    rw [hf]
    conv => lhs; rw [decS]
    rw [hs]
    simp only [if_neg h6, List.drop_drop]
    rw [decS_fuel f (f + 1) (D.drop (at_ + ln s)) (by simp; omega) (by simp; omega)]
  rw [e]
  cases decS D.length (D.drop (at_ + ln s)) with
  | none => rfl
  | some x => simp
theorem DecR.eos {D : List Bool} {at_ : Nat} {O : List UInt8} (h : DecR D at_ O) (hs : nextS (D.drop at_) = some 256) : decE D = (21, []) := by
  unfold DecR at h
  have hp := (nextS_some.1 hs).2.length_le
  have hl := (ln_ok (nextS_some.1 hs).1).1
  rw [codeB_length, List.length_drop] at hp
  obtain ⟨f, hf⟩ : ∃ f, D.length = f + 1 := ⟨D.length - 1, by omega⟩
  unfold decE
  rw [h, hf]
  rw [decS, hs]
  rfl
theorem DecR.fin {D : List Bool} {at_ : Nat} {O : List UInt8} (h : DecR D at_ O) (hs : nextS (D.drop at_) = none) : decE D = if padOk (D.drop at_) then (0, O) else (20, []) := by
  unfold DecR at h
  have e : decS D.length (D.drop at_) = some ([], D.drop at_) := by
    cases D.length with
    | zero => rfl
    | succ f => rw [decS, hs]
  unfold decE
  rw [h, e]
  simp
set_option maxRecDepth 100000 in
set_option maxHeartbeats 3200000 in
theorem hf_decode (p : Nat) (r : Bool) (A : Option Addr) (c : Nat) (l : List UInt8) (w : World) (h : CoderAt w p r) (hA : ∀ b o, A = some ⟨b, o, none⟩ → 0 < l.length → b ≠ p) (hB : BS w A l) (hl : l.length ≤ 100000000) :
    Calls Try.prog 40 #[.pointer (some ⟨p, 0, none⟩), .slice A l.length c] w (DecP (bitsL l) p w) := by
  have HR := Lib.hid (hf_ready p r w h)
  have H := Lib.hid hB
  obtain ⟨n, hn⟩ : ∃ n, l.length = n := ⟨_, rfl⟩
  have HN := Lib.hid hn
  have HNX := Lib.hid (fun W at0 (h : CodAt W p (hdC 1 0 1) Cod.made) (hb : BS W A l) (ha : at0 ≤ 8 * n) => hf_next p (hdC 1 0 1) A c at0 l W h hb hl (by rw [hn]; exact ha))
  have HPD := Lib.hid (fun W r (hb : BS W A l) (hr : r ≤ 8 * n) => hf_padding A c r l W hb hl (by rw [hn]; exact hr))
  obtain ⟨D, hD⟩ : ∃ D, bitsL l = D := ⟨_, rfl⟩
  have HDL : Hid (D.length = 8 * n) := Lib.hid (by rw [← hD, bitsL_length, hn])
  have HA := Lib.hid hA
  rw [hn] at HNX HPD hl ⊢
  rw [hD] at HNX HPD ⊢
  clear h hn hA hB hD
  go_enter Try.func40, Try.ntmps40
  go_wp2_with fail
  with_reducible refine HR.out.mono ?_
  rintro e w2 ⟨rfl, hc2, ho2⟩
  have HX := Lib.hid (And.intro hc2 ho2)
  have HB2 : Hid (BS w2 A l) := Lib.hid (fun hn => (H.out.only ho2 (fun b o e hb => HA.out b o e hn hb)) hn)
  clear hc2 ho2
  go_wp2_with fail
  go_loopw [7, 8] (fun out a wr => ∃ (O : List UInt8) (at_ : Nat), at_ ≤ 8 * n ∧ a = .int .i64 (at_ : Int) ∧ O.length * 5 ≤ at_ ∧ Own wr w2.heap.size 5 1 out O.length (O.map byteV) ∧ DecR D at_ O ∧ Fresh w2 wr) (fun _ a _ => 8 * n - (intOf a).toNat)
  case atStart => exact ⟨[], 0, by omega, rfl, by simp, Own.nil _ _ _ _, DecR.start D, Fresh.refl _⟩
  case round =>
    obtain ⟨O, at_, hat, rfl, hOl, hown, hdr, hf⟩ := hrel
    have HOWN := Lib.hid hown
    have HDR := Lib.hid hdr
    have HF := Lib.hid hf
    obtain ⟨A', cc, rfl, _, _, _⟩ := hown.slice
    clear hown hdr hf
    go_wp2_with fail
    with_reducible refine (HNX.out _ at_ (HX.out.1.fresh HF.out) (HB2.out.fresh HF.out) hat).mono ?_
    rintro e w3 ⟨he, hf3⟩
    have HF3 := Lib.hid (HF.out.trans hf3)
    have HO3 := Lib.hid (HOWN.out.fresh hf3)
    clear hf3
    cases hns : nextS (D.drop at_) with
    | none =>
      rw [hns] at he
      obtain rfl : e = .returned (.tuple #[.int .i64 0, .int .i64 0, .bool false]) := he
      have HFIN := Lib.hid (HDR.out.fin hns)
      have HP := Lib.hid (HPD.out w3 (8 * n - at_) (HB2.out.fresh HF3.out) (by omega))
      rw [show 8 * n - (8 * n - at_) = at_ by omega] at HP
      have e1 : ((8 * n - at_ : Nat) : Int) = 8 * (n : Int) - (at_ : Int) := by omega
      rw [e1] at HP
      have HEND : Hid (∀ (v : Value) (er : Nat) (O' : List UInt8), decE D = (er, O') → Own w3 w2.heap.size 5 1 v O'.length (O'.map byteV) → DecP D p w (.returned (.tuple #[v, .int .i64 (er : Int)])) w3) := Lib.hid (fun v er O' he ho => by
        obtain ⟨A2, c2, rfl, _⟩ := ho.slice
        exact ⟨A2, c2, w2.heap.size, by rw [he], HX.out.2.size, by rw [he]; exact ho, HX.out.1.fresh HF3.out, HX.out.2.trans (Only.of_fresh HF3.out)⟩)
      have i1 : IntKind.i64.wrap (8 * (n : Int)) = 8 * (n : Int) := IntWalk.i64_in _ (by omega)
      have i2 : IntKind.i64.wrap (8 * (n : Int) - (at_ : Int)) = 8 * (n : Int) - (at_ : Int) := IntWalk.i64_in _ (by omega)
      clear hns e1
      go_wp2_with fail
      with_reducible refine HP.out.mono ?_
      rintro e w4 ⟨rfl, rfl⟩
      cases hpo : padOk (D.drop at_) with
      | true =>
        have HFF : Hid (decE D = (0, O)) := Lib.hid (by rw [HFIN.out, hpo]; rfl)
        clear hpo i1 i2
        go_wp2
        go_ret2
        exact HEND.out _ 0 _ HFF.out HO3.out
      | false =>
        have HFF : Hid (decE D = (20, [])) := Lib.hid (by rw [HFIN.out, hpo]; rfl)
        clear hpo i1 i2
        go_wp2
        go_ret2
        exact HEND.out _ 20 _ HFF.out (Own.nil _ _ _ _)
    | some s =>
      rw [hns] at he
      obtain rfl : e = .returned (.tuple #[.int .i64 (s : Int), .int .i64 (ln s : Int), .bool true]) := he
      have HNS := Lib.hid hns
      have hs := (nextS_some.1 hns).1
      have hlb := (ln_ok hs)
      have hpl := (nextS_some.1 hns).2.length_le
      rw [codeB_length, List.length_drop, HDL.out] at hpl
      clear hns
      by_cases h6 : s = 256
      · subst h6
        have HFF : Hid (decE D = (21, [])) := Lib.hid (HDR.out.eos HNS.out)
        have HEND : Hid (DecP D p w (.returned (.tuple #[.slice none 0 0, .int .i64 21])) w3) := Lib.hid ⟨none, 0, w2.heap.size, by rw [HFF.out]; rfl, HX.out.2.size, by rw [HFF.out]; exact Own.nil _ _ _ _, HX.out.1.fresh HF3.out, HX.out.2.trans (Only.of_fresh HF3.out)⟩
        rw [show ((256 : Nat) : Int) = 256 from rfl]
        generalize ln 256 = y at *
        go_wp2
        go_ret2
        exact HEND.out
      · have e0 : ((s : Int) == 256) = false := by simp; omega
        have e1 : IntKind.u8.wrap (s : Int) = ((UInt8.ofNat s).toNat : Int) := by rw [IntKind.wrap_u8]; simp
        have e2 : (s : Int) % 256 = ((UInt8.ofNat s).toNat : Int) := by simp
        have hdr2 := HDR.out.step HNS.out h6
        obtain ⟨y, hy⟩ : ∃ y, ln s = y := ⟨_, rfl⟩
        rw [hy] at hdr2 hpl hlb ⊢
        have e3 : IntKind.i64.wrap ((at_ : Int) + (y : Int)) = (at_ : Int) + (y : Int) := IntWalk.i64_in _ (by omega)
        obtain ⟨v', w', hap, ho', hb', hne, _⟩ := HO3.out.push (P := Try.prog) Try.underlying22 u8_infoH rfl (by omega) 22 HF3.out (Nat.le_refl _) #[byteV (UInt8.ofNat s)] rfl (by intro u hu; simp at hu; subst hu; rfl) (by unfold maxLen; omega) (by omega)
        have HREL : Hid (at_ + y ≤ 8 * n ∧ (O ++ [UInt8.ofNat s]).length * 5 ≤ at_ + y ∧ Own w' w2.heap.size 5 1 v' (O ++ [UInt8.ofNat s]).length ((O ++ [UInt8.ofNat s]).map byteV) ∧ DecR D (at_ + y) (O ++ [UInt8.ofNat s]) ∧ Fresh w2 w') := Lib.hid ⟨by omega, by simp; omega, by simpa using ho', hdr2, hb'⟩
        have HO := Lib.hid hlb.1
        unfold byteV at hap
        generalize (UInt8.ofNat s).toNat = c2 at *
        clear hdr2 ho' hb' hne hy
        go_wp2_with (at_builtin; refine wp_app rfl _ _ _ rfl hap rfl rfl rfl ?_)
        go_roundw
        case rel => exact ⟨_, at_ + y, HREL.out.1, by go_num, HREL.out.2.1, HREL.out.2.2.1, HREL.out.2.2.2.1, HREL.out.2.2.2.2⟩
        case measure => have := HO.out; simp [intOf]; omega
end Go.Proofs.Ytkdbndgkgpcmfaa
