/-
  Texts laid together: Huf9 HufH HufA HufO PrefixM.
-/
import Derived.Test.YtginhebfjbhmnaaGreatG21
import Derived.Test.YtginhebfjbhmnaaGreatG19
import Derived.Deep.QuietTactic
import Derived.BigQuiet
import Derived.Test.YtginhebfjbhmnaaGreatG00
/-
  Package huff: padding; Decode.
-/
namespace Go.Proofs.YtginhebfjbhmnaaGreat
set_option maxRecDepth 100000
set_option linter.unusedVariables false
set_option linter.unusedSimpArgs false
open Go.RowKit
theorem pad_byte (x r : Nat) (hr : r ≤ 7) : padOk (bitsOf x r) = ((x % 2 ^ r : Nat) == 2 ^ r - 1) := by
  have hp : 0 < 2 ^ r := Nat.pow_pos (by omega)
  have hm : x % 2 ^ r < 2 ^ r := Nat.mod_lt _ hp
  have key : padOk (bitsOf x r) = true ↔ x % 2 ^ r = 2 ^ r - 1 := by
    constructor
    · intro h
      have h1 := (padOk_ones h).1
      rw [bitsOf_length, ← ones_bits, ← bitsOf_mod x r r (Nat.le_refl _)] at h1
      exact bitsOf_inj hm (by omega) h1
    · intro h
      rw [← bitsOf_mod x r r (Nat.le_refl _), h, ones_bits]
      exact ones_pad hr
  cases hb : padOk (bitsOf x r) with
  | true => simp [key.1 hb]
  | false =>
    have : ¬ x % 2 ^ r = 2 ^ r - 1 := fun h => by rw [key.2 h] at hb; cases hb
    simp [this]
theorem padOk_long {D : List Bool} (h : 7 < D.length) : padOk D = false := by
  unfold padOk
  rw [decide_eq_false (by omega)]
  rfl
theorem last_bits (l : List UInt8) (x : UInt8) (r : Nat) (hr : r ≤ 8) : (bitsL (l ++ [x])).drop (8 * (l ++ [x]).length - r) = bitsOf x.toNat r := by
  have e : bb x = bitsOf (x.toNat / 2 ^ r) (8 - r) ++ bitsOf x.toNat r := by
    unfold bb
    rw [← bitsOf_append, show 8 - r + r = 8 by omega]
  rw [bitsL_append, show bitsL [x] = bb x from by simp [bitsL], e, ← List.append_assoc, List.drop_left']
  rw [List.length_append, bitsL_length, bitsOf_length, List.length_append]
  simp
  omega
set_option maxRecDepth 100000 in
set_option maxHeartbeats 1600000 in
theorem hf_padding (A : Option Addr) (c r : Nat) (l : List UInt8) (w : World) (hB : BS w A l) (hl : l.length ≤ 100000000) (hr : r ≤ 8 * l.length) :
    Calls Tryz.prog 103 #[.slice A l.length c, .int .i64 (r : Int)] w fun e w' => e = .returned (.bool (padOk ((bitsL l).drop (8 * l.length - r)))) ∧ w = w' := by
  have hlen : ((bitsL l).drop (8 * l.length - r)).length = r := by rw [List.length_drop, bitsL_length]; omega
  by_cases h0 : r = 0
  · subst h0
    have hp : padOk ((bitsL l).drop (8 * l.length - 0)) = true := by
      rw [show (bitsL l).drop (8 * l.length - 0) = [] from List.length_eq_zero_iff.1 hlen]; rfl
    rw [hp]
    clear hlen hB hp
    generalize l.length = n at *
    rw [show ((0 : Nat) : Int) = 0 from rfl]
    go_enter Tryz.func103, Tryz.ntmps103
    go_wp2
    go_ret
    exact ⟨rfl, rfl⟩
  by_cases h7 : 7 < r
  · have hp : padOk ((bitsL l).drop (8 * l.length - r)) = false := padOk_long (by omega)
    rw [hp]
    have e0 : ((r : Int) == 0) = false := by simp; omega
    have e1 : decide ((r : Int) ≤ 7) = false := by simp; omega
    have e2 : ¬ (r : Int) ≤ 7 := by omega
    have e3 : decide (r ≤ 7) = false := by simp; omega
    clear hlen hB hp
    generalize l.length = n at *
    go_enter Tryz.func103, Tryz.ntmps103
    go_wp2
    go_ret
    exact ⟨rfl, rfl⟩
  · have hlp : 0 < l.length := by omega
    obtain ⟨l', x, rfl⟩ : ∃ l' x, l = l' ++ [x] := ⟨l.dropLast, l.getLast (by intro h; subst h; simp at hlp), (List.dropLast_concat_getLast _).symm⟩
    rw [last_bits l' x r (by omega), pad_byte _ _ (by omega)]
    obtain ⟨b, o, rfl, hbl, hc⟩ := hB hlp
    have hck := hc l'.length (by simp)
    simp at hck
    unfold byteV at hck
    have hx := UInt8.toNat_lt x
    obtain ⟨m, hm⟩ : ∃ m, l'.length = m := ⟨_, rfl⟩
    rw [show (l' ++ [x]).length = m + 1 by simp [hm]] at *
    rw [hm] at hck
    have e0 : ((r : Int) == 0) = false := by simp; omega
    have e1 : (r : Int) ≤ 7 := by omega
    have e2 : (0 : Int) ≤ (r : Int) := by omega
    clear hc hB hlen
    go_enter Tryz.func103, Tryz.ntmps103
    have HE : Hid ((bits BinOp.and IntKind.u8 (x.toNat : Int) ((2 ^ r - 1) % 256) == (2 ^ r - 1) % 256) = ((x.toNat % 2 ^ r : Nat) == 2 ^ r - 1)) := Lib.hid (by
      have hp : 2 ^ r ≤ 2 ^ 7 := Nat.pow_le_pow_right (by omega) (by omega)
      have hp0 : 0 < 2 ^ r := Nat.pow_pos (by omega)
      have h1 : ((2 : Int) ^ r - 1) % 256 = ((2 ^ r - 1 : Nat) : Int) := by
        have : ((2 : Int) ^ r) = ((2 ^ r : Nat) : Int) := by simp
        rw [this]
        omega
      rw [h1, u8_and_nat _ _ hx (by omega), Nat.and_two_pow_sub_one_eq_mod]
      rw [Bool.eq_iff_iff]
      simp only [beq_iff_eq]
      omega)
    go_wp2
    go_ret
    exact ⟨ret_bool HE.out, rfl⟩
/-- What is told of a text: its bytes, or an error. -/
def DecP (D : List Bool) (p : Nat) (w : World) (e : Ending) (w' : World) : Prop :=
  ∃ (A : Option Addr) (c base : Nat), e = .returned (.tuple #[.slice A (decE D).2.length c, .int .i64 ((decE D).1 : Int)]) ∧ w.heap.size ≤ base ∧ Own w' base 5 1 (.slice A (decE D).2.length c) (decE D).2.length ((decE D).2.map byteV) ∧ CodAt w' p (hdC 1 0 1) Cod.made ∧ Only (· = p) w w'
/-- So far bytes O are told, of the first at bits. -/
def DecR (D : List Bool) (at_ : Nat) (O : List UInt8) : Prop := decS D.length D = (decS D.length (D.drop at_)).map fun x => (O ++ x.1, x.2)
theorem DecR.start (D : List Bool) : DecR D 0 [] := by
  unfold DecR
  cases h : decS D.length D with
  | none => simp [h]
  | some x => simp [h]
theorem DecR.step {D : List Bool} {at_ s : Nat} {O : List UInt8} (h : DecR D at_ O) (hs : nextS (D.drop at_) = some s) (h6 : s ≠ 256) : DecR D (at_ + ln s) (O ++ [UInt8.ofNat s]) := by
  unfold DecR at h ⊢
  have hp := (nextS_some.1 hs).2.length_le
  have hl := (ln_ok (nextS_some.1 hs).1).1
  rw [codeB_length, List.length_drop] at hp
  obtain ⟨f, hf⟩ : ∃ f, D.length = f + 1 := ⟨D.length - 1, by omega⟩
  rw [h]
  have e : decS D.length (D.drop at_) = (decS D.length (D.drop (at_ + ln s))).map fun x => (UInt8.ofNat s :: x.1, x.2) := by
    rw [hf]
    conv => lhs; rw [decS]
    rw [hs]
    simp only [if_neg h6, List.drop_drop]
    rw [decS_fuel f (f + 1) (D.drop (at_ + ln s)) (by simp; omega) (by simp; omega)]
  rw [e]
  cases decS D.length (D.drop (at_ + ln s)) with
  | none => rfl
  | some x => simp
theorem DecR.eos {D : List Bool} {at_ : Nat} {O : List UInt8} (h : DecR D at_ O) (hs : nextS (D.drop at_) = some 256) : decE D = (21, []) := by
  unfold DecR at h
  have hp := (nextS_some.1 hs).2.length_le
  have hl := (ln_ok (nextS_some.1 hs).1).1
  rw [codeB_length, List.length_drop] at hp
  obtain ⟨f, hf⟩ : ∃ f, D.length = f + 1 := ⟨D.length - 1, by omega⟩
  unfold decE
  rw [h, hf]
  rw [decS, hs]
  rfl
theorem DecR.fin {D : List Bool} {at_ : Nat} {O : List UInt8} (h : DecR D at_ O) (hs : nextS (D.drop at_) = none) : decE D = if padOk (D.drop at_) then (0, O) else (20, []) := by
  unfold DecR at h
  have e : decS D.length (D.drop at_) = some ([], D.drop at_) := by
    cases D.length with
    | zero => rfl
    | succ f => rw [decS, hs]
  unfold decE
  rw [h, e]
  simp
set_option maxRecDepth 100000 in
set_option maxHeartbeats 3200000 in
theorem hf_decode (p : Nat) (r : Bool) (A : Option Addr) (c : Nat) (l : List UInt8) (w : World) (h : CoderAt w p r) (hA : ∀ b o, A = some ⟨b, o, none⟩ → 0 < l.length → b ≠ p) (hB : BS w A l) (hl : l.length ≤ 100000000) :
    Calls Tryz.prog 100 #[.pointer (some ⟨p, 0, none⟩), .slice A l.length c] w (DecP (bitsL l) p w) := by
  have HR := Lib.hid (hf_ready p r w h)
  have H := Lib.hid hB
  obtain ⟨n, hn⟩ : ∃ n, l.length = n := ⟨_, rfl⟩
  have HN := Lib.hid hn
  have HNX := Lib.hid (fun W at0 (h : CodAt W p (hdC 1 0 1) Cod.made) (hb : BS W A l) (ha : at0 ≤ 8 * n) => hf_next p (hdC 1 0 1) A c at0 l W h hb hl (by rw [hn]; exact ha))
  have HPD := Lib.hid (fun W r (hb : BS W A l) (hr : r ≤ 8 * n) => hf_padding A c r l W hb hl (by rw [hn]; exact hr))
  obtain ⟨D, hD⟩ : ∃ D, bitsL l = D := ⟨_, rfl⟩
  have HDL : Hid (D.length = 8 * n) := Lib.hid (by rw [← hD, bitsL_length, hn])
  have HA := Lib.hid hA
  rw [hn] at HNX HPD hl ⊢
  rw [hD] at HNX HPD ⊢
  clear h hn hA hB hD
  go_enter Tryz.func100, Tryz.ntmps100
  go_wp2_with fail
  with_reducible refine HR.out.mono ?_
  rintro e w2 ⟨rfl, hc2, ho2⟩
  have HX := Lib.hid (And.intro hc2 ho2)
  have HB2 : Hid (BS w2 A l) := Lib.hid (fun hn => (H.out.only ho2 (fun b o e hb => HA.out b o e hn hb)) hn)
  clear hc2 ho2
  go_wp2_with fail
  go_loopw [7, 8] (fun out a wr => ∃ (O : List UInt8) (at_ : Nat), at_ ≤ 8 * n ∧ a = .int .i64 (at_ : Int) ∧ O.length * 5 ≤ at_ ∧ Own wr w2.heap.size 5 1 out O.length (O.map byteV) ∧ DecR D at_ O ∧ Fresh w2 wr) (fun _ a _ => 8 * n - (intOf a).toNat)
  case atStart => exact ⟨[], 0, by omega, rfl, by simp, Own.nil _ _ _ _, DecR.start D, Fresh.refl _⟩
  case round =>
    obtain ⟨O, at_, hat, rfl, hOl, hown, hdr, hf⟩ := hrel
    have HOWN := Lib.hid hown
    have HDR := Lib.hid hdr
    have HF := Lib.hid hf
    obtain ⟨A', cc, rfl, _, _, _⟩ := hown.slice
    clear hown hdr hf
    go_wp2_with fail
    with_reducible refine (HNX.out _ at_ (HX.out.1.fresh HF.out) (HB2.out.fresh HF.out) hat).mono ?_
    rintro e w3 ⟨he, hf3⟩
    have HF3 := Lib.hid (HF.out.trans hf3)
    have HO3 := Lib.hid (HOWN.out.fresh hf3)
    clear hf3
    cases hns : nextS (D.drop at_) with
    | none =>
      rw [hns] at he
      obtain rfl : e = .returned (.tuple #[.int .i64 0, .int .i64 0, .bool false]) := he
      have HFIN := Lib.hid (HDR.out.fin hns)
      have HP := Lib.hid (HPD.out w3 (8 * n - at_) (HB2.out.fresh HF3.out) (by omega))
      rw [show 8 * n - (8 * n - at_) = at_ by omega] at HP
      have e1 : ((8 * n - at_ : Nat) : Int) = 8 * (n : Int) - (at_ : Int) := by omega
      rw [e1] at HP
      have HEND : Hid (∀ (v : Value) (er : Nat) (O' : List UInt8), decE D = (er, O') → Own w3 w2.heap.size 5 1 v O'.length (O'.map byteV) → DecP D p w (.returned (.tuple #[v, .int .i64 (er : Int)])) w3) := Lib.hid (fun v er O' he ho => by
        obtain ⟨A2, c2, rfl, _⟩ := ho.slice
        exact ⟨A2, c2, w2.heap.size, by rw [he], HX.out.2.size, by rw [he]; exact ho, HX.out.1.fresh HF3.out, HX.out.2.trans (Only.of_fresh HF3.out)⟩)
      have i1 : IntKind.i64.wrap (8 * (n : Int)) = 8 * (n : Int) := IntWalk.i64_in _ (by omega)
      have i2 : IntKind.i64.wrap (8 * (n : Int) - (at_ : Int)) = 8 * (n : Int) - (at_ : Int) := IntWalk.i64_in _ (by omega)
      clear hns e1
      go_wp2_with fail
      with_reducible refine HP.out.mono ?_
      rintro e w4 ⟨rfl, rfl⟩
      cases hpo : padOk (D.drop at_) with
      | true =>
        have HFF : Hid (decE D = (0, O)) := Lib.hid (by rw [HFIN.out, hpo]; rfl)
        clear hpo i1 i2
        go_wp2
        go_ret2
        exact HEND.out _ 0 _ HFF.out HO3.out
      | false =>
        have HFF : Hid (decE D = (20, [])) := Lib.hid (by rw [HFIN.out, hpo]; rfl)
        clear hpo i1 i2
        go_wp2
        go_ret2
        exact HEND.out _ 20 _ HFF.out (Own.nil _ _ _ _)
    | some s =>
      rw [hns] at he
      obtain rfl : e = .returned (.tuple #[.int .i64 (s : Int), .int .i64 (ln s : Int), .bool true]) := he
      have HNS := Lib.hid hns
      have hs := (nextS_some.1 hns).1
      have hlb := (ln_ok hs)
      have hpl := (nextS_some.1 hns).2.length_le
      rw [codeB_length, List.length_drop, HDL.out] at hpl
      clear hns
      by_cases h6 : s = 256
      · subst h6
        have HFF : Hid (decE D = (21, [])) := Lib.hid (HDR.out.eos HNS.out)
        have HEND : Hid (DecP D p w (.returned (.tuple #[.slice none 0 0, .int .i64 21])) w3) := Lib.hid ⟨none, 0, w2.heap.size, by rw [HFF.out]; rfl, HX.out.2.size, by rw [HFF.out]; exact Own.nil _ _ _ _, HX.out.1.fresh HF3.out, HX.out.2.trans (Only.of_fresh HF3.out)⟩
        rw [show ((256 : Nat) : Int) = 256 from rfl]
        generalize ln 256 = y at *
        go_wp2
        go_ret2
        exact HEND.out
      · have e0 : ((s : Int) == 256) = false := by simp; omega
        have e1 : IntKind.u8.wrap (s : Int) = ((UInt8.ofNat s).toNat : Int) := by rw [IntKind.wrap_u8]; simp
        have e2 : (s : Int) % 256 = ((UInt8.ofNat s).toNat : Int) := by simp
        have hdr2 := HDR.out.step HNS.out h6
        obtain ⟨y, hy⟩ : ∃ y, ln s = y := ⟨_, rfl⟩
        rw [hy] at hdr2 hpl hlb ⊢
        have e3 : IntKind.i64.wrap ((at_ : Int) + (y : Int)) = (at_ : Int) + (y : Int) := IntWalk.i64_in _ (by omega)
        obtain ⟨v', w', hap, ho', hb', hne, _⟩ := HO3.out.push (P := Tryz.prog) Tryz.underlying28 u8_infoH rfl (by omega) 28 HF3.out (Nat.le_refl _) #[byteV (UInt8.ofNat s)] rfl (by intro u hu; simp at hu; subst hu; rfl) (by unfold maxLen; omega) (by omega)
        have HREL : Hid (at_ + y ≤ 8 * n ∧ (O ++ [UInt8.ofNat s]).length * 5 ≤ at_ + y ∧ Own w' w2.heap.size 5 1 v' (O ++ [UInt8.ofNat s]).length ((O ++ [UInt8.ofNat s]).map byteV) ∧ DecR D (at_ + y) (O ++ [UInt8.ofNat s]) ∧ Fresh w2 w') := Lib.hid ⟨by omega, by simp; omega, by simpa using ho', hdr2, hb'⟩
        have HO := Lib.hid hlb.1
        unfold byteV at hap
        generalize (UInt8.ofNat s).toNat = c2 at *
        clear hdr2 ho' hb' hne hy
        go_wp2_with (at_builtin; refine wp_app rfl _ _ _ rfl hap rfl rfl rfl ?_)
        go_roundw
        case rel => exact ⟨_, at_ + y, HREL.out.1, by go_num, HREL.out.2.1, HREL.out.2.2.1, HREL.out.2.2.2.1, HREL.out.2.2.2.2⟩
        case measure => have := HO.out; simp [intOf]; omega
end Go.Proofs.YtginhebfjbhmnaaGreat

/-
  The document's code: what bits say.
-/
namespace Go.Proofs.YtginhebfjbhmnaaGreat
set_option maxRecDepth 100000
set_option linter.unusedVariables false
set_option linter.unusedSimpArgs false
open Go.RowKit
/-- The symbol found among the first k. -/
def foundK (E : List Bool) (k : Nat) : Int := match nextS E with
  | some s => if s < k then (s : Int) else -1
  | none => -1
theorem foundK_zero (E : List Bool) : foundK E 0 = -1 := by
  unfold foundK
  cases nextS E <;> simp
theorem foundK_hit {E : List Bool} {x : Nat} (hx : x < 257) (h : codeB x <+: E) : foundK E (x + 1) = (x : Int) := by
  unfold foundK
  rw [nextS_some.2 ⟨hx, h⟩]
  simp
theorem foundK_miss {E : List Bool} {x : Nat} (h : ¬ codeB x <+: E) : foundK E (x + 1) = foundK E x := by
  unfold foundK
  cases hn : nextS E with
  | none => rfl
  | some s =>
    have h1 := nextS_some.1 hn
    have h2 : s ≠ x := fun e => h (e ▸ h1.2)
    by_cases h3 : s < x
    · simp [h3, show s < x + 1 by omega]
    · simp [h3, show ¬ s < x + 1 by omega]
theorem foundK_none {E : List Bool} (h : nextS E = none) (k : Nat) : foundK E k = -1 := by
  unfold foundK
  rw [h]
theorem foundK_some {E : List Bool} {s : Nat} (h : nextS E = some s) : foundK E 257 = (s : Int) := by
  unfold foundK
  rw [h]
  simp [(nextS_some.1 h).1]
theorem txB_cut (D : List Bool) (a m : Nat) (h : a + m ≤ D.length) : (txB D).extract a (a + m) = txB ((D.drop a).take m) := by
  apply ByteArray.ext
  apply Array.ext'
  have e : ∀ X : List Bool, (txB X).data.toList = X.map chB := fun X => strB_data _
  simp only [ByteArray.data_extract, Array.toList_extract, e, List.extract_eq_take_drop, List.map_take, List.map_drop]
  congr 1
  omega
theorem pre_take {x : Nat} {E : List Bool} : codeB x <+: E ↔ E.take (ln x) = codeB x := by
  constructor
  · intro h
    have := List.prefix_iff_eq_take.1 h
    rw [codeB_length] at this
    exact this.symm
  · intro h
    rw [← h]
    exact List.take_prefix _ _
theorem padOk_bit {E : List Bool} {j : Nat} (hj : j < E.length) (h : E[j] = false) : padOk E = false := by
  unfold padOk
  have : E.all id = false := by
    rw [Bool.eq_false_iff]
    intro h2
    have h3 := List.all_eq_true.1 h2 _ (List.getElem_mem hj)
    rw [h] at h3
    cases h3
  rw [this, Bool.and_false]
theorem padOk_all {E : List Bool} (h7 : E.length ≤ 7) (h : ∀ j (hj : j < E.length), E[j] = true) : padOk E = true := by
  unfold padOk
  rw [decide_eq_true h7, Bool.true_and, List.all_eq_true]
  intro b hb
  obtain ⟨j, hj, rfl⟩ := List.getElem_of_mem hb
  exact h j hj
theorem toList_ne {V U : ByteArray} (h : V ≠ U) : (V.toList == U.toList) = false := by
  rw [Bool.eq_false_iff]
  intro h2
  have h3 := eq_of_beq h2
  rw [ByteArray.toList_eq, ByteArray.toList_eq] at h3
  exact h (ByteArray.ext (Array.ext' h3))
end Go.Proofs.YtginhebfjbhmnaaGreat

/-
  Package huff: without a coder.
-/
namespace Go.Proofs.YtginhebfjbhmnaaGreat
set_option maxRecDepth 100000
set_option linter.unusedVariables false
set_option linter.unusedSimpArgs false
open Go.RowKit
theorem Fresh.onlyB {p : Nat} {w w1 w2 : World} (hf : Fresh w w1) (ho : Only (· = p) w1 w2) (hp : w.heap.size ≤ p) : Fresh w w2 :=
  Only.fresh (S := fun _ => False) ((Only.of_fresh hf).trans' ho (fun i hi e => by omega)) (fun _ _ h => h)
theorem coder_new {w : World} {p : Nat} (h : Blk w p 185 codZ.toArray) : CoderAt w p false := ⟨rfl, by rw [codZ_eq] at h; exact h⟩
def EncF (l : List UInt8) (w : World) (e : Ending) (w' : World) : Prop :=
  ∃ (O : List UInt8) (A : Option Addr) (c : Nat), e = .returned (.slice A O.length c) ∧ IsEnc l O ∧ Own w' w.heap.size 5 1 (.slice A O.length c) O.length (O.map byteV) ∧ Fresh w w'
def DecF (D : List Bool) (w : World) (e : Ending) (w' : World) : Prop :=
  ∃ (A : Option Addr) (c : Nat), e = .returned (.tuple #[.slice A (decE D).2.length c, .int .i64 ((decE D).1 : Int)]) ∧ Own w' w.heap.size 5 1 (.slice A (decE D).2.length c) (decE D).2.length ((decE D).2.map byteV) ∧ Fresh w w'
set_option maxRecDepth 100000 in
set_option maxHeartbeats 1600000 in
theorem huff_decode (A : Option Addr) (c : Nat) (l : List UInt8) (w : World) (hB : BS w A l) (hl : l.length ≤ 100000000) : Calls Tryz.prog 98 #[.slice A l.length c] w (DecF (bitsL l) w) := by
  have HE := Lib.hid (fun W p (h : CoderAt W p false) (hb : BS W A l) (hA : ∀ b o, A = some ⟨b, o, none⟩ → 0 < l.length → b ≠ p) => hf_decode p false A c l W h hA hb hl)
  have HNW := Lib.hid (hf_new w)
  have H := Lib.hid hB
  have HLT : Hid (∀ b o, A = some ⟨b, o, none⟩ → 0 < l.length → b < w.heap.size) := Lib.hid (fun b o e hn => by
    obtain ⟨b', o', e', hlt, _⟩ := hB hn
    rw [e] at e'
    simp at e'
    omega)
  generalize l.length = n at *
  clear hB
  go_enter Tryz.func98, Tryz.ntmps98
  go_wp2_with fail
  with_reducible refine HNW.out.mono ?_
  rintro e w2 ⟨p, rfl, hb2, hp2, hf2⟩
  have HX := Lib.hid (And.intro hb2 (And.intro hp2 hf2))
  clear hb2 hp2 hf2
  go_wp2_with fail
  have hne : ∀ b o, A = some ⟨b, o, none⟩ → 0 < n → b ≠ p := fun b o e hn => by
    have := HLT.out b o e hn
    have := HX.out.2.1
    omega
  have HE2 := Lib.hid (HE.out w2 p (coder_new HX.out.1) (H.out.fresh HX.out.2.2) hne)
  clear hne
  with_reducible refine HE2.out.mono ?_
  rintro e w3 ⟨A9, c9, base, rfl, hbase, hown, _, ho3⟩
  have HFIN : Hid (DecF (bitsL l) w (.returned (.tuple #[.slice A9 (decE (bitsL l)).2.length c9, .int .i64 ((decE (bitsL l)).1 : Int)])) w3) := Lib.hid ⟨A9, c9, rfl, hown.base_le (Nat.le_trans HX.out.2.2.size hbase), Fresh.onlyB HX.out.2.2 ho3 HX.out.2.1⟩
  clear hbase hown ho3
  generalize decE (bitsL l) = R at *
  go_wp2
  go_ret2
  exact HFIN.out
end Go.Proofs.YtginhebfjbhmnaaGreat

/-
  The document's text of bytes, by what is told of them.
-/
namespace Go.Proofs.YtginhebfjbhmnaaGreat
set_option maxRecDepth 100000
set_option linter.unusedVariables false
open Go.RowKit
theorem IsEnc.text {l O : List UInt8} (h : IsEnc l O) {p : Nat} (hp : p ≤ 7) (h8 : (hszB l + p) % 8 = 0) : txB (encB l ++ ones p) = txB (bitsL O) := by
  obtain ⟨q, hq, e⟩ := h
  have k := congrArg List.length e
  rw [bitsL_length, List.length_append] at k
  simp only [ones, List.length_replicate] at k
  unfold hszB at h8
  have : p = q := by omega
  subst this
  rw [e]
theorem szB_ge (l : List UInt8) : l.length * 5 ≤ hszB l := by
  induction l with
  | nil => simp
  | cons c r ih =>
    have hc := UInt8.toNat_lt c
    have := (ln_ok (s := c.toNat) (by omega)).1
    unfold hszB at ih ⊢
    rw [encB_cons, List.length_append, codeB_length, List.length_cons]
    omega
end Go.Proofs.YtginhebfjbhmnaaGreat

/-
  Plain arithmetic of whole numbers behind some bits: no Go in sight.
-/
namespace Go.Proofs.YtginhebfjbhmnaaGreat
set_option maxRecDepth 100000
set_option linter.unusedVariables false

/-- What follows the first byte: seven bits a byte, the lowest ones first. -/
def tailF : Nat → Nat → List UInt8
  | 0, r => [UInt8.ofNat r]
  | f + 1, r => if 128 ≤ r then UInt8.ofNat (128 + r % 128) :: tailF f (r / 128) else [UInt8.ofNat r]
/-- A number's bytes. -/
def encL (n bits mark : Nat) : List UInt8 :=
  if n < 2 ^ bits - 1 then [UInt8.ofNat (mark * 2 ^ bits + n)] else UInt8.ofNat (mark * 2 ^ bits + (2 ^ bits - 1)) :: tailF 5 (n - (2 ^ bits - 1))

theorem tailF_length (f : Nat) : ∀ r, 1 ≤ (tailF f r).length ∧ (tailF f r).length ≤ f + 1 := by
  induction f with
  | zero => intro r; simp [tailF]
  | succ f ih =>
    intro r
    unfold tailF
    split
    · have := ih (r / 128); simp; omega
    · simp
theorem tailF_mono (f : Nat) : ∀ r s, r ≤ s → (tailF f r).length ≤ (tailF f s).length := by
  induction f with
  | zero => intro r s _; simp [tailF]
  | succ f ih =>
    intro r s h
    unfold tailF
    by_cases h1 : 128 ≤ r
    · rw [if_pos h1, if_pos (by omega)]
      have := ih (r / 128) (s / 128) (by omega)
      simpa using this
    · rw [if_neg h1]
      by_cases h2 : 128 ≤ s
      · rw [if_pos h2]; simp
      · rw [if_neg h2]; simp
theorem tailF_len5 (r : Nat) (h : r < 34359738368) : (tailF 5 r).length ≤ 5 := by
  by_cases h1 : 128 ≤ r
  · by_cases h2 : 128 ≤ r / 128
    · by_cases h3 : 128 ≤ r / 128 / 128
      · by_cases h4 : 128 ≤ r / 128 / 128 / 128
        · have h5 : ¬ 128 ≤ r / 128 / 128 / 128 / 128 := by omega
          simp [tailF, h1, h2, h3, h4, h5]
        · simp [tailF, h1, h2, h3, h4]
      · simp [tailF, h1, h2, h3]
    · simp [tailF, h1, h2]
  · simp [tailF, h1]
theorem encL_length (n bits mark : Nat) (hn : n ≤ 2147483647) : 1 ≤ (encL n bits mark).length ∧ (encL n bits mark).length ≤ 6 := by
  unfold encL
  split
  · simp
  · have h1 := tailF_length 5 (n - (2 ^ bits - 1))
    have h2 := tailF_len5 (n - (2 ^ bits - 1)) (by omega)
    simp
    omega
theorem encL_mono (n m bits mark : Nat) (h : n ≤ m) : (encL n bits mark).length ≤ (encL m bits mark).length := by
  unfold encL
  by_cases h1 : n < 2 ^ bits - 1
  · rw [if_pos h1]
    split
    · simp
    · simp
  · rw [if_neg h1, if_neg (by omega)]
    have := tailF_mono 5 (n - (2 ^ bits - 1)) (m - (2 ^ bits - 1)) (by omega)
    simpa using this
theorem encL_bits (n bits : Nat) : (encL n (bits + 1) 0).length ≤ (encL n bits 0).length := by
  unfold encL
  have hp : 2 ^ bits ≤ 2 ^ (bits + 1) := Nat.pow_le_pow_right (by omega) (by omega)
  by_cases h1 : n < 2 ^ (bits + 1) - 1
  · rw [if_pos h1]
    split
    · simp
    · simp
  · rw [if_neg h1, if_neg (by omega)]
    have := tailF_mono 5 (n - (2 ^ (bits + 1) - 1)) (n - (2 ^ bits - 1)) (by omega)
    simpa using this

/-- Reading on from place i, the number so far n. -/
def decF : Nat → List UInt8 → Nat → Nat → Int × Int × Int
  | 0, _, _, _ => (0, 0, 22)
  | f + 1, l, i, n =>
    match l[i]? with
    | none => (0, 0, 16)
    | some c =>
      if 5 < i then (0, 0, 22)
      else if 2147483647 < n + c.toNat % 128 * 128 ^ (i - 1) then (0, 0, 22)
      else if c.toNat < 128 then (((n + c.toNat % 128 * 128 ^ (i - 1) : Nat) : Int), ((i + 1 : Nat) : Int), 0)
      else decF f l (i + 1) (n + c.toNat % 128 * 128 ^ (i - 1))
def decL (l : List UInt8) (bits : Nat) : Int × Int × Int :=
  match l[0]? with
  | none => (0, 0, 16)
  | some c => if c.toNat % 2 ^ bits < 2 ^ bits - 1 then (((c.toNat % 2 ^ bits : Nat) : Int), 1, 0) else decF 6 l 1 (c.toNat % 2 ^ bits)

/-- Reading a tail: l has the tail of r from place i on. -/
theorem decF_tail (f g : Nat) : ∀ (i n r : Nat) (l : List UInt8), 1 ≤ i → i + f ≤ 6 → f ≤ g → r < 128 ^ f → 0 < f → n + r * 128 ^ (i - 1) ≤ 2147483647 →
    (∀ j, j < (tailF g r).length → l[i + j]? = (tailF g r)[j]?) → decF f l i n = (((n + r * 128 ^ (i - 1) : Nat) : Int), ((i + (tailF g r).length : Nat) : Int), 0) := by
  induction f generalizing g with
  | zero => intro i n r l _ _ _ _ h; omega
  | succ f ih =>
    intro i n r l hi hif hfg hr _ hn hl
    obtain ⟨g, rfl⟩ : ∃ g', g = g' + 1 := ⟨g - 1, by omega⟩
    have hp : 0 < 128 ^ (i - 1) := Nat.pow_pos (by omega)
    by_cases h : 128 ≤ r
    · have ht : tailF (g + 1) r = UInt8.ofNat (128 + r % 128) :: tailF g (r / 128) := by rw [tailF, if_pos h]
      have h0 := hl 0 (by rw [ht]; simp)
      rw [ht] at h0
      simp only [Nat.add_zero, List.getElem?_cons_zero] at h0
      have hc : (UInt8.ofNat (128 + r % 128)).toNat = 128 + r % 128 := by simp; omega
      have hf1 : 0 < f := by
        rcases Nat.eq_zero_or_pos f with e | e
        · subst e; simp at hr; omega
        · exact e
      have hpw : 128 ^ (i + 1 - 1) = 128 * 128 ^ (i - 1) := by
        rw [show i + 1 - 1 = (i - 1) + 1 by omega, Nat.pow_succ, Nat.mul_comm]
      have hm : r * 128 ^ (i - 1) = r % 128 * 128 ^ (i - 1) + r / 128 * 128 ^ (i + 1 - 1) := by
        rw [hpw, ← Nat.mul_assoc, ← Nat.add_mul]
        congr 1
        omega
      rw [decF, h0]
      simp only [hc]
      have e1 : (128 + r % 128) % 128 = r % 128 := by omega
      rw [e1, if_neg (by omega), if_neg (by omega), if_neg (by omega)]
      rw [ih g (i + 1) (n + r % 128 * 128 ^ (i - 1)) (r / 128) l (by omega) (by omega) (by omega) (by rw [Nat.pow_succ] at hr; omega) hf1 (by omega) (fun j hj => by
        have := hl (j + 1) (by rw [ht]; simpa using hj)
        rw [ht] at this
        rw [show i + 1 + j = i + (j + 1) by omega, this]
        simp)]
      rw [ht]
      simp only [List.length_cons]
      refine Prod.ext ?_ (Prod.ext ?_ rfl)
      · simp only []; omega
      · simp only []; omega
    · have ht : tailF (g + 1) r = [UInt8.ofNat r] := by rw [tailF, if_neg h]
      have h0 := hl 0 (by rw [ht]; simp)
      rw [ht] at h0
      simp only [Nat.add_zero, List.getElem?_cons_zero] at h0
      have hc : (UInt8.ofNat r).toNat = r := by simp; omega
      rw [decF, h0]
      simp only [hc]
      have e1 : r % 128 = r := by omega
      rw [e1, if_neg (by omega), if_neg (by omega), if_pos (by omega), ht]
      rfl

/-- What Encode tells is read as the number, whatever stands behind. -/
theorem decL_encL (n bits mark : Nat) (more : List UInt8) (h1 : 1 ≤ bits) (h2 : bits ≤ 8) (hn : n ≤ 2147483647) (hm : mark < 2 ^ (8 - bits)) :
    decL (encL n bits mark ++ more) bits = ((n : Int), ((encL n bits mark).length : Int), 0) := by
  have hp : 2 ^ bits * 2 ^ (8 - bits) = 256 := by rw [← Nat.pow_add, show bits + (8 - bits) = 8 by omega]
  have hp0 : 0 < 2 ^ bits := Nat.pow_pos (by omega)
  have hmb : mark * 2 ^ bits + 2 ^ bits ≤ 256 := by
    have : (mark + 1) * 2 ^ bits ≤ 2 ^ (8 - bits) * 2 ^ bits := Nat.mul_le_mul_right _ hm
    rw [Nat.add_mul, Nat.mul_comm (2 ^ (8 - bits))] at this
    omega
  unfold encL
  by_cases h : n < 2 ^ bits - 1
  · rw [if_pos h]
    unfold decL
    simp only [List.cons_append, List.nil_append, List.getElem?_cons_zero]
    have hc : (UInt8.ofNat (mark * 2 ^ bits + n)).toNat = mark * 2 ^ bits + n := by simp; omega
    have hmod : (mark * 2 ^ bits + n) % 2 ^ bits = n := by
      rw [Nat.add_comm, Nat.add_mul_mod_self_right, Nat.mod_eq_of_lt (by omega)]
    rw [hc, hmod, if_pos h]
    simp
  · rw [if_neg h]
    unfold decL
    simp only [List.cons_append, List.getElem?_cons_zero]
    have hc : (UInt8.ofNat (mark * 2 ^ bits + (2 ^ bits - 1))).toNat = mark * 2 ^ bits + (2 ^ bits - 1) := by simp; omega
    have hmod : (mark * 2 ^ bits + (2 ^ bits - 1)) % 2 ^ bits = 2 ^ bits - 1 := by
      rw [Nat.add_comm, Nat.add_mul_mod_self_right, Nat.mod_eq_of_lt (by omega)]
    rw [hc, hmod, if_neg (by omega)]
    have hl5 := tailF_len5 (n - (2 ^ bits - 1)) (by omega)
    have := decF_tail 5 5 1 (2 ^ bits - 1) (n - (2 ^ bits - 1)) (UInt8.ofNat (mark * 2 ^ bits + (2 ^ bits - 1)) :: (tailF 5 (n - (2 ^ bits - 1)) ++ more)) (by omega) (by omega) (by omega) (by simp; omega) (by omega) (by simp; omega) (fun j hj => by
      rw [Nat.add_comm 1 j, List.getElem?_cons_succ, List.getElem?_append_left hj])
    have step : ∀ f l i n r, decF f l i n = r → r.2.2 = 0 → decF (f + 1) l i n = r := by
      intro f
      induction f with
      | zero => intro l i n r h hr; rw [decF] at h; rw [← h] at hr; simp at hr
      | succ f ih =>
        intro l i n r h hr
        rw [decF] at h ⊢
        cases hc : l[i]? with
        | none => rw [hc] at h; exact h
        | some c =>
          rw [hc] at h
          simp only at h ⊢
          by_cases a1 : 5 < i
          · rw [if_pos a1] at h ⊢; exact h
          · rw [if_neg a1] at h ⊢
            by_cases a2 : 2147483647 < n + c.toNat % 128 * 128 ^ (i - 1)
            · rw [if_pos a2] at h ⊢; exact h
            · rw [if_neg a2] at h ⊢
              by_cases a3 : c.toNat < 128
              · rw [if_pos a3] at h ⊢; exact h
              · rw [if_neg a3] at h ⊢; exact ih _ _ _ _ h hr
    rw [step _ _ _ _ _ this rfl]
    simp only [List.length_cons]
    refine Prod.ext ?_ (Prod.ext ?_ rfl)
    · simp; omega
    · simp; omega
end Go.Proofs.YtginhebfjbhmnaaGreat

