/-
  Package huff: next.
-/
import Derived.Test.YtkdbndgkgpcmfaaHuf7
namespace Go.Proofs.Ytkdbndgkgpcmfaa
set_option linter.unusedVariables false
set_option linter.unusedSimpArgs false
open Go.RowKit
theorem bitsL_get (l : List UInt8) (pos : Nat) (h : pos / 8 < l.length) : (bitsL l)[pos]? = some ((l[pos / 8]).toNat.testBit (7 - pos % 8)) := by
  induction l generalizing pos with
  | nil => simp at h
  | cons c r ih =>
    rw [bitsL_cons]
    by_cases h8 : pos < 8
    · have e0 : pos / 8 = 0 := by omega
      rw [List.getElem?_append_left (by rw [bb_length]; exact h8), List.getElem?_eq_getElem (by rw [bb_length]; exact h8)]
      unfold bb
      rw [bitsOf_get]
      simp only [e0, List.getElem_cons_zero]
      congr 2
      omega
    · have e1 : pos / 8 = (pos - 8) / 8 + 1 := by omega
      rw [List.getElem?_append_right (by rw [bb_length]; omega), bb_length, ih (pos - 8) (by simp at h; omega)]
      simp only [e1, List.getElem_cons_succ]
      congr 2
      omega
/-- No symbol of at most m bits stands there. -/
def NoSym (D : List Bool) (m : Nat) : Prop := ∀ s, s < 257 → ln s ≤ m → ¬ codeB s <+: D
theorem NoSym.none {D : List Bool} {m : Nat} (h : NoSym D m) (hm : 30 ≤ m ∨ D.length ≤ m) : nextS D = none := by
  rw [nextS_none]
  intro s hs hp
  refine h s hs ?_ hp
  rcases hm with hm | hm
  · have := (ln_ok hs).2.1; omega
  · have := hp.length_le
    rw [codeB_length] at this
    omega
/-- The code's number after one more bit. -/
theorem sym_iff {D : List Bool} {C m : Nat} (hC : C < 2 ^ m) (hm : m ≤ 30) (hb : bitsOf C m = D.take m) (hl : m ≤ D.length) :
    (∀ i, fstF m + i = C → i < cntF m → nextS D = some (ordF (plcF m + i)) ∧ ln (ordF (plcF m + i)) = m) ∧ ((C < fstF m ∨ cntF m ≤ C - fstF m) → ∀ s, s < 257 → ln s = m → ¬ codeB s <+: D) := by
  refine ⟨fun i he hi => ?_, fun hno s hs hls hp => ?_⟩
  · obtain ⟨h1, h2⟩ := placeP (n := m) (by omega) hi
    have hlt : plcF m + i < 257 := by have := (tab1 (n := m) (by omega)).2.2.2.1; omega
    refine ⟨nextS_some.2 ⟨(ordP hlt).1, ?_⟩, h1⟩
    unfold codeB
    rw [h1, h2, he, hb]
    exact List.take_prefix _ _
  · have he : codeB s = D.take m := by
      have := List.prefix_iff_eq_take.1 hp
      rwa [codeB_length, hls] at this
    rw [← hb] at he
    unfold codeB at he
    rw [hls] at he
    have hsy := sym hs
    rw [hls] at hsy
    have := bitsOf_inj (by exact hsy.2.2.2.2.1) hC he
    have h5 := hsy.1
    have h6 := hsy.2.2.2.2.2
    omega
theorem next_bit (C x y m : Nat) (hC : C < 2 ^ m) (hm : m ≤ 29) (hx : x < 256) (hy : y ≤ 7) :
    ∃ C2 : Nat, bits .or .u32 ((C : Int) * 2 % 4294967296) (bits .and .u8 ((x : Int) / 2 ^ y) 1 % 4294967296) = (C2 : Int) ∧ C2 < 2 ^ (m + 1) ∧ bitsOf C2 (m + 1) = bitsOf C m ++ [x.testBit y] := by
  have hp : 2 ^ m ≤ 2 ^ 29 := Nat.pow_le_pow_right (by omega) hm
  have hd : x / 2 ^ y < 256 := Nat.lt_of_le_of_lt (Nat.div_le_self _ _) hx
  have e1 : bits .and .u8 ((x : Int) / 2 ^ y) 1 = ((x / 2 ^ y % 2 : Nat) : Int) := by
    have : ((x : Int) / 2 ^ y) = ((x / 2 ^ y : Nat) : Int) := by simp
    rw [this, show (1 : Int) = ((1 : Nat) : Int) from rfl, u8_and_nat _ _ hd (by omega), Nat.and_one_is_mod]
  have e2 : (((x / 2 ^ y % 2 : Nat) : Int)) % 4294967296 = ((x / 2 ^ y % 2 : Nat) : Int) := by omega
  have e3 : (C : Int) * 2 % 4294967296 = ((C * 2 : Nat) : Int) := by omega
  have hor : C * 2 ||| x / 2 ^ y % 2 = C * 2 + x / 2 ^ y % 2 := by
    have := Nat.two_pow_add_eq_or_of_lt (i := 1) (b := x / 2 ^ y % 2) (by omega) C
    rw [Nat.pow_one, Nat.mul_comm] at this
    exact this.symm
  refine ⟨C * 2 + x / 2 ^ y % 2, ?_, by rw [Nat.pow_succ]; omega, ?_⟩
  · rw [e1, e2, e3, u32_or_nat _ _ (by omega) (by omega), hor]
  · have := bitsOf_cat C (x / 2 ^ y % 2) m 1 (by omega)
    rw [Nat.pow_one] at this
    rw [this]
    congr 1
    simp [bitsOf, Nat.testBit_eq_decide_div_mod_eq]
def NextP (D : List Bool) (w : World) (e : Ending) (w' : World) : Prop :=
  e = (match nextS D with | some s => .returned (.tuple #[.int .i64 (s : Int), .int .i64 (ln s : Int), .bool true]) | none => .returned (.tuple #[.int .i64 0, .int .i64 0, .bool false])) ∧ Fresh w w'
set_option maxRecDepth 100000 in
set_option maxHeartbeats 3200000 in
theorem hf_next (p : Nat) (hd : List Value) (A : Option Addr) (c at0 : Nat) (l : List UInt8) (w : World) (h : CodAt w p hd Cod.made) (hB : BS w A l) (hl : l.length ≤ 100000000) (hat : at0 ≤ 8 * l.length) :
    Calls Try.prog 45 #[.pointer (some ⟨p, 4, none⟩), .slice A l.length c, .int .i64 (at0 : Int)] w (NextP ((bitsL l).drop at0) w) := by
  obtain ⟨D, hD⟩ : ∃ D, (bitsL l).drop at0 = D := ⟨_, rfl⟩
  have HDL : Hid (D.length + at0 = 8 * l.length) := Lib.hid (by rw [← hD, List.length_drop, bitsL_length]; omega)
  have HDG : Hid (∀ m, (hm : (at0 + m) / 8 < l.length) → D[m]? = some ((l[(at0 + m) / 8]).toNat.testBit (7 - (at0 + m) % 8))) := Lib.hid (fun m hm => by
    rw [← hD, List.getElem?_drop, bitsL_get _ _ hm])
  rw [hD]
  have H := Lib.hid hB
  have HC := Lib.hid h
  obtain ⟨n, hn⟩ : ∃ n, l.length = n := ⟨_, rfl⟩
  have HN := Lib.hid hn
  rw [hn] at hl hat ⊢
  have HDL2 : Hid (D.length + at0 = 8 * n) := Lib.hid (by have := HDL.out; omega)
  clear h hB hn hD HDL
  go_enter Try.func45, Try.ntmps45
  go_wp2
  go_loop [2, 9, 10] (fun a c n' => ∃ m C : Nat, m ≤ 30 ∧ at0 + m ≤ 8 * n ∧ a = .int .i64 ((at0 + m : Nat) : Int) ∧ c = .int .u32 (C : Int) ∧ n' = .int .i64 ((m : Int) + 1) ∧ C < 2 ^ m ∧ bitsOf C m = D.take m ∧ NoSym D m) (fun _ _ n' => 31 - (intOf n').toNat)
  case atStart => exact ⟨0, 0, by omega, by omega, rfl, rfl, rfl, by simp, by simp [bitsOf], fun s hs hl => by have := (ln_ok hs).1; omega⟩
  case round =>
    obtain ⟨m, C, hm, ham, rfl, rfl, rfl, hC, hb, hns⟩ := hrel
    by_cases hend : 30 ≤ m ∨ 8 * n ≤ at0 + m
    · have HFIN : Hid (NextP D w (.returned (.tuple #[.int .i64 0, .int .i64 0, .bool false])) w) := Lib.hid ⟨by rw [hns.none (by have := HDL2.out; omega)], Fresh.refl _⟩
      clear hb hns hC
      have e0 : IntKind.i64.wrap (8 * (n : Int)) = 8 * (n : Int) := IntWalk.i64_in _ (by omega)
      by_cases h30 : 30 ≤ m
      · have h1 : ¬ (m : Int) + 1 ≤ 30 := by omega
        go_wp2
        go_ret3
        exact HFIN.out
      · have h1 : (m : Int) + 1 ≤ 30 := by omega
        have h2 : ¬ ((at0 + m : Nat) : Int) < 8 * (n : Int) := by omega
        go_wp2
        go_ret3
        exact HFIN.out
    · have h1 : (m : Int) + 1 ≤ 30 := by omega
      have h2 : ((at0 + m : Nat) : Int) < 8 * (n : Int) := by omega
      obtain ⟨pos, hpos⟩ : ∃ pos, at0 + m = pos := ⟨_, rfl⟩
      have HPOS := Lib.hid hpos
      rw [hpos] at h2 ham ⊢
      have hdv : pos / 8 < l.length := by rw [HN.out]; omega
      have hdg := HDG.out m (by rw [hpos]; exact hdv)
      simp only [hpos] at hdg
      have e0 : IntKind.i64.wrap (8 * (n : Int)) = 8 * (n : Int) := IntWalk.i64_in _ (by omega)
      obtain ⟨b, o, rfl, hbl, hc⟩ := H.out (by omega)
      have hck := hc (pos / 8) hdv
      have hx := UInt8.toNat_lt l[pos / 8]
      unfold byteV at hck
      generalize l[pos / 8] = x at *
      obtain ⟨C2, hC2, hC3, hC4⟩ := next_bit C x.toNat (7 - pos % 8) m hC (by omega) hx (by omega)
      have HTK : Hid (bitsOf C2 (m + 1) = D.take (m + 1)) := Lib.hid (by
        rw [hC4, hb, List.take_add_one, hdg]
        rfl)
      have e1 : ((7 : Int) - ((pos : Int) % 8)).toNat = 7 - pos % 8 := by omega
      have i1 : (0 : Int) ≤ 7 - ((pos : Int) % 8) := by omega
      have i2 : (0 : Int) ≤ (pos : Int) := by omega
      have i3 : (pos : Int) / 8 < (n : Int) := by omega
      have i4 : ((pos : Int) / 8).toNat = pos / 8 := by omega
      have HNS := Lib.hid hns
      clear hc hb hC4 hns hdg
      obtain ⟨s1, s2⟩ := sym_iff (D := D) hC3 (by omega) HTK.out (by have := HDL2.out; omega)
      have S1 := Lib.hid s1
      have S2 := Lib.hid s2
      have HTAB := Lib.hid (tab1 (n := m + 1) (by omega))
      have y1 : w.cell? ⟨p, 518 + (m + 1), none⟩ = some (.int .u32 (fstF (m + 1) : Int)) := (HC.out.cellL _).trans (Cod.get_fst HC.out.1 (by omega))
      have y2 : w.cell? ⟨p, 580 + (m + 1), none⟩ = some (.int .i64 (cntF (m + 1) : Int)) := (HC.out.cellL _).trans (Cod.get_cnt HC.out.1 (by omega))
      have y3 : w.cell? ⟨p, 549 + (m + 1), none⟩ = some (.int .i64 (plcF (m + 1) : Int)) := (HC.out.cellL _).trans (Cod.get_plc HC.out.1 (by omega))
      have HMATCH : Hid (fstF (m + 1) ≤ C2 ∧ C2 - fstF (m + 1) < cntF (m + 1) → w.cell? ⟨p, 261 + (plcF (m + 1) + (C2 - fstF (m + 1))), none⟩ = some (.int .i64 (ordF (plcF (m + 1) + (C2 - fstF (m + 1))) : Int)) ∧ ∀ w', Fresh w w' → NextP D w (.returned (.tuple #[.int .i64 (ordF (plcF (m + 1) + (C2 - fstF (m + 1))) : Int), .int .i64 ((m : Int) + 1), .bool true])) w') := Lib.hid (fun ⟨h1, h2⟩ => by
        obtain ⟨k1, k2⟩ := S1.out (C2 - fstF (m + 1)) (by omega) h2
        refine ⟨(HC.out.cellL _).trans (Cod.get_ord HC.out.1 (by have := HTAB.out.2.2.2.1; omega)), fun w' hw => ⟨?_, hw⟩⟩
        rw [k1]
        simp only [k2]
        rfl)
      have HNO : Hid ((C2 < fstF (m + 1) ∨ cntF (m + 1) ≤ C2 - fstF (m + 1)) → NoSym D (m + 1)) := Lib.hid (fun h s hs hl => by
        by_cases e : ln s = m + 1
        · exact S2.out h s hs e
        · exact HNS.out s hs (by omega))
      have hf32 := HTAB.out.2.2.1
      have hc257 := HTAB.out.2.1
      have hp257 := HTAB.out.2.2.2.1
      have hC32 : C2 < 4294967296 := Nat.lt_of_lt_of_le hC3 (Nat.le_trans (Nat.pow_le_pow_right (by omega) (show m + 1 ≤ 30 by omega)) (by decide))
      have j1 : (m : Int) + 1 < 31 := by omega
      have j2 : (0 : Int) ≤ (m : Int) + 1 := by omega
      have j3 : ((m : Int) + 1).toNat = m + 1 := by omega
      obtain ⟨f, hf⟩ : ∃ f, fstF (m + 1) = f := ⟨_, rfl⟩
      obtain ⟨g, hg⟩ : ∃ g, cntF (m + 1) = g := ⟨_, rfl⟩
      obtain ⟨P, hP⟩ : ∃ P, plcF (m + 1) = P := ⟨_, rfl⟩
      rw [hf] at y1 HMATCH HNO hf32
      rw [hg] at y2 HMATCH HNO hc257 hp257
      rw [hP] at y3 HMATCH hp257
      have e5 : IntKind.i64.wrap ((C2 : Int) - (f : Int)) = (C2 : Int) - (f : Int) := IntWalk.i64_in _ (by omega)
      clear s1 s2 hf hg hP
      by_cases hm1 : f ≤ C2 ∧ C2 - f < g
      · obtain ⟨I, hI⟩ : ∃ I, f + I = C2 := ⟨C2 - f, by omega⟩
        obtain ⟨HM1, HM2⟩ := HMATCH.out hm1
        have e6 : C2 - f = I := by omega
        rw [e6] at HM1 HM2
        have e7 : (C2 : Int) - (f : Int) = (I : Int) := by omega
        have k1 : (0 : Int) ≤ (I : Int) := by omega
        have k2 : (I : Int) < (g : Int) := by omega
        have k3 : (P : Int) + (I : Int) < 257 := by omega
        have k4 : (0 : Int) ≤ (P : Int) + (I : Int) := by omega
        have k5 : ((P : Int) + (I : Int)).toNat = P + I := by omega
        have k6 : IntKind.i64.wrap ((P : Int) + (I : Int)) = (P : Int) + (I : Int) := IntWalk.i64_in _ (by omega)
        have HM2 := Lib.hid HM2
        generalize ordF (P + I) = sy at *
        clear hm1 hI e6 e5
        go_upto_region 9 with fail
        go_quiet (fail)
        clear y1 y2 y3 HM1 k6 e7
        go_wp2
        go_ret3
        exact HM2.out _ (Fresh.drewN _ _)
      · have HREL := Lib.hid (HNO.out (by omega))
        by_cases hlt : C2 < f
        · have k1 : ¬ (f : Int) ≤ (C2 : Int) := by omega
          have k2 : ¬ (0 : Int) ≤ (C2 : Int) - (f : Int) := by omega
          clear hm1
          go_wp2
          go_round
          case rel => exact ⟨m + 1, C2, by omega, by have := HPOS.out; omega, by have := HPOS.out; rw [show ((at0 + (m + 1) : Nat) : Int) = (pos : Int) + 1 by omega], rfl, by go_num, hC3, HTK.out, HREL.out⟩
          case measure => simp [intOf]; omega
        · obtain ⟨I, hI⟩ : ∃ I, f + I = C2 := ⟨C2 - f, by omega⟩
          have e7 : (C2 : Int) - (f : Int) = (I : Int) := by omega
          have k1 : (0 : Int) ≤ (I : Int) := by omega
          have k2 : ¬ (I : Int) < (g : Int) := by omega
          have k3 : decide (I < g) = false := by simp; omega
          clear hm1 hI hlt e5
          go_wp2
          go_round
          case rel => exact ⟨m + 1, C2, by omega, by have := HPOS.out; omega, by have := HPOS.out; rw [show ((at0 + (m + 1) : Nat) : Int) = (pos : Int) + 1 by omega], rfl, by go_num, hC3, HTK.out, HREL.out⟩
          case measure => simp [intOf]; omega
end Go.Proofs.Ytkdbndgkgpcmfaa
