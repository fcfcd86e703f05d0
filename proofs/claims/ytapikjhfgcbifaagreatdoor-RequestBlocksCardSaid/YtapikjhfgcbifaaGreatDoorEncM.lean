/-
  Texts laid together: EncF EncG.
-/
import Derived.Test.YtapikjhfgcbifaaGreatDoorEncN
import Derived.Test.YtapikjhfgcbifaaGreatDoorLitP
/-
  Layer 8: when bytes are careful forms alone. No Go in sight.
-/
namespace Go.Proofs.YtapikjhfgcbifaaGreatDoor
set_option linter.unusedVariables false
/-- Texts from place u on: where they end. -/
def textsR : Nat → List UInt8 → Nat → Option Nat
  | 0, _, u => some u
  | t + 1, l, u => if (litR (l.drop u) 4096).2.2 = 0 then textsR t l (u + (litR (l.drop u) 4096).2.1) else none
/-- How many bytes the careful form at the beginning has. -/
def pfR (l : List UInt8) : Option Nat :=
  if (l.headD 0).toNat / 128 = 1 then (if (decL l 7).2.2 = 0 ∧ 1 ≤ (decL l 7).1 ∧ (decL l 7).1 ≤ 61 then some (decL l 7).2.1.toNat else none)
  else if 1 < (l.headD 0).toNat / 16 then none
  else if (decL l 4).2.2 = 0 ∧ (decL l 4).1 ≤ 61 then textsR (if (decL l 4).1 = 0 then 2 else 1) l (decL l 4).2.1.toNat else none
def plainF : Nat → List UInt8 → Bool
  | 0, l => l.isEmpty
  | f + 1, l => if l.isEmpty then true else match pfR l with
    | none => false
    | some u => plainF f (l.drop u)
def plainB (l : List UInt8) : Bool := plainF l.length l
theorem textsR_ge : ∀ (t : Nat) (l : List UInt8) (u v : Nat), textsR t l u = some v → u ≤ v
  | 0, l, u, v, h => by simp [textsR] at h; omega
  | t + 1, l, u, v, h => by
    unfold textsR at h
    by_cases h0 : (litR (l.drop u) 4096).2.2 = 0
    · rw [if_pos h0] at h
      have := textsR_ge t l _ v h
      omega
    · rw [if_neg h0] at h; cases h
theorem textsR_le : ∀ (t : Nat) (l : List UInt8) (u v : Nat), u ≤ l.length → textsR t l u = some v → v ≤ l.length
  | 0, l, u, v, hu, h => by simp [textsR] at h; omega
  | t + 1, l, u, v, hu, h => by
    unfold textsR at h
    by_cases h0 : (litR (l.drop u) 4096).2.2 = 0
    · rw [if_pos h0] at h
      have h1 := (litR_used _ _ h0).2
      rw [List.length_drop] at h1
      exact textsR_le t l _ v (by omega) h
    · rw [if_neg h0] at h; cases h
theorem pfR_bd {l : List UInt8} {u : Nat} (h : pfR l = some u) : 1 ≤ u ∧ u ≤ l.length := by
  unfold pfR at h
  by_cases h1 : (l.headD 0).toNat / 128 = 1
  · rw [if_pos h1] at h
    by_cases h2 : (decL l 7).2.2 = 0 ∧ 1 ≤ (decL l 7).1 ∧ (decL l 7).1 ≤ 61
    · rw [if_pos h2] at h
      rcases decL_casesB 7 (by omega) l with e | e | ⟨N, v, e, a, b, c⟩
      · rw [e] at h2; simp at h2
      · rw [e] at h2; simp at h2
      · rw [e] at h; simp at h; omega
    · rw [if_neg h2] at h; cases h
  · rw [if_neg h1] at h
    by_cases h2 : 1 < (l.headD 0).toNat / 16
    · rw [if_pos h2] at h; cases h
    · rw [if_neg h2] at h
      by_cases h3 : (decL l 4).2.2 = 0 ∧ (decL l 4).1 ≤ 61
      · rw [if_pos h3] at h
        rcases decL_casesB 4 (by omega) l with e | e | ⟨N, v, e, a, b, c⟩
        · rw [e] at h3; simp at h3
        · rw [e] at h3; simp at h3
        · rw [e] at h
          have h4 := textsR_ge _ _ _ _ h
          have h5 := textsR_le _ _ _ _ (by simpa using b) h
          simp at h4
          omega
      · rw [if_neg h3] at h; cases h
theorem plainF_fuel : ∀ (f g : Nat) (l : List UInt8), l.length ≤ f → l.length ≤ g → plainF f l = plainF g l
  | 0, 0, l, _, _ => rfl
  | 0, g + 1, l, hf, _ => by
    have : l = [] := List.length_eq_zero_iff.1 (by omega)
    subst this; rfl
  | f + 1, 0, l, _, hg => by
    have : l = [] := List.length_eq_zero_iff.1 (by omega)
    subst this; rfl
  | f + 1, g + 1, l, hf, hg => by
    unfold plainF
    cases he : l.isEmpty with
    | true => rfl
    | false =>
      simp only [Bool.false_eq_true, if_false]
      cases hp : pfR l with
      | none => rfl
      | some u =>
        have := pfR_bd hp
        exact plainF_fuel f g (l.drop u) (by rw [List.length_drop]; omega) (by rw [List.length_drop]; omega)
theorem plainB_nil : plainB [] = true := rfl
theorem plainB_step {l : List UInt8} (hl : 0 < l.length) : plainB l = match pfR l with
    | none => false
    | some u => plainB (l.drop u) := by
  obtain ⟨f, hf⟩ : ∃ f, l.length = f + 1 := ⟨l.length - 1, by omega⟩
  have he : l.isEmpty = false := by cases l <;> simp_all
  unfold plainB
  rw [hf]
  conv => lhs; unfold plainF
  rw [he]
  simp only [Bool.false_eq_true, if_false]
  cases hp : pfR l with
  | none => rfl
  | some u =>
    have := pfR_bd hp
    exact plainF_fuel f _ (l.drop u) (by rw [List.length_drop]; omega) (Nat.le_refl _)
/-! Forms are careful. -/
theorem encL_mark4 (n m : Nat) (hm : m < 2) (h : 0 < (encL n 4 m).length) : (encL n 4 m)[0].toNat / 16 = m := by
  have key : ∀ t, t < 16 → (UInt8.ofNat (m * 16 + t)).toNat / 16 = m := fun t ht => by
    have : (UInt8.ofNat (m * 16 + t)).toNat = m * 16 + t := by simp; omega
    rw [this]
    omega
  by_cases h1 : n < 2 ^ 4 - 1
  · have hl : encL n 4 m = [UInt8.ofNat (m * 2 ^ 4 + n)] := by unfold encL; rw [if_pos h1]
    simp only [hl, List.getElem_cons_zero]
    exact key n (by omega)
  · have hl : encL n 4 m = UInt8.ofNat (m * 2 ^ 4 + (2 ^ 4 - 1)) :: tailF 5 (n - (2 ^ 4 - 1)) := by unfold encL; rw [if_neg h1]
    simp only [hl, List.getElem_cons_zero]
    exact key _ (by omega)
theorem pf_form {n v : List UInt8} {m : Nat} {P : List UInt8} (h : IsFormF n v m P) (hm : m < 2) (hn : n.length ≤ 4096) (hv : v.length ≤ 4096) (more : List UInt8) : pfR (P ++ more) = some P.length := by
  obtain ⟨i, hi, hx, Pn, Pv, h1, h2, rfl⟩ := h
  have h3 := encL_length i 4 m (by omega)
  have hmk := encL_mark4 i m hm (by omega)
  obtain ⟨X, hX⟩ : ∃ X, encL i 4 m = X := ⟨_, rfl⟩
  have hd := decL_encL i 4 m (((if i = 0 then Pn else []) ++ Pv) ++ more) (by omega) (by omega) (by omega) (by omega)
  rw [hX] at h3 hd ⊢
  simp only [hX] at hmk
  have hh := headD_app X (((if i = 0 then Pn else []) ++ Pv) ++ more) (by omega)
  have l1 : ∀ more, litR (Pn ++ more) 4096 = (n, Pn.length, 0) := fun more => by
    have := litR_lit (cd := decide (litN n true < litN n false)) h1 (by omega) more 4096
    rwa [if_neg (by omega)] at this
  have l2 : ∀ more, litR (Pv ++ more) 4096 = (v, Pv.length, 0) := fun more => by
    have := litR_lit (cd := decide (litN v true < litN v false)) h2 (by omega) more 4096
    rwa [if_neg (by omega)] at this
  unfold pfR
  rw [List.append_assoc X, hh, hmk, if_neg (by omega), if_neg (by omega), hd]
  simp only
  rw [if_pos ⟨trivial, by omega⟩]
  by_cases h0 : i = 0
  · subst h0
    simp only [if_true, Int.toNat_natCast]
    rw [if_pos (by rfl)]
    unfold textsR
    have d1 : (X ++ ((Pn ++ Pv) ++ more)).drop X.length = Pn ++ (Pv ++ more) := by simp
    rw [d1, l1]
    simp only [if_true]
    unfold textsR
    have d2 : (X ++ ((Pn ++ Pv) ++ more)).drop (X.length + Pn.length) = Pv ++ more := by
      rw [← List.drop_drop, d1]; simp
    rw [d2, l2]
    simp only [if_true, textsR]
    simp
    omega
  · rw [if_neg (by omega)]
    simp only [if_neg h0, List.nil_append, Int.toNat_natCast]
    unfold textsR
    have d1 : (X ++ (Pv ++ more)).drop X.length = Pv ++ more := by simp
    rw [d1, l2]
    simp only [if_true, textsR]
    simp
theorem pf_line {x : Ln} {P : List UInt8} (h : IsLine x P) (hx : x.fits = true) (more : List UInt8) : pfR (P ++ more) = some P.length := by
  obtain ⟨n, v, nv⟩ := x
  simp only [Ln.fits, Bool.and_eq_true, decide_eq_true_eq] at hx
  obtain ⟨z, ex, hz, hix, hl⟩ := h
  cases nv with
  | true => exact pf_form (show IsFormF n v 1 P from hl) (by omega) hx.1 hx.2 more
  | false =>
    cases ex with
    | false => exact pf_form (show IsFormF n v 0 P from hl) (by omega) hx.1 hx.2 more
    | true =>
      have h2 : P = encL z 7 1 := hl
      subst h2
      have hz1 : 1 ≤ z := by
        rcases hix with ⟨k, _, e, _⟩ | ⟨e, _⟩
        · omega
        · cases e
      have h3 := encL_length z 7 1 (by omega)
      have hmk := encL_markL z 1 (by omega) (by omega)
      have hd := decL_encL z 7 1 more (by omega) (by omega) (by omega) (by omega)
      have hh := headD_app (encL z 7 1) more (by omega)
      unfold pfR
      rw [hh, hmk, if_pos rfl, hd]
      simp only
      rw [if_pos ⟨trivial, by omega, by omega⟩]
      simp
theorem plain_row : ∀ (xs : List Ln) (F : List UInt8), (∀ x ∈ xs, x.fits = true) → RowE xs F → plainB F = true
  | [], F, _, h => by
    have h2 : F = [] := h
    subst h2
    rfl
  | x :: r, F, hx, ⟨P, F', h1, h2, h3⟩ => by
    subst h3
    have hp := pf_line h1 (hx x (by simp)) F'
    have hb := pfR_bd hp
    rw [plainB_step (by omega), hp]
    simp only
    rw [List.drop_left]
    exact plain_row r F' (fun y hy => hx y (by simp [hy])) h2
end Go.Proofs.YtapikjhfgcbifaaGreatDoor

/-
  Package encode: plainForm, Plain.
-/
namespace Go.Proofs.YtapikjhfgcbifaaGreatDoor
set_option linter.unusedVariables false
set_option linter.unusedSimpArgs false
open Go.RowKit
def PfOk (l : List UInt8) (u : Int) (ok : Bool) : Prop := match pfR l with
  | some v => ok = true ∧ u = (v : Int)
  | none => ok = false
def PfP (l : List UInt8) (w : World) (e : Ending) (w' : World) : Prop := ∃ (u : Int) (ok : Bool), e = .returned (.tuple #[.int .i64 u, .bool ok]) ∧ PfOk l u ok ∧ Fresh w w'
theorem PfP.mk {l : List UInt8} {w w' : World} {u : Int} {ok : Bool} (h : PfOk l u ok) (hf : Fresh w w') : PfP l w (.returned (.tuple #[.int .i64 u, .bool ok])) w' := ⟨u, ok, rfl, h, hf⟩
set_option maxRecDepth 100000 in
set_option maxHeartbeats 6400000 in
theorem en_pf (A : Option Addr) (c : Nat) (l : List UInt8) (w : World) (hl0 : 0 < l.length) (hl : l.length ≤ 100000000) (hlc : l.length ≤ c) (hcm : c ≤ maxLen) (hB : BS w A l) :
    Calls Tryz.prog 41 #[.slice A l.length c] w (PfP l w) := by
  have hcm2 := hcm
  unfold maxLen at hcm2
  obtain ⟨x, hx⟩ : ∃ x, l[0] = x := ⟨_, rfl⟩
  have hx8 := UInt8.toNat_lt x
  have hh : l.headD 0 = x := by
    have := headD_app l [] hl0
    rw [List.append_nil] at this
    exact this.trans hx
  have HM : Hid (∀ (b : Nat) W, 1 ≤ b → b ≤ 8 → Fresh w W → Calls Tryz.prog 58 #[.slice A l.length c, .int .i64 (b : Int)] W fun e w' => e = .returned (.tuple #[.int .i64 ((x.toNat / 2 ^ b : Nat) : Int), .bool true]) ∧ Fresh W w') := Lib.hid (fun b W h1 h2 hf => by
    have := mark_yes A c b l W h1 h2 hl0 (hB.fresh hf)
    rw [hx] at this
    exact this)
  have HM7 : Hid (Calls Tryz.prog 58 #[.slice A l.length c, .int .i64 7] w fun e w' => e = .returned (.tuple #[.int .i64 ((x.toNat / 128 : Nat) : Int), .bool true]) ∧ Fresh w w') := Lib.hid (HM.out 7 w (by omega) (by omega) (Fresh.refl _))
  have HM4 : Hid (∀ W, Fresh w W → Calls Tryz.prog 58 #[.slice A l.length c, .int .i64 4] W fun e w' => e = .returned (.tuple #[.int .i64 ((x.toNat / 16 : Nat) : Int), .bool true]) ∧ Fresh W w') := Lib.hid (fun W hf => HM.out 4 W (by omega) (by omega) hf)
  have HD7 : Hid (∀ W, Fresh w W → Calls Tryz.prog 59 #[.slice A l.length c, .int .i64 7] W fun e w' => e = .returned (decV (decL l 7)) ∧ Fresh W w') := Lib.hid (fun W hf => dec_any A c 7 l W (by omega) (by omega) (by omega) (hB.fresh hf))
  have HD4 : Hid (∀ W, Fresh w W → Calls Tryz.prog 59 #[.slice A l.length c, .int .i64 4] W fun e w' => e = .returned (decV (decL l 4)) ∧ Fresh W w') := Lib.hid (fun W hf => dec_any A c 4 l W (by omega) (by omega) (by omega) (hB.fresh hf))
  have HLD : Hid (∀ (u : Nat) W, u ≤ l.length → Fresh w W → Calls Tryz.prog 60 #[.slice (cutA A u c) (l.length - u) (c - u), .int .i64 4096] W (LitDP (l.drop u) 4096 W)) := Lib.hid (fun u W hu hf => by
    have := lit_decode (cutA A u c) (c - u) (l.drop u) 4096 W (by rw [List.length_drop]; omega) (by rw [List.length_drop]; omega) (by unfold maxLen; omega) ((hB.fresh hf).cut u c hlc)
    rwa [List.length_drop] at this)
  have HMK : Hid (∀ (u : Int) (ok : Bool) W, PfOk l u ok → Fresh w W → PfP l w (.returned (.tuple #[.int .i64 u, .bool ok])) W) := Lib.hid (fun u ok W h hf => PfP.mk h hf)
  have HPF : Hid (pfR l = if x.toNat / 128 = 1 then (if (decL l 7).2.2 = 0 ∧ 1 ≤ (decL l 7).1 ∧ (decL l 7).1 ≤ 61 then some (decL l 7).2.1.toNat else none)
    else if 1 < x.toNat / 16 then none
    else if (decL l 4).2.2 = 0 ∧ (decL l 4).1 ≤ 61 then textsR (if (decL l 4).1 = 0 then 2 else 1) l (decL l 4).2.1.toNat else none) := Lib.hid (by
    have : pfR l = _ := rfl
    unfold pfR
    rw [hh])
  have HCT : Hid (∀ u : Nat, u ≤ l.length → ∀ W, (Instr.slice 23 (.slice A l.length c) (some (.int .i64 (u : Int))) none none).run Tryz.prog W = .ok (.slice (cutA A u c) (l.length - u) (c - u)) W) := Lib.hid (fun u hu => run_cut_from (P := Tryz.prog) Tryz.underlying23 u8_sizeL A l.length c u hu)
  obtain ⟨M7, hM7⟩ : ∃ M7, x.toNat / 128 = M7 := ⟨_, rfl⟩
  obtain ⟨M4, hM4⟩ : ∃ M4, x.toNat / 16 = M4 := ⟨_, rfl⟩
  rw [hM7] at HM7 HPF
  rw [hM4] at HM4 HPF
  have hm1 : M7 ≤ 1 := by omega
  have hm2 : M4 ≤ 15 := by omega
  clear hB hx hh HM hM7 hM4 hx8
  have HNO : Hid (∀ u W, pfR l = none → Fresh w W → PfP l w (.returned (.tuple #[.int .i64 u, .bool false])) W) := Lib.hid (fun u W h hf => HMK.out u false W (by unfold PfOk; rw [h]) hf)
  have HYES : Hid (∀ (v : Nat) W, pfR l = some v → Fresh w W → PfP l w (.returned (.tuple #[.int .i64 (v : Int), .bool true])) W) := Lib.hid (fun v W h hf => HMK.out (v : Int) true W (by unfold PfOk; rw [h]; exact ⟨rfl, rfl⟩) hf)
  generalize PfP l w = PP at *
  clear HMK
  by_cases h7 : M7 = 1
  · subst h7
    have hpf := HPF.out
    rw [if_pos rfl] at hpf
    rw [show ((1 : Nat) : Int) = 1 from rfl] at HM7
    rcases decL_casesB 7 (by omega) l with hd | hd | ⟨N, u, hd, hu1, hul, hN⟩
    · rw [hd] at HD7 hpf
      rw [if_neg (by simp)] at hpf
      have HFIN := Lib.hid (fun u W hf => HNO.out u W hpf hf)
      clear hpf hd HPF HNO HYES
      generalize l.length = n at *
      go_enter Tryz.func41, Tryz.ntmps41
      go_wp2_with fail
      with_reducible refine HM7.out.mono ?_
      rintro e w1 ⟨rfl, hf1⟩
      go_wp2_with fail
      with_reducible refine (HD7.out _ hf1).mono ?_
      rintro e w2 ⟨rfl, hf2⟩
      unfold decV
      go_wp2
      exact HFIN.out _ _ (hf1.trans hf2)
    · rw [hd] at HD7 hpf
      rw [if_neg (by simp)] at hpf
      have HFIN := Lib.hid (fun u W hf => HNO.out u W hpf hf)
      clear hpf hd HPF HNO HYES
      generalize l.length = n at *
      go_enter Tryz.func41, Tryz.ntmps41
      go_wp2_with fail
      with_reducible refine HM7.out.mono ?_
      rintro e w1 ⟨rfl, hf1⟩
      go_wp2_with fail
      with_reducible refine (HD7.out _ hf1).mono ?_
      rintro e w2 ⟨rfl, hf2⟩
      unfold decV
      go_wp2
      exact HFIN.out _ _ (hf1.trans hf2)
    · rw [hd] at HD7 hpf
      simp only at hpf
      by_cases hN1 : 1 ≤ N
      · by_cases hN61 : N ≤ 61
        · rw [if_pos ⟨trivial, by omega, by omega⟩, Int.toNat_natCast] at hpf
          have HFIN := Lib.hid (fun W hf => HYES.out u W hpf hf)
          have d1 : decide ((1 : Int) ≤ (N : Int)) = true := decide_eq_true (by omega)
          have d2 : decide ((N : Int) ≤ 61) = true := decide_eq_true (by omega)
          clear hpf hd HPF HNO HYES
          generalize l.length = n at *
          go_enter Tryz.func41, Tryz.ntmps41
          go_wp2_with fail
          with_reducible refine HM7.out.mono ?_
          rintro e w1 ⟨rfl, hf1⟩
          go_wp2_with fail
          with_reducible refine (HD7.out _ hf1).mono ?_
          rintro e w2 ⟨rfl, hf2⟩
          unfold decV
          go_wp2
          exact HFIN.out _ (hf1.trans hf2)
        · rw [if_neg (by omega)] at hpf
          have HFIN := Lib.hid (fun u W hf => HNO.out u W hpf hf)
          have d1 : decide ((1 : Int) ≤ (N : Int)) = true := decide_eq_true (by omega)
          have d2 : decide ((N : Int) ≤ 61) = false := decide_eq_false (by omega)
          clear hpf hd HPF HNO HYES
          generalize l.length = n at *
          go_enter Tryz.func41, Tryz.ntmps41
          go_wp2_with fail
          with_reducible refine HM7.out.mono ?_
          rintro e w1 ⟨rfl, hf1⟩
          go_wp2_with fail
          with_reducible refine (HD7.out _ hf1).mono ?_
          rintro e w2 ⟨rfl, hf2⟩
          unfold decV
          go_wp2
          exact HFIN.out _ _ (hf1.trans hf2)
      · rw [if_neg (by omega)] at hpf
        have HFIN := Lib.hid (fun u W hf => HNO.out u W hpf hf)
        have d1 : decide ((1 : Int) ≤ (N : Int)) = false := decide_eq_false (by omega)
        clear hpf hd HPF HNO HYES
        generalize l.length = n at *
        go_enter Tryz.func41, Tryz.ntmps41
        go_wp2_with fail
        with_reducible refine HM7.out.mono ?_
        rintro e w1 ⟨rfl, hf1⟩
        go_wp2_with fail
        with_reducible refine (HD7.out _ hf1).mono ?_
        rintro e w2 ⟨rfl, hf2⟩
        unfold decV
        go_wp2
        exact HFIN.out _ _ (hf1.trans hf2)
  · have hM0 : M7 = 0 := by omega
    subst hM0
    have hpf := HPF.out
    rw [if_neg (by omega)] at hpf
    rw [show ((0 : Nat) : Int) = 0 from rfl] at HM7
    by_cases h4 : 1 < M4
    · rw [if_pos h4] at hpf
      have HFIN := Lib.hid (fun u W hf => HNO.out u W hpf hf)
      have d1 : ((M4 : Int) != 0) = true := by simp; omega
      have d2 : ((M4 : Int) != 1) = true := by simp; omega
      have d3 : ¬ (M4 : Int) = 0 := by omega
      have d4 : ¬ (M4 : Int) = 1 := by omega
      clear hpf HPF HNO HYES
      generalize l.length = n at *
      go_enter Tryz.func41, Tryz.ntmps41
      go_wp2_with fail
      with_reducible refine HM7.out.mono ?_
      rintro e w1 ⟨rfl, hf1⟩
      go_wp2_with fail
      with_reducible refine (HM4.out _ hf1).mono ?_
      rintro e w2 ⟨rfl, hf2⟩
      go_wp2
      exact HFIN.out _ _ (hf1.trans hf2)
    · rw [if_neg h4] at hpf
      have hM4 : M4 = 0 ∨ M4 = 1 := by omega
      clear h4 HPF
      rcases hM4 with rfl | rfl
      all_goals
        first | rw [show ((0 : Nat) : Int) = 0 from rfl] at HM4 | rw [show ((1 : Nat) : Int) = 1 from rfl] at HM4
        rcases decL_casesB 4 (by omega) l with hd | hd | ⟨N, u, hd, hu1, hul, hN⟩
        · rw [hd] at HD4 hpf
          rw [if_neg (by simp)] at hpf
          have HFIN := Lib.hid (fun u W hf => HNO.out u W hpf hf)
          clear hpf hd HNO HYES
          generalize l.length = n at *
          go_enter Tryz.func41, Tryz.ntmps41
          go_wp2_with fail
          with_reducible refine HM7.out.mono ?_
          rintro e w1 ⟨rfl, hf1⟩
          go_wp2_with fail
          with_reducible refine (HM4.out _ hf1).mono ?_
          rintro e w2 ⟨rfl, hf2⟩
          go_wp2_with fail
          with_reducible refine (HD4.out _ (hf1.trans hf2)).mono ?_
          rintro e w3 ⟨rfl, hf3⟩
          unfold decV
          go_wp2
          exact HFIN.out _ _ ((hf1.trans hf2).trans hf3)
        · rw [hd] at HD4 hpf
          rw [if_neg (by simp)] at hpf
          have HFIN := Lib.hid (fun u W hf => HNO.out u W hpf hf)
          clear hpf hd HNO HYES
          generalize l.length = n at *
          go_enter Tryz.func41, Tryz.ntmps41
          go_wp2_with fail
          with_reducible refine HM7.out.mono ?_
          rintro e w1 ⟨rfl, hf1⟩
          go_wp2_with fail
          with_reducible refine (HM4.out _ hf1).mono ?_
          rintro e w2 ⟨rfl, hf2⟩
          go_wp2_with fail
          with_reducible refine (HD4.out _ (hf1.trans hf2)).mono ?_
          rintro e w3 ⟨rfl, hf3⟩
          unfold decV
          go_wp2
          exact HFIN.out _ _ ((hf1.trans hf2).trans hf3)
        · rw [hd] at HD4 hpf
          simp only at hpf
          by_cases hN61 : N ≤ 61
          · rw [if_pos ⟨trivial, by omega⟩, Int.toNat_natCast] at hpf
            have d1 : ¬ (61 : Int) < (N : Int) := by omega
            have d1d : decide ((61 : Int) < (N : Int)) = false := decide_eq_false d1
            obtain ⟨T, hT⟩ : ∃ T : Nat, (if (N : Int) = 0 then 2 else 1) = T := ⟨_, rfl⟩
            rw [hT] at hpf
            have HT := Lib.hid hpf.symm
            have hT3 : T ≤ 2 := by subst hT; split <;> omega
            have HUL := Lib.hid hul
            have HLN : Hid (l.length ≤ 100000000 ∧ l.length ≤ c) := Lib.hid ⟨hl, hlc⟩
            clear hpf hd HD7
            obtain ⟨n, hn⟩ : ∃ n, l.length = n := ⟨_, rfl⟩
            have HNN := Lib.hid hn
            rw [hn] at HM7 HM4 HD4 HLD HCT HUL HLN hl hlc hl0 ⊢
            clear hn hul
            have hTT : (N = 0 ∧ T = 2) ∨ (N ≠ 0 ∧ T = 1) := by
              subst hT
              by_cases h : N = 0
              · subst h; exact .inl ⟨rfl, rfl⟩
              · exact .inr ⟨h, by rw [if_neg (by omega)]⟩
            clear hT
            rcases hTT with ⟨rfl, hT2⟩ | ⟨hN0, hT2⟩
            all_goals
              have HT2 := Lib.hid hT2
              clear hT2
              try have hN0i : ¬ (N : Int) = 0 := by omega
              try have hN0d : ((N : Int) == 0) = false := by (simp; omega)
              try rw [show ((0 : Nat) : Int) = 0 from rfl] at HD4
              go_enter Tryz.func41, Tryz.ntmps41
              go_wp2_with fail
              with_reducible refine HM7.out.mono ?_
              rintro e w1 ⟨rfl, hf1⟩
              have HF1 := Lib.hid hf1
              clear hf1
              go_wp2_with fail
              with_reducible refine (HM4.out _ HF1.out).mono ?_
              rintro e w2 ⟨rfl, hf2⟩
              have HF2 := Lib.hid (HF1.out.trans hf2)
              clear hf2
              go_wp2_with fail
              with_reducible refine (HD4.out _ HF2.out).mono ?_
              rintro e w3 ⟨rfl, hf3⟩
              have HF3 := Lib.hid (HF2.out.trans hf3)
              clear hf3
              unfold decV
              go_wp2
              try simp only [hN0d]
              go_loopw [12, 68] (fun us i wr => ∃ (j v : Nat), j ≤ T ∧ i = .int .i64 (j : Int) ∧ us = .int .i64 (v : Int) ∧ v ≤ n ∧ textsR (T - j) l v = pfR l ∧ Fresh w wr) (fun _ i _ => T - (intOf i).toNat)
              case atStart => exact ⟨0, u, by omega, rfl, rfl, HUL.out, by rw [Nat.sub_zero]; exact HT.out, HF3.out⟩
              case round =>
                obtain ⟨j, v, hj, rfl, rfl, hv, htx, hf⟩ := hrel
                have HF := Lib.hid hf
                have HTX := Lib.hid htx
                clear hf htx
                by_cases hjT : j < T
                · have hj2 : (j : Int) < (T : Int) := by omega
                  have hj3 : (T : Int) = 2 ∨ (T : Int) = 1 := by have := HT2.out; omega
                  have HLD1 := Lib.hid (HLD.out v wr hv HF.out)
                  have hct := HCT.out v hv
                  have HST : Hid (pfR l = if (litR (l.drop v) 4096).2.2 = 0 then textsR (T - (j + 1)) l (v + (litR (l.drop v) 4096).2.1) else none) := Lib.hid (by
                    have e : T - j = (T - (j + 1)) + 1 := by omega
                    have := HTX.out
                    rw [e] at this
                    rw [← this]
                    rfl)
                  have HUS := Lib.hid (fun h => litR_used (l.drop v) 4096 h)
                  unfold LitDP at HLD1
                  generalize hR : litR (l.drop v) 4096 = R at *
                  obtain ⟨O, p, er⟩ := R
                  simp only at HST HUS HLD1
                  have HDL : Hid ((l.drop v).length = n - v) := Lib.hid (by rw [List.length_drop, HNN.out])
                  clear hR
                  first
                    | (have hjj : (j : Int) < 2 := by (have := HT2.out; omega))
                    | skip
                  first
                    | (have hjk : (j : Int) < 1 := by (have := HT2.out; omega))
                    | skip
                  by_cases h0 : er = 0
                  · subst h0
                    have hu := HUS.out rfl
                    rw [HDL.out] at hu
                    have hst := HST.out
                    rw [if_pos rfl] at hst
                    have HST2 := Lib.hid hst
                    clear hst
                    go_wp2_with fail
                    with_reducible refine HLD1.out.mono ?_
                    rintro e w4 ⟨A4, c4, rfl, _, hf4⟩
                    rw [show ((0 : Nat) : Int) = 0 from rfl]
                    have HF4 := Lib.hid (HF.out.trans hf4)
                    clear hf4
                    generalize O.length = m at *
                    go_wp2
                    go_roundw
                    case rel => exact ⟨j + 1, v + p, by omega, by go_num, by go_num, by omega, HST2.out.symm, HF4.out⟩
                    case measure => simp [intOf]; omega
                  · have hst := HST.out
                    rw [if_neg h0] at hst
                    have HFIN := Lib.hid (fun u W hf => HNO.out u W hst hf)
                    have h0d : ((er : Int) != 0) = true := by simp; omega
                    have h0i : ¬ (er : Int) = 0 := by omega
                    clear hst
                    go_wp2_with fail
                    with_reducible refine HLD1.out.mono ?_
                    rintro e w4 ⟨A4, c4, rfl, _, hf4⟩
                    generalize O.length = m at *
                    go_wp2
                    exact HFIN.out _ _ (HF.out.trans hf4)
                · have hjT2 : j = T := by omega
                  have htx := HTX.out
                  rw [hjT2, Nat.sub_self] at htx
                  have HFIN := Lib.hid (HYES.out v _ htx.symm HF.out)
                  first
                    | (have hjj : ¬ (j : Int) < 2 := by (have := HT2.out; omega))
                    | skip
                  first
                    | (have hjk : ¬ (j : Int) < 1 := by (have := HT2.out; omega))
                    | skip
                  clear htx
                  go_wp2
                  exact HFIN.out
          · rw [if_neg (by omega)] at hpf
            have HFIN := Lib.hid (fun u W hf => HNO.out u W hpf hf)
            have d1 : (61 : Int) < (N : Int) := by omega
            have d1d : decide ((61 : Int) < (N : Int)) = true := decide_eq_true d1
            clear hpf hd HNO HYES
            generalize l.length = n at *
            go_enter Tryz.func41, Tryz.ntmps41
            go_wp2_with fail
            with_reducible refine HM7.out.mono ?_
            rintro e w1 ⟨rfl, hf1⟩
            go_wp2_with fail
            with_reducible refine (HM4.out _ hf1).mono ?_
            rintro e w2 ⟨rfl, hf2⟩
            go_wp2_with fail
            with_reducible refine (HD4.out _ (hf1.trans hf2)).mono ?_
            rintro e w3 ⟨rfl, hf3⟩
            unfold decV
            go_wp2
            exact HFIN.out _ _ ((hf1.trans hf2).trans hf3)
set_option maxRecDepth 100000 in
set_option maxHeartbeats 3200000 in
theorem en_plain (A : Option Addr) (c : Nat) (l : List UInt8) (w : World) (hl : l.length ≤ 100000000) (hlc : l.length ≤ c) (hcm : c ≤ maxLen) (hB : BS w A l) :
    Calls Tryz.prog 19 #[.slice A l.length c] w fun e w' => e = .returned (.bool (plainB l)) ∧ Fresh w w' := by
  have hcm2 := hcm
  unfold maxLen at hcm2
  have HPF := Lib.hid (fun A c (l : List UInt8) W (h0 : 0 < l.length) (h1 : l.length ≤ 100000000) (h2 : l.length ≤ c) (h3 : c ≤ maxLen) (hb : BS W A l) => en_pf A c l W h0 h1 h2 h3 hb)
  obtain ⟨r, hr⟩ : ∃ r, plainB l = r := ⟨_, rfl⟩
  have HR0 : Hid (∃ (X : List UInt8) (A' : Option Addr) (c' : Nat), X.length ≤ l.length ∧ Value.slice A l.length c = .slice A' X.length c' ∧ X.length ≤ c' ∧ c' ≤ maxLen ∧ BS w A' X ∧ plainB X = r) := Lib.hid ⟨l, A, c, Nat.le_refl _, rfl, hlc, hcm, hB, hr⟩
  rw [hr]
  have HL := Lib.hid hl
  generalize Value.slice A l.length c = v at *
  clear hB hr hlc hcm hcm2
  go_enter Tryz.func19, Tryz.ntmps19
  go_wp2
  go_loopw [0] (fun b wr => ∃ (X : List UInt8) (A' : Option Addr) (c' : Nat), X.length ≤ l.length ∧ b = .slice A' X.length c' ∧ X.length ≤ c' ∧ c' ≤ maxLen ∧ BS wr A' X ∧ plainB X = r ∧ Fresh w wr) (fun b _ => match b with | .slice _ n _ => n | _ => 0)
  case atStart =>
    obtain ⟨X, A', c', h1, h2, h3, h4, h5, h6⟩ := HR0.out
    exact ⟨X, A', c', h1, h2, h3, h4, h5, h6, Fresh.refl _⟩
  case round =>
    obtain ⟨X, A', c', hX, rfl, hXc, hcM, hb, hp, hf⟩ := hrel
    have HF := Lib.hid hf
    have HB := Lib.hid hb
    have HP := Lib.hid hp
    have hcM2 := hcM
    unfold maxLen at hcM2
    clear hb hp hf HR0
    by_cases h0 : 0 < X.length
    · have h0i : (0 : Int) < (X.length : Int) := by omega
      have HPF1 := Lib.hid (HPF.out A' c' X wr h0 (by omega) hXc hcM HB.out)
      have HST := Lib.hid (HP.out ▸ (plainB_step h0).symm)
      have hcutB : ∀ u W, Fresh w W → Fresh wr W → BS W (cutA A' u c') (X.drop u) := fun u W _ h => (HB.out.fresh h).cut u c' hXc
      have HCB := Lib.hid hcutB
      have HCT : Hid (∀ u : Nat, u ≤ X.length → ∀ W, (Instr.slice 23 (.slice A' X.length c') (some (.int .i64 (u : Int))) none none).run Tryz.prog W = .ok (.slice (cutA A' u c') (X.length - u) (c' - u)) W) := Lib.hid (fun u hu => run_cut_from (P := Tryz.prog) Tryz.underlying23 u8_sizeL A' X.length c' u hu)
      clear hcutB
      obtain ⟨n, hn⟩ : ∃ n, X.length = n := ⟨_, rfl⟩
      have HN := Lib.hid hn
      rw [hn] at HPF1 HCT hX hXc h0i h0 ⊢
      clear hn
      go_wp2_with fail
      with_reducible refine HPF1.out.mono ?_
      rintro e w2 ⟨u, ok, rfl, hok, hf2⟩
      have HF2 := Lib.hid (HF.out.trans hf2)
      have HF12 := Lib.hid hf2
      clear hf2
      unfold PfOk at hok
      cases hpf : pfR X with
      | none =>
        rw [hpf] at hok
        have hok2 : ok = false := hok
        subst hok2
        have HRF : Hid (r = false) := Lib.hid (by
          have := HP.out
          rw [plainB_step (by rw [HN.out]; exact h0), hpf] at this
          exact this.symm)
        clear hpf hok
        go_wp2
        exact bodyPost_ret (v := .bool false) (by simp [results, Tryz.f19, go_sem]) rfl ⟨by rw [HRF.out], HF2.out⟩
      | some v2 =>
        rw [hpf] at hok
        obtain ⟨hok2, hu2⟩ := hok
        subst hok2 hu2
        have hbd := pfR_bd hpf
        rw [HN.out] at hbd
        have hct := HCT.out v2 hbd.2
        have HREL : Hid ((X.drop v2).length = n - v2 ∧ BS w2 (cutA A' v2 c') (X.drop v2) ∧ plainB (X.drop v2) = r) := Lib.hid ⟨by rw [List.length_drop, HN.out], HCB.out v2 w2 HF2.out HF12.out, by
          have := HP.out
          rw [plainB_step (by rw [HN.out]; exact h0), hpf] at this
          exact this⟩
        clear hpf
        go_wp2
        exact ⟨⟨X.drop v2, cutA A' v2 c', c' - v2, by rw [HREL.out.1]; omega, by rw [HREL.out.1], by rw [HREL.out.1]; omega, by unfold maxLen; omega, HREL.out.2.1, HREL.out.2.2, HF2.out⟩, by show n - v2 < n; omega⟩
    · have hX0 : X = [] := List.length_eq_zero_iff.1 (by omega)
      subst hX0
      have HRT : Hid (r = true) := Lib.hid (by have := HP.out; rw [plainB_nil] at this; exact this.symm)
      rw [show ([] : List UInt8).length = 0 from rfl]
      go_wp2
      exact bodyPost_ret (v := .bool true) (by simp [results, Tryz.f19, go_sem]) rfl ⟨by rw [HRT.out], HF.out⟩
end Go.Proofs.YtapikjhfgcbifaaGreatDoor

