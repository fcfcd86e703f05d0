/-
  Texts laid together: EncD EncE.
-/
import Derived.Test.YtapikjhfgcbifaaGreatDoorEncN
/-
  Package encode: Encode, Len.
-/
namespace Go.Proofs.YtapikjhfgcbifaaGreatDoor
set_option linter.unusedVariables false
set_option linter.unusedSimpArgs false
open Go.RowKit
theorem Many.at3 {w : World} {A : Option Addr} {xs : List Ln} (h : Many Ln.cells 3 w A xs) (k : Nat) (x : Ln) (hx : xs[k]? = some x) :
    ∃ b o, A = some ⟨b, o, none⟩ ∧ b < w.heap.size ∧ w.cell? ⟨b, o + k * 3, none⟩ = some (.string (strB x.n)) ∧ w.cell? ⟨b, o + k * 3 + 1, none⟩ = some (.string (strB x.v)) ∧ w.cell? ⟨b, o + k * 3 + 2, none⟩ = some (.bool x.nv) := by
  obtain ⟨hk, rfl⟩ := List.getElem?_eq_some_iff.1 hx
  obtain ⟨b, o, e, hb, hc⟩ := h (by omega)
  exact ⟨b, o, e, hb, hc k hk 0 (by omega), hc k hk 1 (by omega), hc k hk 2 (by omega)⟩
/-- The lines' forms one behind the other. -/
def RowE : List Ln → List UInt8 → Prop
  | [], F => F = []
  | x :: r, F => ∃ P F', IsLine x P ∧ RowE r F' ∧ F = P ++ F'
theorem RowE.snoc : ∀ {r : List Ln} {F P : List UInt8} {x : Ln}, RowE r F → IsLine x P → RowE (r ++ [x]) (F ++ P)
  | [], F, P, x, h, hp => by
    have h2 : F = [] := h
    subst h2
    exact ⟨P, [], hp, rfl, by simp⟩
  | y :: r, F, P, x, h, hp => by
    obtain ⟨Q, F', hq, hr, rfl⟩ := h
    exact ⟨Q, F' ++ P, hq, RowE.snoc hr hp, by rw [List.append_assoc]⟩
theorem RowE.uniq : ∀ {r : List Ln} {F G : List UInt8}, RowE r F → RowE r G → F = G
  | [], F, G, h, k => Eq.trans h (Eq.symm k)
  | x :: r, F, G, ⟨P, F', h1, h2, h3⟩, ⟨Q, G', k1, k2, k3⟩ => by rw [h3, k3, IsLine.uniq h1 k1, RowE.uniq h2 k2]
theorem IsFormF.len {n v : List UInt8} {m : Nat} {L : List UInt8} (h : IsFormF n v m L) (hn : n.length ≤ 4096) (hv : v.length ≤ 4096) : L.length ≤ 40000 := by
  obtain ⟨i, hi, _, Pn, Pv, h1, h2, rfl⟩ := h
  have e1 := (litN_le n (decide (litN n true < litN n false)) (by omega)).2
  have e2 := (litN_le v (decide (litN v true < litN v false)) (by omega)).2
  rw [← IsLit.len h1] at e1
  rw [← IsLit.len h2] at e2
  have e3 := encL_length i 4 m (by omega)
  by_cases h0 : i = 0
  · rw [if_pos h0, List.length_append, List.length_append]; omega
  · rw [if_neg h0, List.length_append, List.length_append]; simp; omega
theorem IsLine.len {x : Ln} {L : List UInt8} (h : IsLine x L) (hx : x.fits = true) : L.length ≤ 40000 := by
  obtain ⟨z, ex, hz, _, hl⟩ := h
  obtain ⟨n, v, nv⟩ := x
  simp only [Ln.fits, Bool.and_eq_true, decide_eq_true_eq] at hx
  cases nv with
  | true => exact IsFormF.len (show IsFormF n v 1 L from hl) hx.1 hx.2
  | false =>
    cases ex with
    | true =>
      have h2 : L = encL z 7 1 := hl
      rw [h2]
      have := encL_length z 7 1 (by omega)
      omega
    | false => exact IsFormF.len (show IsFormF n v 0 L from hl) hx.1 hx.2
def EncRP (xs : List Ln) (w : World) (e : Ending) (w' : World) : Prop := ((∀ x ∈ xs, x.fits = true) ∧ FormP (RowE xs) w e w') ∨ ((∃ x ∈ xs, x.fits = false) ∧ e = .returned (.tuple #[.slice none 0 0, .int .i64 11]) ∧ Fresh w w')
set_option maxRecDepth 100000 in
set_option maxHeartbeats 6400000 in
theorem en_encode (A : Option Addr) (c : Nat) (xs : List Ln) (w : World) (hm : Many Ln.cells 3 w A xs) (hn : xs.length ≤ 1000) (hsz : ∀ x ∈ xs, x.n.length ≤ 9223372036854775807 ∧ x.v.length ≤ 9223372036854775807) :
    Calls Tryz.prog 17 #[.slice A xs.length c] w (EncRP xs w) := by
  have HMY := Lib.hid hm
  have HSZ := Lib.hid hsz
  obtain ⟨n, hxn⟩ : ∃ n, xs.length = n := ⟨_, rfl⟩
  have HN := Lib.hid hxn
  rw [hxn] at hn ⊢
  clear hm hsz hxn
  have HYES : Hid (∀ (F : List UInt8) (A : Option Addr) (c : Nat) (W : World), (∀ x ∈ xs, x.fits = true) → RowE xs F → Own W w.heap.size 5 1 (.slice A F.length c) F.length (F.map byteV) → Fresh w W → EncRP xs w (.returned (.tuple #[.slice A F.length c, .int .i64 0])) W) := Lib.hid (fun F A c W h0 h1 h2 h3 => .inl ⟨h0, F, A, c, rfl, h1, h2, h3⟩)
  have HNO : Hid (∀ (W : World), (∃ x ∈ xs, x.fits = false) → Fresh w W → EncRP xs w (.returned (.tuple #[.slice none 0 0, .int .i64 11])) W) := Lib.hid (fun W h1 h2 => .inr ⟨h1, rfl, h2⟩)
  generalize EncRP xs w = EP at *
  go_enter Tryz.func17, Tryz.ntmps17
  go_wp2
  go_loopw [4, 11] (fun all i wr => ∃ (k : Nat) (F : List UInt8), k ≤ n ∧ i = .int .i64 (k : Int) ∧ F.length ≤ 40000 * k ∧ Own wr w.heap.size 5 1 all F.length (F.map byteV) ∧ RowE (xs.take k) F ∧ (∀ j (hj : j < xs.length), j < k → (xs[j]).fits = true) ∧ Fresh w wr) (fun _ i _ => n - (intOf i).toNat)
  case atStart => exact ⟨0, [], by omega, rfl, by simp, Own.nil _ _ _ _, by rw [List.take_zero]; rfl, fun j _ h => by omega, Fresh.refl _⟩
  case round =>
    obtain ⟨k, F, hk, rfl, hFl, hown, hrow, hsm, hf⟩ := hrel
    have HOWN := Lib.hid hown
    have HROW := Lib.hid hrow
    have HSM := Lib.hid hsm
    have HF := Lib.hid hf
    obtain ⟨A0, c0, rfl, _, _, _⟩ := hown.slice
    clear hown hrow hsm hf
    by_cases hlt : k < n
    · have hlt' : (k : Int) < (n : Int) := by omega
      have h0 : (0 : Int) ≤ (k : Int) := by omega
      have hkx : k < xs.length := by rw [HN.out]; exact hlt
      have HXM : Hid (xs[k] ∈ xs) := Lib.hid (List.getElem_mem hkx)
      obtain ⟨bq, o, rfl, hbq, hc0, hc1, hc2⟩ := HMY.out.at3 k xs[k] (List.getElem?_eq_getElem hkx)
      have e0 := (HF.out.cell (p := ⟨bq, o + k * 3, none⟩) hbq).trans hc0
      have e1 := (HF.out.cell (p := ⟨bq, o + k * 3 + 1, none⟩) hbq).trans hc1
      have e2 := (HF.out.cell (p := ⟨bq, o + k * 3 + 2, none⟩) hbq).trans hc2
      have HXK : Hid ((xs[k]).fits = true → ∀ j (hj : j < xs.length), j < k + 1 → (xs[j]).fits = true) := Lib.hid (fun hb j hj h => by
        by_cases e : j = k
        · subst e; exact hb
        · exact HSM.out j hj (by omega))
      have HTK : Hid (xs.take (k + 1) = xs.take k ++ [xs[k]]) := Lib.hid (List.take_succ_eq_append_getElem hkx)
      have hxz := HSZ.out _ HXM.out
      generalize xs[k] = x at *
      clear hc0 hc1 hc2
      have HLY := Lib.hid (fun W (h : x.fits = true) => en_line x W h)
      have HLN := Lib.hid (fun W (h : x.fits = false) => en_line_no x W h hxz.1 hxz.2)
      obtain ⟨xn, xv, xb⟩ := x
      unfold Ln.val at HLY HLN
      simp only at HLY HLN e0 e1 e2
      clear hxz
      cases hfit : Ln.fits ⟨xn, xv, xb⟩ with
      | true =>
        have HLY2 := Lib.hid (fun W => HLY.out W hfit)
        have HXK2 := Lib.hid (HXK.out hfit)
        have HFIT := Lib.hid hfit
        clear hfit HLY HLN HXK
        generalize strB xn = SN at *
        generalize strB xv = SV at *
        go_wp2_with fail
        with_reducible refine (HLY2.out _).mono ?_
        rintro e w2 ⟨P, A2, c2, rfl, hP, hown2, hf2⟩
        have hpl := hP.len HFIT.out
        have HF2 := Lib.hid (HF.out.trans (Fresh.tA hf2))
        have HO2 := Lib.hid (HOWN.out.fresh (Fresh.tA hf2))
        obtain ⟨z, hz⟩ : ∃ z, P.length = z := ⟨_, rfl⟩
        have hle2 : P.length ≤ c2 := by obtain ⟨_, _, e, h1, _⟩ := hown2.slice; cases e; exact h1
        obtain ⟨A3, c3, w3, hap, ho3, hb3, _⟩ := Own.moreN (P := Tryz.prog) Tryz.underlying23 u8_infoH 23 HO2.out HF2.out (Nat.le_refl _) A2 c2 P z (F ++ P).length hz (by rw [List.length_append, hz]) hown2.bytes.1 (by rw [← hz]; exact hle2) (by rw [List.length_append]; omega)
        have HREL : Hid ((F ++ P).length ≤ 40000 * (k + 1) ∧ Own w3 w.heap.size 5 1 (.slice A3 (F ++ P).length c3) (F ++ P).length ((F ++ P).map byteV) ∧ RowE (xs.take (k + 1)) (F ++ P) ∧ Fresh w w3) := Lib.hid ⟨by rw [List.length_append]; omega, ho3, by rw [HTK.out]; exact HROW.out.snoc hP, hb3⟩
        rw [hz]
        clear hP hown2 hf2 ho3 hb3 hz e0 e1 e2 hpl hle2
        obtain ⟨r, hr⟩ : ∃ r, (F ++ P).length = r := ⟨_, rfl⟩
        have HR := Lib.hid hr
        rw [hr] at hap HREL
        clear hr
        go_wp2_with (at_builtin; refine wp_app rfl _ _ _ rfl hap rfl rfl rfl ?_)
        go_roundw
        case rel => exact ⟨k + 1, F ++ P, by omega, by go_num, by rw [HR.out]; exact HREL.out.1, by rw [HR.out]; exact HREL.out.2.1, HREL.out.2.2.1, HXK2.out, HREL.out.2.2.2⟩
        case measure => simp [intOf]; omega
      | false =>
        have HLN2 := Lib.hid (fun W => HLN.out W hfit)
        have HNO2 := Lib.hid (fun W => HNO.out W ⟨_, HXM.out, hfit⟩)
        clear hfit HLY HLN HXK
        generalize strB xn = SN at *
        generalize strB xv = SV at *
        go_wp2_with fail
        with_reducible refine (HLN2.out _).mono ?_
        rintro e w2 ⟨rfl, hf2⟩
        have HFIN := Lib.hid (HNO2.out _ (HF.out.trans (Fresh.tA hf2)))
        clear hf2
        go_wp2
        exact HFIN.out
    · have hlt' : ¬ (k : Int) < (n : Int) := by omega
      obtain rfl : k = n := by omega
      have hrow := HROW.out
      rw [List.take_of_length_le (by rw [HN.out]; exact Nat.le_refl _)] at hrow
      have HFIN := Lib.hid (HYES.out F A0 c0 _ (fun x hx => by
        obtain ⟨j, hj, rfl⟩ := List.getElem_of_mem hx
        exact HSM.out j hj (by rw [← HN.out]; exact hj)) hrow HOWN.out HF.out)
      clear hrow
      generalize F.length = m at *
      go_wp2
      exact HFIN.out
-- How many bytes the lines have.
end Go.Proofs.YtapikjhfgcbifaaGreatDoor

/-
  The document's answers for layer 8.
-/
namespace Go.Proofs.YtapikjhfgcbifaaGreatDoor
set_option linter.unusedVariables false
set_option linter.unusedSimpArgs false
open Go.RowKit
end Go.Proofs.YtapikjhfgcbifaaGreatDoor

