/-
  Texts laid together: EncD EncE.
-/
import Derived.Test.YtdoddpigiencjaaEncN
/-
  Package encode: Encode, Len.
-/
namespace Go.Proofs.Ytdoddpigiencjaa
set_option linter.unusedVariables false
set_option linter.unusedSimpArgs false
open Go.RowKit
theorem Many.at3 {w : World} {A : Option Addr} {xs : List Ln} (h : Many Ln.cells 3 w A xs) (k : Nat) (x : Ln) (hx : xs[k]? = some x) :
    ∃ b o, A = some ⟨b, o, none⟩ ∧ b < w.heap.size ∧ w.cell? ⟨b, o + k * 3, none⟩ = some (.string (strB x.n)) ∧ w.cell? ⟨b, o + k * 3 + 1, none⟩ = some (.string (strB x.v)) ∧ w.cell? ⟨b, o + k * 3 + 2, none⟩ = some (.bool x.nv) := by
  obtain ⟨hk, rfl⟩ := List.getElem?_eq_some_iff.1 hx
  obtain ⟨b, o, e, hb, hc⟩ := h (by omega)
  exact ⟨b, o, e, hb, hc k hk 0 (by omega), hc k hk 1 (by omega), hc k hk 2 (by omega)⟩
/-- The lines' forms one behind the other. -/
def RowE : List Ln → List UInt8 → Prop
  | [], F => F = []
  | x :: r, F => ∃ P F', IsLine x P ∧ RowE r F' ∧ F = P ++ F'
theorem RowE.snoc : ∀ {r : List Ln} {F P : List UInt8} {x : Ln}, RowE r F → IsLine x P → RowE (r ++ [x]) (F ++ P)
  | [], F, P, x, h, hp => by
    have h2 : F = [] := h
    subst h2
    exact ⟨P, [], hp, rfl, by simp⟩
  | y :: r, F, P, x, h, hp => by
    obtain ⟨Q, F', hq, hr, rfl⟩ := h
    exact ⟨Q, F' ++ P, hq, RowE.snoc hr hp, by rw [List.append_assoc]⟩
theorem RowE.uniq : ∀ {r : List Ln} {F G : List UInt8}, RowE r F → RowE r G → F = G
  | [], F, G, h, k => Eq.trans h (Eq.symm k)
  | x :: r, F, G, ⟨P, F', h1, h2, h3⟩, ⟨Q, G', k1, k2, k3⟩ => by rw [h3, k3, IsLine.uniq h1 k1, RowE.uniq h2 k2]
theorem IsFormF.len {n v : List UInt8} {m : Nat} {L : List UInt8} (h : IsFormF n v m L) (hn : n.length ≤ 4096) (hv : v.length ≤ 4096) : L.length ≤ 40000 := by
  obtain ⟨i, hi, _, Pn, Pv, h1, h2, rfl⟩ := h
  have e1 := (litN_le n (decide (litN n true < litN n false)) (by omega)).2
  have e2 := (litN_le v (decide (litN v true < litN v false)) (by omega)).2
  rw [← IsLit.len h1] at e1
  rw [← IsLit.len h2] at e2
  have e3 := encL_length i 4 m (by omega)
  by_cases h0 : i = 0
  · rw [if_pos h0, List.length_append, List.length_append]; omega
  · rw [if_neg h0, List.length_append, List.length_append]; simp; omega
theorem IsLine.len {x : Ln} {L : List UInt8} (h : IsLine x L) (hx : x.fits = true) : L.length ≤ 40000 := by
  obtain ⟨z, ex, hz, _, hl⟩ := h
  obtain ⟨n, v, nv⟩ := x
  simp only [Ln.fits, Bool.and_eq_true, decide_eq_true_eq] at hx
  cases nv with
  | true => exact IsFormF.len (show IsFormF n v 1 L from hl) hx.1 hx.2
  | false =>
    cases ex with
    | true =>
      have h2 : L = encL z 7 1 := hl
      rw [h2]
      have := encL_length z 7 1 (by omega)
      omega
    | false => exact IsFormF.len (show IsFormF n v 0 L from hl) hx.1 hx.2
def EncRP (xs : List Ln) (w : World) (e : Ending) (w' : World) : Prop := ((∀ x ∈ xs, x.fits = true) ∧ FormP (RowE xs) w e w') ∨ ((∃ x ∈ xs, x.fits = false) ∧ e = .returned (.tuple #[.slice none 0 0, .int .i64 11]) ∧ Fresh w w')
set_option maxRecDepth 100000 in
set_option maxHeartbeats 6400000 in
theorem en_encode (A : Option Addr) (c : Nat) (xs : List Ln) (w : World) (hm : Many Ln.cells 3 w A xs) (hn : xs.length ≤ 1000) (hsz : ∀ x ∈ xs, x.n.length ≤ 9223372036854775807 ∧ x.v.length ≤ 9223372036854775807) :
    Calls Try.prog 13 #[.slice A xs.length c] w (EncRP xs w) := by
  have HMY := Lib.hid hm
  have HSZ := Lib.hid hsz
  obtain ⟨n, hxn⟩ : ∃ n, xs.length = n := ⟨_, rfl⟩
  have HN := Lib.hid hxn
  rw [hxn] at hn ⊢
  clear hm hsz hxn
  have HYES : Hid (∀ (F : List UInt8) (A : Option Addr) (c : Nat) (W : World), (∀ x ∈ xs, x.fits = true) → RowE xs F → Own W w.heap.size 5 1 (.slice A F.length c) F.length (F.map byteV) → Fresh w W → EncRP xs w (.returned (.tuple #[.slice A F.length c, .int .i64 0])) W) := Lib.hid (fun F A c W h0 h1 h2 h3 => .inl ⟨h0, F, A, c, rfl, h1, h2, h3⟩)
  have HNO : Hid (∀ (W : World), (∃ x ∈ xs, x.fits = false) → Fresh w W → EncRP xs w (.returned (.tuple #[.slice none 0 0, .int .i64 11])) W) := Lib.hid (fun W h1 h2 => .inr ⟨h1, rfl, h2⟩)
  generalize EncRP xs w = EP at *
  go_enter Try.func13, Try.ntmps13
  go_wp2
  go_loopw [4, 11] (fun all i wr => ∃ (k : Nat) (F : List UInt8), k ≤ n ∧ i = .int .i64 (k : Int) ∧ F.length ≤ 40000 * k ∧ Own wr w.heap.size 5 1 all F.length (F.map byteV) ∧ RowE (xs.take k) F ∧ (∀ j (hj : j < xs.length), j < k → (xs[j]).fits = true) ∧ Fresh w wr) (fun _ i _ => n - (intOf i).toNat)
  case atStart => exact ⟨0, [], by omega, rfl, by simp, Own.nil _ _ _ _, by rw [List.take_zero]; rfl, fun j _ h => by omega, Fresh.refl _⟩
  case round =>
    obtain ⟨k, F, hk, rfl, hFl, hown, hrow, hsm, hf⟩ := hrel
    have HOWN := Lib.hid hown
    have HROW := Lib.hid hrow
    have HSM := Lib.hid hsm
    have HF := Lib.hid hf
    obtain ⟨A0, c0, rfl, _, _, _⟩ := hown.slice
    clear hown hrow hsm hf
    by_cases hlt : k < n
    · have hlt' : (k : Int) < (n : Int) := by omega
      have h0 : (0 : Int) ≤ (k : Int) := by omega
      have hkx : k < xs.length := by rw [HN.out]; exact hlt
      have HXM : Hid (xs[k] ∈ xs) := Lib.hid (List.getElem_mem hkx)
      obtain ⟨bq, o, rfl, hbq, hc0, hc1, hc2⟩ := HMY.out.at3 k xs[k] (List.getElem?_eq_getElem hkx)
      have e0 := (HF.out.cell (p := ⟨bq, o + k * 3, none⟩) hbq).trans hc0
      have e1 := (HF.out.cell (p := ⟨bq, o + k * 3 + 1, none⟩) hbq).trans hc1
      have e2 := (HF.out.cell (p := ⟨bq, o + k * 3 + 2, none⟩) hbq).trans hc2
      have HXK : Hid ((xs[k]).fits = true → ∀ j (hj : j < xs.length), j < k + 1 → (xs[j]).fits = true) := Lib.hid (fun hb j hj h => by
        by_cases e : j = k
        · subst e; exact hb
        · exact HSM.out j hj (by omega))
      have HTK : Hid (xs.take (k + 1) = xs.take k ++ [xs[k]]) := Lib.hid (List.take_succ_eq_append_getElem hkx)
      have hxz := HSZ.out _ HXM.out
      generalize xs[k] = x at *
      clear hc0 hc1 hc2
      have HLY := Lib.hid (fun W (h : x.fits = true) => en_line x W h)
      have HLN := Lib.hid (fun W (h : x.fits = false) => en_line_no x W h hxz.1 hxz.2)
      obtain ⟨xn, xv, xb⟩ := x
      unfold Ln.val at HLY HLN
      simp only at HLY HLN e0 e1 e2
      clear hxz
      cases hfit : Ln.fits ⟨xn, xv, xb⟩ with
      | true =>
        have HLY2 := Lib.hid (fun W => HLY.out W hfit)
        have HXK2 := Lib.hid (HXK.out hfit)
        have HFIT := Lib.hid hfit
        clear hfit HLY HLN HXK
        generalize strB xn = SN at *
        generalize strB xv = SV at *
        go_wp2_with fail
        with_reducible refine (HLY2.out _).mono ?_
        rintro e w2 ⟨P, A2, c2, rfl, hP, hown2, hf2⟩
        have hpl := hP.len HFIT.out
        have HF2 := Lib.hid (HF.out.trans (Fresh.tA hf2))
        have HO2 := Lib.hid (HOWN.out.fresh (Fresh.tA hf2))
        obtain ⟨z, hz⟩ : ∃ z, P.length = z := ⟨_, rfl⟩
        have hle2 : P.length ≤ c2 := by obtain ⟨_, _, e, h1, _⟩ := hown2.slice; cases e; exact h1
        obtain ⟨A3, c3, w3, hap, ho3, hb3, _⟩ := Own.moreN (P := Try.prog) Try.underlying29 u8_infoH 29 HO2.out HF2.out (Nat.le_refl _) A2 c2 P z (F ++ P).length hz (by rw [List.length_append, hz]) hown2.bytes.1 (by rw [← hz]; exact hle2) (by rw [List.length_append]; omega)
        have HREL : Hid ((F ++ P).length ≤ 40000 * (k + 1) ∧ Own w3 w.heap.size 5 1 (.slice A3 (F ++ P).length c3) (F ++ P).length ((F ++ P).map byteV) ∧ RowE (xs.take (k + 1)) (F ++ P) ∧ Fresh w w3) := Lib.hid ⟨by rw [List.length_append]; omega, ho3, by rw [HTK.out]; exact HROW.out.snoc hP, hb3⟩
        rw [hz]
        clear hP hown2 hf2 ho3 hb3 hz e0 e1 e2 hpl hle2
        obtain ⟨r, hr⟩ : ∃ r, (F ++ P).length = r := ⟨_, rfl⟩
        have HR := Lib.hid hr
        rw [hr] at hap HREL
        clear hr
        go_wp2_with (at_builtin; refine wp_app rfl _ _ _ rfl hap rfl rfl rfl ?_)
        go_roundw
        case rel => exact ⟨k + 1, F ++ P, by omega, by go_num, by rw [HR.out]; exact HREL.out.1, by rw [HR.out]; exact HREL.out.2.1, HREL.out.2.2.1, HXK2.out, HREL.out.2.2.2⟩
        case measure => simp [intOf]; omega
      | false =>
        have HLN2 := Lib.hid (fun W => HLN.out W hfit)
        have HNO2 := Lib.hid (fun W => HNO.out W ⟨_, HXM.out, hfit⟩)
        clear hfit HLY HLN HXK
        generalize strB xn = SN at *
        generalize strB xv = SV at *
        go_wp2_with fail
        with_reducible refine (HLN2.out _).mono ?_
        rintro e w2 ⟨rfl, hf2⟩
        have HFIN := Lib.hid (HNO2.out _ (HF.out.trans (Fresh.tA hf2)))
        clear hf2
        go_wp2
        exact HFIN.out
    · have hlt' : ¬ (k : Int) < (n : Int) := by omega
      obtain rfl : k = n := by omega
      have hrow := HROW.out
      rw [List.take_of_length_le (by rw [HN.out]; exact Nat.le_refl _)] at hrow
      have HFIN := Lib.hid (HYES.out F A0 c0 _ (fun x hx => by
        obtain ⟨j, hj, rfl⟩ := List.getElem_of_mem hx
        exact HSM.out j hj (by rw [← HN.out]; exact hj)) hrow HOWN.out HF.out)
      clear hrow
      generalize F.length = m at *
      go_wp2
      exact HFIN.out
-- How many bytes the lines have.
theorem en_len (A : Option Addr) (c : Nat) (xs : List Ln) (w : World) (hm : Many Ln.cells 3 w A xs) (hn : xs.length ≤ 1000) (hsz : ∀ x ∈ xs, x.n.length ≤ 9223372036854775807 ∧ x.v.length ≤ 9223372036854775807) :
    Calls Try.prog 14 #[.slice A xs.length c] w fun e w' => ∃ m : Nat, e = .returned (.int .i64 (m : Int)) ∧ (((∀ x ∈ xs, x.fits = true) ∧ ∃ F, RowE xs F ∧ m = F.length) ∨ ((∃ x ∈ xs, x.fits = false) ∧ m = 0)) ∧ Fresh w w' := by
  have HE := Lib.hid (en_encode A c xs w hm hn hsz)
  clear hm hsz
  generalize hxn : xs.length = n at HE ⊢
  clear hxn hn
  go_enter Try.func14, Try.ntmps14
  go_wp2_with fail
  with_reducible refine HE.out.mono ?_
  rintro e w1 (⟨hall, F, A1, c1, rfl, hrow, hown, hf⟩ | ⟨hno, rfl, hf⟩)
  · have HFIN : Hid (∃ m : Nat, Ending.returned (.int .i64 (F.length : Int)) = .returned (.int .i64 (m : Int)) ∧ (((∀ x ∈ xs, x.fits = true) ∧ ∃ F, RowE xs F ∧ m = F.length) ∨ ((∃ x ∈ xs, x.fits = false) ∧ m = 0)) ∧ Fresh w w1) := Lib.hid ⟨F.length, rfl, .inl ⟨hall, F, hrow, rfl⟩, hf⟩
    clear hall hrow hown hf
    generalize F.length = m at *
    go_wp2
    exact bodyPost_ret (v := .int .i64 (m : Int)) (by simp [results, Try.f14, go_sem]) rfl HFIN.out
  · have HFIN : Hid (∃ m : Nat, Ending.returned (.int .i64 0) = .returned (.int .i64 (m : Int)) ∧ (((∀ x ∈ xs, x.fits = true) ∧ ∃ F, RowE xs F ∧ m = F.length) ∨ ((∃ x ∈ xs, x.fits = false) ∧ m = 0)) ∧ Fresh w w1) := Lib.hid ⟨0, rfl, .inr ⟨hno, rfl⟩, hf⟩
    clear hno hf
    go_wp2
    exact bodyPost_ret (v := .int .i64 0) (by simp [results, Try.f14, go_sem]) rfl HFIN.out
end Go.Proofs.Ytdoddpigiencjaa

/-
  The document's answers for layer 8.
-/
namespace Go.Proofs.Ytdoddpigiencjaa
set_option linter.unusedVariables false
set_option linter.unusedSimpArgs false
open Go.RowKit
set_option maxRecDepth 100000 in
set_option maxHeartbeats 1600000 in
theorem rf8_short (l P : List UInt8) (w : World) (hP : IsShort l P) (hl : l.length ≤ 10000) : Calls Try.prog 30 #[.string (strB l)] w fun e w' => e = .returned (.string (strB P)) ∧ Fresh w w' := by
  obtain ⟨P0, hP0⟩ := lit_ex l false
  obtain ⟨P1, hP1⟩ := lit_ex l true
  have HR0 : Hid (∀ W, Calls Try.prog 49 #[.string (strB l), .int .i64 0] W fun e w' => e = .returned (.string (strB P0)) ∧ Fresh W w') := Lib.hid (fun W => rf4_encode W l P0 false hP0 hl)
  have HR1 : Hid (∀ W, Calls Try.prog 49 #[.string (strB l), .int .i64 1] W fun e w' => e = .returned (.string (strB P1)) ∧ Fresh W w') := Lib.hid (fun W => rf4_encode W l P1 true hP1 hl)
  have z0 : (strB P0).size = litN l false := by rw [strB_size, hP0.len]
  have z1 : (strB P1).size = litN l true := by rw [strB_size, hP1.len]
  have HSP : Hid (strB P = if litN l true < litN l false then strB P1 else strB P0) := Lib.hid (by
    unfold IsShort at hP
    by_cases hlt : litN l true < litN l false
    · rw [decide_eq_true hlt] at hP
      rw [if_pos hlt, hP1.uniq hP]
    · rw [decide_eq_false hlt] at hP
      rw [if_neg hlt, hP0.uniq hP])
  rw [HSP.out]
  clear hP0 hP1 HSP hP
  generalize litN l false = m0 at *
  generalize litN l true = m1 at *
  generalize strB P0 = S0 at *
  generalize strB P1 = S1 at *
  generalize strB l = SL at *
  by_cases hlt : m1 < m0
  · have hlt' : (m1 : Int) < (m0 : Int) := by omega
    rw [if_pos hlt]
    go_enter Try.func30, Try.ntmps30
    go_wp2_with (go_at_call 49; first | (with_reducible refine (HR0.out _).mono ?_; rintro e w1 ⟨rfl, hf1⟩) | (with_reducible refine (HR1.out _).mono ?_; rintro e w2 ⟨rfl, hf2⟩))
    go_ret
    exact ⟨rfl, hf1.trans hf2⟩
  · have hlt' : ¬ (m1 : Int) < (m0 : Int) := by omega
    rw [if_neg hlt]
    go_enter Try.func30, Try.ntmps30
    go_wp2_with (go_at_call 49; first | (with_reducible refine (HR0.out _).mono ?_; rintro e w1 ⟨rfl, hf1⟩) | (with_reducible refine (HR1.out _).mono ?_; rintro e w2 ⟨rfl, hf2⟩))
    go_ret
    exact ⟨rfl, hf1.trans hf2⟩
set_option maxRecDepth 100000 in
set_option maxHeartbeats 1600000 in
theorem rf8_name (nm : ByteArray) (w : World) : Calls Try.prog 29 #[.string nm] w fun e w' => (∃ z : Int, FstIx (prN nm) z ∧ e = .returned (.int .i64 z)) ∧ Fresh w w' := by
  have HE : Hid (∀ j : Nat, j < 61 → ∀ w, Calls Try.prog 47 #[.int .i64 ((j : Int) + 1)] w (EntP j w)) := Lib.hid (fun j hj w => st_entry j ((j : Int) + 1) w rfl hj)
  have ix0 := run_ix0
  go_enter Try.func29, Try.ntmps29
  go_wp2_with fail
  go_loopw [3] (fun i wr => ∃ (j : Nat), j ≤ 61 ∧ i = .int .i64 ((j : Int) + 1) ∧ (∀ i, i < j → prN nm (fldAt i) = false) ∧ Fresh w wr) (fun i _ => 62 - (intOf i).toNat)
  case atStart => exact ⟨0, by omega, rfl, fun i hi => by omega, Fresh.refl _⟩
  case round =>
    obtain ⟨j, hj, rfl, hn, hf⟩ := hrel
    have HF := Lib.hid hf
    have HNO := Lib.hid hn
    clear hf hn
    by_cases hlt : j < 61
    · have d0 : decide ((j : Int) + 1 ≤ 61) = true := decide_eq_true (by omega)
      have d0' : (j : Int) + 1 ≤ 61 := by omega
      have HEJ := Lib.hid (HE.out j hlt)
      obtain ⟨b, hb⟩ : ∃ b, prN nm (fldAt j) = b := ⟨_, rfl⟩
      have HB := Lib.hid hb
      have hbb : ((fldAt j).1.toList == nm.toList) = b := hb
      unfold EntP at HEJ
      generalize hfj : fldAt j = fj at hbb HEJ
      clear hb
      cases b
      · go_wp2_with fail
        with_reducible refine (HEJ.out _).mono ?_
        rintro e w2 ⟨rfl, hf2⟩
        have HF2 := Lib.hid (HF.out.trans hf2)
        clear hf2 hfj
        go_wp2_with fail
        go_roundw
        case rel => exact ⟨j + 1, by omega, by go_num, fun i hi => by
          by_cases e : i = j
          · subst e; exact HB.out
          · exact HNO.out i (by omega), HF2.out⟩
        case measure => simp [intOf]; omega
      · go_wp2_with fail
        with_reducible refine (HEJ.out _).mono ?_
        rintro e w2 ⟨rfl, hf2⟩
        have HF2 := Lib.hid (HF.out.trans hf2)
        clear hf2 hfj
        go_wp2_with fail
        exact bodyPost_ret (v := .int .i64 ((j : Int) + 1)) (by simp [results, Try.f29, go_sem]) rfl ⟨⟨_, .inr ⟨j, hlt, rfl, HB.out, HNO.out⟩, rfl⟩, HF2.out⟩
    · have d0 : decide ((j : Int) + 1 ≤ 61) = false := decide_eq_false (by omega)
      have d0' : ¬ (j : Int) + 1 ≤ 61 := by omega
      go_wp2_with fail
      exact bodyPost_ret (v := .int .i64 0) (by simp [results, Try.f29, go_sem]) rfl ⟨⟨_, .inl ⟨rfl, fun i hi => HNO.out i (by omega)⟩, rfl⟩, HF.out⟩
set_option maxRecDepth 100000 in
set_option maxHeartbeats 3200000 in
theorem rf8_line (x : Ln) (L : List UInt8) (w : World) (hL : IsLine x L) (hn : x.n.length ≤ 10000) (hv : x.v.length ≤ 10000) :
    Calls Try.prog 11 #[.string (strB x.n), .string (strB x.v), .int .i64 (if x.nv then 1 else 0)] w fun e w' => e = .returned (.string (strB L)) ∧ Fresh w w' := by
  obtain ⟨n, v, nv⟩ := x
  simp only at hn hv ⊢
  have HFD := Lib.hid (fun W => rf_find (strB n, strB v) W)
  have HNM := Lib.hid (fun W => rf8_name (strB n) W)
  have HS : Hid (∀ l P W, IsShort l P → l.length ≤ 10000 → Calls Try.prog 30 #[.string (strB l)] W fun e w' => e = .returned (.string (strB P)) ∧ Fresh W w') := Lib.hid (fun l P W h hl => rf8_short l P W h hl)
  have HE : Hid (∀ (i b m : Nat) W, i ≤ 61 → 1 ≤ b → b ≤ 8 → m < 2 ^ (8 - b) → Calls Try.prog 28 #[.int .i64 (i : Int), .int .i64 (b : Int), .int .i64 (m : Int)] W fun e w' => e = .returned (.string (strB (encL i b m))) ∧ Fresh W w') := Lib.hid (fun i b m W h1 h2 h3 h4 => ref_enc i b m W h2 h3 (by omega) h4)
  obtain ⟨z, ex, hz, hix, hl⟩ := hL
  have HIX := Lib.hid hix
  simp only at hl
  -- the form that is written out
  have HF : Hid (∀ (m : Nat), m < 2 → IsFormF n v m L → ∃ (i : Nat) (Pn Pv : List UInt8), i ≤ 61 ∧ FstIx (prN (strB n)) (i : Int) ∧ IsShort n Pn ∧ IsShort v Pv ∧ L = encL i 4 m ++ ((if i = 0 then Pn else []) ++ Pv)) := Lib.hid (fun m _ h => by
    obtain ⟨i, hi, hx, Pn, Pv, h1, h2, h3⟩ := h
    exact ⟨i, Pn, Pv, hi, hx, h1, h2, h3⟩)
  by_cases hyes : ex = true ∧ nv = false
  · obtain ⟨rfl, rfl⟩ := hyes
    have hl2 : L = encL z 7 1 := hl
    subst hl2
    have HE7 : Hid (∀ W, Calls Try.prog 28 #[.int .i64 (z : Int), .int .i64 7, .int .i64 1] W fun e w' => e = .returned (.string (strB (encL z 7 1))) ∧ Fresh W w') := Lib.hid (fun W => HE.out z 7 1 W hz (by omega) (by omega) (by omega))
    simp only [Bool.false_eq_true, if_false]
    clear HE HF HNM hl hix
    generalize strB (encL z 7 1) = R at *
    go_enter Try.func11, Try.ntmps11
    go_wp2_with fail
    with_reducible refine (HFD.out _).mono ?_
    rintro e w1 ⟨z2, ex2, rfl, hix2, hf1⟩
    obtain ⟨rfl, rfl⟩ := FdIx.uniq HIX.out hix2
    rw [if_pos rfl]
    clear hix2
    go_wp2_with (go_at_call 28; with_reducible refine (HE7.out _).mono ?_; rintro e w2 ⟨rfl, hf2⟩)
    go_ret
    exact ⟨rfl, hf1.trans hf2⟩
  · obtain ⟨m, hm⟩ : ∃ m : Nat, (if nv = true then 1 else 0) = m := ⟨_, rfl⟩
    have hm2 : m < 2 := by subst hm; cases nv <;> simp
    have hmi : (if nv = true then (1 : Int) else 0) = (m : Int) := by subst hm; cases nv <;> rfl
    have hform : IsFormF n v m L := by
      subst hm
      cases nv with
      | true => exact hl
      | false =>
        cases ex with
        | true => exact absurd ⟨rfl, rfl⟩ hyes
        | false => exact hl
    obtain ⟨i, Pn, Pv, hi, hxi, hPn, hPv, rfl⟩ := HF.out m hm2 hform
    have HXI := Lib.hid hxi
    have HE4 : Hid (∀ W, Calls Try.prog 28 #[.int .i64 (i : Int), .int .i64 4, .int .i64 (m : Int)] W fun e w' => e = .returned (.string (strB (encL i 4 m))) ∧ Fresh W w') := Lib.hid (fun W => HE.out i 4 m W hi (by omega) (by omega) (by omega))
    have HSN := Lib.hid (fun W => HS.out n Pn W hPn hn)
    have HSV := Lib.hid (fun W => HS.out v Pv W hPv hv)
    have e1 := (litN_le n (decide (litN n true < litN n false)) (by omega)).2
    have e2 := (litN_le v (decide (litN v true < litN v false)) (by omega)).2
    rw [← IsLit.len hPn] at e1
    rw [← IsLit.len hPv] at e2
    have e3 := encL_length i 4 m (by omega)
    have s1 : (strB Pn).size ≤ 41000 := by rw [strB_size]; omega
    have s2 : (strB Pv).size ≤ 41000 := by rw [strB_size]; omega
    have s3 : (strB (encL i 4 m)).size ≤ 6 := by rw [strB_size]; omega
    rw [hmi]
    have htest : ex = false ∨ m = 1 := by
      subst hm
      cases nv
      · cases ex
        · exact .inl rfl
        · exact absurd ⟨rfl, rfl⟩ hyes
      · exact .inr rfl
    clear HE HF HS hl hix hform hxi hPn hPv e1 e2 e3 hm hmi hyes
    by_cases hi0 : i = 0
    · subst hi0
      rw [if_pos rfl]
      have hcat1 : strB (encL 0 4 m) ++ strB Pn = strB (encL 0 4 m ++ Pn) := strB_append _ _
      have hcat2 : strB (encL 0 4 m ++ Pn) ++ strB Pv = strB (encL 0 4 m ++ (Pn ++ Pv)) := by rw [strB_append, List.append_assoc]
      have s4 : (strB (encL 0 4 m ++ Pn)).size ≤ 41006 := by rw [← hcat1, ByteArray.size_append]; omega
      have HC1 := Lib.hid hcat1
      have HC2 := Lib.hid hcat2
      clear hcat1 hcat2
      generalize strB (encL 0 4 m ++ (Pn ++ Pv)) = R2 at *
      generalize strB (encL 0 4 m ++ Pn) = R1 at *
      generalize strB (encL 0 4 m) = R0 at *
      generalize strB Pn = SP at *
      generalize strB Pv = SQ at *
      have q1 : ¬ 9223372036854775807 < R0.size + SP.size := by omega
      have q2 : ¬ 9223372036854775807 < R1.size + SQ.size := by omega
      have hap : ByteArray.append R0 SP = R1 := HC1.out
      go_enter Try.func11, Try.ntmps11
      go_wp2_with fail
      with_reducible refine (HFD.out _).mono ?_
      rintro e w1 ⟨z2, ex2, rfl, hix2, hf1⟩
      obtain ⟨rfl, rfl⟩ := FdIx.uniq HIX.out hix2
      clear hix2
      obtain ⟨exi, hexi⟩ : ∃ exi : Int, (if ex = true then (1 : Int) else 0) = exi := ⟨_, rfl⟩
      rw [hexi]
      have ht2 : exi = 0 ∨ (exi = 1 ∧ m = 1) := by
        rcases htest with h | h
        · left; rw [← hexi, h]; rfl
        · cases ex
          · left; rw [← hexi]; rfl
          · right; exact ⟨by rw [← hexi]; rfl, h⟩
      clear hexi htest
      rcases ht2 with rfl | ⟨rfl, rfl⟩
      all_goals
        try rw [show ((1 : Nat) : Int) = 1 from rfl] at HE4 ⊢
        go_wp2_with fail
        with_reducible refine (HNM.out _).mono ?_
        rintro e w2 ⟨⟨z3, hz3, rfl⟩, hf2⟩
        obtain rfl := FstIx.uniq hz3 HXI.out
        clear hz3
        rw [show ((0 : Nat) : Int) = 0 from rfl] at HE4 ⊢
        go_wp2_with first | (go_at_call 28; with_reducible refine (HE4.out _).mono ?_; rintro e w3 ⟨rfl, hf3⟩) | (go_at_call 30; first | (with_reducible refine (HSN.out _).mono ?_; rintro e w4 ⟨rfl, hf4⟩) | (with_reducible refine (HSV.out _).mono ?_; rintro e w5 ⟨rfl, hf5⟩))
        go_ret
        exact ⟨by rw [← HC2.out, ← HC1.out]; rfl, (((hf1.trans hf2).trans hf3).trans hf4).trans hf5⟩
    · rw [if_neg hi0, List.nil_append]
      have hcat1 : strB (encL i 4 m) ++ strB Pv = strB (encL i 4 m ++ Pv) := strB_append _ _
      have HC1 := Lib.hid hcat1
      clear hcat1
      generalize strB (encL i 4 m ++ Pv) = R1 at *
      generalize strB (encL i 4 m) = R0 at *
      generalize strB Pv = SQ at *
      have q1 : ¬ 9223372036854775807 < R0.size + SQ.size := by omega
      have hi0i : ¬ (i : Int) = 0 := by omega
      go_enter Try.func11, Try.ntmps11
      go_wp2_with fail
      with_reducible refine (HFD.out _).mono ?_
      rintro e w1 ⟨z2, ex2, rfl, hix2, hf1⟩
      obtain ⟨rfl, rfl⟩ := FdIx.uniq HIX.out hix2
      clear hix2
      obtain ⟨exi, hexi⟩ : ∃ exi : Int, (if ex = true then (1 : Int) else 0) = exi := ⟨_, rfl⟩
      rw [hexi]
      have ht2 : exi = 0 ∨ (exi = 1 ∧ m = 1) := by
        rcases htest with h | h
        · left; rw [← hexi, h]; rfl
        · cases ex
          · left; rw [← hexi]; rfl
          · right; exact ⟨by rw [← hexi]; rfl, h⟩
      clear hexi htest
      rcases ht2 with rfl | ⟨rfl, rfl⟩
      all_goals
        try rw [show ((1 : Nat) : Int) = 1 from rfl] at HE4 ⊢
        go_wp2_with fail
        with_reducible refine (HNM.out _).mono ?_
        rintro e w2 ⟨⟨z3, hz3, rfl⟩, hf2⟩
        obtain rfl := FstIx.uniq hz3 HXI.out
        clear hz3
        go_wp2_with first | (go_at_call 28; with_reducible refine (HE4.out _).mono ?_; rintro e w3 ⟨rfl, hf3⟩) | (go_at_call 30; (with_reducible refine (HSV.out _).mono ?_; rintro e w5 ⟨rfl, hf5⟩))
        go_ret
        exact ⟨by rw [← HC1.out]; rfl, ((hf1.trans hf2).trans hf3).trans hf5⟩
end Go.Proofs.Ytdoddpigiencjaa

