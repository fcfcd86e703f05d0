/-
  The law EncodeForms.
-/
import Derived.Test.YtdoddpigiencjaaEncH
namespace Go.Proofs.Ytdoddpigiencjaa
set_option maxRecDepth 100000
set_option linter.unusedVariables false
set_option linter.unusedSimpArgs false
open Go.RowKit
theorem en_number (cd : Bool) (w : World) : Calls Try.prog 12 #[.bool cd] w fun e w' => e = .returned (.int .i64 (if cd then 1 else 0)) ∧ w = w' := by
  cases cd with
  | true =>
    rw [if_pos rfl]
    go_enter Try.func12, Try.ntmps12
    go_wp2
    go_ret
    exact ⟨rfl, rfl⟩
  | false =>
    rw [if_neg (by simp)]
    go_enter Try.func12, Try.ntmps12
    go_wp2
    go_ret
    exact ⟨rfl, rfl⟩
theorem SmallL.fit {xs : List Ln} (h : SmallL xs) : ∀ x ∈ xs, x.fits = true := fun x hx => by
  have := h.2 x hx
  simp only [Ln.fits, Bool.and_eq_true, decide_eq_true_eq]
  omega
theorem SmallL.big {xs : List Ln} (h : SmallL xs) : ∀ x ∈ xs, x.n.length ≤ 9223372036854775807 ∧ x.v.length ≤ 9223372036854775807 := fun x hx => by
  have := h.2 x hx
  omega
/-- Encode and Len of lines that may be gone through. -/
theorem en_encodeS (A : Option Addr) (c : Nat) (xs : List Ln) (W : World) (h : SmallL xs) (hm : Many Ln.cells 3 W A xs) : Calls Try.prog 13 #[.slice A xs.length c] W (FormP (RowE xs) W) :=
  (en_encode A c xs W hm (by have := h.1; omega) h.big).mono (fun e w' hh => by
    rcases hh with ⟨_, h2⟩ | ⟨⟨x, hx, hno⟩, _⟩
    · exact h2
    · rw [h.fit x hx] at hno; cases hno)
theorem en_lenS (A : Option Addr) (c : Nat) (xs : List Ln) (F : List UInt8) (W : World) (h : SmallL xs) (hF : RowE xs F) (hm : Many Ln.cells 3 W A xs) : Calls Try.prog 14 #[.slice A xs.length c] W fun e w' => e = .returned (.int .i64 (F.length : Int)) ∧ Fresh W w' :=
  (en_len A c xs W hm (by have := h.1; omega) h.big).mono (fun e w' hh => by
    obtain ⟨m, he, hc, hf⟩ := hh
    rcases hc with ⟨_, F', h1, h2⟩ | ⟨⟨x, hx, hno⟩, _⟩
    · rw [RowE.uniq hF h1, ← h2]
      exact ⟨he, hf⟩
    · rw [h.fit x hx] at hno; cases hno)
theorem line_ex (x : Ln) : ∃ L, IsLine x L := by
  obtain ⟨n, v, nv⟩ := x
  -- the least entry for which something holds
  have find : ∀ pr : Fld → Bool, (∀ j, j < 61 → pr (fldAt j) = false) ∨ ∃ k, k < 61 ∧ pr (fldAt k) = true ∧ ∀ j, j < k → pr (fldAt j) = false := fun pr => by
    have key : ∀ m, m ≤ 61 → (∀ j, j < m → pr (fldAt j) = false) ∨ ∃ k, k < 61 ∧ pr (fldAt k) = true ∧ ∀ j, j < k → pr (fldAt j) = false := by
      intro m
      induction m with
      | zero => intro _; exact .inl (fun j h => by omega)
      | succ m ih =>
        intro hm
        rcases ih (by omega) with h | h
        · cases hp : pr (fldAt m) with
          | true => exact .inr ⟨m, by omega, hp, h⟩
          | false => exact .inl (fun j hj => by
              by_cases e : j = m
              · subst e; exact hp
              · exact h j (by omega))
        · exact .inr h
    exact key 61 (Nat.le_refl _)
  have hform : ∀ m, ∃ L, IsFormF n v m L := fun m => by
    obtain ⟨Pn, hPn⟩ := lit_ex n (decide (litN n true < litN n false))
    obtain ⟨Pv, hPv⟩ := lit_ex v (decide (litN v true < litN v false))
    rcases find (prN (strB n)) with h | ⟨k, hk, h1, h2⟩
    · exact ⟨_, 0, by omega, .inl ⟨rfl, h⟩, Pn, Pv, hPn, hPv, rfl⟩
    · exact ⟨_, k + 1, by omega, .inr ⟨k, hk, by omega, h1, h2⟩, Pn, Pv, hPn, hPv, rfl⟩
  have hix : ∃ (z : Nat) (ex : Bool), z ≤ 61 ∧ FdIx (strB n, strB v) (z : Int) ex := by
    rcases find (prF (strB n, strB v)) with h | ⟨k, hk, h1, h2⟩
    · rcases find (prN (strB n)) with h3 | ⟨k, hk, h1, h2⟩
      · exact ⟨0, false, by omega, .inr ⟨rfl, h, .inl ⟨rfl, h3⟩⟩⟩
      · exact ⟨k + 1, false, by omega, .inr ⟨rfl, h, .inr ⟨k, hk, by omega, h1, h2⟩⟩⟩
    · exact ⟨k + 1, true, by omega, .inl ⟨k, hk, by omega, rfl, h1, h2⟩⟩
  obtain ⟨z, ex, hz, hx⟩ := hix
  cases nv with
  | true =>
    obtain ⟨L, hL⟩ := hform 1
    exact ⟨L, z, ex, hz, hx, hL⟩
  | false =>
    cases ex with
    | true => exact ⟨encL z 7 1, z, true, hz, hx, rfl⟩
    | false =>
      obtain ⟨L, hL⟩ := hform 0
      exact ⟨L, z, false, hz, hx, hL⟩
theorem RowE.len : ∀ {xs : List Ln} {F : List UInt8}, (∀ x ∈ xs, x.fits = true) → RowE xs F → F.length ≤ 40000 * xs.length
  | [], F, _, h => by
    have h2 : F = [] := h
    subst h2; simp
  | x :: r, F, hx, ⟨P, F', h1, h2, h3⟩ => by
    have e1 := h1.len (hx x (by simp))
    have e2 := RowE.len (fun y hy => hx y (by simp [hy])) h2
    subst h3
    rw [List.length_append, List.length_cons]
    omega
set_option maxHeartbeats 6400000 in
theorem EncodeForms_any (s : LnsV) (w : World) (hs : s.Ok w) :
    Calls Try.prog 3 #[.slice s.A s.xs.length s.c] w fun e w' => e = .returned (.bool true) ∧ Below w.heap.size w w' := by
  have HW := Lib.hid en_awake
  obtain ⟨A, c, xs⟩ := s
  have hmx := hs.max
  have hle := hs.le
  simp only at *
  have HMY := Lib.hid hs.rows
  simp only at HMY
  have HSM := Lib.hid (en_small A c xs w hs.rows (by omega) hs.ok)
  have HN : Hid (xs.length = xs.length) := Lib.hid rfl
  have HEN := Lib.hid (fun W (h : SmallL xs) (hf : Fresh w W) => en_encodeS A c xs W h (hs.rows.fresh hf))
  have HLE := Lib.hid (fun W F (h : SmallL xs) (hF : RowE xs F) (hf : Fresh w W) => en_lenS A c xs F W h hF (hs.rows.fresh hf))
  obtain ⟨n, hn⟩ : ∃ n, xs.length = n := ⟨_, rfl⟩
  have HNN := Lib.hid hn
  simp only [hn] at HSM HEN HLE hle ⊢
  clear hs hn HN
  go_enter Try.func3, Try.ntmps3
  go_wp2_with fail
  with_reducible refine HSM.out.mono ?_
  rintro e w1 ⟨b, rfl, hb, hf1⟩
  have HF1 := Lib.hid hf1
  clear hf1
  cases b with
  | false =>
    go_wp2_with (go_at_call 9; with_reducible refine (HW.out _).mono ?_; rintro e w2 ⟨rfl, hf2⟩)
    go_ret
    exact ⟨rfl, HF1.out.trans hf2⟩
  | true =>
    have HS := Lib.hid (hb rfl)
    have hn60 : n ≤ 60 := by have := HS.out.1; have := HNN.out; omega
    clear hb HSM
    go_wp2
    go_loopw [3, 17] (fun wt i wr => ∃ (k : Nat) (F : List UInt8), k ≤ n ∧ i = .int .i64 (k : Int) ∧ wt = .string (strB F) ∧ F.length ≤ 40000 * k ∧ RowE (xs.take k) F ∧ Fresh w wr) (fun _ i _ => n - (intOf i).toNat)
    case atStart => exact ⟨0, [], by omega, rfl, rfl, by simp, by rw [List.take_zero]; rfl, HF1.out⟩
    case round =>
      obtain ⟨k, F, hk, rfl, rfl, hFl, hrow, hf⟩ := hrel
      have HROW := Lib.hid hrow
      have HF := Lib.hid hf
      clear hrow hf
      by_cases hlt : k < n
      · have hlt' : (k : Int) < (n : Int) := by omega
        have h0 : (0 : Int) ≤ (k : Int) := by omega
        have hkx : k < xs.length := by rw [HNN.out]; exact hlt
        have hfit := HS.out.fit _ (List.getElem_mem hkx)
        have hsz := HS.out.2 _ (List.getElem_mem hkx)
        obtain ⟨bq, o, rfl, hbq, hc0, hc1, hc2⟩ := HMY.out.at3 k xs[k] (List.getElem?_eq_getElem hkx)
        have e0 := (HF.out.cell (p := ⟨bq, o + k * 3, none⟩) hbq).trans hc0
        have e1 := (HF.out.cell (p := ⟨bq, o + k * 3 + 1, none⟩) hbq).trans hc1
        have e2 := (HF.out.cell (p := ⟨bq, o + k * 3 + 2, none⟩) hbq).trans hc2
        have HTK : Hid (xs.take (k + 1) = xs.take k ++ [xs[k]]) := Lib.hid (List.take_succ_eq_append_getElem hkx)
        generalize xs[k] = x at *
        clear hc0 hc1 hc2
        obtain ⟨P, hP⟩ := line_ex x
        have HLP := Lib.hid hP
        have hpl := hP.len hfit
        have HLY : Hid (∀ W, Calls Try.prog 10 #[x.val] W fun e w' => ∃ (A : Option Addr) (c : Nat), e = .returned (.tuple #[.slice A P.length c, .int .i64 0]) ∧ BS w' A P ∧ Fresh W w') := Lib.hid (fun W => (en_line x W hfit).mono (fun e w' h => by
          obtain ⟨L, A, c, he, hL, ho, hf⟩ := h
          obtain rfl := hP.uniq hL
          exact ⟨A, c, he, ho.bytes.1, hf⟩))
        have HRL := Lib.hid (fun W => rf8_line x P W hP (by omega) (by omega))
        have HNU := Lib.hid (fun W => en_number x.nv W)
        obtain ⟨xn, xv, xb⟩ := x
        unfold Ln.val at HLY
        simp only at HLY HRL HNU e0 e1 e2
        generalize (if xb = true then (1 : Int) else 0) = mk at *
        have hsp : (strB P).size = P.length := strB_size P
        have hsf : (strB F).size = F.length := strB_size F
        have hcat : strB F ++ strB P = strB (F ++ P) := strB_append F P
        have HCAT := Lib.hid hcat
        clear hP hfit hsz hcat
        have hb0 := Blk.new wr 28 #[.string (strB xn), .string (strB xv), .bool xb]
        go_upto_region 8 with (go_at_call 10; with_reducible refine (HLY.out _).mono ?_; rintro e w2 ⟨A2, c2, rfl, hb2, hf2⟩)
        have HB2 := Lib.hid hb2
        have HBX := Lib.hid (hb0.fresh hf2)
        have HF2 := Lib.hid (HF.out.trans (Fresh.tA hf2))
        clear hb2 hf2 hb0 e0 e1 e2
        generalize wr.heap.size = bx at *
        have HSK : Hid (∀ w', Fresh w2 w' → w'.cell? ⟨bx, 0, none⟩ = some (.string (strB xn)) ∧ w'.cell? ⟨bx, 1, none⟩ = some (.string (strB xv)) ∧ w'.cell? ⟨bx, 2, none⟩ = some (.bool xb) ∧ Fresh w2 w') := Lib.hid (fun w' hw => by
          obtain ⟨a1, a2, a3⟩ := (HBX.out.fresh hw).c3
          exact ⟨a1, a2, a3, hw⟩)
        generalize strB xn = SN at *
        generalize strB xv = SV at *
        refine wp_region_held_drew (S := (fun w' => w'.cell? ⟨bx, 0, none⟩ = some (.string SN) ∧ w'.cell? ⟨bx, 1, none⟩ = some (.string SV) ∧ w'.cell? ⟨bx, 2, none⟩ = some (.bool xb) ∧ Fresh w2 w')) (by kernel_rfl) (HSK.out _ (Fresh.drew _)) (fun hHeld => ?_)
        refine wpAnyH_take (i := 0) (v := ?_) rfl (by kernel_rfl) (by kernel_rfl) (by kernel_rfl) (fun _ _ _ h => h) (Or.inl ⟨by rfl, ?_⟩) (by assumption) ?_; rotate_left; focus (intro w hSw; (try dsimp only at hSw); go_simp; (try with_reducible rfl); done)
        (try simp only [Act.put, List.getElem_toArray, List.getElem_cons_zero, List.getElem_cons_succ, List.setIfInBounds_toArray, List.set_cons_zero, List.set_cons_succ])
        refine wpAnyH_take (i := 1) (v := ?_) rfl (by kernel_rfl) (by kernel_rfl) (by kernel_rfl) (fun _ _ _ h => h) (Or.inl ⟨by rfl, ?_⟩) (by assumption) ?_; rotate_left; focus (intro w hSw; (try dsimp only at hSw); go_simp; (try with_reducible rfl); done)
        (try simp only [Act.put, List.getElem_toArray, List.getElem_cons_zero, List.getElem_cons_succ, List.setIfInBounds_toArray, List.set_cons_zero, List.set_cons_succ])
        refine wpAnyH_take (i := 2) (v := ?_) rfl (by kernel_rfl) (by kernel_rfl) (by kernel_rfl) (fun _ _ _ h => h) (Or.inl ⟨by rfl, ?_⟩) (by assumption) ?_; rotate_left; focus (intro w hSw; (try dsimp only at hSw); go_simp; (try with_reducible rfl); done)
        (try simp only [Act.put, List.getElem_toArray, List.getElem_cons_zero, List.getElem_cons_succ, List.setIfInBounds_toArray, List.set_cons_zero, List.set_cons_succ])
        refine wpAnyH_take (i := 3) (v := ?_) rfl (by kernel_rfl) (by kernel_rfl) (by kernel_rfl) (fun _ _ _ h => h) (Or.inl ⟨by rfl, ?_⟩) (by assumption) ?_; rotate_left; focus (intro w hSw; (try dsimp only at hSw); go_simp; (try with_reducible rfl); done)
        (try simp only [Act.put, List.getElem_toArray, List.getElem_cons_zero, List.getElem_cons_succ, List.setIfInBounds_toArray, List.set_cons_zero, List.set_cons_succ])
        refine wpAnyH_take (i := 4) (v := ?_) rfl (by kernel_rfl) (by kernel_rfl) (by kernel_rfl) (fun _ _ _ h => h) (Or.inl ⟨by rfl, ?_⟩) (by assumption) ?_; rotate_left; focus (intro w hSw; (try dsimp only at hSw); go_simp; (try with_reducible rfl); done)
        (try simp only [Act.put, List.getElem_toArray, List.getElem_cons_zero, List.getElem_cons_succ, List.setIfInBounds_toArray, List.set_cons_zero, List.set_cons_succ])
        refine wpAnyH_take (i := 5) (v := ?_) rfl (by kernel_rfl) (by kernel_rfl) (by kernel_rfl) (fun _ _ _ h => h) (Or.inl ⟨by rfl, ?_⟩) (by assumption) ?_; rotate_left; focus (intro w hSw; (try dsimp only at hSw); go_simp; (try with_reducible rfl); done)
        (try simp only [Act.put, List.getElem_toArray, List.getElem_cons_zero, List.getElem_cons_succ, List.setIfInBounds_toArray, List.set_cons_zero, List.set_cons_succ])
        refine wpAnyH_take (i := 6) (v := ?_) rfl (by kernel_rfl) (by kernel_rfl) (by kernel_rfl) (fun _ _ _ h => h) (Or.inl ⟨by rfl, ?_⟩) (by assumption) ?_; rotate_left; focus (intro w hSw; (try dsimp only at hSw); go_simp; (try with_reducible rfl); done)
        (try simp only [Act.put, List.getElem_toArray, List.getElem_cons_zero, List.getElem_cons_succ, List.setIfInBounds_toArray, List.set_cons_zero, List.set_cons_succ])
        refine wpAnyH_take (i := 7) (v := ?_) rfl (by kernel_rfl) (by kernel_rfl) (by kernel_rfl) (fun _ _ _ h => h) (Or.inl ⟨by rfl, ?_⟩) (by assumption) ?_; rotate_left; focus (intro w hSw; (try dsimp only at hSw); go_simp; (try with_reducible rfl); done)
        (try simp only [Act.put, List.getElem_toArray, List.getElem_cons_zero, List.getElem_cons_succ, List.setIfInBounds_toArray, List.set_cons_zero, List.set_cons_succ])
        refine wpAnyH_ready (rs := [8]) (by kernel_rfl) (by simp) ?_
        refine AllReadyH.cons rfl (fun K hK => ?_) AllReadyH.nil
        (go_simp; go_at_call 12; (with_reducible refine (HNU.out _).mono ?_); rintro e w3 ⟨rfl, rfl⟩)
        refine hK.out _ _ hHeld (fun hHeld => ?_)
        clear hK K
        (try simp only [Act.put, List.getElem_toArray, List.getElem_cons_zero, List.getElem_cons_succ, List.setIfInBounds_toArray, List.set_cons_zero, List.set_cons_succ])
        refine wpAnyH_ready (rs := [9]) (by kernel_rfl) (by simp) ?_
        refine AllReadyH.cons rfl (fun K hK => ?_) AllReadyH.nil
        (go_simp; go_at_call 11; (with_reducible refine (HRL.out _).mono ?_); rintro e w4 ⟨rfl, hf4⟩; have hg4 : Fresh w2 w4 := Fresh.trans (Fresh.drew _) hf4; clear hf4)
        refine hK.out _ _ (HSK.out _ hg4) (fun hHeld => ?_)
        clear hK K
        (try simp only [Act.put, List.getElem_toArray, List.getElem_cons_zero, List.getElem_cons_succ, List.setIfInBounds_toArray, List.set_cons_zero, List.set_cons_succ])
        refine wpAnyH_ready (rs := [10]) (by kernel_rfl) (by simp) ?_
        refine AllReadyH.cons rfl (fun K hK => ?_) AllReadyH.nil
        go_simp
        refine hK.out _ _ hHeld (fun hHeld => ?_)
        clear hK K
        (try simp only [Act.put, List.getElem_toArray, List.getElem_cons_zero, List.getElem_cons_succ, List.setIfInBounds_toArray, List.set_cons_zero, List.set_cons_succ])
        refine wpAnyH_done (by kernel_rfl) ?_ _
        have hcv := run_str (P := Try.prog) (HB2.out.fresh hg4) 29 9 5 Try.underlying29 Try.underlying5 Try.underlying9 c2
        have HREL : Hid (RowE (xs.take (k + 1)) (F ++ P) ∧ (F ++ P).length ≤ 40000 * (k + 1) ∧ Fresh w w4) := Lib.hid ⟨by rw [HTK.out]; exact HROW.out.snoc HLP.out, by rw [List.length_append]; omega, HF2.out.trans hg4⟩
        generalize strB P = SP at *
        generalize strB F = SF at *
        generalize P.length = pl at *
        generalize F.length = fl at *
        have e4 : (SP.toList == SP.toList) = true := beq_self_eq_true _
        have h9 : ¬ 9223372036854775807 < SF.size + SP.size := by omega
        clear hg4 HBX HSK
        go_wp2
        exact ⟨⟨k + 1, F ++ P, by omega, by go_num, by rw [← HCAT.out], HREL.out.2.1, HREL.out.1, HREL.out.2.2⟩, by simp [intOf]; omega⟩
      · have hlt' : ¬ (k : Int) < (n : Int) := by omega
        obtain rfl : k = n := by omega
        have hrow := HROW.out
        rw [List.take_of_length_le (by rw [HNN.out]; exact Nat.le_refl _)] at hrow
        have HROW2 := Lib.hid hrow
        clear hrow
        go_wp2_with fail
        with_reducible refine (HEN.out _ HS.out HF.out).mono ?_
        rintro e w2 ⟨G, A2, c2, rfl, hG, hown, hf2⟩
        obtain rfl := RowE.uniq HROW2.out hG
        have HF2 := Lib.hid (HF.out.trans hf2)
        have hcv := run_str (P := Try.prog) hown.bytes.1 29 9 5 Try.underlying29 Try.underlying5 Try.underlying9 c2
        have HLE2 := Lib.hid (fun W hf => HLE.out W F HS.out HROW2.out hf)
        clear hG hown hf2
        generalize strB F = SF at *
        generalize F.length = fl at *
        have e4 : (SF.toList == SF.toList) = true := beq_self_eq_true _
        go_wp2_with fail
        with_reducible refine (HLE2.out _ HF2.out).mono ?_
        rintro e w3 ⟨rfl, hf3⟩
        have HF3 := Lib.hid (HF2.out.trans hf3)
        clear hf3
        go_wp2_with fail
        with_reducible refine (HW.out _).mono ?_
        rintro e w4 ⟨rfl, hf4⟩
        go_wp2
        exact bodyPost_ret (v := .bool true) (by simp [results, Try.f3, go_sem]) rfl ⟨rfl, HF3.out.trans hf4⟩
end Go.Proofs.Ytdoddpigiencjaa

