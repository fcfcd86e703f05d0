/-
  Texts laid together: HufH HufO.
-/
import Derived.Test.YtdoddpigiencjaaHufP3
import Derived.Test.YtdoddpigiencjaaHufP2
import Derived.Deep.QuietTactic
import Derived.BigQuiet
/-
  The document's code: what bits say.
-/
namespace Go.Proofs.Ytdoddpigiencjaa
set_option linter.unusedVariables false
set_option linter.unusedSimpArgs false
open Go.RowKit
/-- The symbol found among the first k. -/
def foundK (E : List Bool) (k : Nat) : Int := match nextS E with
  | some s => if s < k then (s : Int) else -1
  | none => -1
theorem foundK_zero (E : List Bool) : foundK E 0 = -1 := by
  unfold foundK
  cases nextS E <;> simp
theorem foundK_hit {E : List Bool} {x : Nat} (hx : x < 257) (h : codeB x <+: E) : foundK E (x + 1) = (x : Int) := by
  unfold foundK
  rw [nextS_some.2 ⟨hx, h⟩]
  simp
theorem foundK_miss {E : List Bool} {x : Nat} (h : ¬ codeB x <+: E) : foundK E (x + 1) = foundK E x := by
  unfold foundK
  cases hn : nextS E with
  | none => rfl
  | some s =>
    have h1 := nextS_some.1 hn
    have h2 : s ≠ x := fun e => h (e ▸ h1.2)
    by_cases h3 : s < x
    · simp [h3, show s < x + 1 by omega]
    · simp [h3, show ¬ s < x + 1 by omega]
theorem foundK_none {E : List Bool} (h : nextS E = none) (k : Nat) : foundK E k = -1 := by
  unfold foundK
  rw [h]
theorem foundK_some {E : List Bool} {s : Nat} (h : nextS E = some s) : foundK E 257 = (s : Int) := by
  unfold foundK
  rw [h]
  simp [(nextS_some.1 h).1]
theorem txB_cut (D : List Bool) (a m : Nat) (h : a + m ≤ D.length) : (txB D).extract a (a + m) = txB ((D.drop a).take m) := by
  apply ByteArray.ext
  apply Array.ext'
  have e : ∀ X : List Bool, (txB X).data.toList = X.map chB := fun X => strB_data _
  simp only [ByteArray.data_extract, Array.toList_extract, e, List.extract_eq_take_drop, List.map_take, List.map_drop]
  congr 1
  omega
theorem pre_take {x : Nat} {E : List Bool} : codeB x <+: E ↔ E.take (ln x) = codeB x := by
  constructor
  · intro h
    have := List.prefix_iff_eq_take.1 h
    rw [codeB_length] at this
    exact this.symm
  · intro h
    rw [← h]
    exact List.take_prefix _ _
theorem bk_lt (W : World) : W.heap.size < ((W.alloc (.cells (oC 0) 122)).setRow W.heap.size codC).heap.size := by
  unfold World.setRow World.alloc
  simp only [Array.size_modify, Array.size_push]
  omega
theorem padOk_bit {E : List Bool} {j : Nat} (hj : j < E.length) (h : E[j] = false) : padOk E = false := by
  unfold padOk
  have : E.all id = false := by
    rw [Bool.eq_false_iff]
    intro h2
    have h3 := List.all_eq_true.1 h2 _ (List.getElem_mem hj)
    rw [h] at h3
    cases h3
  rw [this, Bool.and_false]
theorem padOk_all {E : List Bool} (h7 : E.length ≤ 7) (h : ∀ j (hj : j < E.length), E[j] = true) : padOk E = true := by
  unfold padOk
  rw [decide_eq_true h7, Bool.true_and, List.all_eq_true]
  intro b hb
  obtain ⟨j, hj, rfl⟩ := List.getElem_of_mem hb
  exact h j hj
theorem toList_ne {V U : ByteArray} (h : V ≠ U) : (V.toList == U.toList) = false := by
  rw [Bool.eq_false_iff]
  intro h2
  have h3 := eq_of_beq h2
  rw [ByteArray.toList_eq, ByteArray.toList_eq] at h3
  exact h (ByteArray.ext (Array.ext' h3))
set_option maxRecDepth 100000 in
set_option maxHeartbeats 3200000 in
theorem rf_decode (w : World) (D : List Bool) (hD : D.length ≤ 100000000) : Calls Try.prog 60 #[.string (txB D)] w fun e w' => e = .returned (.tuple #[.string (strB (decE D).2), .int .i64 ((decE D).1 : Int)]) ∧ Fresh w w' := by
  obtain ⟨n, hn⟩ : ∃ n, D.length = n := ⟨_, rfl⟩
  have HN := Lib.hid hn
  obtain ⟨S, hS⟩ : ∃ S, txB D = S := ⟨_, rfl⟩
  have HS := Lib.hid hS
  have hsl : S.size = n := by rw [← hS, txB_size, hn]
  rw [hn] at hD
  rw [hS]
  clear hS hn
  have HC := Lib.hid (rf_codes ·)
  go_enter Try.func60, Try.ntmps60
  have hz := zero_cods
  have hst := store_cods
  go_upto_region 2 with (go_at_call 73; with_reducible refine (HC.out _).mono ?_; rintro e w1 ⟨rfl, hf⟩)
  refine wp_gen (fun W => CodsR w w1.heap.size W ∧ Fresh w1 W ∧ w1.heap.size < W.heap.size) ⟨(cods_new w1).from hf, (cods_new w1).fr, bk_lt w1⟩ ?_
  rintro W0 ⟨hW0, hW1, hW2⟩
  generalize w1.heap.size = bk at *
  have HW0 := Lib.hid hW0
  clear hz hst hW0 hf HC hW1
  clear w1
  have HR0 : Hid (Own W0 W0.heap.size 5 1 (.slice none 0 0) ([] : List UInt8).length (([] : List UInt8).map byteV)) := Lib.hid (Own.nil _ _ _ _)
  obtain ⟨B0, hB0⟩ : ∃ B0, W0.heap.size = B0 := ⟨_, rfl⟩
  have HB0 := Lib.hid hB0
  go_wp2
  go_loopw [5, 6] (fun out a wr => ∃ (O : List UInt8) (at_ : Nat), at_ ≤ n ∧ a = .int .i64 (at_ : Int) ∧ O.length ≤ at_ ∧ Own wr W0.heap.size 5 1 out O.length (O.map byteV) ∧ DecR D at_ O ∧ Fresh W0 wr) (fun _ a _ => n - (intOf a).toNat)
  case atStart => exact ⟨[], 0, by omega, rfl, by simp, HR0.out, DecR.start D, Fresh.refl _⟩
  case round =>
    obtain ⟨O, at_, hat, rfl, hOl, hown, hdr, hf⟩ := hrel
    have HOWN := Lib.hid hown
    have HDR := Lib.hid hdr
    have HF := Lib.hid hf
    have HCD := Lib.hid (HW0.out.fresh hf)
    clear hown hdr hf HR0
    by_cases hlt : at_ < n
    · have hlt' : (at_ : Int) < (n : Int) := by omega
      go_wp2
      obtain ⟨E, hE⟩ : ∃ E, D.drop at_ = E := ⟨_, rfl⟩
      have HE := Lib.hid hE
      have hEl : E.length = n - at_ := by rw [← hE, List.length_drop, HN.out]
      have HCUT : Hid (∀ m, at_ + m ≤ n → S.extract at_ (at_ + m) = txB (E.take m)) := Lib.hid (fun m hle => by
        have := HS.out
        subst this
        rw [txB_cut _ _ _ (by rw [HN.out]; exact hle), hE])
      have HBIT : Hid (∀ (j : Nat) (hj : j < E.length), at_ + j < S.size ∧ ∀ h2 : at_ + j < S.size, S[at_ + j] = chB E[j]) := Lib.hid (fun j hj => by
        have := HS.out
        subst this
        refine ⟨by rw [txB_size, HN.out]; omega, fun h2 => ?_⟩
        rw [txB_get]
        subst hE
        simp)
      clear hE
      go_loopw [7, 8] (fun f x w' => ∃ y : Nat, y ≤ 257 ∧ x = .int .i64 (y : Int) ∧ f = .int .i64 (foundK E y) ∧ Fresh wr w') (fun _ x _ => 257 - (intOf x).toNat)
      case atStart => exact ⟨0, by omega, rfl, by rw [foundK_zero], Fresh.refl _⟩
      case round =>
        obtain ⟨y, hy, rfl, rfl, hf2⟩ := hrel
        have HF2 := Lib.hid (HF.out.trans hf2)
        have HCD2 := Lib.hid (HCD.out.fresh hf2)
        have HOWN2 := Lib.hid (HOWN.out.fresh hf2)
        have HFW := Lib.hid hf2
        clear hf2
        by_cases hy2 : y < 257
        · have h2 : (y : Int) < 257 := by omega
          have h0 : (0 : Int) ≤ (y : Int) := by omega
          have h00 : (0 : Int) ≤ (at_ : Int) := by omega
          have hcell := HCD2.out.cell hy2
          obtain ⟨m, hm⟩ : ∃ m, ln y = m := ⟨_, rfl⟩
          have hmb := ln_ok hy2
          have hU : (txB (codeB y)).size = m := by rw [txB_size, codeB_length, hm]
          have HHIT : Hid (codeB y <+: E → foundK E (y + 1) = (y : Int)) := Lib.hid (foundK_hit hy2)
          have HMISS : Hid (¬ codeB y <+: E → foundK E (y + 1) = foundK E y) := Lib.hid foundK_miss
          have HPRE : Hid (codeB y <+: E ↔ E.take m = codeB y) := Lib.hid (hm ▸ pre_take)
          have HLE : Hid (codeB y <+: E → m ≤ E.length) := Lib.hid (fun h => by have := h.length_le; rwa [codeB_length, hm] at this)
          rw [hm] at hmb
          generalize hfk : foundK E y = fk at *
          by_cases hle : at_ + m ≤ n
          · have hle' : (at_ : Int) + (m : Int) ≤ (n : Int) := by omega
            have hlem : (at_ : Int) ≤ (at_ : Int) + (m : Int) := by omega
            have htn : ((at_ : Int) + (m : Int)).toNat = at_ + m := by omega
            have hdec : decide ((at_ : Int) + (m : Int) ≤ (n : Int)) = true := by simpa using hle'
            have hcut := HCUT.out m hle
            by_cases hhit : E.take m = codeB y
            · rw [hhit] at hcut
              have HH := Lib.hid (HHIT.out (HPRE.out.2 hhit))
              generalize txB (codeB y) = U at *
              go_upto_region 10 with fail
              go_quiet (fail)
              go_wp2
              exact ⟨⟨y + 1, by omega, rfl, by rw [HH.out], HFW.out.trans (Fresh.drewN _ _)⟩, by simp [intOf]; omega⟩
            · have hne := toList_ne (fun h => hhit (txB_inj h) : txB (E.take m) ≠ txB (codeB y))
              have HH := Lib.hid (HMISS.out (fun h => hhit (HPRE.out.1 h)))
              generalize txB (codeB y) = U at *
              generalize txB (E.take m) = V at *
              go_upto_region 10 with fail
              go_quiet (fail)
              go_wp2
              exact ⟨⟨y + 1, by omega, rfl, by rw [HH.out], HFW.out.trans (Fresh.drewN _ _)⟩, by simp [intOf]; omega⟩
          · have hle' : ¬ (at_ : Int) + (m : Int) ≤ (n : Int) := by omega
            have hdec : decide ((at_ : Int) + (m : Int) ≤ (n : Int)) = false := by simpa using hle'
            have HH := Lib.hid (HMISS.out (fun h => by have := HLE.out h; omega))
            generalize txB (codeB y) = U at *
            go_upto_region 10 with fail
            go_quiet (fail)
            go_wp2
            exact ⟨⟨y + 1, by omega, rfl, by rw [HH.out], HFW.out.trans (Fresh.drewN _ _)⟩, by simp [intOf]; omega⟩
        · have h2 : ¬ (y : Int) < 257 := by omega
          obtain rfl : y = 257 := by omega
          have HR : Hid (∀ (er : Nat) (O' : List UInt8) (W : World), decE D = (er, O') → Fresh W0 W → Ending.returned (Value.tuple #[Value.string (strB O'), Value.int IntKind.i64 (er : Int)]) = .returned (.tuple #[.string (strB (decE D).2), .int .i64 ((decE D).1 : Int)]) ∧ Fresh w W) := Lib.hid (fun er O' W he hf => ⟨by rw [he], HW0.out.fr.trans hf⟩)
          cases hns : nextS E with
          | none =>
            rw [foundK_none hns]
            have HFIN : Hid (decE D = if padOk E then (0, O) else (20, [])) := Lib.hid (by have := HDR.out.fin (by rw [HE.out]; exact hns); rwa [HE.out] at this)
            clear hns
            go_wp2
            go_loopw [10] (fun i w' => ∃ j : Nat, j ≤ E.length ∧ i = .int .i64 ((at_ + j : Nat) : Int) ∧ (∀ j2 (h2 : j2 < E.length), j2 < j → E[j2] = true) ∧ (0 < j → E.length ≤ 7) ∧ Fresh wr w') (fun i _ => n - (intOf i).toNat)
            case atStart => exact ⟨0, by omega, rfl, fun _ _ h => by omega, by omega, Fresh.refl _⟩
            case round =>
              obtain ⟨j, hj, rfl, hall, h7, hf3⟩ := hrel
              have HF3 := Lib.hid (HF2.out.trans hf3)
              have HFW3 := Lib.hid hf3
              have HALL := Lib.hid hall
              have H7 := Lib.hid h7
              clear hf3 hall h7
              obtain ⟨q, hq⟩ : ∃ q, at_ + j = q := ⟨_, rfl⟩
              rw [hq]
              have hatq : at_ ≤ q := by omega
              by_cases hj2 : j < E.length
              · have hqn : (q : Int) < (n : Int) := by omega
                have h0 : (0 : Int) ≤ (q : Int) := by omega
                obtain ⟨hb1, hb2⟩ := HBIT.out j hj2
                have hqS : q < S.size := by omega
                have hg : S[q] = chB E[j] := by
                  subst hq
                  exact hb2 hqS
                clear hb1 hb2
                obtain ⟨b, hb⟩ : ∃ b, E[j] = b := ⟨_, rfl⟩
                rw [hb] at hg
                have HB := Lib.hid hb
                have HQ := Lib.hid hq
                clear hb hq
                cases b
                · have hg2 : S[q] = 48 := hg
                  clear hg
                  have HFF : Hid (decE D = (20, [])) := Lib.hid (by rw [HFIN.out, padOk_bit hj2 HB.out]; rfl)
                  go_wp2
                  go_ret2
                  exact HR.out 20 [] _ HFF.out HF3.out
                · have hg2 : S[q] = 49 := hg
                  clear hg
                  by_cases h7 : 7 < E.length
                  · have h8 : (7 : Int) < (n : Int) - (at_ : Int) := by omega
                    have HFF : Hid (decE D = (20, [])) := Lib.hid (by rw [HFIN.out, padOk_long h7]; rfl)
                    go_wp2
                    go_ret2
                    exact HR.out 20 [] _ HFF.out HF3.out
                  · have h8 : ¬ (7 : Int) < (n : Int) - (at_ : Int) := by omega
                    go_wp2
                    exact ⟨⟨j + 1, by omega, by rw [← HQ.out]; go_num, fun j2 h2 h3 => by
                      by_cases e : j2 = j
                      · subst e; exact HB.out
                      · exact HALL.out j2 h2 (by omega), fun _ => by omega, HFW3.out⟩, by simp [intOf]; omega⟩
              · have hqn : ¬ (q : Int) < (n : Int) := by omega
                have HFF : Hid (decE D = (0, O)) := Lib.hid (by rw [HFIN.out, padOk_all (H7.out (by omega)) (fun j2 h2 => HALL.out j2 h2 (by omega))]; rfl)
                have HO3 := Lib.hid (HOWN2.out.fresh HFW3.out)
                obtain ⟨A', cc, rfl, _, _, _⟩ := HO3.out.slice
                have hcv : (convert 29 9 (.slice A' O.length cc)).run Try.prog wr = .ok (.string (strB O)) wr := by
                  obtain ⟨h1, h2⟩ := Own.bytes HO3.out
                  exact run_str (P := Try.prog) h1 29 9 5 Try.underlying29 Try.underlying5 Try.underlying9 cc
                have HR2 := Lib.hid (HR.out 0 O _ HFF.out HF3.out)
                clear HR HFIN HFF
                generalize O.length = m at *
                generalize strB O = T at *
                go_wp2
                go_ret2
                exact HR2.out
          | some s =>
            rw [foundK_some hns]
            have HNS : Hid (nextS (D.drop at_) = some s) := Lib.hid (by rw [HE.out]; exact hns)
            have hs := (nextS_some.1 hns).1
            have hlb := (ln_ok hs)
            have hpl := (nextS_some.1 hns).2.length_le
            rw [codeB_length] at hpl
            clear hns
            by_cases h6 : s = 256
            · subst h6
              have HFF : Hid (decE D = (21, [])) := Lib.hid (HDR.out.eos HNS.out)
              rw [show ((256 : Nat) : Int) = 256 from rfl]
              generalize ln 256 = y at *
              go_wp2
              go_ret2
              exact HR.out 21 [] _ HFF.out HF2.out
            · have e0 : ((s : Int) == 256) = false := by simp; omega
              have e00 : ¬ (s : Int) = 256 := by omega
              have e1 : IntKind.u8.wrap (s : Int) = ((UInt8.ofNat s).toNat : Int) := by rw [IntKind.wrap_u8]; simp
              have e2 : (s : Int) % 256 = ((UInt8.ofNat s).toNat : Int) := by simp
              have e4 : (s : Int) < 257 := by omega
              have e5 : (0 : Int) ≤ (s : Int) := by omega
              have e6 : ¬ (s : Int) < 0 := by omega
              have hdr2 := HDR.out.step HNS.out h6
              obtain ⟨y, hy⟩ : ∃ y, ln s = y := ⟨_, rfl⟩
              have hU : (txB (codeB s)).size = y := by rw [txB_size, codeB_length, hy]
              rw [hy] at hdr2 hpl hlb
              obtain ⟨A', cc, rfl, _, _, _⟩ := HOWN2.out.slice
              obtain ⟨v', w', hap, ho', hb', hne, _⟩ := HOWN2.out.push (P := Try.prog) Try.underlying29 u8_infoH rfl (by omega) 29 HF2.out (Nat.le_refl _) #[byteV (UInt8.ofNat s)] rfl (by intro u hu; simp at hu; subst hu; rfl) (by unfold maxLen; omega) (by omega)
              have hcell := (HW0.out.fresh hb').cell hs
              have HREL : Hid (at_ + y ≤ n ∧ (O ++ [UInt8.ofNat s]).length ≤ at_ + y ∧ Own w' W0.heap.size 5 1 v' (O ++ [UInt8.ofNat s]).length ((O ++ [UInt8.ofNat s]).map byteV) ∧ DecR D (at_ + y) (O ++ [UInt8.ofNat s]) ∧ Fresh W0 w') := Lib.hid ⟨by omega, by simp; omega, by simpa using ho', hdr2, hb'⟩
              have HO := Lib.hid hlb.1
              unfold byteV at hap
              generalize (UInt8.ofNat s).toNat = c2 at *
              generalize txB (codeB s) = U at *
              clear hdr2 ho' hb' hne hy
              go_wp2_with (at_builtin; refine wp_app rfl _ _ _ rfl hap rfl rfl rfl ?_)
              exact ⟨⟨_, at_ + y, HREL.out.1, by go_num, HREL.out.2.1, HREL.out.2.2.1, HREL.out.2.2.2.1, HREL.out.2.2.2.2⟩, by have := HO.out; simp [intOf]; omega⟩
    · obtain rfl : at_ = n := by omega
      have hE : D.drop at_ = [] := List.drop_of_length_le (by rw [HN.out]; exact Nat.le_refl _)
      have HFF : Hid (decE D = (0, O)) := Lib.hid (by
        have := HDR.out.fin (by rw [hE]; exact nextS_ones (p := 0) (by omega))
        rw [hE] at this
        exact this)
      obtain ⟨A', cc, rfl, _, _, _⟩ := HOWN.out.slice
      have hcv : (convert 29 9 (.slice A' O.length cc)).run Try.prog wr = .ok (.string (strB O)) wr := by
        obtain ⟨h1, h2⟩ := Own.bytes HOWN.out
        exact run_str (P := Try.prog) h1 29 9 5 Try.underlying29 Try.underlying5 Try.underlying9 cc
      have HR : Hid (Ending.returned (Value.tuple #[Value.string (strB O), Value.int IntKind.i64 0]) = .returned (.tuple #[.string (strB (decE D).2), .int .i64 ((decE D).1 : Int)]) ∧ Fresh w wr) := Lib.hid ⟨by rw [HFF.out]; rfl, HW0.out.fr.trans HF.out⟩
      clear hE
      generalize O.length = m at *
      generalize strB O = T at *
      go_wp2
      go_ret2
      exact HR.out
end Go.Proofs.Ytdoddpigiencjaa

/-
  The document's text of bytes, by what is told of them.
-/
namespace Go.Proofs.Ytdoddpigiencjaa
set_option linter.unusedVariables false
open Go.RowKit
theorem IsEnc.text {l O : List UInt8} (h : IsEnc l O) {p : Nat} (hp : p ≤ 7) (h8 : (szB l + p) % 8 = 0) : txB (encB l ++ ones p) = txB (bitsL O) := by
  obtain ⟨q, hq, e⟩ := h
  have k := congrArg List.length e
  rw [bitsL_length, List.length_append] at k
  simp only [ones, List.length_replicate] at k
  unfold szB at h8
  have : p = q := by omega
  subst this
  rw [e]
/-- Text and Bits of a text say the same. -/
theorem rf_text_enc {l O : List UInt8} (h : IsEnc l O) (hl : l.length ≤ 100000000) (W : World) : Calls Try.prog 67 #[.string (strB l)] W fun e w' => e = .returned (.string (txB (bitsL O))) ∧ Fresh W w' :=
  (rf_text W l hl).mono (fun e w' hh => by
    obtain ⟨⟨p, hp, h8, he⟩, hf⟩ := hh
    exact ⟨by rw [he, h.text hp h8], hf⟩)
theorem szB_ge (l : List UInt8) : l.length * 5 ≤ szB l := by
  induction l with
  | nil => simp
  | cons c r ih =>
    have hc := UInt8.toNat_lt c
    have := (ln_ok (s := c.toNat) (by omega)).1
    unfold szB at ih ⊢
    rw [encB_cons, List.length_append, codeB_length, List.length_cons]
    omega
end Go.Proofs.Ytdoddpigiencjaa

