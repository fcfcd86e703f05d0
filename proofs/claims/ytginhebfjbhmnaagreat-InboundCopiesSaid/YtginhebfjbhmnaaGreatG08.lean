/-
  Texts laid together: Pay71 Pay74 Pay77 Pay8.
-/
import Derived.Test.YtginhebfjbhmnaaGreatG07
/-
  Contracts of package payload: reading by type.
-/
namespace Go.Proofs.YtginhebfjbhmnaaGreat
set_option maxRecDepth 100000
set_option linter.unusedVariables false
open Go.RowKit
section
variable {p : Nat} {f0 fl st : Int} {A : Option Addr} {c : Nat} {l : List UInt8} {w : World}
set_option maxRecDepth 100000 in
set_option maxHeartbeats 3200000 in
theorem read_1 (hb : Blk w p 98 (bareI 1 st f0).cells.toArray) (hA : BS w A l) (hAp : 0 < l.length → ∀ b o, A = some ⟨b, o, none⟩ → b ≠ p) (hlc : l.length ≤ c) (hmx : l.length ≤ 1000000) (hp : pdB 1 fl = true → 0 < l.length) (ha : aheadN 1 fl + padN 1 fl l ≤ l.length) (hw : wgB 1 fl = true → fromN 1 fl + 5 ≤ l.length) :
    Calls Tryz.prog 51 #[.pointer (some ⟨p, 0, none⟩), .agg #[.int .i64 1, .int .i64 fl, .int .i64 st, .slice A l.length c]] w (ReadP p 1 st f0 { PR0 with l := textL 1 fl l, en := hasB fl 1, eh := hasB fl 4, wd := wgB 1 fl, ex := wgB 1 fl && exB 1 fl l, de := if wgB 1 fl then (depN 1 fl l : Int) else 0, we := if wgB 1 fl then weL 1 fl l else 0 } w) := by
  have hR0 := RdS.start (c := c) (ty := 1) (fl := fl) (st := st) hb hA hAp
  have HT := Lib.hid (fun w' hA => ptext 1 fl st A c l w' hA hlc (by omega) hp ha)
  have HTL : Hid ((textL 1 fl l).length = l.length - padN 1 fl l - aheadN 1 fl) := Lib.hid (by unfold textL; simp; omega)
  have HH1 := Lib.hid (fun w' => phas 1 fl st A l.length c 1 (hasB fl 1) w' rfl rfl)
  have HH4 := Lib.hid (fun w' => phas 1 fl st A l.length c 4 (hasB fl 4) w' rfl rfl)
  obtain ⟨wg, hwg⟩ : ∃ wg, wgB 1 fl = wg := ⟨_, rfl⟩
  have HWD := Lib.hid (fun w' => pweighed 1 fl st A l.length c wg w' hwg)
  have HWG := Lib.hid (fun (hx : wg = true) p' x' w' hb hA => pweigh p' x' 1 fl st A c l w' hb hA hlc (hw (hwg.trans hx)))
  rw [hwg]
  generalize hasB fl 1 = h1 at *
  generalize hasB fl 4 = h4 at *
  generalize textL 1 fl l = T at *
  have hml : l.length - padN 1 fl l - aheadN 1 fl ≤ 1000000 := by omega
  generalize l.length - padN 1 fl l - aheadN 1 fl = m at *
  clear hp ha hb hA hAp hw hwg
  refine read_hide (fun rr hrr => ?_)
  have HRR := Lib.hid hrr
  clear hrr
  go_enter Tryz.func51, Tryz.ntmps51
  go_wp2_with fail
  refine wp_gen (RdS w p w.heap.size (bareI 1 st f0) 1 fl st A c l) hR0 ?_
  intro W hR
  obtain ⟨b, hbb⟩ : ∃ b, w.heap.size = b := ⟨_, rfl⟩
  have HBB := Lib.hid hbb
  rw [hbb] at hR ⊢
  have HSK : Hid (∀ w', Only (· = p) W w' → w'.cell? ⟨b, 0, none⟩ = some (.int .i64 1) ∧ w'.cell? ⟨b, 1, none⟩ = some (.int .i64 fl) ∧ w'.cell? ⟨b, 2, none⟩ = some (.int .i64 st) ∧ w'.cell? ⟨b, 3, none⟩ = some (.slice A l.length c) ∧ Only (· = p) W w') := Lib.hid (fun w' hw => by
    obtain ⟨c0, c1, c2, c3⟩ := (hR.only hw).1.c4
    exact ⟨c0, c1, c2, c3, hw⟩)
  have HBS := Lib.hid (fun w' hw => (hR.only (W' := w') hw).2)
  have HIT := Lib.hid hR.it
  have HR := Lib.hid hR
  obtain ⟨g0, g1, g2, g3, g4⟩ := HSK.out W (Only.refl _ _)
  clear hR hR0 hbb
  go_region_held3 (fun w' => w'.cell? ⟨b, 0, none⟩ = some (.int .i64 1) ∧ w'.cell? ⟨b, 1, none⟩ = some (.int .i64 fl) ∧ w'.cell? ⟨b, 2, none⟩ = some (.int .i64 st) ∧ w'.cell? ⟨b, 3, none⟩ = some (.slice A l.length c) ∧ Only (· = p) W w')
    ((refine HSK.out _ ?_; first | with_reducible assumption | with_reducible exact Only.drewS (Only.refl _ _) | (with_reducible apply Only.drewS; with_reducible assumption) | (with_reducible refine Only.step2 (.inl rfl) ?_; with_reducible assumption) | (with_reducible refine Only.step2 (.inl rfl) (Only.step2 (.inl rfl) ?_); with_reducible assumption) | (with_reducible refine Only.step2 (.inl rfl) (Only.step2 (.inl rfl) (Only.step2 (.inl rfl) ?_)); with_reducible assumption)))
    (first
      | (go_at_call 70; (with_reducible refine (HT.out _ (HBS.out _ (by first | assumption | exact Only.drewS (Only.refl _ _)))).mono ?_); rintro e w3 ⟨g, rfl, hgg, hbg, hf3⟩; have hg3 : Only (· = p) W w3 := Only.freshS (by first | assumption | exact Only.drewS (Only.refl _ _)) hf3; have HG := Lib.hid (And.intro (show W.heap.size ≤ g from Nat.le_trans (Fresh.size (show Fresh W _ from (by first | assumption | exact Fresh.drew _))) hgg) hbg); have hi3 : Fresh W w3 := (Fresh.drew _).trans hf3; clear hgg hbg)
      | (go_at_call 38; (with_reducible refine (HH1.out _).mono ?_); rintro e w8 ⟨rfl, hf8⟩; have hi8 : Fresh W w8 := Fresh.trans (by first | exact hi3 | exact Fresh.drew _) hf8; have hg8 : Only (· = p) W w8 := Only.of_fresh hi8)
      | (go_at_call 38; (with_reducible refine (HH4.out _).mono ?_); rintro e w9 ⟨rfl, hf9⟩; have hi9 : Fresh W w9 := Fresh.trans (by first | exact hi8 | exact Fresh.drew _) hf9; have hg9 : Only (· = p) W w9 := Only.of_fresh hi9; have hit9 := HIT.out.fresh hi9; have q2 := hit9.cell 2; have z2 := hit9.frozen 2; have q3 := hit9.cell 3; have z3 := hit9.frozen 3; have q4 := hit9.cell 4; have z4 := hit9.frozen 4; simp only [ItV.cells, bareI, List.getElem?_toArray, List.getElem?_cons_zero, List.getElem?_cons_succ] at q2 q3 q4; have HI9 := Lib.hid hit9; clear hit9))
  have hle := HTL.out
  have hgp : g ≠ p := by have := HG.out.1; have := HR.out.it.lt; omega
  have hbg := (HG.out.2.fresh hf8).fresh hf9
  have hbx := HR.out.box.fresh hi9
  have hAx := HR.out.bs.fresh hi9
  refine wx_gen (fun W5 => Blk W5 p 98 ({ bareI 1 st f0 with A := some ⟨g, 0, none⟩, c := m, l := T, en := h1, eh := h4 }).cells.toArray ∧ Blk W5 b 34 #[.int .i64 1, .int .i64 fl, .int .i64 st, .slice A l.length c] ∧ Blk W5 g 5 (bytesA T) ∧ BS W5 A l ∧ Only (· = p) w W5) ?_ ?_
  focus
    have hbp : b ≠ p := by have := HR.out.hb; have := HR.out.hp; omega
    refine ⟨?_, ((hbx.far (p := ⟨p, 2, none⟩) hbp _).far (p := ⟨p, 3, none⟩) hbp _).far (p := ⟨p, 4, none⟩) hbp _, ((hbg.far (p := ⟨p, 2, none⟩) hgp _).far (p := ⟨p, 3, none⟩) hgp _).far (p := ⟨p, 4, none⟩) hgp _, ?_, ?_⟩
    · have := ((HI9.out.set 2 (.slice (some ⟨g, 0, none⟩) m m)).set 3 (.bool h1)).set 4 (.bool h4)
      simpa [ItV.cells, bareI, hle] using this
    · refine Only.bsx (p := p) hAx ?_ HR.out.hA
      refine Only.step2 (.inl rfl) (Only.step2 (.inl rfl) (Only.step2 (.inl rfl) ?_))
      exact Only.refl _ _
    · refine Only.step2 (.inl rfl) (Only.step2 (.inl rfl) (Only.step2 (.inl rfl) ?_))
      exact Only.of_fresh (HR.out.fr.trans hi9)
  have HGW : Hid (w.heap.size ≤ g) := Lib.hid (by have := HG.out.1; have := HR.out.fr.size; omega)
  have HGP := Lib.hid hgp
  clear hbg hbx hAx hle hgp q2 q3 q4 z2 z3 z4 HI9 HG hi9 hi8 hi3 hf9 hf8 hf3 g0 g1 g2 g3 g4 HSK HBS HIT HR
  intro W5 ⟨hp5, hb5, hg5, hA5, ho5⟩
  obtain ⟨c0, c1, c2, c3⟩ := hb5.c4
  have HP5 := Lib.hid hp5
  have HB5 := Lib.hid hb5
  have HG5 := Lib.hid hg5
  have HA5 := Lib.hid hA5
  have HO5 := Lib.hid ho5
  clear hp5 hb5 hg5 hA5 ho5
  go_wp2_with fail
  with_reducible refine (HWD.out _).mono ?_
  rintro e w6 ⟨rfl, hf6⟩
  have HF6 := Lib.hid hf6
  obtain ⟨c0, c1, c2, c3⟩ := (HB5.out.fresh hf6).c4
  clear hf6
  cases wg with
  | false =>
    go_wp2_with fail
    go_returns
    have hle := HTL.out
    rw [← HRR.out]
    refine ⟨{ bareI 1 st f0 with A := some ⟨g, 0, none⟩, c := m, l := T, en := h1, eh := h4 }, rfl, HP5.out.fresh HF6.out, ⟨by show T.length ≤ m; omega, by show m ≤ maxLen; unfold maxLen; omega, BS.row (HG5.out.fresh HF6.out), by simp [bareI], by simp [bareI, maxLen], Many.nil _ _ _ _⟩, ⟨rfl, ⟨rfl, rfl, rfl, rfl, rfl⟩, ⟨rfl, rfl, rfl, rfl, rfl⟩, rfl⟩, ⟨rfl, rfl, rfl⟩, (fun b' o e => by cases e; exact HGW.out), (fun b' o e => by cases e), HO5.out.freshS HF6.out⟩
  | true =>
    go_wp2_with fail
    refine (HWG.out (by simp) p { bareI 1 st f0 with A := some ⟨g, 0, none⟩, c := m, l := T, en := h1, eh := h4 } _ (HP5.out.fresh HF6.out) (HA5.out.fresh HF6.out)).mono ?_
    rintro e w7 ⟨rfl, hb7, ho7⟩
    have HB7 := Lib.hid hb7
    have HO7 := Lib.hid ho7
    clear hb7 ho7
    go_wp2_with fail
    go_returns
    have hle := HTL.out
    rw [← HRR.out]
    refine ⟨wgI 1 fl l { bareI 1 st f0 with A := some ⟨g, 0, none⟩, c := m, l := T, en := h1, eh := h4 }, rfl, HB7.out, ⟨by show T.length ≤ m; omega, by show m ≤ maxLen; unfold maxLen; omega, BS.row ((HG5.out.fresh HF6.out).only HO7.out (fun e => HGP.out e)), by simp [bareI, wgI], by simp [bareI, wgI, maxLen], Many.nil _ _ _ _⟩, ⟨rfl, ⟨rfl, rfl, rfl, rfl, by simp [wgI]⟩, ⟨rfl, rfl, rfl, by simp [wgI], by simp [wgI]⟩, rfl⟩, ⟨rfl, rfl, rfl⟩, (fun b' o e => by cases e; exact HGW.out), (fun b' o e => by cases e), (HO5.out.freshS HF6.out).trans HO7.out⟩
end
end Go.Proofs.YtginhebfjbhmnaaGreat

/-
  Contracts of package payload: reading by type.
-/
namespace Go.Proofs.YtginhebfjbhmnaaGreat
set_option maxRecDepth 100000
set_option linter.unusedVariables false
open Go.RowKit
theorem own_at {W w' w9 : World} {t n sz : Nat} {v : Value} {cs : List Value} (hf : Fresh W w') (h : Own w9 w'.heap.size t sz v n cs) : ∃ base, W.heap.size ≤ base ∧ Own w9 base t sz v n cs := ⟨_, hf.size, h⟩
section
variable {p : Nat} {f0 fl st : Int} {A : Option Addr} {c : Nat} {l : List UInt8} {w : World}
set_option maxRecDepth 100000 in
set_option maxHeartbeats 3200000 in
theorem read_4 (hb : Blk w p 98 (bareI 4 st f0).cells.toArray) (hA : BS w A l) (hAp : 0 < l.length → ∀ b o, A = some ⟨b, o, none⟩ → b ≠ p) (hlc : l.length ≤ c) (hmx : l.length ≤ 1000000) (n : Nat) (h6 : l.length = 6 * n) :
    Calls Tryz.prog 51 #[.pointer (some ⟨p, 0, none⟩), .agg #[.int .i64 4, .int .i64 fl, .int .i64 st, .slice A l.length c]] w (ReadP p 4 st f0 { PR0 with ak := hasB fl 1, ps := prsL n l } w) := by
  have hR0 := RdS.start (c := c) (ty := 4) (fl := fl) (st := st) hb hA hAp
  have HPR := Lib.hid (fun w' hA => ppairs 4 fl st A c l n w' hA hmx h6)
  have HPL := Lib.hid (prsL_len n l)
  unfold PairsP at HPR
  have HH1 := Lib.hid (fun w' => phas 4 fl st A l.length c 1 (hasB fl 1) w' rfl rfl)
  generalize hasB fl 1 = h1 at *
  generalize prsL n l = PS at *
  clear hb hA hAp h6
  go_enter Tryz.func51, Tryz.ntmps51
  go_wp2_with fail
  refine wp_gen (RdS w p w.heap.size (bareI 4 st f0) 4 fl st A c l) hR0 ?_
  intro W hR
  obtain ⟨b, hbb⟩ : ∃ b, w.heap.size = b := ⟨_, rfl⟩
  have HBB := Lib.hid hbb
  rw [hbb] at hR ⊢
  have HSK : Hid (∀ w', Only (· = p) W w' → w'.cell? ⟨b, 0, none⟩ = some (.int .i64 4) ∧ w'.cell? ⟨b, 1, none⟩ = some (.int .i64 fl) ∧ w'.cell? ⟨b, 2, none⟩ = some (.int .i64 st) ∧ w'.cell? ⟨b, 3, none⟩ = some (.slice A l.length c) ∧ Only (· = p) W w') := Lib.hid (fun w' hw => by
    obtain ⟨c0, c1, c2, c3⟩ := (hR.only hw).1.c4
    exact ⟨c0, c1, c2, c3, hw⟩)
  have HBS := Lib.hid (fun w' hw => (hR.only (W' := w') hw).2)
  have HIT := Lib.hid hR.it
  have HR := Lib.hid hR
  obtain ⟨g0, g1, g2, g3, g4⟩ := HSK.out W (Only.refl _ _)
  clear hR hR0 hbb
  go_region_held3 (fun w' => w'.cell? ⟨b, 0, none⟩ = some (.int .i64 4) ∧ w'.cell? ⟨b, 1, none⟩ = some (.int .i64 fl) ∧ w'.cell? ⟨b, 2, none⟩ = some (.int .i64 st) ∧ w'.cell? ⟨b, 3, none⟩ = some (.slice A l.length c) ∧ Only (· = p) W w')
    ((refine HSK.out _ ?_; first | with_reducible assumption | with_reducible exact Only.drewS (Only.refl _ _) | (with_reducible apply Only.drewS; with_reducible assumption) | (with_reducible refine Only.step2 (.inl rfl) ?_; with_reducible assumption) | (with_reducible refine Only.step2 (.inl rfl) (Only.step2 (.inl rfl) ?_); with_reducible assumption) | (with_reducible refine Only.step2 (.inl rfl) (Only.step2 (.inl rfl) (Only.step2 (.inl rfl) ?_)); with_reducible assumption)))
    (first
      | (go_at_call 38; (with_reducible refine (HH1.out _).mono ?_); rintro e w3 ⟨rfl, hf3⟩; have hi3 : Fresh W w3 := Fresh.trans (by first | exact hi0 | exact Fresh.drew _) hf3; have hg3 : Only (· = p) W w3 := Only.of_fresh hi3)
      | (go_at_call 73; (with_reducible refine (HPR.out _ (HBS.out _ (by first | assumption | exact Only.drewS (Only.refl _ _)))).mono ?_); rintro e w9 ⟨PA, pc, rfl, hpn, hpm, hown, hf9⟩; have hi9 : Fresh W w9 := Fresh.trans (by first | exact hi3 | exact Fresh.drew _) hf9; have hg9 : Only (· = p) W w9 := Only.of_fresh hi9; have HO := Lib.hid (And.intro hpn (And.intro hpm (own_at (by first | assumption | exact Fresh.drew _) hown))); clear hpn hpm hown; have hit9 := HIT.out.fresh hi9; have q5 := hit9.cell 5; have z5 := hit9.frozen 5; have q14 := hit9.cell 14; have z14 := hit9.frozen 14; simp only [ItV.cells, bareI, List.getElem?_toArray, List.getElem?_cons_zero, List.getElem?_cons_succ] at q5 q14; have HI9 := Lib.hid hit9; clear hit9))
  go_wp2
  go_returns
  obtain ⟨hpn, hpm, base, hbs, hown⟩ := HO.out
  have hpl := HPL.out
  have hm := many_own hown hpl
  have hlt := HR.out.it.lt
  have hsz := HR.out.fr.size
  refine ⟨{ bareI 4 st f0 with PA := PA, pc := pc, ps := PS, ak := h1 }, rfl, ?_, ⟨by simp [bareI], by simp [bareI, maxLen], BS.nil _ _, by show PS.length ≤ pc; omega, hpm, hm.1.only (S := (· = p)) (Only.step2 (.inl rfl) (Only.step2 (.inl rfl) (Only.refl _ _))) (fun b o e hh => by have := hm.2 b o e; omega)⟩, ⟨rfl, ⟨rfl, rfl, rfl, rfl, rfl⟩, ⟨rfl, rfl, rfl, rfl, rfl⟩, rfl⟩, ⟨rfl, rfl, rfl⟩, (fun b' o e => by cases e), (fun b' o e => by have := hm.2 b' o e; omega), ?_⟩
  · have := (HI9.out.set 5 (.bool h1)).set 14 (.slice PA n pc)
    simpa [ItV.cells, bareI, hpl] using this
  · refine Only.step2 (.inl rfl) (Only.step2 (.inl rfl) ?_)
    exact Only.of_fresh (HR.out.fr.trans hi9)
end
end Go.Proofs.YtginhebfjbhmnaaGreat

/-
  Contracts of package payload: reading by type.
-/
namespace Go.Proofs.YtginhebfjbhmnaaGreat
set_option maxRecDepth 100000
set_option linter.unusedVariables false
open Go.RowKit
section
variable {p : Nat} {f0 fl st : Int} {A : Option Addr} {c : Nat} {l : List UInt8} {w : World}
set_option maxRecDepth 100000 in
set_option maxHeartbeats 3200000 in
theorem read_7 (hb : Blk w p 98 (bareI 7 st f0).cells.toArray) (hA : BS w A l) (hAp : 0 < l.length → ∀ b o, A = some ⟨b, o, none⟩ → b ≠ p) (hlc : l.length ≤ c) (hmx : l.length ≤ 1000000) (h8 : 8 ≤ l.length) :
    Calls Tryz.prog 51 #[.pointer (some ⟨p, 0, none⟩), .agg #[.int .i64 7, .int .i64 fl, .int .i64 st, .slice A l.length c]] w (ReadP p 7 st f0 { PR0 with l := l.drop 8, la := ((numL (l.take 4) % 2147483648 : Nat) : Int), co := (numL ((l.drop 4).take 4) : Int) } w) := by
  have hR0 := RdS.start (c := c) (ty := 7) (fl := fl) (st := st) hb hA hAp
  have HN := Lib.hid (fun w' hA => onewR A l.length c l w' rfl hA (by omega))
  have hlow := low31 _ (num4_lt l)
  have HF4 := Lib.hid (fun q g w' (hr : Rdr w' q g l 0) => pfour q g l 0 _ w' hr (by omega) rfl)
  simp only [List.drop_zero] at HF4
  have HF5 := Lib.hid (fun q g w' (hr : Rdr w' q g l 4) => pfour q g l 4 _ w' hr (by omega) rfl)
  have HRS := Lib.hid (fun q g w' (hr : Rdr w' q g l 8) => orest_at q g l 8 (l.length - 8) w' hr (by omega))
  have HTL : Hid ((l.drop 8).length = l.length - 8) := Lib.hid (by simp)
  generalize hco : numL ((l.drop 4).take 4) = co at *
  generalize numL (l.take 4) = la at *
  generalize hlm : la % 2147483648 = lm at *
  generalize hT : l.drop 8 = T at *
  have HTD := Lib.hid hT
  clear hb hA hAp hco hlm hT
  go_enter Tryz.func51, Tryz.ntmps51
  go_wp2_with fail
  have hR := hR0
  obtain ⟨W, hWW⟩ : ∃ W, w.alloc (.cells #[.int .i64 7, .int .i64 fl, .int .i64 st, .slice A l.length c] 34) = W := ⟨_, rfl⟩
  rw [hWW] at hR ⊢
  clear hWW
  obtain ⟨b, hbb⟩ : ∃ b, w.heap.size = b := ⟨_, rfl⟩
  have HBB := Lib.hid hbb
  rw [hbb] at hR ⊢
  have HSK : Hid (∀ w', Only (· = p) W w' → w'.cell? ⟨b, 0, none⟩ = some (.int .i64 7) ∧ w'.cell? ⟨b, 1, none⟩ = some (.int .i64 fl) ∧ w'.cell? ⟨b, 2, none⟩ = some (.int .i64 st) ∧ w'.cell? ⟨b, 3, none⟩ = some (.slice A l.length c) ∧ Only (· = p) W w') := Lib.hid (fun w' hw => by
    obtain ⟨c0, c1, c2, c3⟩ := (hR.only hw).1.c4
    exact ⟨c0, c1, c2, c3, hw⟩)
  have HBS := Lib.hid (fun w' hw => (hR.only (W' := w') hw).2)
  have HIT := Lib.hid hR.it
  have HR := Lib.hid hR
  obtain ⟨g0, g1, g2, g3, g4⟩ := HSK.out W (Only.refl _ _)
  clear hR hR0 hbb
  with_reducible refine (HN.out _ (HBS.out _ (Only.refl _ _))).mono ?_
  rintro e w3 ⟨q, g, rfl, hq, hg, hr, hf⟩
  have H1 := Lib.hid (And.intro hq (And.intro hg (And.intro hr hf)))
  clear hq hg hr hf
  go_wp2_with fail
  with_reducible refine (HF4.out q g _ H1.out.2.2.1.rdr).mono ?_
  rintro e w4 ⟨rfl, hr4, ho4⟩
  have HR4 := Lib.hid hr4
  have HO4 := Lib.hid ho4
  clear hr4 ho4
  go_wp2_with fail
  with_reducible refine (HF5.out q g _ HR4.out).mono ?_
  rintro e w5 ⟨rfl, hr5, ho5⟩
  have HR5 := Lib.hid hr5
  have HO5 := Lib.hid ho5
  clear hr5 ho5
  go_wp2_with fail
  with_reducible refine (HRS.out q g _ HR5.out).mono ?_
  rintro e w6 ⟨A', rfl, hat, hbs6, hb6, _, ho6⟩
  rw [HTD.out] at hbs6
  have hf6 : Fresh W w6 := Only.fresh ((((Only.of_fresh H1.out.2.2.2).trans HO4.out).trans HO5.out).trans ho6) (fun i hi e => by have := H1.out.1; omega)
  have HF6 := Lib.hid hf6
  have HA6 := Lib.hid (And.intro hat hbs6)
  have HI6 := Lib.hid (HIT.out.fresh hf6)
  clear hat hbs6 hb6 ho6 hf6
  have q8 := (HI6.out).cell 8
  have z8 := (HI6.out).frozen 8
  have q7 := (HI6.out).cell 7
  have z7 := (HI6.out).frozen 7
  have q2 := (HI6.out).cell 2
  have z2 := (HI6.out).frozen 2
  simp only [ItV.cells, bareI, List.getElem?_toArray, List.getElem?_cons_zero, List.getElem?_cons_succ] at q8 q7 q2
  go_wp2_with fail
  go_returns
  have hle := HTL.out
  have hag : ∀ b' o, A' = some ⟨b', o, none⟩ → W.heap.size ≤ b' := fun b' o e => by
    rcases HA6.out.1 with ⟨h, _⟩ | ⟨o', h, _⟩
    · rw [h] at e; cases e
    · rw [h] at e; cases e; exact H1.out.2.1
  have hlt := HR.out.it.lt
  have hsz := HR.out.fr.size
  refine ⟨{ bareI 7 st f0 with A := A', c := l.length - 8, l := T, la := (lm : Int), co := (co : Int) }, rfl, ?_, ⟨by show T.length ≤ l.length - 8; omega, by show l.length - 8 ≤ maxLen; unfold maxLen; omega, ?_, by simp [bareI], by simp [bareI, maxLen], Many.nil _ _ _ _⟩, ⟨rfl, ⟨rfl, rfl, rfl, rfl, rfl⟩, ⟨rfl, rfl, rfl, rfl, rfl⟩, rfl⟩, ⟨rfl, rfl, rfl⟩, (fun b' o e => by have := hag b' o e; omega), (fun b' o e => by cases e), ?_⟩
  · have := ((HI6.out.set 8 (.int .i64 (lm : Int))).set 7 (.int .i64 (co : Int))).set 2 (.slice A' (l.length - 8) (l.length - 8))
    simpa [ItV.cells, bareI, hle] using this
  · refine HA6.out.2.only (S := (· = p)) (Only.step2 (.inl rfl) (Only.step2 (.inl rfl) (Only.step2 (.inl rfl) (Only.refl _ _)))) (fun b' o e hh => by have := hag b' o e; omega)
  · refine Only.step2 (.inl rfl) (Only.step2 (.inl rfl) (Only.step2 (.inl rfl) ?_))
    exact Only.of_fresh (HR.out.fr.trans HF6.out)
set_option maxRecDepth 100000 in
set_option maxHeartbeats 3200000 in
theorem read_else (ty : Int) (hb : Blk w p 98 (bareI ty st f0).cells.toArray) (hA : BS w A l) (hn : ¬ ty = 0 ∧ ¬ ty = 1 ∧ ¬ ty = 2 ∧ ¬ ty = 3 ∧ ¬ ty = 4 ∧ ¬ ty = 6 ∧ ¬ ty = 7 ∧ ¬ ty = 8 ∧ ¬ ty = 9) :
    Calls Tryz.prog 51 #[.pointer (some ⟨p, 0, none⟩), .agg #[.int .i64 ty, .int .i64 fl, .int .i64 st, .slice A l.length c]] w (ReadP p ty st f0 PR0 w) := by
  have HB := Lib.hid hb
  obtain ⟨n0, n1, n2, n3, n4, n6, n7, n8, n9⟩ := hn
  go_enter Tryz.func51, Tryz.ntmps51
  go_wp2_with fail
  go_returns
  refine ⟨bareI ty st f0, rfl, HB.out.fresh (Fresh.alloc _ _), ⟨by simp [bareI], by simp [bareI, maxLen], BS.nil _ _, by simp [bareI], by simp [bareI, maxLen], Many.nil _ _ _ _⟩, ⟨rfl, ⟨rfl, rfl, rfl, rfl, rfl⟩, ⟨rfl, rfl, rfl, rfl, rfl⟩, rfl⟩, ⟨rfl, rfl, rfl⟩, (fun b' o e => by cases e), (fun b' o e => by cases e), Only.of_fresh (Fresh.alloc _ _)⟩
end
end Go.Proofs.YtginhebfjbhmnaaGreat

/-
  Contracts of package payload: what a frame without a fault says.
-/
namespace Go.Proofs.YtginhebfjbhmnaaGreat
set_option maxRecDepth 100000
set_option linter.unusedVariables false
open Go.RowKit

def prOf (ty fl : Int) (l : List UInt8) : PR :=
  if ty = 0 then { PR0 with l := textL 0 fl l, en := hasB fl 1 }
  else if ty = 1 then { PR0 with l := textL 1 fl l, en := hasB fl 1, eh := hasB fl 4, wd := wgB 1 fl, ex := wgB 1 fl && exB 1 fl l, de := if wgB 1 fl then (depN 1 fl l : Int) else 0, we := if wgB 1 fl then weL 1 fl l else 0 }
  else if ty = 2 then { PR0 with wd := true, ex := exB 2 fl l, de := (depN 2 fl l : Int), we := weL 2 fl l }
  else if ty = 3 then { PR0 with co := (numL (l.take 4) : Int) }
  else if ty = 4 then { PR0 with ak := hasB fl 1, ps := prsL (l.length / 6) l }
  else if ty = 6 then { PR0 with l := l, ak := hasB fl 1 }
  else if ty = 7 then { PR0 with l := l.drop 8, la := ((numL (l.take 4) % 2147483648 : Nat) : Int), co := (numL ((l.drop 4).take 4) : Int) }
  else if ty = 8 then { PR0 with inc := (incN l : Int) }
  else if ty = 9 then { PR0 with l := l, eh := hasB fl 4 }
  else PR0
section
variable {p : Nat} {f0 fl st : Int} {A : Option Addr} {c : Nat} {l : List UInt8} {w : World}
theorem read_all (ty : Int) (hb : Blk w p 98 (bareI ty st f0).cells.toArray) (hA : BS w A l) (hAp : 0 < l.length → ∀ b o, A = some ⟨b, o, none⟩ → b ≠ p) (hlc : l.length ≤ c) (hmx : l.length ≤ 1000000) (hn : ∀ j, j < 6 → lookB ty fl st l j = false) :
    Calls Tryz.prog 51 #[.pointer (some ⟨p, 0, none⟩), .agg #[.int .i64 ty, .int .i64 fl, .int .i64 st, .slice A l.length c]] w (ReadP p ty st f0 (prOf ty fl l) w) := by
  have n1 : ¬ (l.length : Int) < (aheadN ty fl : Int) := fun h => by
    have := hn 1 (by omega)
    simp [lookB] at this
    omega
  have n2 : aheadN ty fl + padN ty fl l ≤ l.length := by
    have := hn 2 (by omega)
    simp [lookB] at this
    omega
  have n3 : ty = 2 → l.length = 5 := fun e => by
    have := hn 3 (by omega)
    simp [lookB, e] at this
    omega
  have n5 : szB ty fl l.length = true := by
    have := hn 1 (by omega)
    simp [lookB] at this
    exact this.1
  by_cases h0 : ty = 0
  · subst h0; exact read_0 hb hA hAp hlc hmx (pd_ahead n1) n2
  by_cases h1 : ty = 1
  · subst h1; exact read_1 hb hA hAp hlc hmx (pd_ahead n1) n2 (wg_ahead n1 n3)
  by_cases h2 : ty = 2
  · subst h2; exact read_2 hb hA hAp hlc hmx (wg_ahead n1 n3 (by simp [wgB]))
  by_cases h3 : ty = 3
  · subst h3; exact read_3 hb hA hAp hlc hmx (by simp [szB] at n5; omega)
  by_cases h4 : ty = 4
  · subst h4
    exact read_4 hb hA hAp hlc hmx (l.length / 6) (by
      simp [szB] at n5
      rcases n5 with h | ⟨h, _⟩
      · simp [h]
      · generalize l.length = m at *
        omega)
  by_cases h6 : ty = 6
  · subst h6; exact read_6 hb hA hAp hlc hmx
  by_cases h7 : ty = 7
  · subst h7; exact read_7 hb hA hAp hlc hmx (by simp [szB] at n5; omega)
  by_cases h8 : ty = 8
  · subst h8; exact read_8 hb hA hAp hlc hmx (by simp [szB] at n5; omega)
  by_cases h9 : ty = 9
  · subst h9; exact read_9 hb hA hAp hlc hmx
  have := read_else (fl := fl) (c := c) ty hb hA ⟨h0, h1, h2, h3, h4, h6, h7, h8, h9⟩
  unfold prOf
  simpa [h0, h1, h2, h3, h4, h6, h7, h8, h9] using this
end
end Go.Proofs.YtginhebfjbhmnaaGreat

