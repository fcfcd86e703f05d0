/-
  Contracts of package payload: reading by type.
-/
import Derived.Test.YtcdghmidpaeloaaPay7
namespace Go.Proofs.Ytcdghmidpaeloaa
set_option linter.unusedVariables false
open Go.RowKit
section
variable {p : Nat} {f0 fl st : Int} {A : Option Addr} {c : Nat} {l : List UInt8} {w : World}
set_option maxRecDepth 100000 in
set_option maxHeartbeats 3200000 in
theorem read_1 (hb : Blk w p 28 (bareI 1 st f0).cells.toArray) (hA : BS w A l) (hAp : 0 < l.length → ∀ b o, A = some ⟨b, o, none⟩ → b ≠ p) (hlc : l.length ≤ c) (hmx : l.length ≤ 1000000) (hp : pdB 1 fl = true → 0 < l.length) (ha : aheadN 1 fl + padN 1 fl l ≤ l.length) (hw : wgB 1 fl = true → fromN 1 fl + 5 ≤ l.length) :
    Calls Try.prog 16 #[.pointer (some ⟨p, 0, none⟩), .agg #[.int .i64 1, .int .i64 fl, .int .i64 st, .slice A l.length c]] w (ReadP p 1 st f0 { PR0 with l := textL 1 fl l, en := hasB fl 1, eh := hasB fl 4, wd := wgB 1 fl, ex := wgB 1 fl && exB 1 fl l, de := if wgB 1 fl then (depN 1 fl l : Int) else 0, we := if wgB 1 fl then weL 1 fl l else 0 } w) := by
  have hR0 := RdS.start (c := c) (ty := 1) (fl := fl) (st := st) hb hA hAp
  have HT := Lib.hid (fun w' hA => ptext 1 fl st A c l w' hA hlc (by omega) hp ha)
  have HTL : Hid ((textL 1 fl l).length = l.length - padN 1 fl l - aheadN 1 fl) := Lib.hid (by unfold textL; simp; omega)
  have HH1 := Lib.hid (fun w' => phas 1 fl st A l.length c 1 (hasB fl 1) w' rfl rfl)
  have HH4 := Lib.hid (fun w' => phas 1 fl st A l.length c 4 (hasB fl 4) w' rfl rfl)
  obtain ⟨wg, hwg⟩ : ∃ wg, wgB 1 fl = wg := ⟨_, rfl⟩
  have HWD := Lib.hid (fun w' => pweighed 1 fl st A l.length c wg w' hwg)
  have HWG := Lib.hid (fun (hx : wg = true) p' x' w' hb hA => pweigh p' x' 1 fl st A c l w' hb hA hlc (hw (hwg.trans hx)))
  rw [hwg]
  generalize hasB fl 1 = h1 at *
  generalize hasB fl 4 = h4 at *
  generalize textL 1 fl l = T at *
  have hml : l.length - padN 1 fl l - aheadN 1 fl ≤ 1000000 := by omega
  generalize l.length - padN 1 fl l - aheadN 1 fl = m at *
  clear hp ha hb hA hAp hw hwg
  refine read_hide (fun rr hrr => ?_)
  have HRR := Lib.hid hrr
  clear hrr
  go_enter Try.func16, Try.ntmps16
  go_wp2_with fail
  refine wp_gen (RdS w p w.heap.size (bareI 1 st f0) 1 fl st A c l) hR0 ?_
  intro W hR
  obtain ⟨b, hbb⟩ : ∃ b, w.heap.size = b := ⟨_, rfl⟩
  have HBB := Lib.hid hbb
  rw [hbb] at hR ⊢
  have HSK : Hid (∀ w', Only (· = p) W w' → w'.cell? ⟨b, 0, none⟩ = some (.int .i64 1) ∧ w'.cell? ⟨b, 1, none⟩ = some (.int .i64 fl) ∧ w'.cell? ⟨b, 2, none⟩ = some (.int .i64 st) ∧ w'.cell? ⟨b, 3, none⟩ = some (.slice A l.length c) ∧ Only (· = p) W w') := Lib.hid (fun w' hw => by
    obtain ⟨c0, c1, c2, c3⟩ := (hR.only hw).1.c4
    exact ⟨c0, c1, c2, c3, hw⟩)
  have HBS := Lib.hid (fun w' hw => (hR.only (W' := w') hw).2)
  have HIT := Lib.hid hR.it
  have HR := Lib.hid hR
  obtain ⟨g0, g1, g2, g3, g4⟩ := HSK.out W (Only.refl _ _)
  clear hR hR0 hbb
  go_region_held3 (fun w' => w'.cell? ⟨b, 0, none⟩ = some (.int .i64 1) ∧ w'.cell? ⟨b, 1, none⟩ = some (.int .i64 fl) ∧ w'.cell? ⟨b, 2, none⟩ = some (.int .i64 st) ∧ w'.cell? ⟨b, 3, none⟩ = some (.slice A l.length c) ∧ Only (· = p) W w')
    ((refine HSK.out _ ?_; first | with_reducible assumption | with_reducible exact Only.drewS (Only.refl _ _) | (with_reducible apply Only.drewS; with_reducible assumption) | (with_reducible refine Only.step2 (.inl rfl) ?_; with_reducible assumption) | (with_reducible refine Only.step2 (.inl rfl) (Only.step2 (.inl rfl) ?_); with_reducible assumption) | (with_reducible refine Only.step2 (.inl rfl) (Only.step2 (.inl rfl) (Only.step2 (.inl rfl) ?_)); with_reducible assumption)))
    (first
      | (go_at_call 38; (with_reducible refine (HT.out _ (HBS.out _ (by first | assumption | exact Only.drewS (Only.refl _ _)))).mono ?_); rintro e w3 ⟨g, rfl, hgg, hbg, hf3⟩; have hg3 : Only (· = p) W w3 := Only.freshS (by first | assumption | exact Only.drewS (Only.refl _ _)) hf3; have HG := Lib.hid (And.intro (show W.heap.size ≤ g from Nat.le_trans (Fresh.size (show Fresh W _ from (by first | assumption | exact Fresh.drew _))) hgg) hbg); have hi3 : Fresh W w3 := (Fresh.drew _).trans hf3; clear hgg hbg)
      | (go_at_call 39; (with_reducible refine (HH1.out _).mono ?_); rintro e w8 ⟨rfl, hf8⟩; have hi8 : Fresh W w8 := Fresh.trans (by first | exact hi3 | exact Fresh.drew _) hf8; have hg8 : Only (· = p) W w8 := Only.of_fresh hi8)
      | (go_at_call 39; (with_reducible refine (HH4.out _).mono ?_); rintro e w9 ⟨rfl, hf9⟩; have hi9 : Fresh W w9 := Fresh.trans (by first | exact hi8 | exact Fresh.drew _) hf9; have hg9 : Only (· = p) W w9 := Only.of_fresh hi9; have hit9 := HIT.out.fresh hi9; have q2 := hit9.cell 2; have z2 := hit9.frozen 2; have q3 := hit9.cell 3; have z3 := hit9.frozen 3; have q4 := hit9.cell 4; have z4 := hit9.frozen 4; simp only [ItV.cells, bareI, List.getElem?_toArray, List.getElem?_cons_zero, List.getElem?_cons_succ] at q2 q3 q4; have HI9 := Lib.hid hit9; clear hit9))
  have hle := HTL.out
  have hgp : g ≠ p := by have := HG.out.1; have := HR.out.it.lt; omega
  have hbg := (HG.out.2.fresh hf8).fresh hf9
  have hbx := HR.out.box.fresh hi9
  have hAx := HR.out.bs.fresh hi9
  refine wx_gen (fun W5 => Blk W5 p 28 ({ bareI 1 st f0 with A := some ⟨g, 0, none⟩, c := m, l := T, en := h1, eh := h4 }).cells.toArray ∧ Blk W5 b 24 #[.int .i64 1, .int .i64 fl, .int .i64 st, .slice A l.length c] ∧ Blk W5 g 5 (bytesA T) ∧ BS W5 A l ∧ Only (· = p) w W5) ?_ ?_
  focus
    have hbp : b ≠ p := by have := HR.out.hb; have := HR.out.hp; omega
    refine ⟨?_, ((hbx.far (p := ⟨p, 2, none⟩) hbp _).far (p := ⟨p, 3, none⟩) hbp _).far (p := ⟨p, 4, none⟩) hbp _, ((hbg.far (p := ⟨p, 2, none⟩) hgp _).far (p := ⟨p, 3, none⟩) hgp _).far (p := ⟨p, 4, none⟩) hgp _, ?_, ?_⟩
    · have := ((HI9.out.set 2 (.slice (some ⟨g, 0, none⟩) m m)).set 3 (.bool h1)).set 4 (.bool h4)
      simpa [ItV.cells, bareI, hle] using this
    · refine Only.bsx (p := p) hAx ?_ HR.out.hA
      refine Only.step2 (.inl rfl) (Only.step2 (.inl rfl) (Only.step2 (.inl rfl) ?_))
      exact Only.refl _ _
    · refine Only.step2 (.inl rfl) (Only.step2 (.inl rfl) (Only.step2 (.inl rfl) ?_))
      exact Only.of_fresh (HR.out.fr.trans hi9)
  have HGW : Hid (w.heap.size ≤ g) := Lib.hid (by have := HG.out.1; have := HR.out.fr.size; omega)
  have HGP := Lib.hid hgp
  clear hbg hbx hAx hle hgp q2 q3 q4 z2 z3 z4 HI9 HG hi9 hi8 hi3 hf9 hf8 hf3 g0 g1 g2 g3 g4 HSK HBS HIT HR
  intro W5 ⟨hp5, hb5, hg5, hA5, ho5⟩
  obtain ⟨c0, c1, c2, c3⟩ := hb5.c4
  have HP5 := Lib.hid hp5
  have HB5 := Lib.hid hb5
  have HG5 := Lib.hid hg5
  have HA5 := Lib.hid hA5
  have HO5 := Lib.hid ho5
  clear hp5 hb5 hg5 hA5 ho5
  go_wp2_with fail
  with_reducible refine (HWD.out _).mono ?_
  rintro e w6 ⟨rfl, hf6⟩
  have HF6 := Lib.hid hf6
  obtain ⟨c0, c1, c2, c3⟩ := (HB5.out.fresh hf6).c4
  clear hf6
  cases wg with
  | false =>
    go_wp2_with fail
    go_returns
    have hle := HTL.out
    rw [← HRR.out]
    refine ⟨{ bareI 1 st f0 with A := some ⟨g, 0, none⟩, c := m, l := T, en := h1, eh := h4 }, rfl, HP5.out.fresh HF6.out, ⟨by show T.length ≤ m; omega, by show m ≤ maxLen; unfold maxLen; omega, BS.row (HG5.out.fresh HF6.out), by simp [bareI], by simp [bareI, maxLen], Many.nil _ _ _ _⟩, ⟨rfl, ⟨rfl, rfl, rfl, rfl, rfl⟩, ⟨rfl, rfl, rfl, rfl, rfl⟩, rfl⟩, ⟨rfl, rfl, rfl⟩, (fun b' o e => by cases e; exact HGW.out), (fun b' o e => by cases e), HO5.out.freshS HF6.out⟩
  | true =>
    go_wp2_with fail
    refine (HWG.out (by simp) p { bareI 1 st f0 with A := some ⟨g, 0, none⟩, c := m, l := T, en := h1, eh := h4 } _ (HP5.out.fresh HF6.out) (HA5.out.fresh HF6.out)).mono ?_
    rintro e w7 ⟨rfl, hb7, ho7⟩
    have HB7 := Lib.hid hb7
    have HO7 := Lib.hid ho7
    clear hb7 ho7
    go_wp2_with fail
    go_returns
    have hle := HTL.out
    rw [← HRR.out]
    refine ⟨wgI 1 fl l { bareI 1 st f0 with A := some ⟨g, 0, none⟩, c := m, l := T, en := h1, eh := h4 }, rfl, HB7.out, ⟨by show T.length ≤ m; omega, by show m ≤ maxLen; unfold maxLen; omega, BS.row ((HG5.out.fresh HF6.out).only HO7.out (fun e => HGP.out e)), by simp [bareI, wgI], by simp [bareI, wgI, maxLen], Many.nil _ _ _ _⟩, ⟨rfl, ⟨rfl, rfl, rfl, rfl, by simp [wgI]⟩, ⟨rfl, rfl, rfl, by simp [wgI], by simp [wgI]⟩, rfl⟩, ⟨rfl, rfl, rfl⟩, (fun b' o e => by cases e; exact HGW.out), (fun b' o e => by cases e), (HO5.out.freshS HF6.out).trans HO7.out⟩
end
end Go.Proofs.Ytcdghmidpaeloaa

