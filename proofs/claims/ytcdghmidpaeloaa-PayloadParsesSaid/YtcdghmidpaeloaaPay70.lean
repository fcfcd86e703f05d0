/-
  Contracts of package payload: reading by type.
-/
import Derived.Test.YtcdghmidpaeloaaPay7
namespace Go.Proofs.Ytcdghmidpaeloaa
set_option linter.unusedVariables false
open Go.RowKit
section
variable {p : Nat} {f0 fl st : Int} {A : Option Addr} {c : Nat} {l : List UInt8} {w : World}
set_option maxRecDepth 100000 in
set_option maxHeartbeats 3200000 in
theorem read_0 (hb : Blk w p 28 (bareI 0 st f0).cells.toArray) (hA : BS w A l) (hAp : 0 < l.length → ∀ b o, A = some ⟨b, o, none⟩ → b ≠ p) (hlc : l.length ≤ c) (hmx : l.length ≤ 1000000) (hp : pdB 0 fl = true → 0 < l.length) (ha : aheadN 0 fl + padN 0 fl l ≤ l.length) :
    Calls Try.prog 16 #[.pointer (some ⟨p, 0, none⟩), .agg #[.int .i64 0, .int .i64 fl, .int .i64 st, .slice A l.length c]] w (ReadP p 0 st f0 { PR0 with l := textL 0 fl l, en := hasB fl 1 } w) := by
  have hR0 := RdS.start (c := c) (ty := 0) (fl := fl) (st := st) hb hA hAp
  have HT := Lib.hid (fun w' hA => ptext 0 fl st A c l w' hA hlc (by omega) hp ha)
  have HTL : Hid ((textL 0 fl l).length = l.length - padN 0 fl l - aheadN 0 fl) := Lib.hid (by unfold textL; simp; omega)
  have HH1 := Lib.hid (fun w' => phas 0 fl st A l.length c 1 (hasB fl 1) w' rfl rfl)
  generalize hasB fl 1 = h1 at *
  generalize textL 0 fl l = T at *
  have hml : l.length - padN 0 fl l - aheadN 0 fl ≤ 1000000 := by omega
  generalize l.length - padN 0 fl l - aheadN 0 fl = m at *
  clear hp ha hb hA hAp
  go_enter Try.func16, Try.ntmps16
  go_wp2_with fail
  refine wp_gen (RdS w p w.heap.size (bareI 0 st f0) 0 fl st A c l) hR0 ?_
  intro W hR
  obtain ⟨b, hbb⟩ : ∃ b, w.heap.size = b := ⟨_, rfl⟩
  have HBB := Lib.hid hbb
  rw [hbb] at hR ⊢
  have HSK : Hid (∀ w', Only (· = p) W w' → w'.cell? ⟨b, 0, none⟩ = some (.int .i64 0) ∧ w'.cell? ⟨b, 1, none⟩ = some (.int .i64 fl) ∧ w'.cell? ⟨b, 2, none⟩ = some (.int .i64 st) ∧ w'.cell? ⟨b, 3, none⟩ = some (.slice A l.length c) ∧ Only (· = p) W w') := Lib.hid (fun w' hw => by
    obtain ⟨c0, c1, c2, c3⟩ := (hR.only hw).1.c4
    exact ⟨c0, c1, c2, c3, hw⟩)
  have HBS := Lib.hid (fun w' hw => (hR.only (W' := w') hw).2)
  have HIT := Lib.hid hR.it
  have HR := Lib.hid hR
  obtain ⟨g0, g1, g2, g3, g4⟩ := HSK.out W (Only.refl _ _)
  clear hR hR0 hbb
  go_region_held3 (fun w' => w'.cell? ⟨b, 0, none⟩ = some (.int .i64 0) ∧ w'.cell? ⟨b, 1, none⟩ = some (.int .i64 fl) ∧ w'.cell? ⟨b, 2, none⟩ = some (.int .i64 st) ∧ w'.cell? ⟨b, 3, none⟩ = some (.slice A l.length c) ∧ Only (· = p) W w')
    ((refine HSK.out _ ?_; first | with_reducible assumption | with_reducible exact Only.drewS (Only.refl _ _) | (with_reducible apply Only.drewS; with_reducible assumption) | (with_reducible refine Only.step2 (.inl rfl) ?_; with_reducible assumption) | (with_reducible refine Only.step2 (.inl rfl) (Only.step2 (.inl rfl) ?_); with_reducible assumption) | (with_reducible refine Only.step2 (.inl rfl) (Only.step2 (.inl rfl) (Only.step2 (.inl rfl) ?_)); with_reducible assumption)))
    (first
      | (go_at_call 38; (with_reducible refine (HT.out _ (HBS.out _ (by first | assumption | exact Only.drewS (Only.refl _ _)))).mono ?_); rintro e w3 ⟨g, rfl, hgg, hbg, hf3⟩; have hg3 : Only (· = p) W w3 := Only.freshS (by first | assumption | exact Only.drewS (Only.refl _ _)) hf3; have HG := Lib.hid (And.intro (show W.heap.size ≤ g from Nat.le_trans (Fresh.size (show Fresh W _ from (by first | assumption | exact Fresh.drew _))) hgg) hbg); have hi3 : Fresh W w3 := (Fresh.drew _).trans hf3; clear hgg hbg)
      | (go_at_call 39; (with_reducible refine (HH1.out _).mono ?_); rintro e w9 ⟨rfl, hf9⟩; have hi9 : Fresh W w9 := Fresh.trans (by first | exact hi3 | exact Fresh.drew _) hf9; have hg9 : Only (· = p) W w9 := Only.of_fresh hi9; have hit9 := HIT.out.fresh hi9; have q2 := hit9.cell 2; have z2 := hit9.frozen 2; have q3 := hit9.cell 3; have z3 := hit9.frozen 3; simp only [ItV.cells, bareI, List.getElem?_toArray, List.getElem?_cons_zero, List.getElem?_cons_succ] at q2 q3; have HI9 := Lib.hid hit9; clear hit9))
  go_wp2
  go_returns
  have hle := HTL.out
  have hgp : g ≠ p := by have := HG.out.1; have := HR.out.it.lt; omega
  have hbg := HG.out.2.fresh hf9
  refine ⟨{ bareI 0 st f0 with A := some ⟨g, 0, none⟩, c := m, l := T, en := h1 }, rfl, ?_, ⟨by show T.length ≤ m; omega, by show m ≤ maxLen; unfold maxLen; omega, ?_, by simp [bareI], by simp [bareI, maxLen], Many.nil _ _ _ _⟩, ⟨rfl, ⟨rfl, rfl, rfl, rfl, rfl⟩, ⟨rfl, rfl, rfl, rfl, rfl⟩, rfl⟩, ⟨rfl, rfl, rfl⟩, (fun b' o e => by cases e; have := HG.out.1; have := HR.out.fr.size; omega), (fun b' o e => by cases e), ?_⟩
  · have := (HI9.out.set 2 (.slice (some ⟨g, 0, none⟩) m m)).set 3 (.bool h1)
    simpa [ItV.cells, bareI, hle] using this
  · exact BS.row ((hbg.far (p := ⟨p, 2, none⟩) hgp _).far (p := ⟨p, 3, none⟩) hgp _)
  · refine Only.step2 (.inl rfl) (Only.step2 (.inl rfl) ?_)
    exact Only.of_fresh (HR.out.fr.trans hi9)
set_option maxRecDepth 100000 in
set_option maxHeartbeats 3200000 in
theorem read_2 (hb : Blk w p 28 (bareI 2 st f0).cells.toArray) (hA : BS w A l) (hAp : 0 < l.length → ∀ b o, A = some ⟨b, o, none⟩ → b ≠ p) (hlc : l.length ≤ c) (hmx : l.length ≤ 1000000) (hw : fromN 2 fl + 5 ≤ l.length) :
    Calls Try.prog 16 #[.pointer (some ⟨p, 0, none⟩), .agg #[.int .i64 2, .int .i64 fl, .int .i64 st, .slice A l.length c]] w (ReadP p 2 st f0 { PR0 with wd := true, ex := exB 2 fl l, de := (depN 2 fl l : Int), we := weL 2 fl l } w) := by
  have hR0 := RdS.start (c := c) (ty := 2) (fl := fl) (st := st) hb hA hAp
  have HWG := Lib.hid (fun p' x' w' hb hA => pweigh p' x' 2 fl st A c l w' hb hA hlc hw)
  clear hb hA hAp hw
  go_enter Try.func16, Try.ntmps16
  go_wp2_with fail
  have hR := hR0
  obtain ⟨W, hWW⟩ : ∃ W, w.alloc (.cells #[.int .i64 2, .int .i64 fl, .int .i64 st, .slice A l.length c] 24) = W := ⟨_, rfl⟩
  rw [hWW] at hR ⊢
  clear hWW
  obtain ⟨b, hbb⟩ : ∃ b, w.heap.size = b := ⟨_, rfl⟩
  have HBB := Lib.hid hbb
  rw [hbb] at hR ⊢
  have HSK : Hid (∀ w', Only (· = p) W w' → w'.cell? ⟨b, 0, none⟩ = some (.int .i64 2) ∧ w'.cell? ⟨b, 1, none⟩ = some (.int .i64 fl) ∧ w'.cell? ⟨b, 2, none⟩ = some (.int .i64 st) ∧ w'.cell? ⟨b, 3, none⟩ = some (.slice A l.length c) ∧ Only (· = p) W w') := Lib.hid (fun w' hw => by
    obtain ⟨c0, c1, c2, c3⟩ := (hR.only hw).1.c4
    exact ⟨c0, c1, c2, c3, hw⟩)
  have HBS := Lib.hid (fun w' hw => (hR.only (W' := w') hw).2)
  have HIT := Lib.hid hR.it
  have HR := Lib.hid hR
  obtain ⟨g0, g1, g2, g3, g4⟩ := HSK.out W (Only.refl _ _)
  clear hR hR0 hbb
  refine (HWG.out p (bareI 2 st f0) _ HIT.out (HBS.out _ (Only.refl _ _))).mono ?_
  rintro e w7 ⟨rfl, hb7, ho7⟩
  have HB7 := Lib.hid hb7
  have HO7 := Lib.hid ho7
  clear hb7 ho7
  go_wp2_with fail
  go_returns
  refine ⟨wgI 2 fl l (bareI 2 st f0), rfl, HB7.out, ⟨by simp [bareI, wgI], by simp [bareI, wgI, maxLen], BS.nil _ _, by simp [bareI, wgI], by simp [bareI, wgI, maxLen], Many.nil _ _ _ _⟩, ⟨rfl, ⟨rfl, rfl, rfl, rfl, rfl⟩, ⟨rfl, rfl, rfl, rfl, rfl⟩, rfl⟩, ⟨rfl, rfl, rfl⟩, (fun b' o e => by cases e), (fun b' o e => by cases e), (Only.of_fresh HR.out.fr).trans HO7.out⟩
set_option maxRecDepth 100000 in
set_option maxHeartbeats 3200000 in
theorem read_3 (hb : Blk w p 28 (bareI 3 st f0).cells.toArray) (hA : BS w A l) (hAp : 0 < l.length → ∀ b o, A = some ⟨b, o, none⟩ → b ≠ p) (hlc : l.length ≤ c) (hmx : l.length ≤ 1000000) (h4 : l.length = 4) :
    Calls Try.prog 16 #[.pointer (some ⟨p, 0, none⟩), .agg #[.int .i64 3, .int .i64 fl, .int .i64 st, .slice A l.length c]] w (ReadP p 3 st f0 { PR0 with co := (numL (l.take 4) : Int) } w) := by
  have hR0 := RdS.start (c := c) (ty := 3) (fl := fl) (st := st) hb hA hAp
  have HN := Lib.hid (fun w' hA => onewR A l.length c l w' rfl hA (by omega))
  have HF4 := Lib.hid (fun q g w' (hr : Rdr w' q g l 0) => pfour q g l 0 _ w' hr (by omega) rfl)
  simp only [List.drop_zero] at HF4
  generalize numL (l.take 4) = co at *
  clear hb hA hAp h4
  go_enter Try.func16, Try.ntmps16
  go_wp2_with fail
  have hR := hR0
  obtain ⟨W, hWW⟩ : ∃ W, w.alloc (.cells #[.int .i64 3, .int .i64 fl, .int .i64 st, .slice A l.length c] 24) = W := ⟨_, rfl⟩
  rw [hWW] at hR ⊢
  clear hWW
  obtain ⟨b, hbb⟩ : ∃ b, w.heap.size = b := ⟨_, rfl⟩
  have HBB := Lib.hid hbb
  rw [hbb] at hR ⊢
  have HSK : Hid (∀ w', Only (· = p) W w' → w'.cell? ⟨b, 0, none⟩ = some (.int .i64 3) ∧ w'.cell? ⟨b, 1, none⟩ = some (.int .i64 fl) ∧ w'.cell? ⟨b, 2, none⟩ = some (.int .i64 st) ∧ w'.cell? ⟨b, 3, none⟩ = some (.slice A l.length c) ∧ Only (· = p) W w') := Lib.hid (fun w' hw => by
    obtain ⟨c0, c1, c2, c3⟩ := (hR.only hw).1.c4
    exact ⟨c0, c1, c2, c3, hw⟩)
  have HBS := Lib.hid (fun w' hw => (hR.only (W' := w') hw).2)
  have HIT := Lib.hid hR.it
  have HR := Lib.hid hR
  obtain ⟨g0, g1, g2, g3, g4⟩ := HSK.out W (Only.refl _ _)
  clear hR hR0 hbb
  with_reducible refine (HN.out _ (HBS.out _ (Only.refl _ _))).mono ?_
  rintro e w3 ⟨q, g, rfl, hq, hg, hr, hf⟩
  have H1 := Lib.hid (And.intro hq (And.intro hg (And.intro hr hf)))
  clear hq hg hr hf
  go_wp2_with fail
  with_reducible refine (HF4.out q g _ H1.out.2.2.1.rdr).mono ?_
  rintro e w4 ⟨rfl, hr4, ho4⟩
  have HF4' : Hid (Fresh W w4) := Lib.hid (Only.fresh ((Only.of_fresh H1.out.2.2.2).trans ho4) (fun i hi e => by have := H1.out.1; omega))
  have HI4 := Lib.hid (HIT.out.fresh HF4'.out)
  clear hr4 ho4
  have q7 := (HI4.out).cell 7
  have z7 := (HI4.out).frozen 7
  simp only [ItV.cells, bareI, List.getElem?_toArray, List.getElem?_cons_zero, List.getElem?_cons_succ] at q7
  go_wp2_with fail
  go_returns
  refine ⟨{ bareI 3 st f0 with co := (co : Int) }, rfl, by simpa [ItV.cells, bareI] using HI4.out.set 7 (.int .i64 (co : Int)), ⟨by simp [bareI], by simp [bareI, maxLen], BS.nil _ _, by simp [bareI], by simp [bareI, maxLen], Many.nil _ _ _ _⟩, ⟨rfl, ⟨rfl, rfl, rfl, rfl, rfl⟩, ⟨rfl, rfl, rfl, rfl, rfl⟩, rfl⟩, ⟨rfl, rfl, rfl⟩, (fun b' o e => by cases e), (fun b' o e => by cases e), ?_⟩
  refine Only.step2 (.inl rfl) ?_
  exact Only.of_fresh (HR.out.fr.trans HF4'.out)
set_option maxRecDepth 100000 in
set_option maxHeartbeats 3200000 in
theorem read_8 (hb : Blk w p 28 (bareI 8 st f0).cells.toArray) (hA : BS w A l) (hAp : 0 < l.length → ∀ b o, A = some ⟨b, o, none⟩ → b ≠ p) (hlc : l.length ≤ c) (hmx : l.length ≤ 1000000) (h4 : l.length = 4) :
    Calls Try.prog 16 #[.pointer (some ⟨p, 0, none⟩), .agg #[.int .i64 8, .int .i64 fl, .int .i64 st, .slice A l.length c]] w (ReadP p 8 st f0 { PR0 with inc := (incN l : Int) } w) := by
  have hR0 := RdS.start (c := c) (ty := 8) (fl := fl) (st := st) hb hA hAp
  have HN := Lib.hid (fun w' hA => pincrement 8 fl st A c l w' hA (by omega) (by omega))
  generalize incN l = co at *
  clear hb hA hAp h4
  go_enter Try.func16, Try.ntmps16
  go_wp2_with fail
  have hR := hR0
  obtain ⟨W, hWW⟩ : ∃ W, w.alloc (.cells #[.int .i64 8, .int .i64 fl, .int .i64 st, .slice A l.length c] 24) = W := ⟨_, rfl⟩
  rw [hWW] at hR ⊢
  clear hWW
  obtain ⟨b, hbb⟩ : ∃ b, w.heap.size = b := ⟨_, rfl⟩
  have HBB := Lib.hid hbb
  rw [hbb] at hR ⊢
  have HSK : Hid (∀ w', Only (· = p) W w' → w'.cell? ⟨b, 0, none⟩ = some (.int .i64 8) ∧ w'.cell? ⟨b, 1, none⟩ = some (.int .i64 fl) ∧ w'.cell? ⟨b, 2, none⟩ = some (.int .i64 st) ∧ w'.cell? ⟨b, 3, none⟩ = some (.slice A l.length c) ∧ Only (· = p) W w') := Lib.hid (fun w' hw => by
    obtain ⟨c0, c1, c2, c3⟩ := (hR.only hw).1.c4
    exact ⟨c0, c1, c2, c3, hw⟩)
  have HBS := Lib.hid (fun w' hw => (hR.only (W' := w') hw).2)
  have HIT := Lib.hid hR.it
  have HR := Lib.hid hR
  obtain ⟨g0, g1, g2, g3, g4⟩ := HSK.out W (Only.refl _ _)
  clear hR hR0 hbb
  with_reducible refine (HN.out _ (HBS.out _ (Only.refl _ _))).mono ?_
  rintro e w4 ⟨rfl, hf⟩
  have HF4' := Lib.hid hf
  have HI4 := Lib.hid (HIT.out.fresh HF4'.out)
  clear hf
  have q9 := (HI4.out).cell 9
  have z9 := (HI4.out).frozen 9
  simp only [ItV.cells, bareI, List.getElem?_toArray, List.getElem?_cons_zero, List.getElem?_cons_succ] at q9
  go_wp2_with fail
  go_returns
  refine ⟨{ bareI 8 st f0 with inc := (co : Int) }, rfl, by simpa [ItV.cells, bareI] using HI4.out.set 9 (.int .i64 (co : Int)), ⟨by simp [bareI], by simp [bareI, maxLen], BS.nil _ _, by simp [bareI], by simp [bareI, maxLen], Many.nil _ _ _ _⟩, ⟨rfl, ⟨rfl, rfl, rfl, rfl, rfl⟩, ⟨rfl, rfl, rfl, rfl, rfl⟩, rfl⟩, ⟨rfl, rfl, rfl⟩, (fun b' o e => by cases e), (fun b' o e => by cases e), ?_⟩
  refine Only.step2 (.inl rfl) ?_
  exact Only.of_fresh (HR.out.fr.trans HF4'.out)
set_option maxRecDepth 100000 in
set_option maxHeartbeats 3200000 in
theorem read_6 (hb : Blk w p 28 (bareI 6 st f0).cells.toArray) (hA : BS w A l) (hAp : 0 < l.length → ∀ b o, A = some ⟨b, o, none⟩ → b ≠ p) (hlc : l.length ≤ c) (hmx : l.length ≤ 1000000) :
    Calls Try.prog 16 #[.pointer (some ⟨p, 0, none⟩), .agg #[.int .i64 6, .int .i64 fl, .int .i64 st, .slice A l.length c]] w (ReadP p 6 st f0 { PR0 with l := l, ak := hasB fl 1 } w) := by
  have hR0 := RdS.start (c := c) (ty := 6) (fl := fl) (st := st) hb hA hAp
  have HN := Lib.hid (fun w' hA => onewR A l.length c l w' rfl hA (by omega))
  have HH1 := Lib.hid (fun w' => phas 6 fl st A l.length c 1 (hasB fl 1) w' rfl rfl)
  generalize hasB fl 1 = h1 at *
  clear hb hA hAp
  go_enter Try.func16, Try.ntmps16
  go_wp2_with fail
  refine wp_gen (RdS w p w.heap.size (bareI 6 st f0) 6 fl st A c l) hR0 ?_
  intro W hR
  obtain ⟨b, hbb⟩ : ∃ b, w.heap.size = b := ⟨_, rfl⟩
  have HBB := Lib.hid hbb
  rw [hbb] at hR ⊢
  have HSK : Hid (∀ w', Only (· = p) W w' → w'.cell? ⟨b, 0, none⟩ = some (.int .i64 6) ∧ w'.cell? ⟨b, 1, none⟩ = some (.int .i64 fl) ∧ w'.cell? ⟨b, 2, none⟩ = some (.int .i64 st) ∧ w'.cell? ⟨b, 3, none⟩ = some (.slice A l.length c) ∧ Only (· = p) W w') := Lib.hid (fun w' hw => by
    obtain ⟨c0, c1, c2, c3⟩ := (hR.only hw).1.c4
    exact ⟨c0, c1, c2, c3, hw⟩)
  have HBS := Lib.hid (fun w' hw => (hR.only (W' := w') hw).2)
  have HIT := Lib.hid hR.it
  have HR := Lib.hid hR
  obtain ⟨g0, g1, g2, g3, g4⟩ := HSK.out W (Only.refl _ _)
  clear hR hR0 hbb
  go_region_held3 (fun w' => w'.cell? ⟨b, 0, none⟩ = some (.int .i64 6) ∧ w'.cell? ⟨b, 1, none⟩ = some (.int .i64 fl) ∧ w'.cell? ⟨b, 2, none⟩ = some (.int .i64 st) ∧ w'.cell? ⟨b, 3, none⟩ = some (.slice A l.length c) ∧ Only (· = p) W w')
    ((refine HSK.out _ ?_; first | with_reducible assumption | with_reducible exact Only.drewS (Only.refl _ _) | (with_reducible apply Only.drewS; with_reducible assumption) | (with_reducible refine Only.step2 (.inl rfl) ?_; with_reducible assumption) | (with_reducible refine Only.step2 (.inl rfl) (Only.step2 (.inl rfl) ?_); with_reducible assumption) | (with_reducible refine Only.step2 (.inl rfl) (Only.step2 (.inl rfl) (Only.step2 (.inl rfl) ?_)); with_reducible assumption)))
    (first
      | (go_at_call 42; (with_reducible refine (HN.out _ (HBS.out _ (by first | assumption | exact Only.drewS (Only.refl _ _)))).mono ?_); rintro e w3 ⟨q, g, rfl, hqq, hgg, hrd, hf3⟩; have hg3 : Only (· = p) W w3 := Only.freshS (by first | assumption | exact Only.drewS (Only.refl _ _)) hf3; have HG0 := Lib.hid (And.intro (show W.heap.size ≤ g from Nat.le_trans (Fresh.size (show Fresh W _ from (by first | assumption | exact Fresh.drew _))) hgg) (And.intro (show W.heap.size ≤ q from Nat.le_trans (Fresh.size (show Fresh W _ from (by first | assumption | exact Fresh.drew _))) hqq) hrd)); have hi3 : Fresh W w3 := (Fresh.drew _).trans hf3; clear hgg hqq hrd)
      | (go_at_call 44; (with_reducible refine (orest_new q g l _ _ HG0.out.2.2 rfl).mono ?_); rintro e w5 ⟨rfl, hb5, _, ho5⟩; have hi5 : Fresh W w5 := Only.fresh ((Only.of_fresh hi3).trans ho5) (fun i hi e => by have := HG0.out.2.1; omega); have hg5 : Only (· = p) W w5 := Only.of_fresh hi5; have HG := Lib.hid (And.intro HG0.out.1 hb5); clear hb5)
      | (go_at_call 39; (with_reducible refine (HH1.out _).mono ?_); rintro e w9 ⟨rfl, hf9⟩; have hi9 : Fresh W w9 := Fresh.trans (by first | exact hi5 | exact Fresh.drew _) hf9; have hg9 : Only (· = p) W w9 := Only.of_fresh hi9; have hit9 := HIT.out.fresh hi9; have q2 := hit9.cell 2; have z2 := hit9.frozen 2; have q5 := hit9.cell 5; have z5 := hit9.frozen 5; simp only [ItV.cells, bareI, List.getElem?_toArray, List.getElem?_cons_zero, List.getElem?_cons_succ] at q2 q5; have HI9 := Lib.hid hit9; clear hit9))
  go_wp2
  go_returns
  have hgp : g ≠ p := by have := HG.out.1; have := HR.out.it.lt; omega
  have hbg := HG.out.2.fresh hf9
  refine ⟨{ bareI 6 st f0 with A := some ⟨g, 0, none⟩, c := l.length, l := l, ak := h1 }, rfl, ?_, ⟨Nat.le_refl _, by show l.length ≤ maxLen; unfold maxLen; omega, ?_, by simp [bareI], by simp [bareI, maxLen], Many.nil _ _ _ _⟩, ⟨rfl, ⟨rfl, rfl, rfl, rfl, rfl⟩, ⟨rfl, rfl, rfl, rfl, rfl⟩, rfl⟩, ⟨rfl, rfl, rfl⟩, (fun b' o e => by cases e; have := HG.out.1; have := HR.out.fr.size; omega), (fun b' o e => by cases e), ?_⟩
  · have := (HI9.out.set 2 (.slice (some ⟨g, 0, none⟩) l.length l.length)).set 5 (.bool h1)
    simpa [ItV.cells, bareI] using this
  · exact BS.row ((hbg.far (p := ⟨p, 2, none⟩) hgp _).far (p := ⟨p, 5, none⟩) hgp _)
  · refine Only.step2 (.inl rfl) (Only.step2 (.inl rfl) ?_)
    exact Only.of_fresh (HR.out.fr.trans hi9)
set_option maxRecDepth 100000 in
set_option maxHeartbeats 3200000 in
theorem read_9 (hb : Blk w p 28 (bareI 9 st f0).cells.toArray) (hA : BS w A l) (hAp : 0 < l.length → ∀ b o, A = some ⟨b, o, none⟩ → b ≠ p) (hlc : l.length ≤ c) (hmx : l.length ≤ 1000000) :
    Calls Try.prog 16 #[.pointer (some ⟨p, 0, none⟩), .agg #[.int .i64 9, .int .i64 fl, .int .i64 st, .slice A l.length c]] w (ReadP p 9 st f0 { PR0 with l := l, eh := hasB fl 4 } w) := by
  have hR0 := RdS.start (c := c) (ty := 9) (fl := fl) (st := st) hb hA hAp
  have HN := Lib.hid (fun w' hA => onewR A l.length c l w' rfl hA (by omega))
  have HH4 := Lib.hid (fun w' => phas 9 fl st A l.length c 4 (hasB fl 4) w' rfl rfl)
  generalize hasB fl 4 = h4 at *
  clear hb hA hAp
  go_enter Try.func16, Try.ntmps16
  go_wp2_with fail
  refine wp_gen (RdS w p w.heap.size (bareI 9 st f0) 9 fl st A c l) hR0 ?_
  intro W hR
  obtain ⟨b, hbb⟩ : ∃ b, w.heap.size = b := ⟨_, rfl⟩
  have HBB := Lib.hid hbb
  rw [hbb] at hR ⊢
  have HSK : Hid (∀ w', Only (· = p) W w' → w'.cell? ⟨b, 0, none⟩ = some (.int .i64 9) ∧ w'.cell? ⟨b, 1, none⟩ = some (.int .i64 fl) ∧ w'.cell? ⟨b, 2, none⟩ = some (.int .i64 st) ∧ w'.cell? ⟨b, 3, none⟩ = some (.slice A l.length c) ∧ Only (· = p) W w') := Lib.hid (fun w' hw => by
    obtain ⟨c0, c1, c2, c3⟩ := (hR.only hw).1.c4
    exact ⟨c0, c1, c2, c3, hw⟩)
  have HBS := Lib.hid (fun w' hw => (hR.only (W' := w') hw).2)
  have HIT := Lib.hid hR.it
  have HR := Lib.hid hR
  obtain ⟨g0, g1, g2, g3, g4⟩ := HSK.out W (Only.refl _ _)
  clear hR hR0 hbb
  go_region_held3 (fun w' => w'.cell? ⟨b, 0, none⟩ = some (.int .i64 9) ∧ w'.cell? ⟨b, 1, none⟩ = some (.int .i64 fl) ∧ w'.cell? ⟨b, 2, none⟩ = some (.int .i64 st) ∧ w'.cell? ⟨b, 3, none⟩ = some (.slice A l.length c) ∧ Only (· = p) W w')
    ((refine HSK.out _ ?_; first | with_reducible assumption | with_reducible exact Only.drewS (Only.refl _ _) | (with_reducible apply Only.drewS; with_reducible assumption) | (with_reducible refine Only.step2 (.inl rfl) ?_; with_reducible assumption) | (with_reducible refine Only.step2 (.inl rfl) (Only.step2 (.inl rfl) ?_); with_reducible assumption) | (with_reducible refine Only.step2 (.inl rfl) (Only.step2 (.inl rfl) (Only.step2 (.inl rfl) ?_)); with_reducible assumption)))
    (first
      | (go_at_call 42; (with_reducible refine (HN.out _ (HBS.out _ (by first | assumption | exact Only.drewS (Only.refl _ _)))).mono ?_); rintro e w3 ⟨q, g, rfl, hqq, hgg, hrd, hf3⟩; have hg3 : Only (· = p) W w3 := Only.freshS (by first | assumption | exact Only.drewS (Only.refl _ _)) hf3; have HG0 := Lib.hid (And.intro (show W.heap.size ≤ g from Nat.le_trans (Fresh.size (show Fresh W _ from (by first | assumption | exact Fresh.drew _))) hgg) (And.intro (show W.heap.size ≤ q from Nat.le_trans (Fresh.size (show Fresh W _ from (by first | assumption | exact Fresh.drew _))) hqq) hrd)); have hi3 : Fresh W w3 := (Fresh.drew _).trans hf3; clear hgg hqq hrd)
      | (go_at_call 44; (with_reducible refine (orest_new q g l _ _ HG0.out.2.2 rfl).mono ?_); rintro e w5 ⟨rfl, hb5, _, ho5⟩; have hi5 : Fresh W w5 := Only.fresh ((Only.of_fresh hi3).trans ho5) (fun i hi e => by have := HG0.out.2.1; omega); have hg5 : Only (· = p) W w5 := Only.of_fresh hi5; have HG := Lib.hid (And.intro HG0.out.1 hb5); clear hb5)
      | (go_at_call 39; (with_reducible refine (HH4.out _).mono ?_); rintro e w9 ⟨rfl, hf9⟩; have hi9 : Fresh W w9 := Fresh.trans (by first | exact hi5 | exact Fresh.drew _) hf9; have hg9 : Only (· = p) W w9 := Only.of_fresh hi9; have hit9 := HIT.out.fresh hi9; have q2 := hit9.cell 2; have z2 := hit9.frozen 2; have q4 := hit9.cell 4; have z4 := hit9.frozen 4; simp only [ItV.cells, bareI, List.getElem?_toArray, List.getElem?_cons_zero, List.getElem?_cons_succ] at q2 q4; have HI9 := Lib.hid hit9; clear hit9))
  go_wp2
  go_returns
  have hgp : g ≠ p := by have := HG.out.1; have := HR.out.it.lt; omega
  have hbg := HG.out.2.fresh hf9
  refine ⟨{ bareI 9 st f0 with A := some ⟨g, 0, none⟩, c := l.length, l := l, eh := h4 }, rfl, ?_, ⟨Nat.le_refl _, by show l.length ≤ maxLen; unfold maxLen; omega, ?_, by simp [bareI], by simp [bareI, maxLen], Many.nil _ _ _ _⟩, ⟨rfl, ⟨rfl, rfl, rfl, rfl, rfl⟩, ⟨rfl, rfl, rfl, rfl, rfl⟩, rfl⟩, ⟨rfl, rfl, rfl⟩, (fun b' o e => by cases e; have := HG.out.1; have := HR.out.fr.size; omega), (fun b' o e => by cases e), ?_⟩
  · have := (HI9.out.set 2 (.slice (some ⟨g, 0, none⟩) l.length l.length)).set 4 (.bool h4)
    simpa [ItV.cells, bareI] using this
  · exact BS.row ((hbg.far (p := ⟨p, 2, none⟩) hgp _).far (p := ⟨p, 4, none⟩) hgp _)
  · refine Only.step2 (.inl rfl) (Only.step2 (.inl rfl) ?_)
    exact Only.of_fresh (HR.out.fr.trans hi9)
end
end Go.Proofs.Ytcdghmidpaeloaa

