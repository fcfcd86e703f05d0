/-
  Contracts of package payload: reading by type.
-/
import Derived.Test.YtcdghmidpaeloaaPay7
namespace Go.Proofs.Ytcdghmidpaeloaa
set_option linter.unusedVariables false
open Go.RowKit
theorem own_at {W w' w9 : World} {t n sz : Nat} {v : Value} {cs : List Value} (hf : Fresh W w') (h : Own w9 w'.heap.size t sz v n cs) : ∃ base, W.heap.size ≤ base ∧ Own w9 base t sz v n cs := ⟨_, hf.size, h⟩
section
variable {p : Nat} {f0 fl st : Int} {A : Option Addr} {c : Nat} {l : List UInt8} {w : World}
set_option maxRecDepth 100000 in
set_option maxHeartbeats 3200000 in
theorem read_4 (hb : Blk w p 28 (bareI 4 st f0).cells.toArray) (hA : BS w A l) (hAp : 0 < l.length → ∀ b o, A = some ⟨b, o, none⟩ → b ≠ p) (hlc : l.length ≤ c) (hmx : l.length ≤ 1000000) (n : Nat) (h6 : l.length = 6 * n) :
    Calls Try.prog 16 #[.pointer (some ⟨p, 0, none⟩), .agg #[.int .i64 4, .int .i64 fl, .int .i64 st, .slice A l.length c]] w (ReadP p 4 st f0 { PR0 with ak := hasB fl 1, ps := prsL n l } w) := by
  have hR0 := RdS.start (c := c) (ty := 4) (fl := fl) (st := st) hb hA hAp
  have HPR := Lib.hid (fun w' hA => ppairs 4 fl st A c l n w' hA hmx h6)
  have HPL := Lib.hid (prsL_len n l)
  unfold PairsP at HPR
  have HH1 := Lib.hid (fun w' => phas 4 fl st A l.length c 1 (hasB fl 1) w' rfl rfl)
  generalize hasB fl 1 = h1 at *
  generalize prsL n l = PS at *
  clear hb hA hAp h6
  go_enter Try.func16, Try.ntmps16
  go_wp2_with fail
  refine wp_gen (RdS w p w.heap.size (bareI 4 st f0) 4 fl st A c l) hR0 ?_
  intro W hR
  obtain ⟨b, hbb⟩ : ∃ b, w.heap.size = b := ⟨_, rfl⟩
  have HBB := Lib.hid hbb
  rw [hbb] at hR ⊢
  have HSK : Hid (∀ w', Only (· = p) W w' → w'.cell? ⟨b, 0, none⟩ = some (.int .i64 4) ∧ w'.cell? ⟨b, 1, none⟩ = some (.int .i64 fl) ∧ w'.cell? ⟨b, 2, none⟩ = some (.int .i64 st) ∧ w'.cell? ⟨b, 3, none⟩ = some (.slice A l.length c) ∧ Only (· = p) W w') := Lib.hid (fun w' hw => by
    obtain ⟨c0, c1, c2, c3⟩ := (hR.only hw).1.c4
    exact ⟨c0, c1, c2, c3, hw⟩)
  have HBS := Lib.hid (fun w' hw => (hR.only (W' := w') hw).2)
  have HIT := Lib.hid hR.it
  have HR := Lib.hid hR
  obtain ⟨g0, g1, g2, g3, g4⟩ := HSK.out W (Only.refl _ _)
  clear hR hR0 hbb
  go_region_held3 (fun w' => w'.cell? ⟨b, 0, none⟩ = some (.int .i64 4) ∧ w'.cell? ⟨b, 1, none⟩ = some (.int .i64 fl) ∧ w'.cell? ⟨b, 2, none⟩ = some (.int .i64 st) ∧ w'.cell? ⟨b, 3, none⟩ = some (.slice A l.length c) ∧ Only (· = p) W w')
    ((refine HSK.out _ ?_; first | with_reducible assumption | with_reducible exact Only.drewS (Only.refl _ _) | (with_reducible apply Only.drewS; with_reducible assumption) | (with_reducible refine Only.step2 (.inl rfl) ?_; with_reducible assumption) | (with_reducible refine Only.step2 (.inl rfl) (Only.step2 (.inl rfl) ?_); with_reducible assumption) | (with_reducible refine Only.step2 (.inl rfl) (Only.step2 (.inl rfl) (Only.step2 (.inl rfl) ?_)); with_reducible assumption)))
    (first
      | (go_at_call 39; (with_reducible refine (HH1.out _).mono ?_); rintro e w3 ⟨rfl, hf3⟩; have hi3 : Fresh W w3 := Fresh.trans (by first | exact hi0 | exact Fresh.drew _) hf3; have hg3 : Only (· = p) W w3 := Only.of_fresh hi3)
      | (go_at_call 43; (with_reducible refine (HPR.out _ (HBS.out _ (by first | assumption | exact Only.drewS (Only.refl _ _)))).mono ?_); rintro e w9 ⟨PA, pc, rfl, hpn, hpm, hown, hf9⟩; have hi9 : Fresh W w9 := Fresh.trans (by first | exact hi3 | exact Fresh.drew _) hf9; have hg9 : Only (· = p) W w9 := Only.of_fresh hi9; have HO := Lib.hid (And.intro hpn (And.intro hpm (own_at (by first | assumption | exact Fresh.drew _) hown))); clear hpn hpm hown; have hit9 := HIT.out.fresh hi9; have q5 := hit9.cell 5; have z5 := hit9.frozen 5; have q14 := hit9.cell 14; have z14 := hit9.frozen 14; simp only [ItV.cells, bareI, List.getElem?_toArray, List.getElem?_cons_zero, List.getElem?_cons_succ] at q5 q14; have HI9 := Lib.hid hit9; clear hit9))
  go_wp2
  go_returns
  obtain ⟨hpn, hpm, base, hbs, hown⟩ := HO.out
  have hpl := HPL.out
  have hm := many_own hown hpl
  have hlt := HR.out.it.lt
  have hsz := HR.out.fr.size
  refine ⟨{ bareI 4 st f0 with PA := PA, pc := pc, ps := PS, ak := h1 }, rfl, ?_, ⟨by simp [bareI], by simp [bareI, maxLen], BS.nil _ _, by show PS.length ≤ pc; omega, hpm, hm.1.only (S := (· = p)) (Only.step2 (.inl rfl) (Only.step2 (.inl rfl) (Only.refl _ _))) (fun b o e hh => by have := hm.2 b o e; omega)⟩, ⟨rfl, ⟨rfl, rfl, rfl, rfl, rfl⟩, ⟨rfl, rfl, rfl, rfl, rfl⟩, rfl⟩, ⟨rfl, rfl, rfl⟩, (fun b' o e => by cases e), (fun b' o e => by have := hm.2 b' o e; omega), ?_⟩
  · have := (HI9.out.set 5 (.bool h1)).set 14 (.slice PA n pc)
    simpa [ItV.cells, bareI, hpl] using this
  · refine Only.step2 (.inl rfl) (Only.step2 (.inl rfl) ?_)
    exact Only.of_fresh (HR.out.fr.trans hi9)
end
end Go.Proofs.Ytcdghmidpaeloaa

