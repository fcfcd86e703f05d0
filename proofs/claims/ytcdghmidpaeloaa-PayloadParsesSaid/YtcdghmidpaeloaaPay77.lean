/-
  Contracts of package payload: reading by type.
-/
import Derived.Test.YtcdghmidpaeloaaPay7
namespace Go.Proofs.Ytcdghmidpaeloaa
set_option linter.unusedVariables false
open Go.RowKit
section
variable {p : Nat} {f0 fl st : Int} {A : Option Addr} {c : Nat} {l : List UInt8} {w : World}
set_option maxRecDepth 100000 in
set_option maxHeartbeats 3200000 in
theorem read_7 (hb : Blk w p 28 (bareI 7 st f0).cells.toArray) (hA : BS w A l) (hAp : 0 < l.length → ∀ b o, A = some ⟨b, o, none⟩ → b ≠ p) (hlc : l.length ≤ c) (hmx : l.length ≤ 1000000) (h8 : 8 ≤ l.length) :
    Calls Try.prog 16 #[.pointer (some ⟨p, 0, none⟩), .agg #[.int .i64 7, .int .i64 fl, .int .i64 st, .slice A l.length c]] w (ReadP p 7 st f0 { PR0 with l := l.drop 8, la := ((numL (l.take 4) % 2147483648 : Nat) : Int), co := (numL ((l.drop 4).take 4) : Int) } w) := by
  have hR0 := RdS.start (c := c) (ty := 7) (fl := fl) (st := st) hb hA hAp
  have HN := Lib.hid (fun w' hA => onewR A l.length c l w' rfl hA (by omega))
  have hlow := low31 _ (num4_lt l)
  have HF4 := Lib.hid (fun q g w' (hr : Rdr w' q g l 0) => pfour q g l 0 _ w' hr (by omega) rfl)
  simp only [List.drop_zero] at HF4
  have HF5 := Lib.hid (fun q g w' (hr : Rdr w' q g l 4) => pfour q g l 4 _ w' hr (by omega) rfl)
  have HRS := Lib.hid (fun q g w' (hr : Rdr w' q g l 8) => orest_at q g l 8 (l.length - 8) w' hr (by omega))
  have HTL : Hid ((l.drop 8).length = l.length - 8) := Lib.hid (by simp)
  generalize hco : numL ((l.drop 4).take 4) = co at *
  generalize numL (l.take 4) = la at *
  generalize hlm : la % 2147483648 = lm at *
  generalize hT : l.drop 8 = T at *
  have HTD := Lib.hid hT
  clear hb hA hAp hco hlm hT
  go_enter Try.func16, Try.ntmps16
  go_wp2_with fail
  have hR := hR0
  obtain ⟨W, hWW⟩ : ∃ W, w.alloc (.cells #[.int .i64 7, .int .i64 fl, .int .i64 st, .slice A l.length c] 24) = W := ⟨_, rfl⟩
  rw [hWW] at hR ⊢
  clear hWW
  obtain ⟨b, hbb⟩ : ∃ b, w.heap.size = b := ⟨_, rfl⟩
  have HBB := Lib.hid hbb
  rw [hbb] at hR ⊢
  have HSK : Hid (∀ w', Only (· = p) W w' → w'.cell? ⟨b, 0, none⟩ = some (.int .i64 7) ∧ w'.cell? ⟨b, 1, none⟩ = some (.int .i64 fl) ∧ w'.cell? ⟨b, 2, none⟩ = some (.int .i64 st) ∧ w'.cell? ⟨b, 3, none⟩ = some (.slice A l.length c) ∧ Only (· = p) W w') := Lib.hid (fun w' hw => by
    obtain ⟨c0, c1, c2, c3⟩ := (hR.only hw).1.c4
    exact ⟨c0, c1, c2, c3, hw⟩)
  have HBS := Lib.hid (fun w' hw => (hR.only (W' := w') hw).2)
  have HIT := Lib.hid hR.it
  have HR := Lib.hid hR
  obtain ⟨g0, g1, g2, g3, g4⟩ := HSK.out W (Only.refl _ _)
  clear hR hR0 hbb
  with_reducible refine (HN.out _ (HBS.out _ (Only.refl _ _))).mono ?_
  rintro e w3 ⟨q, g, rfl, hq, hg, hr, hf⟩
  have H1 := Lib.hid (And.intro hq (And.intro hg (And.intro hr hf)))
  clear hq hg hr hf
  go_wp2_with fail
  with_reducible refine (HF4.out q g _ H1.out.2.2.1.rdr).mono ?_
  rintro e w4 ⟨rfl, hr4, ho4⟩
  have HR4 := Lib.hid hr4
  have HO4 := Lib.hid ho4
  clear hr4 ho4
  go_wp2_with fail
  with_reducible refine (HF5.out q g _ HR4.out).mono ?_
  rintro e w5 ⟨rfl, hr5, ho5⟩
  have HR5 := Lib.hid hr5
  have HO5 := Lib.hid ho5
  clear hr5 ho5
  go_wp2_with fail
  with_reducible refine (HRS.out q g _ HR5.out).mono ?_
  rintro e w6 ⟨A', rfl, hat, hbs6, hb6, _, ho6⟩
  rw [HTD.out] at hbs6
  have hf6 : Fresh W w6 := Only.fresh ((((Only.of_fresh H1.out.2.2.2).trans HO4.out).trans HO5.out).trans ho6) (fun i hi e => by have := H1.out.1; omega)
  have HF6 := Lib.hid hf6
  have HA6 := Lib.hid (And.intro hat hbs6)
  have HI6 := Lib.hid (HIT.out.fresh hf6)
  clear hat hbs6 hb6 ho6 hf6
  have q8 := (HI6.out).cell 8
  have z8 := (HI6.out).frozen 8
  have q7 := (HI6.out).cell 7
  have z7 := (HI6.out).frozen 7
  have q2 := (HI6.out).cell 2
  have z2 := (HI6.out).frozen 2
  simp only [ItV.cells, bareI, List.getElem?_toArray, List.getElem?_cons_zero, List.getElem?_cons_succ] at q8 q7 q2
  go_wp2_with fail
  go_returns
  have hle := HTL.out
  have hag : ∀ b' o, A' = some ⟨b', o, none⟩ → W.heap.size ≤ b' := fun b' o e => by
    rcases HA6.out.1 with ⟨h, _⟩ | ⟨o', h, _⟩
    · rw [h] at e; cases e
    · rw [h] at e; cases e; exact H1.out.2.1
  have hlt := HR.out.it.lt
  have hsz := HR.out.fr.size
  refine ⟨{ bareI 7 st f0 with A := A', c := l.length - 8, l := T, la := (lm : Int), co := (co : Int) }, rfl, ?_, ⟨by show T.length ≤ l.length - 8; omega, by show l.length - 8 ≤ maxLen; unfold maxLen; omega, ?_, by simp [bareI], by simp [bareI, maxLen], Many.nil _ _ _ _⟩, ⟨rfl, ⟨rfl, rfl, rfl, rfl, rfl⟩, ⟨rfl, rfl, rfl, rfl, rfl⟩, rfl⟩, ⟨rfl, rfl, rfl⟩, (fun b' o e => by have := hag b' o e; omega), (fun b' o e => by cases e), ?_⟩
  · have := ((HI6.out.set 8 (.int .i64 (lm : Int))).set 7 (.int .i64 (co : Int))).set 2 (.slice A' (l.length - 8) (l.length - 8))
    simpa [ItV.cells, bareI, hle] using this
  · refine HA6.out.2.only (S := (· = p)) (Only.step2 (.inl rfl) (Only.step2 (.inl rfl) (Only.step2 (.inl rfl) (Only.refl _ _)))) (fun b' o e hh => by have := hag b' o e; omega)
  · refine Only.step2 (.inl rfl) (Only.step2 (.inl rfl) (Only.step2 (.inl rfl) ?_))
    exact Only.of_fresh (HR.out.fr.trans HF6.out)
set_option maxRecDepth 100000 in
set_option maxHeartbeats 3200000 in
theorem read_else (ty : Int) (hb : Blk w p 28 (bareI ty st f0).cells.toArray) (hA : BS w A l) (hn : ¬ ty = 0 ∧ ¬ ty = 1 ∧ ¬ ty = 2 ∧ ¬ ty = 3 ∧ ¬ ty = 4 ∧ ¬ ty = 6 ∧ ¬ ty = 7 ∧ ¬ ty = 8 ∧ ¬ ty = 9) :
    Calls Try.prog 16 #[.pointer (some ⟨p, 0, none⟩), .agg #[.int .i64 ty, .int .i64 fl, .int .i64 st, .slice A l.length c]] w (ReadP p ty st f0 PR0 w) := by
  have HB := Lib.hid hb
  obtain ⟨n0, n1, n2, n3, n4, n6, n7, n8, n9⟩ := hn
  go_enter Try.func16, Try.ntmps16
  go_wp2_with fail
  go_returns
  refine ⟨bareI ty st f0, rfl, HB.out.fresh (Fresh.alloc _ _), ⟨by simp [bareI], by simp [bareI, maxLen], BS.nil _ _, by simp [bareI], by simp [bareI, maxLen], Many.nil _ _ _ _⟩, ⟨rfl, ⟨rfl, rfl, rfl, rfl, rfl⟩, ⟨rfl, rfl, rfl, rfl, rfl⟩, rfl⟩, ⟨rfl, rfl, rfl⟩, (fun b' o e => by cases e), (fun b' o e => by cases e), Only.of_fresh (Fresh.alloc _ _)⟩
end
end Go.Proofs.Ytcdghmidpaeloaa

