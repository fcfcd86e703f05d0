/-
  The laws' step: both sides, one call.
-/
import Derived.Test.YtnnciekbmapilaaCredit6
namespace Go.Proofs.Ytnnciekbmapilaa
set_option linter.unusedVariables false
open Go.RowKit

/-- The state of both: the credit at c, g; the row of the model at p. -/
structure Two (w : World) (c g k n p kk : Nat) (f : Nat → Int) (T : Nat) : Prop where
  cr : Cr w c g k n f (T % n)
  ints : Ints w p n kk f
def StepP (c g k n T : Nat) (w : World) (e : Ending) (w' : World) : Prop := ∃ p kk f T', e = .returned (.tuple #[.agg #[.slice (some ⟨p, 0, none⟩) n kk, .int .i64 ((T' : Nat) : Int)], .bool true]) ∧ T' ≤ T + 1 ∧ Two w' c g k n p kk f T' ∧ Only (fun i => i = c ∨ i = g) w w'
set_option maxHeartbeats 3200000 in
theorem step_any (c g k n p kk : Nat) (f : Nat → Int) (T : Nat) (kd i x : Int) (w : World) (h : Two w c g k n p kk f T) (hT : T ≤ 900000) :
    Calls Try.prog 11 #[.pointer (some ⟨c, 0, none⟩), .agg #[.slice (some ⟨p, 0, none⟩) n kk, .int .i64 (T : Int)], .agg #[.int .i64 kd, .int .i64 i, .int .i64 x]] w (StepP c g k n T w) := by
  have hok := h.cr.ok
  have hcl := h.cr.lt
  have n1 := h.cr.n1
  by_cases hk1 : kd = 1
  · subst hk1
    obtain ⟨r, f', t', hr, hG, hR⟩ := grant_pair hok x
    have HG := Lib.hid hG
    have HR := Lib.hid hR
    have HH := Lib.hid h
    have HRR := Lib.hid hr
    clear h hok hG hR hr
    go_enter Try.func11, Try.ntmps11
    have HF3 : Hid (Fresh w (((w.alloc (.cells #[.slice (some ⟨p, 0, none⟩) n kk, .int .i64 (T : Int)] 31)).alloc (.cells #[.int .i64 1, .int .i64 i, .int .i64 x] 34)).alloc (.cells #[.slice none 0 0, .int .i64 0] 31))) := Lib.hid (((Fresh.alloc _ _).allocS _).allocS _)
    go_wp2_with fail
    refine (HR.out p kk T _ (HH.out.ints.fresh HF3.out) (by omega) rfl).mono ?_
    rintro e w1 ⟨q, k1, rfl, hq, hf1⟩
    have hB4 := Blk.new w 31 #[.slice (some ⟨p, 0, none⟩) n kk, .int .i64 (T : Int)]
    have hB5 := Blk.new (w.alloc (.cells #[.slice (some ⟨p, 0, none⟩) n kk, .int .i64 (T : Int)] 31)) 34 #[.int .i64 1, .int .i64 i, .int .i64 x]
    have hB6 := Blk.new ((w.alloc (.cells #[.slice (some ⟨p, 0, none⟩) n kk, .int .i64 (T : Int)] 31)).alloc (.cells #[.int .i64 1, .int .i64 i, .int .i64 x] 34)) 31 #[.slice none 0 0, .int .i64 0]
    have HB4 := Lib.hid (((hB4.alloc (.cells #[.int .i64 1, .int .i64 i, .int .i64 x] 34)).alloc (.cells #[.slice none 0 0, .int .i64 0] 31)).fresh hf1)
    have HB5 := Lib.hid ((hB5.alloc (.cells #[.slice none 0 0, .int .i64 0] 31)).fresh hf1)
    have HB6 := Lib.hid (hB6.fresh hf1)
    have HQ := Lib.hid hq
    have HF := Lib.hid (HF3.out.trans hf1)
    clear hB4 hB5 hB6 hq hf1 HF3
    obtain ⟨b, hb⟩ : ∃ b, w.heap.size = b := ⟨_, rfl⟩
    have HBS := Lib.hid hb
    simp only [World.size_alloc] at HB5 HB6
    rw [hb] at HB4 HB5 HB6
    rw [hb]
    have b40 := HB4.out.cell 0
    have b41 := HB4.out.cell 1
    have b52 := HB5.out.cell 2
    have z40 := HB4.out.frozen 0
    have z41 := HB4.out.frozen 1
    have z60 := HB6.out.frozen 0
    have z61 := HB6.out.frozen 1
    simp only [List.getElem?_toArray, List.getElem?_cons_zero, List.getElem?_cons_succ] at b40 b41 b52
    clear hb
    rcases HRR.out with ⟨rfl, ht, hf', hx⟩ | ⟨hr0, ht, hf'⟩
    · have HT := Lib.hid ht
      clear ht hf'
      go_wp2_with fail
      refine wp_gen (fun W => Blk W b 31 #[.slice (some ⟨q, 0, none⟩) n k1, .int .i64 ((T : Int) + 1)] ∧ Blk W (b + 1) 34 #[.int .i64 1, .int .i64 i, .int .i64 x] ∧ Blk W (b + 1 + 1) 31 #[.slice none 0 0, .int .i64 0] ∧ Ints W q n k1 f' ∧ Fresh w W) ?_ ?_
      focus
        refine ⟨by simpa using (HB4.out.set 0 (.slice (some ⟨q, 0, none⟩) n k1)).set 1 (.int .i64 ((T : Int) + 1)), (HB5.out.far (p := ⟨b, 0, none⟩) (by simp) _).far (p := ⟨b, 1, none⟩) (by simp) _, (HB6.out.far (p := ⟨b, 0, none⟩) (by simp; omega) _).far (p := ⟨b, 1, none⟩) (by simp; omega) _, ?_, (HF.out.step _ _ (by have := HBS.out; simp; omega)).step _ _ (by have := HBS.out; simp; omega)⟩
        have hqb : q ≠ b := fun e => by
          subst e
          exact HQ.out.ne HB4.out (by decide) rfl
        exact (HQ.out.only (Only.setCell _ ⟨b, 0, none⟩ _) (fun e => hqb e)).only (Only.setCell _ ⟨b, 1, none⟩ _) (fun e => hqb e)
      clear b40 b41 b52  z40 z41 z60 z61 HB4 HB5 HB6 HQ HF HR
      intro W ⟨hb4, hb5, hb6, hi, hfw⟩
      have hcr := HH.out.cr.fresh hfw
      have hne := HBS.out
      have HCR := Lib.hid hcr
      have HI := Lib.hid hi
      have HFW := Lib.hid hfw
      have HSK : Hid (∀ w', Only (fun j => j = c ∨ j = g ∨ j = b + 1 + 1) W w' → w'.cell? ⟨b, 0, none⟩ = some (.slice (some ⟨q, 0, none⟩) n k1) ∧ w'.cell? ⟨b, 1, none⟩ = some (.int .i64 ((T : Int) + 1)) ∧ w'.cell? ⟨b + 1, 1, none⟩ = some (.int .i64 i) ∧ w'.cell? ⟨b + 1, 2, none⟩ = some (.int .i64 x)) := Lib.hid (fun w' ho => by
        have h4 := hb4.only ho (by omega)
        have h5 := hb5.only ho (by omega)
        exact ⟨h4.cell 0, h4.cell 1, h5.cell 1, h5.cell 2⟩)
      have HB6 := Lib.hid hb6
      obtain ⟨g0, g1, g2, g3⟩ := HSK.out W (Only.refl _ _)
      clear hb4 hb5 hb6 hi hfw hcr hne
      go_region_held3 (fun w' => w'.cell? ⟨b, 0, none⟩ = some (.slice (some ⟨q, 0, none⟩) n k1) ∧ w'.cell? ⟨b, 1, none⟩ = some (.int .i64 ((T : Int) + 1)) ∧ w'.cell? ⟨b + 1, 1, none⟩ = some (.int .i64 i) ∧ w'.cell? ⟨b + 1, 2, none⟩ = some (.int .i64 x))
        ((refine HSK.out _ ?_; first | with_reducible exact Only.refl _ _ | with_reducible exact Only.drewS (Only.refl _ _) | with_reducible exact HON.out | (with_reducible refine Only.step2 (.inl (.inr (.inr rfl))) (Only.step2 (.inl (.inr (.inr rfl))) ?_); with_reducible exact HON.out)))
        (first
          | (go_at_call 12; refine (HG.out c g k _ (HCR.out.fresh (Fresh.drew _))).mono ?_; rintro e w2 ⟨rfl, hcr, hon⟩; have HON0 := Lib.hid ((Only.drewS (Only.refl _ _)).trans hon); have HON : Hid (Only (fun j => j = c ∨ j = g ∨ j = b + 1 + 1) W w2) := Lib.hid (((Only.drewS (Only.refl _ _)).trans hon).mono (fun j hj => hj.elim .inl (fun h => .inr (.inl h)))); have hb62 := HB6.out.only ((Only.drewS (Only.refl _ _)).trans hon) (by have := HBS.out; omega); have g4 := hb62.cell 0; have g5 := hb62.cell 1; have g6 := hb62.frozen 0; have g7 := hb62.frozen 1; have g8 := hb62.lt; have HCR2 := Lib.hid hcr; clear hcr hon hb62))
      have hb62 := HB6.out.only HON0.out (by have := HBS.out; omega)
      refine wx_gen (fun W3 => Blk W3 (b + 1 + 1) 31 #[.slice (some ⟨q, 0, none⟩) n k1, .int .i64 ((T : Int) + 1)] ∧ Only (· = b + 1 + 1) w2 W3) ⟨by simpa using (hb62.set 0 (.slice (some ⟨q, 0, none⟩) n k1)).set 1 (.int .i64 ((T : Int) + 1)), (Only.setCell w2 ⟨b + 1 + 1, 0, none⟩ _).trans (Only.setCell _ ⟨b + 1 + 1, 1, none⟩ _)⟩ ?_
      clear hb62
      intro W3 ⟨hb63, ho3⟩
      have r0 := hb63.cell 0
      have r1 := hb63.cell 1
      simp only [List.getElem?_toArray, List.getElem?_cons_zero, List.getElem?_cons_succ] at r0 r1
      have HB63 := Lib.hid hb63
      have HO3 := Lib.hid ho3
      clear hb63 ho3 g0 g1 g2 g3 HSK
      go_wp2
      refine bodyPost_ret (v := .tuple #[.agg #[.slice (some ⟨q, 0, none⟩) n k1, .int .i64 ((T : Int) + 1)], .bool true]) (by simp [results, Try.results11, go_sem, r0, r1]) rfl ?_
      have hcl2 : c < b ∧ g < b := by have := HBS.out; omega
      have hcr3 := HCR2.out.only HO3.out (by omega) (by omega)
      have hi2 := HI.out.only HON0.out (fun e => by
        rcases e with e | e
        · exact HI.out.ne HCR.out.blk (by decide) e.symm
        · obtain ⟨cur, _, _, _, hb, _⟩ := HCR.out.prt
          exact HI.out.ne hb (by decide) e.symm)
      have hi3 := hi2.only HO3.out (fun e => by
        have := HI.out.ne HB6.out (by decide); exact this e.symm)
      refine ⟨q, k1, f', T + 1, rfl, by omega, ⟨?_, hi3⟩, ((Only.of_fresh HFW.out).trans HON0.out).trans' HO3.out (fun j hj e => by have := HBS.out; omega)⟩
      have ht := HT.out
      subst ht
      rw [← Nat.mod_add_mod]; exact hcr3
    · have HT := Lib.hid ht
      have hr1 : (r == 0) = false := by simpa using hr0
      have HFE := Lib.hid hf'
      clear ht hf' hr0
      go_wp2_with fail
      refine wp_gen (fun W => Blk W b 31 #[.slice (some ⟨p, 0, none⟩) n kk, .int .i64 ((T : Int))] ∧ Blk W (b + 1) 34 #[.int .i64 1, .int .i64 i, .int .i64 x] ∧ Blk W (b + 1 + 1) 31 #[.slice none 0 0, .int .i64 0] ∧ Ints W p n kk f' ∧ Fresh w W) ?_ ?_
      focus
        exact ⟨HB4.out, HB5.out, HB6.out, by rw [HFE.out]; exact HH.out.ints.fresh HF.out, HF.out⟩
      clear b40 b41 b52  z40 z41 z60 z61 HB4 HB5 HB6 HQ HF HR
      intro W ⟨hb4, hb5, hb6, hi, hfw⟩
      have hcr := HH.out.cr.fresh hfw
      have hne := HBS.out
      have HCR := Lib.hid hcr
      have HI := Lib.hid hi
      have HFW := Lib.hid hfw
      have HSK : Hid (∀ w', Only (fun j => j = c ∨ j = g ∨ j = b + 1 + 1) W w' → w'.cell? ⟨b, 0, none⟩ = some (.slice (some ⟨p, 0, none⟩) n kk) ∧ w'.cell? ⟨b, 1, none⟩ = some (.int .i64 ((T : Int))) ∧ w'.cell? ⟨b + 1, 1, none⟩ = some (.int .i64 i) ∧ w'.cell? ⟨b + 1, 2, none⟩ = some (.int .i64 x)) := Lib.hid (fun w' ho => by
        have h4 := hb4.only ho (by omega)
        have h5 := hb5.only ho (by omega)
        exact ⟨h4.cell 0, h4.cell 1, h5.cell 1, h5.cell 2⟩)
      have HB6 := Lib.hid hb6
      obtain ⟨g0, g1, g2, g3⟩ := HSK.out W (Only.refl _ _)
      clear hb4 hb5 hb6 hi hfw hcr hne
      go_region_held3 (fun w' => w'.cell? ⟨b, 0, none⟩ = some (.slice (some ⟨p, 0, none⟩) n kk) ∧ w'.cell? ⟨b, 1, none⟩ = some (.int .i64 ((T : Int))) ∧ w'.cell? ⟨b + 1, 1, none⟩ = some (.int .i64 i) ∧ w'.cell? ⟨b + 1, 2, none⟩ = some (.int .i64 x))
        ((refine HSK.out _ ?_; first | with_reducible exact Only.refl _ _ | with_reducible exact Only.drewS (Only.refl _ _) | with_reducible exact HON.out | (with_reducible refine Only.step2 (.inl (.inr (.inr rfl))) (Only.step2 (.inl (.inr (.inr rfl))) ?_); with_reducible exact HON.out)))
        (first
          | (go_at_call 12; refine (HG.out c g k _ (HCR.out.fresh (Fresh.drew _))).mono ?_; rintro e w2 ⟨rfl, hcr, hon⟩; have HON0 := Lib.hid ((Only.drewS (Only.refl _ _)).trans hon); have HON : Hid (Only (fun j => j = c ∨ j = g ∨ j = b + 1 + 1) W w2) := Lib.hid (((Only.drewS (Only.refl _ _)).trans hon).mono (fun j hj => hj.elim .inl (fun h => .inr (.inl h)))); have hb62 := HB6.out.only ((Only.drewS (Only.refl _ _)).trans hon) (by have := HBS.out; omega); have g4 := hb62.cell 0; have g5 := hb62.cell 1; have g6 := hb62.frozen 0; have g7 := hb62.frozen 1; have g8 := hb62.lt; have HCR2 := Lib.hid hcr; clear hcr hon hb62))
      have hb62 := HB6.out.only HON0.out (by have := HBS.out; omega)
      refine wx_gen (fun W3 => Blk W3 (b + 1 + 1) 31 #[.slice (some ⟨p, 0, none⟩) n kk, .int .i64 ((T : Int))] ∧ Only (· = b + 1 + 1) w2 W3) ⟨by simpa using (hb62.set 0 (.slice (some ⟨p, 0, none⟩) n kk)).set 1 (.int .i64 ((T : Int))), (Only.setCell w2 ⟨b + 1 + 1, 0, none⟩ _).trans (Only.setCell _ ⟨b + 1 + 1, 1, none⟩ _)⟩ ?_
      clear hb62
      intro W3 ⟨hb63, ho3⟩
      have r0 := hb63.cell 0
      have r1 := hb63.cell 1
      simp only [List.getElem?_toArray, List.getElem?_cons_zero, List.getElem?_cons_succ] at r0 r1
      have HB63 := Lib.hid hb63
      have HO3 := Lib.hid ho3
      clear hb63 ho3 g0 g1 g2 g3 HSK
      go_wp2
      refine bodyPost_ret (v := .tuple #[.agg #[.slice (some ⟨p, 0, none⟩) n kk, .int .i64 ((T : Int))], .bool true]) (by simp [results, Try.results11, go_sem, r0, r1]) rfl ?_
      have hcl2 : c < b ∧ g < b := by have := HBS.out; omega
      have hcr3 := HCR2.out.only HO3.out (by omega) (by omega)
      have hi2 := HI.out.only HON0.out (fun e => by
        rcases e with e | e
        · exact HI.out.ne HCR.out.blk (by decide) e.symm
        · obtain ⟨cur, _, _, _, hb, _⟩ := HCR.out.prt
          exact HI.out.ne hb (by decide) e.symm)
      have hi3 := hi2.only HO3.out (fun e => by
        have := HI.out.ne HB6.out (by decide); exact this e.symm)
      refine ⟨p, kk, f', T, rfl, by omega, ⟨?_, hi3⟩, ((Only.of_fresh HFW.out).trans HON0.out).trans' HO3.out (fun j hj e => by have := HBS.out; omega)⟩
      have ht := HT.out
      subst ht
      exact hcr3
  · by_cases hk2 : kd = 2
    · subst hk2
      clear hk1
      obtain ⟨r, f', hr, hG, hR⟩ := spend_pair hok i x
      have HG := Lib.hid hG
      have HR := Lib.hid hR
      have HH := Lib.hid h
      clear h hok hG hR hr
      go_enter Try.func11, Try.ntmps11
      have HF3 : Hid (Fresh w (((w.alloc (.cells #[.slice (some ⟨p, 0, none⟩) n kk, .int .i64 (T : Int)] 31)).alloc (.cells #[.int .i64 2, .int .i64 i, .int .i64 x] 34)).alloc (.cells #[.slice none 0 0, .int .i64 0] 31))) := Lib.hid (((Fresh.alloc _ _).allocS _).allocS _)
      go_wp2_with fail
      refine (HR.out p kk _ (HH.out.ints.fresh HF3.out)).mono ?_
      rintro e w1 ⟨q, k1, rfl, hq, hf1⟩
      have hB4 := Blk.new w 31 #[.slice (some ⟨p, 0, none⟩) n kk, .int .i64 (T : Int)]
      have hB5 := Blk.new (w.alloc (.cells #[.slice (some ⟨p, 0, none⟩) n kk, .int .i64 (T : Int)] 31)) 34 #[.int .i64 2, .int .i64 i, .int .i64 x]
      have hB6 := Blk.new ((w.alloc (.cells #[.slice (some ⟨p, 0, none⟩) n kk, .int .i64 (T : Int)] 31)).alloc (.cells #[.int .i64 2, .int .i64 i, .int .i64 x] 34)) 31 #[.slice none 0 0, .int .i64 0]
      have HB4 := Lib.hid (((hB4.alloc (.cells #[.int .i64 2, .int .i64 i, .int .i64 x] 34)).alloc (.cells #[.slice none 0 0, .int .i64 0] 31)).fresh hf1)
      have HB5 := Lib.hid ((hB5.alloc (.cells #[.slice none 0 0, .int .i64 0] 31)).fresh hf1)
      have HB6 := Lib.hid (hB6.fresh hf1)
      have HQ := Lib.hid hq
      have HF := Lib.hid (HF3.out.trans hf1)
      clear hB4 hB5 hB6 hq hf1 HF3
      obtain ⟨b, hb⟩ : ∃ b, w.heap.size = b := ⟨_, rfl⟩
      have HBS := Lib.hid hb
      simp only [World.size_alloc] at HB5 HB6
      rw [hb] at HB4 HB5 HB6
      rw [hb]
      have b40 := HB4.out.cell 0
      have b41 := HB4.out.cell 1
      have b51 := HB5.out.cell 1
      have b52 := HB5.out.cell 2
      have z40 := HB4.out.frozen 0
      have z41 := HB4.out.frozen 1
      have z60 := HB6.out.frozen 0
      have z61 := HB6.out.frozen 1
      simp only [List.getElem?_toArray, List.getElem?_cons_zero, List.getElem?_cons_succ] at b40 b41 b51 b52
      clear hb
      have hT0 : Hid (T % n = T % n) := Lib.hid rfl
      go_wp2_with fail
      refine wp_gen (fun W => Blk W b 31 #[.slice (some ⟨q, 0, none⟩) n k1, .int .i64 ((T : Int))] ∧ Blk W (b + 1) 34 #[.int .i64 2, .int .i64 i, .int .i64 x] ∧ Blk W (b + 1 + 1) 31 #[.slice none 0 0, .int .i64 0] ∧ Ints W q n k1 f' ∧ Fresh w W) ?_ ?_
      focus
        refine ⟨by simpa using HB4.out.set 0 (.slice (some ⟨q, 0, none⟩) n k1), HB5.out.far (p := ⟨b, 0, none⟩) (by simp) _, HB6.out.far (p := ⟨b, 0, none⟩) (by simp; omega) _, ?_, HF.out.step _ _ (by have := HBS.out; simp; omega)⟩
        have hqb : q ≠ b := fun e => by
          subst e
          exact HQ.out.ne HB4.out (by decide) rfl
        exact HQ.out.only (Only.setCell _ ⟨b, 0, none⟩ _) (fun e => hqb e)
      clear b40 b41 b52 b51 z40 z41 z60 z61 HB4 HB5 HB6 HQ HF HR
      intro W ⟨hb4, hb5, hb6, hi, hfw⟩
      have hcr := HH.out.cr.fresh hfw
      have hne := HBS.out
      have HCR := Lib.hid hcr
      have HI := Lib.hid hi
      have HFW := Lib.hid hfw
      have HSK : Hid (∀ w', Only (fun j => j = c ∨ j = g ∨ j = b + 1 + 1) W w' → w'.cell? ⟨b, 0, none⟩ = some (.slice (some ⟨q, 0, none⟩) n k1) ∧ w'.cell? ⟨b, 1, none⟩ = some (.int .i64 ((T : Int))) ∧ w'.cell? ⟨b + 1, 1, none⟩ = some (.int .i64 i) ∧ w'.cell? ⟨b + 1, 2, none⟩ = some (.int .i64 x)) := Lib.hid (fun w' ho => by
        have h4 := hb4.only ho (by omega)
        have h5 := hb5.only ho (by omega)
        exact ⟨h4.cell 0, h4.cell 1, h5.cell 1, h5.cell 2⟩)
      have HB6 := Lib.hid hb6
      obtain ⟨g0, g1, g2, g3⟩ := HSK.out W (Only.refl _ _)
      clear hb4 hb5 hb6 hi hfw hcr hne
      go_region_held3 (fun w' => w'.cell? ⟨b, 0, none⟩ = some (.slice (some ⟨q, 0, none⟩) n k1) ∧ w'.cell? ⟨b, 1, none⟩ = some (.int .i64 ((T : Int))) ∧ w'.cell? ⟨b + 1, 1, none⟩ = some (.int .i64 i) ∧ w'.cell? ⟨b + 1, 2, none⟩ = some (.int .i64 x))
        ((refine HSK.out _ ?_; first | with_reducible exact Only.refl _ _ | with_reducible exact Only.drewS (Only.refl _ _) | with_reducible exact HON.out | (with_reducible refine Only.step2 (.inl (.inr (.inr rfl))) (Only.step2 (.inl (.inr (.inr rfl))) ?_); with_reducible exact HON.out)))
        (first
          | (go_at_call 13; refine (HG.out c g k _ (HCR.out.fresh (Fresh.drew _))).mono ?_; rintro e w2 ⟨rfl, hcr, hon⟩; have HON0 := Lib.hid ((Only.drewS (Only.refl _ _)).trans hon); have HON : Hid (Only (fun j => j = c ∨ j = g ∨ j = b + 1 + 1) W w2) := Lib.hid (((Only.drewS (Only.refl _ _)).trans hon).mono (fun j hj => hj.elim .inl (fun h => .inr (.inl h)))); have hb62 := HB6.out.only ((Only.drewS (Only.refl _ _)).trans hon) (by have := HBS.out; omega); have g4 := hb62.cell 0; have g5 := hb62.cell 1; have g6 := hb62.frozen 0; have g7 := hb62.frozen 1; have g8 := hb62.lt; have HCR2 := Lib.hid hcr; clear hcr hon hb62))
      have hb62 := HB6.out.only HON0.out (by have := HBS.out; omega)
      refine wx_gen (fun W3 => Blk W3 (b + 1 + 1) 31 #[.slice (some ⟨q, 0, none⟩) n k1, .int .i64 ((T : Int))] ∧ Only (· = b + 1 + 1) w2 W3) ⟨by simpa using (hb62.set 0 (.slice (some ⟨q, 0, none⟩) n k1)).set 1 (.int .i64 ((T : Int))), (Only.setCell w2 ⟨b + 1 + 1, 0, none⟩ _).trans (Only.setCell _ ⟨b + 1 + 1, 1, none⟩ _)⟩ ?_
      clear hb62
      intro W3 ⟨hb63, ho3⟩
      have r0 := hb63.cell 0
      have r1 := hb63.cell 1
      simp only [List.getElem?_toArray, List.getElem?_cons_zero, List.getElem?_cons_succ] at r0 r1
      have HB63 := Lib.hid hb63
      have HO3 := Lib.hid ho3
      clear hb63 ho3 g0 g1 g2 g3 HSK
      go_wp2
      refine bodyPost_ret (v := .tuple #[.agg #[.slice (some ⟨q, 0, none⟩) n k1, .int .i64 ((T : Int))], .bool true]) (by simp [results, Try.results11, go_sem, r0, r1]) rfl ?_
      have hcl2 : c < b ∧ g < b := by have := HBS.out; omega
      have hcr3 := HCR2.out.only HO3.out (by omega) (by omega)
      have hi2 := HI.out.only HON0.out (fun e => by
        rcases e with e | e
        · exact HI.out.ne HCR.out.blk (by decide) e.symm
        · obtain ⟨cur, _, _, _, hb, _⟩ := HCR.out.prt
          exact HI.out.ne hb (by decide) e.symm)
      have hi3 := hi2.only HO3.out (fun e => by
        have := HI.out.ne HB6.out (by decide); exact this e.symm)
      refine ⟨q, k1, f', T, rfl, by omega, ⟨?_, hi3⟩, ((Only.of_fresh HFW.out).trans HON0.out).trans' HO3.out (fun j hj e => by have := HBS.out; omega)⟩
      exact hcr3
    · have a1 : (kd == 1) = false := by simpa using hk1
      have a2 : (kd == 2) = false := by simpa using hk2
      have HH := Lib.hid h
      clear h hok hk1 hk2
      go_enter Try.func11, Try.ntmps11
      go_wp2_with fail
      refine bodyPost_ret (v := .tuple #[.agg #[.slice (some ⟨p, 0, none⟩) n kk, .int .i64 (T : Int)], .bool true]) (by simp [results, Try.results11, go_sem]) rfl ?_
      refine ⟨p, kk, f, T, rfl, by omega, ⟨HH.out.cr.fresh ?_, HH.out.ints.fresh ?_⟩, Only.of_fresh ?_⟩
      all_goals
        repeat (first | with_reducible exact Fresh.refl _ | with_reducible apply Fresh.allocS | (with_reducible refine Fresh.step2 ?_ ?_; focus (simp; omega)))
end Go.Proofs.Ytnnciekbmapilaa
