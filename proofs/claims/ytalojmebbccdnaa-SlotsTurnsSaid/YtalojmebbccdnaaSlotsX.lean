/-
  The law SlotsTurns: where too few or too many ticks are asked.
-/
import Derived.Test.YtalojmebbccdnaaSlotsU
namespace Go.Proofs.Ytalojmebbccdnaa
set_option linter.unusedVariables false
open Go.RowKit Go.Shelf

set_option maxRecDepth 100000 in
set_option maxHeartbeats 4000000 in
theorem turns_small (f a n s : Int) (h : s < 1 ∨ 200 < s) (w : World) : Calls Try.prog 7 #[.agg #[.int .i64 f, .int .i64 a, .int .i64 n, .int .i64 s]] w (LwT w) := by
  have hs : s < 1 ∨ (¬ s < 1 ∧ 200 < s) := by omega
  clear h
  go_enter Try.func7, Try.ntmps7
  go_upto_region 1 with fail
  refine wp_gen (fun W => Blk W w.heap.size 36 #[.int .i64 f, .int .i64 a, .int .i64 n, .int .i64 s] ∧ Boxed W (w.heap.size + 1) 4 (.bool false) ∧ Below w.heap.size w W ∧ W.heap.size = w.heap.size + 2) ?_ ?_
  · refine ⟨(Blk.new _ _ _).alloc _, ?_, ((Below.refl _ w).alloc (Nat.le_refl _) _).alloc (by simp) _, by simp⟩
    have := Boxed.new (w.alloc (.cells #[.int .i64 f, .int .i64 a, .int .i64 n, .int .i64 s] 36)) 4 (.bool false)
    rwa [World.size_alloc] at this
  rintro W1 ⟨hz1, hr1, hb1, hs1⟩
  generalize hg0 : w.heap.size = g0 at *
  refine wp_region_inv3 (by kernel_rfl) (by kernel_rfl) (by kernel_rfl) (by kernel_rfl) (J1 f a n s g0 W1.heap.size W1) ?_ ?_ ?_
  · intro u
    exact J1.start (Below.drew (Below.refl _ _))
  · intro listed u w' i o Ac hev heo hs ho hun hdep hJ K hK
    have hz : Blk w' g0 36 #[.int .i64 f, .int .i64 a, .int .i64 n, .int .i64 s] := (Below.block hJ.bel g0 hz1.lt).trans hz1
    have hi := (Array.getElem?_eq_some_iff.1 ho).1
    generalize hρ : Ac.eval = ρ at hev heo
    match i, hi, ho with
      | 0, _, ho =>
        simp only [List.getElem?_toArray, List.getElem?_cons_zero, List.getElem?_cons_succ, Option.some.injEq] at ho
        subst ho
        have e0 : ρ (.tmp 1) = .pointer (some ⟨g0, 0, none⟩) := (heo 1 (by kernel_rfl)).trans rfl
        refine inv_val (.pointer (some ⟨g0, 0, none⟩)) ?_ (hK _ _ (hJ.val (hs _ rfl) (by decide) _ rfl))
        rw [hρ]
        simp [execOp, e0, hz.cell 0, hz.cell 1, hz.cell 2, hz.cell 3, go_sem]
      | 1, _, ho =>
        simp only [List.getElem?_toArray, List.getElem?_cons_zero, List.getElem?_cons_succ, Option.some.injEq] at ho
        subst ho
        have d0 : listed.getD 0 false = true := by first | exact hdep _ (by simp) (by kernel_rfl) | exact hdep ⟨0, .data⟩ (by simp) rfl
        have e0 : ρ (.tmp 10) = .pointer (some ⟨g0, 0, none⟩) := (hev 0 10 rfl (by simp)).trans (hJ.vals 0 _ rfl d0)
        refine inv_val (.int .i64 f) ?_ (hK _ _ (hJ.val (hs _ rfl) (by decide) _ rfl))
        rw [hρ]
        simp [execOp, e0, hz.cell 0, hz.cell 1, hz.cell 2, hz.cell 3, go_sem]
      | 2, _, ho =>
        simp only [List.getElem?_toArray, List.getElem?_cons_zero, List.getElem?_cons_succ, Option.some.injEq] at ho
        subst ho
        have e0 : ρ (.tmp 1) = .pointer (some ⟨g0, 0, none⟩) := (heo 1 (by kernel_rfl)).trans rfl
        refine inv_val (.pointer (some ⟨g0, 1, none⟩)) ?_ (hK _ _ (hJ.val (hs _ rfl) (by decide) _ rfl))
        rw [hρ]
        simp [execOp, e0, hz.cell 0, hz.cell 1, hz.cell 2, hz.cell 3, go_sem]
      | 3, _, ho =>
        simp only [List.getElem?_toArray, List.getElem?_cons_zero, List.getElem?_cons_succ, Option.some.injEq] at ho
        subst ho
        have d0 : listed.getD 2 false = true := by first | exact hdep _ (by simp) (by kernel_rfl) | exact hdep ⟨2, .data⟩ (by simp) rfl
        have e0 : ρ (.tmp 12) = .pointer (some ⟨g0, 1, none⟩) := (hev 2 12 rfl (by simp)).trans (hJ.vals 2 _ rfl d0)
        refine inv_val (.int .i64 a) ?_ (hK _ _ (hJ.val (hs _ rfl) (by decide) _ rfl))
        rw [hρ]
        simp [execOp, e0, hz.cell 0, hz.cell 1, hz.cell 2, hz.cell 3, go_sem]
      | 4, _, ho =>
        simp only [List.getElem?_toArray, List.getElem?_cons_zero, List.getElem?_cons_succ, Option.some.injEq] at ho
        subst ho
        have e0 : ρ (.tmp 1) = .pointer (some ⟨g0, 0, none⟩) := (heo 1 (by kernel_rfl)).trans rfl
        refine inv_val (.pointer (some ⟨g0, 2, none⟩)) ?_ (hK _ _ (hJ.val (hs _ rfl) (by decide) _ rfl))
        rw [hρ]
        simp [execOp, e0, hz.cell 0, hz.cell 1, hz.cell 2, hz.cell 3, go_sem]
      | 5, _, ho =>
        simp only [List.getElem?_toArray, List.getElem?_cons_zero, List.getElem?_cons_succ, Option.some.injEq] at ho
        subst ho
        have d0 : listed.getD 4 false = true := by first | exact hdep _ (by simp) (by kernel_rfl) | exact hdep ⟨4, .data⟩ (by simp) rfl
        have e0 : ρ (.tmp 14) = .pointer (some ⟨g0, 2, none⟩) := (hev 4 14 rfl (by simp)).trans (hJ.vals 4 _ rfl d0)
        refine inv_val (.int .i64 n) ?_ (hK _ _ (hJ.val (hs _ rfl) (by decide) _ rfl))
        rw [hρ]
        simp [execOp, e0, hz.cell 0, hz.cell 1, hz.cell 2, hz.cell 3, go_sem]
      | 6, _, ho =>
        simp only [List.getElem?_toArray, List.getElem?_cons_zero, List.getElem?_cons_succ, Option.some.injEq] at ho
        subst ho
        have e0 : ρ (.tmp 1) = .pointer (some ⟨g0, 0, none⟩) := (heo 1 (by kernel_rfl)).trans rfl
        refine inv_val (.pointer (some ⟨g0, 3, none⟩)) ?_ (hK _ _ (hJ.val (hs _ rfl) (by decide) _ rfl))
        rw [hρ]
        simp [execOp, e0, hz.cell 0, hz.cell 1, hz.cell 2, hz.cell 3, go_sem]
      | 7, _, ho =>
        simp only [List.getElem?_toArray, List.getElem?_cons_zero, List.getElem?_cons_succ, Option.some.injEq] at ho
        subst ho
        have d0 : listed.getD 6 false = true := by first | exact hdep _ (by simp) (by kernel_rfl) | exact hdep ⟨6, .data⟩ (by simp) rfl
        have e0 : ρ (.tmp 16) = .pointer (some ⟨g0, 3, none⟩) := (hev 6 16 rfl (by simp)).trans (hJ.vals 6 _ rfl d0)
        refine inv_val (.int .i64 s) ?_ (hK _ _ (hJ.val (hs _ rfl) (by decide) _ rfl))
        rw [hρ]
        simp [execOp, e0, hz.cell 0, hz.cell 1, hz.cell 2, hz.cell 3, go_sem]
      | 8, _, ho =>
        simp only [List.getElem?_toArray, List.getElem?_cons_zero, List.getElem?_cons_succ, Option.some.injEq] at ho
        subst ho
        refine inv_val (.pointer (some ⟨w'.heap.size, 0, none⟩)) ?_ (hK _ _ (hJ.new (Nat.le_refl _) (hs _ rfl) (by decide) (by decide) hun))
        rw [hρ]
        simp [execOp, go_sem]
      | 9, _, ho =>
        simp only [List.getElem?_toArray, List.getElem?_cons_zero, List.getElem?_cons_succ, Option.some.injEq] at ho
        subst ho
        refine inv_val (.pointer (some ⟨w'.heap.size, 0, none⟩)) ?_ (hK _ _ (hJ.new (Nat.le_refl _) (hs _ rfl) (by decide) (by decide) hun))
        rw [hρ]
        simp [execOp, go_sem]
      | 10, _, ho =>
        simp only [List.getElem?_toArray, List.getElem?_cons_zero, List.getElem?_cons_succ, Option.some.injEq] at ho
        subst ho
        refine inv_val (.pointer (some ⟨w'.heap.size, 0, none⟩)) ?_ (hK _ _ (hJ.new (Nat.le_refl _) (hs _ rfl) (by decide) (by decide) hun))
        rw [hρ]
        simp [execOp, go_sem]
      | 11, _, ho =>
        simp only [List.getElem?_toArray, List.getElem?_cons_zero, List.getElem?_cons_succ, Option.some.injEq] at ho
        subst ho
        refine inv_val (.pointer (some ⟨w'.heap.size, 0, none⟩)) ?_ (hK _ _ (hJ.new (Nat.le_refl _) (hs _ rfl) (by decide) (by decide) hun))
        rw [hρ]
        simp [execOp, go_sem]
      | 12, _, ho =>
        simp only [List.getElem?_toArray, List.getElem?_cons_zero, List.getElem?_cons_succ, Option.some.injEq] at ho
        subst ho
        have d0 : listed.getD 8 false = true := hdep ⟨8, .data⟩ (by simp) rfl
        have d1 : listed.getD 1 false = true := hdep ⟨1, .data⟩ (by simp) rfl
        obtain ⟨b, hb1, hb2, hb3⟩ := hJ.box 8 (by decide) (by decide) d0
        have e0 : ρ (.tmp 3) = .pointer (some ⟨b, 0, none⟩) := (hev 8 3 rfl (by simp)).trans hb1
        have e1 : ρ (.tmp 11) = .int .i64 f := (hev 1 11 rfl (by simp)).trans (hJ.vals 1 _ rfl d1)
        have hc := hb3.cell
        have hq := hb3.frozen
        refine inv_skip ?_ (hK _ _ (hJ.put (hs _ rfl) (by decide) (by decide) d0 hb1 hb2 _))
        rw [hρ]
        simp [execOp, e0, e1, hc, hq, stT, go_sem]
      | 13, _, ho =>
        simp only [List.getElem?_toArray, List.getElem?_cons_zero, List.getElem?_cons_succ, Option.some.injEq] at ho
        subst ho
        have d0 : listed.getD 9 false = true := hdep ⟨9, .data⟩ (by simp) rfl
        have d1 : listed.getD 3 false = true := hdep ⟨3, .data⟩ (by simp) rfl
        obtain ⟨b, hb1, hb2, hb3⟩ := hJ.box 9 (by decide) (by decide) d0
        have e0 : ρ (.tmp 4) = .pointer (some ⟨b, 0, none⟩) := (hev 9 4 rfl (by simp)).trans hb1
        have e1 : ρ (.tmp 13) = .int .i64 a := (hev 3 13 rfl (by simp)).trans (hJ.vals 3 _ rfl d1)
        have hc := hb3.cell
        have hq := hb3.frozen
        refine inv_skip ?_ (hK _ _ (hJ.put (hs _ rfl) (by decide) (by decide) d0 hb1 hb2 _))
        rw [hρ]
        simp [execOp, e0, e1, hc, hq, stT, go_sem]
      | 14, _, ho =>
        simp only [List.getElem?_toArray, List.getElem?_cons_zero, List.getElem?_cons_succ, Option.some.injEq] at ho
        subst ho
        have d0 : listed.getD 10 false = true := hdep ⟨10, .data⟩ (by simp) rfl
        have d1 : listed.getD 5 false = true := hdep ⟨5, .data⟩ (by simp) rfl
        obtain ⟨b, hb1, hb2, hb3⟩ := hJ.box 10 (by decide) (by decide) d0
        have e0 : ρ (.tmp 5) = .pointer (some ⟨b, 0, none⟩) := (hev 10 5 rfl (by simp)).trans hb1
        have e1 : ρ (.tmp 15) = .int .i64 n := (hev 5 15 rfl (by simp)).trans (hJ.vals 5 _ rfl d1)
        have hc := hb3.cell
        have hq := hb3.frozen
        refine inv_skip ?_ (hK _ _ (hJ.put (hs _ rfl) (by decide) (by decide) d0 hb1 hb2 _))
        rw [hρ]
        simp [execOp, e0, e1, hc, hq, stT, go_sem]
      | 15, _, ho =>
        simp only [List.getElem?_toArray, List.getElem?_cons_zero, List.getElem?_cons_succ, Option.some.injEq] at ho
        subst ho
        have d0 : listed.getD 11 false = true := hdep ⟨11, .data⟩ (by simp) rfl
        have d1 : listed.getD 7 false = true := hdep ⟨7, .data⟩ (by simp) rfl
        obtain ⟨b, hb1, hb2, hb3⟩ := hJ.box 11 (by decide) (by decide) d0
        have e0 : ρ (.tmp 6) = .pointer (some ⟨b, 0, none⟩) := (hev 11 6 rfl (by simp)).trans hb1
        have e1 : ρ (.tmp 17) = .int .i64 s := (hev 7 17 rfl (by simp)).trans (hJ.vals 7 _ rfl d1)
        have hc := hb3.cell
        have hq := hb3.frozen
        refine inv_skip ?_ (hK _ _ (hJ.put (hs _ rfl) (by decide) (by decide) d0 hb1 hb2 _))
        rw [hρ]
        simp [execOp, e0, e1, hc, hq, stT, go_sem]
      | n + 16, hi, _ => exact absurd hi (by simp)
  · intro listed u W2 hl hJ
    have hall : ∀ i, i < 16 → listed.getD i false = true := hl
    obtain ⟨b1, u8, B1, x1⟩ := hJ.box 8 (by decide) (by decide) (hall 8 (by decide))
    obtain ⟨b2, u9, B2, x2⟩ := hJ.box 9 (by decide) (by decide) (hall 9 (by decide))
    obtain ⟨b3, u10, B3, x3⟩ := hJ.box 10 (by decide) (by decide) (hall 10 (by decide))
    obtain ⟨b4, u11, B4, x4⟩ := hJ.box 11 (by decide) (by decide) (hall 11 (by decide))
    rw [if_pos (hall 12 (by decide))] at x1
    rw [if_pos (hall 13 (by decide))] at x2
    rw [if_pos (hall 14 (by decide))] at x3
    rw [if_pos (hall 15 (by decide))] at x4
    have n12 := hJ.ne 8 9 (by decide) (by decide) (by decide) (by decide) (by decide) (hall 8 (by decide)) (hall 9 (by decide))
    generalize hact : actOf _ _ u _ = act
    have ha : act = { tmps := #[.agg #[.int .i64 f, .int .i64 a, .int .i64 n, .int .i64 s], .pointer (some ⟨g0, 0, none⟩), .pointer (some ⟨g0 + 1, 0, none⟩), u 8, u 9, u 10, u 11, undef, undef, undef, u 0, u 1, u 2, u 3, u 4, u 5, u 6, u 7, undef, undef, undef, undef, undef, undef, undef, undef, undef, undef, undef, undef, undef, undef, undef, undef, undef, undef, undef, undef, undef, undef, undef, undef, undef, undef, undef, undef, undef, undef, undef, undef, undef, undef, undef, undef, undef, undef, undef, undef, undef, undef, undef, undef, undef, undef, undef, undef, undef, undef, undef, undef, undef, undef, undef, undef, undef, undef, undef, undef, undef, undef, undef, undef, undef, undef, undef, undef, undef, undef, undef, undef, undef, undef, undef, undef, undef, undef, undef, undef, undef, undef, undef, undef], defers := [] } := by rw [← hact]; kernel_rfl
    subst ha
    clear hact
    rw [u8, u9, u10, u11, hJ.vals 0 _ rfl (hall 0 (by decide)), hJ.vals 1 _ rfl (hall 1 (by decide)), hJ.vals 2 _ rfl (hall 2 (by decide)), hJ.vals 3 _ rfl (hall 3 (by decide)), hJ.vals 4 _ rfl (hall 4 (by decide)), hJ.vals 5 _ rfl (hall 5 (by decide)), hJ.vals 6 _ rfl (hall 6 (by decide)), hJ.vals 7 _ rfl (hall 7 (by decide))]
    dsimp only
    have y1 : Boxed W2 b1 3 (.int .i64 f) := by simpa [stT] using x1
    have y2 : Boxed W2 b2 3 (.int .i64 a) := by simpa [stT] using x2
    have y3 : Boxed W2 b3 3 (.int .i64 n) := by simpa [stT] using x3
    have y4 : Boxed W2 b4 3 (.int .i64 s) := by simpa [stT] using x4
    have hr2 : Boxed W2 (g0 + 1) 4 (.bool false) := (Below.block hJ.bel _ hr1.lt).trans hr1
    have hb2 : Below g0 w W2 := Below.trans hb1 (hJ.bel.mono (by omega))
    rw [hs1] at B1 B2 B3 B4
    clear x1 x2 x3 x4 n12 u8 u9 u10 u11 hall hl hJ hz1 hr1 hb1
    have HB2 : Hid (∀ W3, Fresh W2 W3 → Boxed W3 (g0 + 1) 4 (.bool false) ∧ Below g0 w W3) := Lib.hid (fun W3 h => ⟨(Below.block h _ hr2.lt).trans hr2, Below.trans hb2 (h.mono (by have := hb2.size; omega))⟩)
    have c4 := y4.cell
    clear y1 y2 y3 y4 hr2 hb2
    rcases hs with h | ⟨h, h'⟩
    · have d0 : decide (s < 1) = true := decide_eq_true h
      go_wp2_with fail
      with_reducible refine (awake_true _).mono ?_
      rintro e W3 ⟨rfl, hf3⟩
      obtain ⟨d1, d2⟩ := HB2.out W3 hf3
      have p1 := d1.cell
      have p2 := d1.frozen
      have p3 := (d1.set (.bool true)).cell
      clear hf3 c4
      go_wp2
      refine bodyPost_ret (v := .bool true) (by simp [results, Try.f7, go_sem, p3]) rfl ?_
      exact ⟨rfl, by rw [hg0]; exact d2.setCell (p := ⟨g0 + 1, 0, none⟩) (by simp) _⟩
    · have d0 : decide (s < 1) = false := decide_eq_false h
      have d0' : decide (200 < s) = true := decide_eq_true h'
      go_wp2_with fail
      with_reducible refine (awake_true _).mono ?_
      rintro e W3 ⟨rfl, hf3⟩
      obtain ⟨d1, d2⟩ := HB2.out W3 hf3
      have p1 := d1.cell
      have p2 := d1.frozen
      have p3 := (d1.set (.bool true)).cell
      clear hf3 c4
      go_wp2
      refine bodyPost_ret (v := .bool true) (by simp [results, Try.f7, go_sem, p3]) rfl ?_
      exact ⟨rfl, by rw [hg0]; exact d2.setCell (p := ⟨g0 + 1, 0, none⟩) (by simp) _⟩
end Go.Proofs.Ytalojmebbccdnaa
