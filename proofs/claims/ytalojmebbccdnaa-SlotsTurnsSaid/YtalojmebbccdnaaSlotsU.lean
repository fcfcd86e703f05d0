/-
  The law SlotsTurns: its walk.
-/
import Derived.Test.YtalojmebbccdnaaSlotsR
import Derived.Test.YtalojmebbccdnaaVal
import Derived.RegionTactic
import Derived.Deep.Cut
import Derived.Sort.CutIn
import Derived.Stop.RegionWithIn
import Derived.BigRegion
import Derived.BigQuiet
namespace Go.Proofs.Ytalojmebbccdnaa
set_option linter.unusedVariables false
set_option linter.unusedSimpArgs false
open Go.RowKit Go.Shelf

attribute [local go_sem] Oper.semAt_some

theorem wide_fn (k : Nat) : Fence.wide.fn k = True := rfl
attribute [local go_sem] wide_fn
def atT (a f n : Int) : Nat → Int
  | 0 => 0
  | m + 1 => tkT a f n m
theorem ticks_ex (a f n : Int) (h : OkT a f n) : ∃ K : Nat, 1 ≤ K ∧ (∀ j, j < K → tkT a f n j ≤ 1073741823) ∧ 1073741823 < tkT a f n K := by
  obtain ⟨R0, R1, R2, R3, R4, R5, R6⟩ := h
  have hex : ∃ k : Nat, 1073741823 < tkT a f n k := ⟨1073741824, by
    have := tkT_mono a f n R2 (Nat.zero_le 1073741824)
    have h0 := tkT_ge a f n R2 R0 R4 R5 0
    omega⟩
  have : ∀ m : Nat, 1073741823 < tkT a f n m → ∃ K : Nat, (∀ j, j < K → tkT a f n j ≤ 1073741823) ∧ 1073741823 < tkT a f n K := by
    intro m
    induction m using Nat.strongRecOn with
    | ind m ih =>
      intro hm
      by_cases hx : ∃ j, j < m ∧ 1073741823 < tkT a f n j
      · obtain ⟨j, hj, h⟩ := hx
        exact ih j hj h
      · exact ⟨m, fun j hj => by
          rcases Int.lt_or_le 1073741823 (tkT a f n j) with h | h
          · exact absurd ⟨j, hj, h⟩ hx
          · exact h, hm⟩
  obtain ⟨k, hk⟩ := hex
  obtain ⟨K, h1, h2⟩ := this k hk
  refine ⟨K, ?_, h1, h2⟩
  rcases Nat.eq_zero_or_pos K with e | e
  · subst e
    rw [tkT_zero] at h2
    omega
  · exact e
def LwT (w : World) (e : Ending) (w' : World) : Prop := e = .returned (.bool true) ∧ Below w.heap.size w w'
set_option maxRecDepth 1000000 in
set_option maxHeartbeats 4000000 in
theorem turns_ok (f a n s : Int) (h0 : 1 ≤ s) (h1 : s ≤ 200) (w : World) : Calls Try.prog 7 #[.agg #[.int .i64 f, .int .i64 a, .int .i64 n, .int .i64 s]] w (LwT w) := by
  refine (callsIn_wide (n := 6)).1 ?_
  refine callsIn_of_wp_marks Try.func7 rfl trivial ?_ rfl
  simp only [Try.ntmps7, List.size_toArray, List.length_cons, List.length_nil, Nat.reduceAdd, Nat.reduceSub, Array.replicate_succ, Array.replicate_zero, List.push_toArray, List.append_toArray, List.nil_append, List.cons_append]
  refine wpIn_wide.2 ?_
  go_upto_region 1 with fail
  refine wp_gen (fun W => Blk W w.heap.size 36 #[.int .i64 f, .int .i64 a, .int .i64 n, .int .i64 s] ∧ Boxed W (w.heap.size + 1) 4 (.bool false) ∧ Below w.heap.size w W ∧ W.heap.size = w.heap.size + 2) ?_ ?_
  · refine ⟨(Blk.new _ _ _).alloc _, ?_, ((Below.refl _ w).alloc (Nat.le_refl _) _).alloc (by simp) _, by simp⟩
    have := Boxed.new (w.alloc (.cells #[.int .i64 f, .int .i64 a, .int .i64 n, .int .i64 s] 36)) 4 (.bool false)
    rwa [World.size_alloc] at this
  rintro W1 ⟨hz1, hr1, hb1, hs1⟩
  generalize hg0 : w.heap.size = g0 at *
  refine wp_region_inv3 (by kernel_rfl) (by kernel_rfl) (by kernel_rfl) (by kernel_rfl) (J1 f a n s g0 W1.heap.size W1) ?_ ?_ ?_
  · intro u
    exact J1.start (Below.drew (Below.refl _ _))
  · intro listed u w' i o Ac hev heo hs ho hun hdep hJ K hK
    have hz : Blk w' g0 36 #[.int .i64 f, .int .i64 a, .int .i64 n, .int .i64 s] := (Below.block hJ.bel g0 hz1.lt).trans hz1
    have hi := (Array.getElem?_eq_some_iff.1 ho).1
    generalize hρ : Ac.eval = ρ at hev heo
    match i, hi, ho with
      | 0, _, ho =>
        simp only [List.getElem?_toArray, List.getElem?_cons_zero, List.getElem?_cons_succ, Option.some.injEq] at ho
        subst ho
        have e0 : ρ (.tmp 1) = .pointer (some ⟨g0, 0, none⟩) := (heo 1 (by kernel_rfl)).trans rfl
        refine inv_val (.pointer (some ⟨g0, 0, none⟩)) ?_ (hK _ _ (hJ.val (hs _ rfl) (by decide) _ rfl))
        rw [hρ]
        simp [execOp, e0, hz.cell 0, hz.cell 1, hz.cell 2, hz.cell 3, go_sem]
      | 1, _, ho =>
        simp only [List.getElem?_toArray, List.getElem?_cons_zero, List.getElem?_cons_succ, Option.some.injEq] at ho
        subst ho
        have d0 : listed.getD 0 false = true := by first | exact hdep _ (by simp) (by kernel_rfl) | exact hdep ⟨0, .data⟩ (by simp) rfl
        have e0 : ρ (.tmp 10) = .pointer (some ⟨g0, 0, none⟩) := (hev 0 10 rfl (by simp)).trans (hJ.vals 0 _ rfl d0)
        refine inv_val (.int .i64 f) ?_ (hK _ _ (hJ.val (hs _ rfl) (by decide) _ rfl))
        rw [hρ]
        simp [execOp, e0, hz.cell 0, hz.cell 1, hz.cell 2, hz.cell 3, go_sem]
      | 2, _, ho =>
        simp only [List.getElem?_toArray, List.getElem?_cons_zero, List.getElem?_cons_succ, Option.some.injEq] at ho
        subst ho
        have e0 : ρ (.tmp 1) = .pointer (some ⟨g0, 0, none⟩) := (heo 1 (by kernel_rfl)).trans rfl
        refine inv_val (.pointer (some ⟨g0, 1, none⟩)) ?_ (hK _ _ (hJ.val (hs _ rfl) (by decide) _ rfl))
        rw [hρ]
        simp [execOp, e0, hz.cell 0, hz.cell 1, hz.cell 2, hz.cell 3, go_sem]
      | 3, _, ho =>
        simp only [List.getElem?_toArray, List.getElem?_cons_zero, List.getElem?_cons_succ, Option.some.injEq] at ho
        subst ho
        have d0 : listed.getD 2 false = true := by first | exact hdep _ (by simp) (by kernel_rfl) | exact hdep ⟨2, .data⟩ (by simp) rfl
        have e0 : ρ (.tmp 12) = .pointer (some ⟨g0, 1, none⟩) := (hev 2 12 rfl (by simp)).trans (hJ.vals 2 _ rfl d0)
        refine inv_val (.int .i64 a) ?_ (hK _ _ (hJ.val (hs _ rfl) (by decide) _ rfl))
        rw [hρ]
        simp [execOp, e0, hz.cell 0, hz.cell 1, hz.cell 2, hz.cell 3, go_sem]
      | 4, _, ho =>
        simp only [List.getElem?_toArray, List.getElem?_cons_zero, List.getElem?_cons_succ, Option.some.injEq] at ho
        subst ho
        have e0 : ρ (.tmp 1) = .pointer (some ⟨g0, 0, none⟩) := (heo 1 (by kernel_rfl)).trans rfl
        refine inv_val (.pointer (some ⟨g0, 2, none⟩)) ?_ (hK _ _ (hJ.val (hs _ rfl) (by decide) _ rfl))
        rw [hρ]
        simp [execOp, e0, hz.cell 0, hz.cell 1, hz.cell 2, hz.cell 3, go_sem]
      | 5, _, ho =>
        simp only [List.getElem?_toArray, List.getElem?_cons_zero, List.getElem?_cons_succ, Option.some.injEq] at ho
        subst ho
        have d0 : listed.getD 4 false = true := by first | exact hdep _ (by simp) (by kernel_rfl) | exact hdep ⟨4, .data⟩ (by simp) rfl
        have e0 : ρ (.tmp 14) = .pointer (some ⟨g0, 2, none⟩) := (hev 4 14 rfl (by simp)).trans (hJ.vals 4 _ rfl d0)
        refine inv_val (.int .i64 n) ?_ (hK _ _ (hJ.val (hs _ rfl) (by decide) _ rfl))
        rw [hρ]
        simp [execOp, e0, hz.cell 0, hz.cell 1, hz.cell 2, hz.cell 3, go_sem]
      | 6, _, ho =>
        simp only [List.getElem?_toArray, List.getElem?_cons_zero, List.getElem?_cons_succ, Option.some.injEq] at ho
        subst ho
        have e0 : ρ (.tmp 1) = .pointer (some ⟨g0, 0, none⟩) := (heo 1 (by kernel_rfl)).trans rfl
        refine inv_val (.pointer (some ⟨g0, 3, none⟩)) ?_ (hK _ _ (hJ.val (hs _ rfl) (by decide) _ rfl))
        rw [hρ]
        simp [execOp, e0, hz.cell 0, hz.cell 1, hz.cell 2, hz.cell 3, go_sem]
      | 7, _, ho =>
        simp only [List.getElem?_toArray, List.getElem?_cons_zero, List.getElem?_cons_succ, Option.some.injEq] at ho
        subst ho
        have d0 : listed.getD 6 false = true := by first | exact hdep _ (by simp) (by kernel_rfl) | exact hdep ⟨6, .data⟩ (by simp) rfl
        have e0 : ρ (.tmp 16) = .pointer (some ⟨g0, 3, none⟩) := (hev 6 16 rfl (by simp)).trans (hJ.vals 6 _ rfl d0)
        refine inv_val (.int .i64 s) ?_ (hK _ _ (hJ.val (hs _ rfl) (by decide) _ rfl))
        rw [hρ]
        simp [execOp, e0, hz.cell 0, hz.cell 1, hz.cell 2, hz.cell 3, go_sem]
      | 8, _, ho =>
        simp only [List.getElem?_toArray, List.getElem?_cons_zero, List.getElem?_cons_succ, Option.some.injEq] at ho
        subst ho
        refine inv_val (.pointer (some ⟨w'.heap.size, 0, none⟩)) ?_ (hK _ _ (hJ.new (Nat.le_refl _) (hs _ rfl) (by decide) (by decide) hun))
        rw [hρ]
        simp [execOp, go_sem]
      | 9, _, ho =>
        simp only [List.getElem?_toArray, List.getElem?_cons_zero, List.getElem?_cons_succ, Option.some.injEq] at ho
        subst ho
        refine inv_val (.pointer (some ⟨w'.heap.size, 0, none⟩)) ?_ (hK _ _ (hJ.new (Nat.le_refl _) (hs _ rfl) (by decide) (by decide) hun))
        rw [hρ]
        simp [execOp, go_sem]
      | 10, _, ho =>
        simp only [List.getElem?_toArray, List.getElem?_cons_zero, List.getElem?_cons_succ, Option.some.injEq] at ho
        subst ho
        refine inv_val (.pointer (some ⟨w'.heap.size, 0, none⟩)) ?_ (hK _ _ (hJ.new (Nat.le_refl _) (hs _ rfl) (by decide) (by decide) hun))
        rw [hρ]
        simp [execOp, go_sem]
      | 11, _, ho =>
        simp only [List.getElem?_toArray, List.getElem?_cons_zero, List.getElem?_cons_succ, Option.some.injEq] at ho
        subst ho
        refine inv_val (.pointer (some ⟨w'.heap.size, 0, none⟩)) ?_ (hK _ _ (hJ.new (Nat.le_refl _) (hs _ rfl) (by decide) (by decide) hun))
        rw [hρ]
        simp [execOp, go_sem]
      | 12, _, ho =>
        simp only [List.getElem?_toArray, List.getElem?_cons_zero, List.getElem?_cons_succ, Option.some.injEq] at ho
        subst ho
        have d0 : listed.getD 8 false = true := hdep ⟨8, .data⟩ (by simp) rfl
        have d1 : listed.getD 1 false = true := hdep ⟨1, .data⟩ (by simp) rfl
        obtain ⟨b, hb1, hb2, hb3⟩ := hJ.box 8 (by decide) (by decide) d0
        have e0 : ρ (.tmp 3) = .pointer (some ⟨b, 0, none⟩) := (hev 8 3 rfl (by simp)).trans hb1
        have e1 : ρ (.tmp 11) = .int .i64 f := (hev 1 11 rfl (by simp)).trans (hJ.vals 1 _ rfl d1)
        have hc := hb3.cell
        have hq := hb3.frozen
        refine inv_skip ?_ (hK _ _ (hJ.put (hs _ rfl) (by decide) (by decide) d0 hb1 hb2 _))
        rw [hρ]
        simp [execOp, e0, e1, hc, hq, stT, go_sem]
      | 13, _, ho =>
        simp only [List.getElem?_toArray, List.getElem?_cons_zero, List.getElem?_cons_succ, Option.some.injEq] at ho
        subst ho
        have d0 : listed.getD 9 false = true := hdep ⟨9, .data⟩ (by simp) rfl
        have d1 : listed.getD 3 false = true := hdep ⟨3, .data⟩ (by simp) rfl
        obtain ⟨b, hb1, hb2, hb3⟩ := hJ.box 9 (by decide) (by decide) d0
        have e0 : ρ (.tmp 4) = .pointer (some ⟨b, 0, none⟩) := (hev 9 4 rfl (by simp)).trans hb1
        have e1 : ρ (.tmp 13) = .int .i64 a := (hev 3 13 rfl (by simp)).trans (hJ.vals 3 _ rfl d1)
        have hc := hb3.cell
        have hq := hb3.frozen
        refine inv_skip ?_ (hK _ _ (hJ.put (hs _ rfl) (by decide) (by decide) d0 hb1 hb2 _))
        rw [hρ]
        simp [execOp, e0, e1, hc, hq, stT, go_sem]
      | 14, _, ho =>
        simp only [List.getElem?_toArray, List.getElem?_cons_zero, List.getElem?_cons_succ, Option.some.injEq] at ho
        subst ho
        have d0 : listed.getD 10 false = true := hdep ⟨10, .data⟩ (by simp) rfl
        have d1 : listed.getD 5 false = true := hdep ⟨5, .data⟩ (by simp) rfl
        obtain ⟨b, hb1, hb2, hb3⟩ := hJ.box 10 (by decide) (by decide) d0
        have e0 : ρ (.tmp 5) = .pointer (some ⟨b, 0, none⟩) := (hev 10 5 rfl (by simp)).trans hb1
        have e1 : ρ (.tmp 15) = .int .i64 n := (hev 5 15 rfl (by simp)).trans (hJ.vals 5 _ rfl d1)
        have hc := hb3.cell
        have hq := hb3.frozen
        refine inv_skip ?_ (hK _ _ (hJ.put (hs _ rfl) (by decide) (by decide) d0 hb1 hb2 _))
        rw [hρ]
        simp [execOp, e0, e1, hc, hq, stT, go_sem]
      | 15, _, ho =>
        simp only [List.getElem?_toArray, List.getElem?_cons_zero, List.getElem?_cons_succ, Option.some.injEq] at ho
        subst ho
        have d0 : listed.getD 11 false = true := hdep ⟨11, .data⟩ (by simp) rfl
        have d1 : listed.getD 7 false = true := hdep ⟨7, .data⟩ (by simp) rfl
        obtain ⟨b, hb1, hb2, hb3⟩ := hJ.box 11 (by decide) (by decide) d0
        have e0 : ρ (.tmp 6) = .pointer (some ⟨b, 0, none⟩) := (hev 11 6 rfl (by simp)).trans hb1
        have e1 : ρ (.tmp 17) = .int .i64 s := (hev 7 17 rfl (by simp)).trans (hJ.vals 7 _ rfl d1)
        have hc := hb3.cell
        have hq := hb3.frozen
        refine inv_skip ?_ (hK _ _ (hJ.put (hs _ rfl) (by decide) (by decide) d0 hb1 hb2 _))
        rw [hρ]
        simp [execOp, e0, e1, hc, hq, stT, go_sem]
      | n + 16, hi, _ => exact absurd hi (by simp)
  · intro listed u W2 hl hJ
    have hall : ∀ i, i < 16 → listed.getD i false = true := hl
    obtain ⟨b1, u8, B1, x1⟩ := hJ.box 8 (by decide) (by decide) (hall 8 (by decide))
    obtain ⟨b2, u9, B2, x2⟩ := hJ.box 9 (by decide) (by decide) (hall 9 (by decide))
    obtain ⟨b3, u10, B3, x3⟩ := hJ.box 10 (by decide) (by decide) (hall 10 (by decide))
    obtain ⟨b4, u11, B4, x4⟩ := hJ.box 11 (by decide) (by decide) (hall 11 (by decide))
    rw [if_pos (hall 12 (by decide))] at x1
    rw [if_pos (hall 13 (by decide))] at x2
    rw [if_pos (hall 14 (by decide))] at x3
    rw [if_pos (hall 15 (by decide))] at x4
    have n12 := hJ.ne 8 9 (by decide) (by decide) (by decide) (by decide) (by decide) (hall 8 (by decide)) (hall 9 (by decide))
    generalize hact : actOf _ _ u _ = act
    have ha : act = { tmps := #[.agg #[.int .i64 f, .int .i64 a, .int .i64 n, .int .i64 s], .pointer (some ⟨g0, 0, none⟩), .pointer (some ⟨g0 + 1, 0, none⟩), u 8, u 9, u 10, u 11, undef, undef, undef, u 0, u 1, u 2, u 3, u 4, u 5, u 6, u 7, undef, undef, undef, undef, undef, undef, undef, undef, undef, undef, undef, undef, undef, undef, undef, undef, undef, undef, undef, undef, undef, undef, undef, undef, undef, undef, undef, undef, undef, undef, undef, undef, undef, undef, undef, undef, undef, undef, undef, undef, undef, undef, undef, undef, undef, undef, undef, undef, undef, undef, undef, undef, undef, undef, undef, undef, undef, undef, undef, undef, undef, undef, undef, undef, undef, undef, undef, undef, undef, undef, undef, undef, undef, undef, undef, undef, undef, undef, undef, undef, undef, undef, undef, undef], defers := [] } := by rw [← hact]; kernel_rfl
    subst ha
    clear hact
    rw [u8, u9, u10, u11, hJ.vals 0 _ rfl (hall 0 (by decide)), hJ.vals 1 _ rfl (hall 1 (by decide)), hJ.vals 2 _ rfl (hall 2 (by decide)), hJ.vals 3 _ rfl (hall 3 (by decide)), hJ.vals 4 _ rfl (hall 4 (by decide)), hJ.vals 5 _ rfl (hall 5 (by decide)), hJ.vals 6 _ rfl (hall 6 (by decide)), hJ.vals 7 _ rfl (hall 7 (by decide))]
    dsimp only
    have y1 : Boxed W2 b1 3 (.int .i64 f) := by simpa [stT] using x1
    have y2 : Boxed W2 b2 3 (.int .i64 a) := by simpa [stT] using x2
    have y3 : Boxed W2 b3 3 (.int .i64 n) := by simpa [stT] using x3
    have y4 : Boxed W2 b4 3 (.int .i64 s) := by simpa [stT] using x4
    have hr2 : Boxed W2 (g0 + 1) 4 (.bool false) := (Below.block hJ.bel _ hr1.lt).trans hr1
    have hb2 : Below g0 w W2 := Below.trans hb1 (hJ.bel.mono (by omega))
    rw [hs1] at B1 B2 B3 B4
    clear x1 x2 x3 x4 n12 u8 u9 u10 u11 hall hl hJ hz1 hr1 hb1
    have HB2 : Hid (∀ W3, Fresh W2 W3 → (Boxed W3 b1 3 (.int .i64 f) ∧ Boxed W3 b2 3 (.int .i64 a) ∧ Boxed W3 b3 3 (.int .i64 n) ∧ Boxed W3 b4 3 (.int .i64 s) ∧ Boxed W3 (g0 + 1) 4 (.bool false)) ∧ Below g0 w W3) := Lib.hid (fun W3 h => ⟨⟨(Below.block h _ y1.lt).trans y1, (Below.block h _ y2.lt).trans y2, (Below.block h _ y3.lt).trans y3, (Below.block h _ y4.lt).trans y4, (Below.block h _ hr2.lt).trans hr2⟩, Below.trans hb2 (h.mono (by have := hb2.size; omega))⟩)
    have c4 := y4.cell
    have d0 : decide (s < 1) = false := decide_eq_false (by omega)
    have d1 : decide (200 < s) = false := decide_eq_false (by omega)
    have HSS := Lib.hid (And.intro h0 h1)
    clear y1 y2 y3 y4 hr2 hb2 h0 h1
    go_wp2_with fail
    with_reducible refine (awake_true _).mono ?_
    rintro e W3 ⟨rfl, hf3⟩
    have HB3 := Lib.hid (HB2.out W3 hf3)
    clear hf3 HB2 c4 d0 d1
    go_upto_region 5 with fail
    obtain ⟨⟨y1, y2, y3, y4, yr⟩, hb3⟩ := HB3.out
    have l1 := y1.lt
    have l2 := y2.lt
    have l3 := y3.lt
    have l4 := y4.lt
    have lr := yr.lt
    clear HB3
    refine wp_gen (fun W => (Boxed W b1 3 (.int .i64 f) ∧ Boxed W b2 3 (.int .i64 a) ∧ Boxed W b3 3 (.int .i64 n) ∧ Boxed W b4 3 (.int .i64 s) ∧ Boxed W (g0 + 1) 4 (.bool false)) ∧ (Boxed W W3.heap.size 3 (.int .i64 0) ∧ Boxed W (W3.heap.size + 1) 3 (.int .i64 0)) ∧ Below g0 w W ∧ W.heap.size = W3.heap.size + 2) ?_ ?_
    · have z1 := Boxed.new W3 3 (.int .i64 0)
      have z2 := Boxed.new (W3.alloc (.cells #[.int .i64 0] 3)) 3 (.int .i64 0)
      rw [World.size_alloc] at z2
      have z3 := hb3.alloc (o := .cells #[.int .i64 0] 3) (by have := hb3.size; omega)
      exact ⟨⟨(y1.alloc _).alloc _, (y2.alloc _).alloc _, (y3.alloc _).alloc _, (y4.alloc _).alloc _, (yr.alloc _).alloc _⟩, ⟨z1.alloc _, z2⟩, z3.alloc (by have := z3.size; omega) _, by simp⟩
    rintro W4 ⟨⟨y1, y2, y3, y4, yr⟩, ⟨z1, z2⟩, hb4, hs4⟩
    generalize W3.heap.size = p7 at *
    have HT := Lib.hid (turns_ret f a n W4)
    have HB4 := Lib.hid (And.intro (And.intro y4 yr) (And.intro z1 (And.intro z2 hb4)))
    have c1 := y1.cell
    have c2 := y2.cell
    have c3 := y3.cell
    rw [hs4] at HT
    go_wp2_with fail
    with_reducible refine HT.out.mono ?_
    rintro e W5 ⟨rfl, rfl⟩
    obtain ⟨⟨_, _⟩, _, _, _⟩ := HB4.out
    go_wp2_with fail
    refine wp_gen (fun W => (Boxed W b1 3 (.int .i64 f) ∧ Boxed W b2 3 (.int .i64 a) ∧ Boxed W b3 3 (.int .i64 n) ∧ Boxed W b4 3 (.int .i64 s) ∧ Boxed W (g0 + 1) 4 (.bool false)) ∧ (Boxed W p7 3 (.int .i64 0) ∧ Boxed W (p7 + 1) 3 (.int .i64 0)) ∧ Below g0 w W ∧ BxT W (p7 + 2) f a n ∧ W.heap.size = p7 + 5) ?_ ?_
    · have q1 := Boxed.new W4 3 (.int .i64 f)
      have q2 := Boxed.new (W4.alloc (.cells #[.int .i64 f] 3)) 3 (.int .i64 a)
      have q3 := Boxed.new ((W4.alloc (.cells #[.int .i64 f] 3)).alloc (.cells #[.int .i64 a] 3)) 3 (.int .i64 n)
      simp only [World.size_alloc, hs4] at q1 q2 q3
      have w1 := hb4.alloc (o := .cells #[.int .i64 f] 3) (by have := hb4.size; omega)
      have w2 := w1.alloc (o := .cells #[.int .i64 a] 3) (by have := w1.size; omega)
      exact ⟨⟨((y1.alloc _).alloc _).alloc _, ((y2.alloc _).alloc _).alloc _, ((y3.alloc _).alloc _).alloc _, ((y4.alloc _).alloc _).alloc _, ((yr.alloc _).alloc _).alloc _⟩, ⟨((z1.alloc _).alloc _).alloc _, ((z2.alloc _).alloc _).alloc _⟩, w2.alloc (by have := w2.size; omega) _, ⟨(q1.alloc _).alloc _, q2.alloc _, q3⟩, by simp [hs4]⟩
    clear c1 c2 c3 HT HB4 y1 y2 y3 y4 yr z1 z2 hb4 hs4
    rintro W5 ⟨⟨y1, y2, y3, y4, yr⟩, ⟨z1, z2⟩, hb5, hq, hs5⟩
    refine (wpIn_wide (n := 6)).1 ?_
    have hKt : ∀ {A B C : World}, KpT (p7 + 2) A B → KpT (p7 + 2) B C → KpT (p7 + 2) A C := fun h k b x y => (k b x y).trans (h b x y)
    have hKb : ∀ (W : World) (l : Nat) (o o' : Obj), W5.heap.size ≤ l → W.heap[l]? = some o → o.isCells = false → o.isWalk = false → KpT (p7 + 2) W (W.putObj l o') := fun W l o o' hl ho _ _ b x y => by
      have hlt := (Array.getElem?_eq_some_iff.1 ho).1
      exact (grownBy_putObj' W l o').block b (by omega) (fun e => by cases e; omega)
    by_cases hok : OkT a f n
    · obtain ⟨K, hK0, hK1, hK2⟩ := ticks_ex a f n hok
      refine wpIn_rangeFunc_ownH rfl (by omega) (gf := 23) (lb := #[.pointer (some ⟨p7 + 2 + 1, 0, none⟩), .pointer (some ⟨p7 + 2, 0, none⟩), .pointer (some ⟨p7 + 2 + 2, 0, none⟩)]) rfl trivial (enters_of Try.func23 (by kernel_rfl) rfl)
        (turns_yes 5 (by omega) f a n (p7 + 2) W5 hq hok K hK1 hK2) hKt hKb (Below.refl _ _) (fun _ => rfl)
        (fun pre W => pre = List.range pre.length ∧ ((Boxed W b1 3 (.int .i64 f) ∧ Boxed W b2 3 (.int .i64 a) ∧ Boxed W b3 3 (.int .i64 n) ∧ Boxed W b4 3 (.int .i64 s) ∧ Boxed W (g0 + 1) 4 (.bool false)) ∧ (Boxed W p7 3 (.int .i64 (atT a f n pre.length)) ∧ Boxed W (p7 + 1) 3 (.int .i64 (pre.length : Int)))) ∧ Below w.heap.size w W)
        (fun c pre W => ((c = .ret ∧ pre ≠ List.range pre.length) ∨ (c = .exit 0 ∧ Boxed W b4 3 (.int .i64 s) ∧ Boxed W (g0 + 1) 4 (.bool false) ∧ Boxed W (p7 + 1) 3 (.int .i64 s))) ∧ Below w.heap.size w W)
        (OwnFrom.and (ownFrom_pure _ _) (OwnFrom.and (OwnFrom.and (OwnFrom.and (Own.from (boxed_own _ _ _) _) (OwnFrom.and (Own.from (boxed_own _ _ _) _) (OwnFrom.and (Own.from (boxed_own _ _ _) _) (OwnFrom.and (Own.from (boxed_own _ _ _) _) (Own.from (boxed_own _ _ _) _))))) (OwnFrom.and (Own.from (boxed_own p7 3 (fun pre : List Nat => .int .i64 (atT a f n pre.length))) _) (Own.from (boxed_own (p7 + 1) 3 (fun pre : List Nat => .int .i64 (pre.length : Int))) _))) (ownFrom_below (Nat.le_refl _) (by omega))))
        (fun c => OwnFrom.and (fun s' A B row hs hg hr => by
          rcases hs with h | ⟨hc, e1, e2, e3⟩
          · exact .inl h
          · exact .inr ⟨hc, boxed_own (β := Unit) _ _ (fun _ => .int .i64 s) () A B row e1 hg (fun r e => (hr r e).2), boxed_own (β := Unit) _ _ (fun _ => .bool false) () A B row e2 hg (fun r e => (hr r e).2), boxed_own (β := Unit) _ _ (fun _ => .int .i64 s) () A B row e3 hg (fun r e => (hr r e).2)⟩) (ownFrom_below (Nat.le_refl _) (by omega)))
        ⟨rfl, ⟨⟨y1, y2, y3, y4, yr⟩, ⟨z1, z2⟩⟩, by rw [hg0]; exact hb5⟩
        (fun x a' W => a' = { tmps := #[.agg #[.int .i64 f, .int .i64 a, .int .i64 n, .int .i64 s], .pointer (some ⟨g0, 0, none⟩), .pointer (some ⟨g0 + 1, 0, none⟩), .pointer (some ⟨b1, 0, none⟩), .pointer (some ⟨b2, 0, none⟩), .pointer (some ⟨b3, 0, none⟩), .pointer (some ⟨b4, 0, none⟩), .pointer (some ⟨p7, 0, none⟩), .pointer (some ⟨p7 + 1, 0, none⟩), .int .i64 (tkT a f n x), .pointer (some ⟨g0, 0, none⟩), .int .i64 f, .pointer (some ⟨g0, 1, none⟩), .int .i64 a, .pointer (some ⟨g0, 2, none⟩), .int .i64 n, .pointer (some ⟨g0, 3, none⟩), .int .i64 s, .int .i64 s, .bool false, .bool false, .int .i64 s, .bool false, .bool false, .bool false, .bool true, .bool false, .bool false, undef, .int .i64 f, .int .i64 a, .int .i64 n, .func (.func 23) #[] #[.pointer (some ⟨p7 + 2 + 1, 0, none⟩), .pointer (some ⟨p7 + 2, 0, none⟩), .pointer (some ⟨p7 + 2 + 2, 0, none⟩)], .int .i64 (tkT a f n x), undef, undef, undef, undef, undef, undef, undef, undef, undef, undef, undef, undef, undef, undef, undef, undef, undef, undef, undef, undef, undef, undef, undef, undef, undef, undef, undef, undef, undef, undef, undef, undef, undef, undef, undef, undef, undef, undef, undef, undef, undef, undef, undef, undef, undef, undef, undef, undef, undef, undef, undef, undef, undef, undef, undef, undef, undef, undef, undef, undef, undef, undef, undef, undef, undef, undef, undef, undef], defers := [] })
        (fun x a' => ownFrom_pure _ _)
        ?assign ?body ?done ?stop
      case assign =>
        rintro l pre x W K hI hK
        dsimp only [encT]
        gi_wp2
        exact hK _ _ (KeepsOthers.refl _ |>.from _) (fun _ _ _ => rfl) hI rfl
      case body =>
        rintro l pre j a' W hl ⟨r, hr⟩ ⟨hpre, ⟨⟨e1, e2, e3, e4, er⟩, ⟨x1, x2⟩⟩, hB⟩ rfl hlt
        obtain ⟨R0, R1, R2, R3, R4, R5, R6⟩ := hok
        have k1 := e1.cell
        have k2 := e2.cell
        have k3 := e3.cell
        have k4 := e4.cell
        have k5 := x1.cell
        have k6 := x2.cell
        have ht0 := tkT_ge a f n R2 R0 R4 R5 j
        have htm := tkT_mod a f n R2 R4 R5 j
        dsimp only
        gi_upto_region 7 with fail
        have hmd : (tkT a f n j % n == a) = true := by rw [htm]; simp
        have ks : decide (1 ≤ n) = true := decide_eq_true R2
        have hsz : p7 + 5 ≤ W.heap.size := by have := (Array.getElem?_eq_some_iff.1 hr).1; omega
        have HK5 : Hid (W5.heap.size = p7 + 5) := Lib.hid hs5
        obtain ⟨W7, hW7⟩ : ∃ W7, W7 = W.drew := ⟨_, rfl⟩
        have z1 : Boxed W7 b1 3 (.int .i64 f) := by rw [hW7]; exact e1
        have z2 : Boxed W7 b2 3 (.int .i64 a) := by rw [hW7]; exact e2
        have z3 : Boxed W7 b3 3 (.int .i64 n) := by rw [hW7]; exact e3
        have z4 : Boxed W7 b4 3 (.int .i64 s) := by rw [hW7]; exact e4
        have zr : Boxed W7 (g0 + 1) 4 (.bool false) := by rw [hW7]; exact er
        have zB : Below w.heap.size w W7 := by rw [hW7]; exact Below.drew hB
        have c1 := z1.cell
        have c2 := z2.cell
        have c3 := z3.cell
        have c4 := z4.cell
        have cr := zr.cell
        have fr := zr.frozen
        have hdf : ∀ ops : Array Oper, (ops.all fun o => match o.op with | .defer _ => false | _ => true) = true → ∀ (i : Nat) (o : Oper), ops[i]? = some o → ∀ c, o.op ≠ .defer c := fun ops h i o ho c e => by
          have := Array.all_eq_true_iff_forall_mem.1 h o (Array.mem_of_getElem? ho)
          rw [e] at this
          cases this
        have hn0 : ¬ n = 0 := by omega
        have hmd : (tkT a f n j).tmod n = a := by rw [Int.tmod_eq_emod_of_nonneg (by omega)]; exact htm
        by_cases h0 : pre.length = 0
        · rw [h0] at x1 x2
          simp only [atT] at x1
          have v5 : Boxed W7 p7 3 (.int .i64 0) := by rw [hW7]; exact x1
          have v6 : Boxed W7 (p7 + 1) 3 (.int .i64 0) := by rw [hW7]; exact x2
          have c5 := v5.cell
          have c6 := v6.cell
          have f5 := v5.frozen
          have f6 := v6.frozen
          obtain ⟨tj, htj⟩ : ∃ z, z = tkT a f n j := ⟨_, rfl⟩
          obtain ⟨nx, hnx⟩ : ∃ z, SM.nextOf a f n = z := ⟨_, rfl⟩
          rw [← htj] at hmd ⊢
          by_cases hj : j = 0
          · have hbb : (tj == nx) = true := by rw [htj, hj, tkT_zero, hnx]; simp
            have HG : Hid (pre ++ [j] = List.range (pre ++ [j]).length ∧ atT a f n (pre ++ [j]).length = tj ∧ (((pre ++ [j]).length : Nat) : Int) = 1) := Lib.hid (by
              have hp : pre = [] := by simpa using h0
              subst hp hj
              exact ⟨by simp, by simp [atT, htj], by simp⟩)
            have HK := Lib.hid hW7
            clear hW7 htj hj h0 hpre htm ht0 x1 x2
            refine wpIn_region_vals (by kernel_rfl) (by kernel_rfl) (by kernel_rfl) (by kernel_rfl) (by kernel_rfl) (hdf _ (by kernel_rfl)) (fun i => ([.int .i64 f, .int .i64 n, .bool true, .bool false, .bool false, .int .i64 tj, .int .i64 n, .int .i64 a, .int .i64 a, .bool false, .bool false, .bool false, .int .i64 0, .bool true, .bool true, .int .i64 tj, .int .i64 a, .int .i64 f, .int .i64 n, .int .i64 nx, .bool false, .bool false, .bool false, .bool false, .int .i64 0, .bool false, .bool false, undef, undef, undef, undef, undef, .bool false, .bool false] : List Value).getD i undef) { tmps := #[.agg #[.int .i64 f, .int .i64 a, .int .i64 n, .int .i64 s], .pointer (some ⟨g0, 0, none⟩), .pointer (some ⟨g0 + 1, 0, none⟩), .pointer (some ⟨b1, 0, none⟩), .pointer (some ⟨b2, 0, none⟩), .pointer (some ⟨b3, 0, none⟩), .pointer (some ⟨b4, 0, none⟩), .pointer (some ⟨p7, 0, none⟩), .pointer (some ⟨p7 + 1, 0, none⟩), .int .i64 tj, .pointer (some ⟨g0, 0, none⟩), .int .i64 f, .pointer (some ⟨g0, 1, none⟩), .int .i64 a, .pointer (some ⟨g0, 2, none⟩), .int .i64 n, .pointer (some ⟨g0, 3, none⟩), .int .i64 s, .int .i64 s, .bool false, .bool false, .int .i64 s, .bool false, .bool false, .bool false, .bool true, .bool false, .bool false, undef, .int .i64 f, .int .i64 a, .int .i64 n, .func (.func 23) #[] #[.pointer (some ⟨p7 + 2 + 1, 0, none⟩), .pointer (some ⟨p7 + 2, 0, none⟩), .pointer (some ⟨p7 + 2 + 2, 0, none⟩)], .int .i64 tj, .int .i64 f, .int .i64 n, .bool true, .bool false, .bool false, .int .i64 tj, .int .i64 n, .int .i64 a, .int .i64 a, .bool false, .bool false, .bool false, .int .i64 0, .bool true, .bool true, .int .i64 tj, .int .i64 a, .int .i64 f, .int .i64 n, .int .i64 nx, .bool false, .bool false, .bool false, .bool false, .int .i64 0, .bool false, .bool false, undef, undef, undef, undef, undef, .bool false, .bool false, undef, undef, undef, undef, undef, undef, undef, undef, undef, undef, undef, undef, undef, undef, undef, undef, undef, undef, undef, undef, undef, undef, undef, undef, undef, undef, undef, undef, undef, undef, undef, undef, undef, undef], defers := [] } (by kernel_rfl) (fun w2 => w2 = W7) HK.out.symm ⟨?_, ?_, ?_, ?_, ?_, ?_, ?_, ?_, ?_, ?_, ?_, ?_, ?_, ?_, ?_, ?_, ?_, ?_, ?_, ?_, ?_, ?_, ?_, ?_, ?_, ?_, ?_, ?_, ?_, ?_, ?_, ?_, ?_, ?_, trivial⟩ ?_
            · refine .inl ⟨by kernel_rfl, ?_⟩
              rintro w2 rfl
              exact .val _ (by simp [execOp, Act.eval, c1, c2, c3, c4, c5, c6, hmd, hn0, hbb, bne, hnx, go_sem]) rfl
            · refine .inl ⟨by kernel_rfl, ?_⟩
              rintro w2 rfl
              exact .val _ (by simp [execOp, Act.eval, c1, c2, c3, c4, c5, c6, hmd, hn0, hbb, bne, hnx, go_sem]) rfl
            · refine .inl ⟨by kernel_rfl, ?_⟩
              rintro w2 rfl
              exact .call _ _ _ (by simp [execOp, Act.eval, c1, c2, c3, c4, c5, c6, hmd, hn0, hbb, bne, hnx, go_sem]) ((right_yes _ _ _ R0 (by omega) R2 R3).mono fun e w2 h => ⟨h.1, h.2.symm⟩)
            · refine .inl ⟨by kernel_rfl, ?_⟩
              rintro w2 rfl
              exact .val _ (by simp [execOp, Act.eval, c1, c2, c3, c4, c5, c6, hmd, hn0, hbb, bne, hnx, go_sem]) rfl
            · refine .inl ⟨by kernel_rfl, ?_⟩
              rintro w2 rfl
              exact .val _ (by simp [execOp, Act.eval, c1, c2, c3, c4, c5, c6, hmd, hn0, hbb, bne, hnx, go_sem]) rfl
            · refine .inl ⟨by kernel_rfl, ?_⟩
              rintro w2 rfl
              exact .val _ (by simp [execOp, Act.eval, c1, c2, c3, c4, c5, c6, hmd, hn0, hbb, bne, hnx, go_sem]) rfl
            · refine .inl ⟨by kernel_rfl, ?_⟩
              rintro w2 rfl
              exact .val _ (by simp [execOp, Act.eval, c1, c2, c3, c4, c5, c6, hmd, hn0, hbb, bne, hnx, go_sem]) rfl
            · refine .inl ⟨by kernel_rfl, ?_⟩
              rintro w2 rfl
              exact .val _ (by simp [execOp, Act.eval, c1, c2, c3, c4, c5, c6, hmd, hn0, hbb, bne, hnx, go_sem]) rfl
            · refine .inl ⟨by kernel_rfl, ?_⟩
              rintro w2 rfl
              exact .val _ (by simp [execOp, Act.eval, c1, c2, c3, c4, c5, c6, hmd, hn0, hbb, bne, hnx, go_sem]) rfl
            · refine .inl ⟨by kernel_rfl, ?_⟩
              rintro w2 rfl
              exact .val _ (by simp [execOp, Act.eval, c1, c2, c3, c4, c5, c6, hmd, hn0, hbb, bne, hnx, go_sem]) rfl
            · refine .inl ⟨by kernel_rfl, ?_⟩
              rintro w2 rfl
              exact .val _ (by simp [execOp, Act.eval, c1, c2, c3, c4, c5, c6, hmd, hn0, hbb, bne, hnx, go_sem]) rfl
            · refine .inl ⟨by kernel_rfl, ?_⟩
              rintro w2 rfl
              exact .val _ (by simp [execOp, Act.eval, c1, c2, c3, c4, c5, c6, hmd, hn0, hbb, bne, hnx, go_sem]) rfl
            · refine .inl ⟨by kernel_rfl, ?_⟩
              rintro w2 rfl
              exact .val _ (by simp [execOp, Act.eval, c1, c2, c3, c4, c5, c6, hmd, hn0, hbb, bne, hnx, go_sem]) rfl
            · refine .inl ⟨by kernel_rfl, ?_⟩
              rintro w2 rfl
              exact .val _ (by simp [execOp, Act.eval, c1, c2, c3, c4, c5, c6, hmd, hn0, hbb, bne, hnx, go_sem]) rfl
            · refine .inl ⟨by kernel_rfl, ?_⟩
              rintro w2 rfl
              exact .val _ (by simp [execOp, Act.eval, c1, c2, c3, c4, c5, c6, hmd, hn0, hbb, bne, hnx, go_sem]) rfl
            · refine .inl ⟨by kernel_rfl, ?_⟩
              rintro w2 rfl
              exact .val _ (by simp [execOp, Act.eval, c1, c2, c3, c4, c5, c6, hmd, hn0, hbb, bne, hnx, go_sem]) rfl
            · refine .inl ⟨by kernel_rfl, ?_⟩
              rintro w2 rfl
              exact .val _ (by simp [execOp, Act.eval, c1, c2, c3, c4, c5, c6, hmd, hn0, hbb, bne, hnx, go_sem]) rfl
            · refine .inl ⟨by kernel_rfl, ?_⟩
              rintro w2 rfl
              exact .val _ (by simp [execOp, Act.eval, c1, c2, c3, c4, c5, c6, hmd, hn0, hbb, bne, hnx, go_sem]) rfl
            · refine .inl ⟨by kernel_rfl, ?_⟩
              rintro w2 rfl
              exact .val _ (by simp [execOp, Act.eval, c1, c2, c3, c4, c5, c6, hmd, hn0, hbb, bne, hnx, go_sem]) rfl
            · refine .inl ⟨by kernel_rfl, ?_⟩
              rintro w2 rfl
              exact .call _ _ _ (by simp [execOp, Act.eval, c1, c2, c3, c4, c5, c6, hmd, hn0, hbb, bne, hnx, go_sem]) ((ref_next _ _ _ _ R0 (by omega) R2 R3 R4 R5).mono fun e w2 h => ⟨h.1.trans (congrArg (fun z => Ending.returned (Value.int .i64 z)) hnx), h.2.symm⟩)
            · refine .inl ⟨by kernel_rfl, ?_⟩
              rintro w2 rfl
              exact .val _ (by simp [execOp, Act.eval, c1, c2, c3, c4, c5, c6, hmd, hn0, hbb, bne, hnx, go_sem]) rfl
            · refine .inl ⟨by kernel_rfl, ?_⟩
              rintro w2 rfl
              exact .val _ (by simp [execOp, Act.eval, c1, c2, c3, c4, c5, c6, hmd, hn0, hbb, bne, hnx, go_sem]) rfl
            · refine .inl ⟨by kernel_rfl, ?_⟩
              rintro w2 rfl
              exact .val _ (by simp [execOp, Act.eval, c1, c2, c3, c4, c5, c6, hmd, hn0, hbb, bne, hnx, go_sem]) rfl
            · refine .inl ⟨by kernel_rfl, ?_⟩
              rintro w2 rfl
              exact .val _ (by simp [execOp, Act.eval, c1, c2, c3, c4, c5, c6, hmd, hn0, hbb, bne, hnx, go_sem]) rfl
            · refine .inl ⟨by kernel_rfl, ?_⟩
              rintro w2 rfl
              exact .val _ (by simp [execOp, Act.eval, c1, c2, c3, c4, c5, c6, hmd, hn0, hbb, bne, hnx, go_sem]) rfl
            · refine .inl ⟨by kernel_rfl, ?_⟩
              rintro w2 rfl
              exact .val _ (by simp [execOp, Act.eval, c1, c2, c3, c4, c5, c6, hmd, hn0, hbb, bne, hnx, go_sem]) rfl
            · refine .inl ⟨by kernel_rfl, ?_⟩
              rintro w2 rfl
              exact .val _ (by simp [execOp, Act.eval, c1, c2, c3, c4, c5, c6, hmd, hn0, hbb, bne, hnx, go_sem]) rfl
            · exact .inr ⟨by kernel_rfl, rfl⟩
            · exact .inr ⟨by kernel_rfl, rfl⟩
            · exact .inr ⟨by kernel_rfl, rfl⟩
            · exact .inr ⟨by kernel_rfl, rfl⟩
            · exact .inr ⟨by kernel_rfl, rfl⟩
            · refine .inl ⟨by kernel_rfl, ?_⟩
              rintro w2 rfl
              exact .val _ (by simp [execOp, Act.eval, c1, c2, c3, c4, c5, c6, hmd, hn0, hbb, bne, hnx, go_sem]) rfl
            · refine .inl ⟨by kernel_rfl, ?_⟩
              rintro w2 rfl
              exact .val _ (by simp [execOp, Act.eval, c1, c2, c3, c4, c5, c6, hmd, hn0, hbb, bne, hnx, go_sem]) rfl
            intro w3 hw3
            rw [hw3]
            clear hw3
            gi_wp2
            · obtain ⟨g1, g2, g3⟩ := HG.out
              have hKO : KeepsOthers W W7 := by rw [HK.out]; exact KeepsOthers.drew W
              exact ⟨((hKO.trans (KeepsOthers.setCell _ _ _)).trans (KeepsOthers.setCell _ _ _)).from _, .inr ⟨rfl, (z4.other (B' := p7) (by omega) _).other (B' := p7 + 1) (by omega) _, (zr.other (B' := p7) (by omega) _).other (B' := p7 + 1) (by omega) _, by have h9 := (v6.other (B' := p7) (by omega) (.int .i64 tj)).set (.int .i64 (1)); rw [show s = 1 by first | omega | (rename_i hh; simpa using hh) | (rename_i hh; exact (show 1 = s by simpa using hh).symm) | (rename_i hh; trace_state; fail)] ; exact h9⟩, (zB.setCell (p := ⟨p7, 0, none⟩) (by simp; omega) _).setCell (p := ⟨p7 + 1, 0, none⟩) (by simp; omega) _⟩
            · obtain ⟨g1, g2, g3⟩ := HG.out
              have hKO : KeepsOthers W W7 := by rw [HK.out]; exact KeepsOthers.drew W
              have hsz7 : p7 + 5 ≤ W7.heap.size := by rw [HK.out]; exact hsz
              refine ⟨((hKO.trans (KeepsOthers.setCell _ _ _)).trans (KeepsOthers.setCell _ _ _)).from _, fun b q1 q2 => ?_, g1, ⟨⟨(z1.other (B' := p7) (by omega) _).other (B' := p7 + 1) (by omega) _, (z2.other (B' := p7) (by omega) _).other (B' := p7 + 1) (by omega) _, (z3.other (B' := p7) (by omega) _).other (B' := p7 + 1) (by omega) _, (z4.other (B' := p7) (by omega) _).other (B' := p7 + 1) (by omega) _, (zr.other (B' := p7) (by omega) _).other (B' := p7 + 1) (by omega) _⟩, by rw [g2]; exact (v5.set _).other (B' := p7 + 1) (by omega) _, by rw [g3]; exact (v6.other (B' := p7) (by omega) _).set _⟩, (zB.setCell (p := ⟨p7, 0, none⟩) (by simp; omega) _).setCell (p := ⟨p7 + 1, 0, none⟩) (by simp; omega) _⟩
              have t1 := (grownBy_setCell' W7 p7 (.int .i64 tj)).block b (by omega) (fun e => by cases e; omega)
              have t2 := (grownBy_setCell' (W7.setCell ⟨p7, 0, none⟩ (.int .i64 tj)) (p7 + 1) (.int .i64 (1))).block b (by simp; omega) (fun e => by cases e; omega)
              rw [HK.out] at t1
              rw [HK.out] at t2
              rw [HK.out]
              exact t2.trans t1
          · have hbb : (tj == nx) = false := by
              rw [htj, ← hnx, ← tkT_zero]
              simpa using tkT_ne a f n R2 hj
            have HG : Hid (pre ++ [j] ≠ List.range (pre ++ [j]).length) := Lib.hid (fun e => by
              have hp : pre = [] := by simpa using h0
              subst hp
              simp at e
              exact hj e)
            have HK := Lib.hid hW7
            clear hW7 htj hj h0 hpre htm ht0 x1 x2
            refine wpIn_region_vals (by kernel_rfl) (by kernel_rfl) (by kernel_rfl) (by kernel_rfl) (by kernel_rfl) (hdf _ (by kernel_rfl)) (fun i => ([.int .i64 f, .int .i64 n, .bool true, .bool false, .bool false, .int .i64 tj, .int .i64 n, .int .i64 a, .int .i64 a, .bool false, .bool false, .bool false, .int .i64 0, .bool true, .bool true, .int .i64 tj, .int .i64 a, .int .i64 f, .int .i64 n, .int .i64 nx, .bool true, .bool true, .bool true, .bool true, undef, undef, undef, undef, undef, undef, undef, undef, undef, .bool true] : List Value).getD i undef) { tmps := #[.agg #[.int .i64 f, .int .i64 a, .int .i64 n, .int .i64 s], .pointer (some ⟨g0, 0, none⟩), .pointer (some ⟨g0 + 1, 0, none⟩), .pointer (some ⟨b1, 0, none⟩), .pointer (some ⟨b2, 0, none⟩), .pointer (some ⟨b3, 0, none⟩), .pointer (some ⟨b4, 0, none⟩), .pointer (some ⟨p7, 0, none⟩), .pointer (some ⟨p7 + 1, 0, none⟩), .int .i64 tj, .pointer (some ⟨g0, 0, none⟩), .int .i64 f, .pointer (some ⟨g0, 1, none⟩), .int .i64 a, .pointer (some ⟨g0, 2, none⟩), .int .i64 n, .pointer (some ⟨g0, 3, none⟩), .int .i64 s, .int .i64 s, .bool false, .bool false, .int .i64 s, .bool false, .bool false, .bool false, .bool true, .bool false, .bool false, undef, .int .i64 f, .int .i64 a, .int .i64 n, .func (.func 23) #[] #[.pointer (some ⟨p7 + 2 + 1, 0, none⟩), .pointer (some ⟨p7 + 2, 0, none⟩), .pointer (some ⟨p7 + 2 + 2, 0, none⟩)], .int .i64 tj, .int .i64 f, .int .i64 n, .bool true, .bool false, .bool false, .int .i64 tj, .int .i64 n, .int .i64 a, .int .i64 a, .bool false, .bool false, .bool false, .int .i64 0, .bool true, .bool true, .int .i64 tj, .int .i64 a, .int .i64 f, .int .i64 n, .int .i64 nx, .bool true, .bool true, .bool true, .bool true, undef, undef, undef, undef, undef, undef, undef, undef, undef, .bool true, undef, undef, undef, undef, undef, undef, undef, undef, undef, undef, undef, undef, undef, undef, undef, undef, undef, undef, undef, undef, undef, undef, undef, undef, undef, undef, undef, undef, undef, undef, undef, undef, undef, undef], defers := [] } (by kernel_rfl) (fun w2 => w2 = W7) HK.out.symm ⟨?_, ?_, ?_, ?_, ?_, ?_, ?_, ?_, ?_, ?_, ?_, ?_, ?_, ?_, ?_, ?_, ?_, ?_, ?_, ?_, ?_, ?_, ?_, ?_, ?_, ?_, ?_, ?_, ?_, ?_, ?_, ?_, ?_, ?_, trivial⟩ ?_
            · refine .inl ⟨by kernel_rfl, ?_⟩
              rintro w2 rfl
              exact .val _ (by simp [execOp, Act.eval, c1, c2, c3, c4, c5, c6, hmd, hn0, hbb, bne, hnx, go_sem]) rfl
            · refine .inl ⟨by kernel_rfl, ?_⟩
              rintro w2 rfl
              exact .val _ (by simp [execOp, Act.eval, c1, c2, c3, c4, c5, c6, hmd, hn0, hbb, bne, hnx, go_sem]) rfl
            · refine .inl ⟨by kernel_rfl, ?_⟩
              rintro w2 rfl
              exact .call _ _ _ (by simp [execOp, Act.eval, c1, c2, c3, c4, c5, c6, hmd, hn0, hbb, bne, hnx, go_sem]) ((right_yes _ _ _ R0 (by omega) R2 R3).mono fun e w2 h => ⟨h.1, h.2.symm⟩)
            · refine .inl ⟨by kernel_rfl, ?_⟩
              rintro w2 rfl
              exact .val _ (by simp [execOp, Act.eval, c1, c2, c3, c4, c5, c6, hmd, hn0, hbb, bne, hnx, go_sem]) rfl
            · refine .inl ⟨by kernel_rfl, ?_⟩
              rintro w2 rfl
              exact .val _ (by simp [execOp, Act.eval, c1, c2, c3, c4, c5, c6, hmd, hn0, hbb, bne, hnx, go_sem]) rfl
            · refine .inl ⟨by kernel_rfl, ?_⟩
              rintro w2 rfl
              exact .val _ (by simp [execOp, Act.eval, c1, c2, c3, c4, c5, c6, hmd, hn0, hbb, bne, hnx, go_sem]) rfl
            · refine .inl ⟨by kernel_rfl, ?_⟩
              rintro w2 rfl
              exact .val _ (by simp [execOp, Act.eval, c1, c2, c3, c4, c5, c6, hmd, hn0, hbb, bne, hnx, go_sem]) rfl
            · refine .inl ⟨by kernel_rfl, ?_⟩
              rintro w2 rfl
              exact .val _ (by simp [execOp, Act.eval, c1, c2, c3, c4, c5, c6, hmd, hn0, hbb, bne, hnx, go_sem]) rfl
            · refine .inl ⟨by kernel_rfl, ?_⟩
              rintro w2 rfl
              exact .val _ (by simp [execOp, Act.eval, c1, c2, c3, c4, c5, c6, hmd, hn0, hbb, bne, hnx, go_sem]) rfl
            · refine .inl ⟨by kernel_rfl, ?_⟩
              rintro w2 rfl
              exact .val _ (by simp [execOp, Act.eval, c1, c2, c3, c4, c5, c6, hmd, hn0, hbb, bne, hnx, go_sem]) rfl
            · refine .inl ⟨by kernel_rfl, ?_⟩
              rintro w2 rfl
              exact .val _ (by simp [execOp, Act.eval, c1, c2, c3, c4, c5, c6, hmd, hn0, hbb, bne, hnx, go_sem]) rfl
            · refine .inl ⟨by kernel_rfl, ?_⟩
              rintro w2 rfl
              exact .val _ (by simp [execOp, Act.eval, c1, c2, c3, c4, c5, c6, hmd, hn0, hbb, bne, hnx, go_sem]) rfl
            · refine .inl ⟨by kernel_rfl, ?_⟩
              rintro w2 rfl
              exact .val _ (by simp [execOp, Act.eval, c1, c2, c3, c4, c5, c6, hmd, hn0, hbb, bne, hnx, go_sem]) rfl
            · refine .inl ⟨by kernel_rfl, ?_⟩
              rintro w2 rfl
              exact .val _ (by simp [execOp, Act.eval, c1, c2, c3, c4, c5, c6, hmd, hn0, hbb, bne, hnx, go_sem]) rfl
            · refine .inl ⟨by kernel_rfl, ?_⟩
              rintro w2 rfl
              exact .val _ (by simp [execOp, Act.eval, c1, c2, c3, c4, c5, c6, hmd, hn0, hbb, bne, hnx, go_sem]) rfl
            · refine .inl ⟨by kernel_rfl, ?_⟩
              rintro w2 rfl
              exact .val _ (by simp [execOp, Act.eval, c1, c2, c3, c4, c5, c6, hmd, hn0, hbb, bne, hnx, go_sem]) rfl
            · refine .inl ⟨by kernel_rfl, ?_⟩
              rintro w2 rfl
              exact .val _ (by simp [execOp, Act.eval, c1, c2, c3, c4, c5, c6, hmd, hn0, hbb, bne, hnx, go_sem]) rfl
            · refine .inl ⟨by kernel_rfl, ?_⟩
              rintro w2 rfl
              exact .val _ (by simp [execOp, Act.eval, c1, c2, c3, c4, c5, c6, hmd, hn0, hbb, bne, hnx, go_sem]) rfl
            · refine .inl ⟨by kernel_rfl, ?_⟩
              rintro w2 rfl
              exact .val _ (by simp [execOp, Act.eval, c1, c2, c3, c4, c5, c6, hmd, hn0, hbb, bne, hnx, go_sem]) rfl
            · refine .inl ⟨by kernel_rfl, ?_⟩
              rintro w2 rfl
              exact .call _ _ _ (by simp [execOp, Act.eval, c1, c2, c3, c4, c5, c6, hmd, hn0, hbb, bne, hnx, go_sem]) ((ref_next _ _ _ _ R0 (by omega) R2 R3 R4 R5).mono fun e w2 h => ⟨h.1.trans (congrArg (fun z => Ending.returned (Value.int .i64 z)) hnx), h.2.symm⟩)
            · refine .inl ⟨by kernel_rfl, ?_⟩
              rintro w2 rfl
              exact .val _ (by simp [execOp, Act.eval, c1, c2, c3, c4, c5, c6, hmd, hn0, hbb, bne, hnx, go_sem]) rfl
            · refine .inl ⟨by kernel_rfl, ?_⟩
              rintro w2 rfl
              exact .val _ (by simp [execOp, Act.eval, c1, c2, c3, c4, c5, c6, hmd, hn0, hbb, bne, hnx, go_sem]) rfl
            · refine .inl ⟨by kernel_rfl, ?_⟩
              rintro w2 rfl
              exact .val _ (by simp [execOp, Act.eval, c1, c2, c3, c4, c5, c6, hmd, hn0, hbb, bne, hnx, go_sem]) rfl
            · refine .inl ⟨by kernel_rfl, ?_⟩
              rintro w2 rfl
              exact .val _ (by simp [execOp, Act.eval, c1, c2, c3, c4, c5, c6, hmd, hn0, hbb, bne, hnx, go_sem]) rfl
            · exact .inr ⟨by kernel_rfl, rfl⟩
            · exact .inr ⟨by kernel_rfl, rfl⟩
            · exact .inr ⟨by kernel_rfl, rfl⟩
            · exact .inr ⟨by kernel_rfl, rfl⟩
            · exact .inr ⟨by kernel_rfl, rfl⟩
            · exact .inr ⟨by kernel_rfl, rfl⟩
            · exact .inr ⟨by kernel_rfl, rfl⟩
            · exact .inr ⟨by kernel_rfl, rfl⟩
            · exact .inr ⟨by kernel_rfl, rfl⟩
            · refine .inl ⟨by kernel_rfl, ?_⟩
              rintro w2 rfl
              exact .val _ (by simp [execOp, Act.eval, c1, c2, c3, c4, c5, c6, hmd, hn0, hbb, bne, hnx, go_sem]) rfl
            intro w3 hw3
            rw [hw3]
            clear hw3
            gi_wp2
            have hKO : KeepsOthers W W7 := by rw [HK.out]; exact KeepsOthers.drew W
            exact ⟨(hKO.trans (KeepsOthers.setCell _ _ _)).from _, .inl ⟨rfl, HG.out⟩, zB.setCell (p := ⟨g0 + 1, 0, none⟩) (by simp; omega) _⟩
        · obtain ⟨m, hm⟩ : ∃ m, pre.length = m + 1 := ⟨pre.length - 1, by omega⟩
          have hle := hK1 (m + 1) (by omega)
          rw [tkT_succ] at hle
          rw [hm] at x1 x2
          simp only [atT] at x1
          have hge := tkT_ge a f n R2 R0 R4 R5 m
          have hw : IntKind.i64.wrap (tkT a f n m + n) = tkT a f n m + n := by rw [IntKind.wrap_i64]; omega
          have n0 : ¬ (((m + 1 : Nat) : Int) = 0) := by omega
          have n1 : (0 : Int) < ((m + 1 : Nat) : Int) := by omega
          have v5 : Boxed W7 p7 3 (.int .i64 (tkT a f n m)) := by rw [hW7]; exact x1
          have v6 : Boxed W7 (p7 + 1) 3 (.int .i64 ((m + 1 : Nat) : Int)) := by rw [hW7]; exact x2
          obtain ⟨tj, htj⟩ : ∃ z, z = tkT a f n j := ⟨_, rfl⟩
          obtain ⟨tm, htm'⟩ : ∃ z, z = tkT a f n m := ⟨_, rfl⟩
          obtain ⟨kk, hkk⟩ : ∃ z : Int, z = ((m + 1 : Nat) : Int) := ⟨_, rfl⟩
          rw [← htj] at hmd ⊢
          rw [← htm'] at hw v5
          rw [← hkk] at v6 n0 n1
          have c5 := v5.cell
          have c6 := v6.cell
          have f5 := v5.frozen
          have f6 := v6.frozen
          have HWK : Hid (IntKind.i64.wrap (kk + 1) = kk + 1) := Lib.hid (by
            have := tkT_mono a f n R2 (Nat.zero_le m)
            have := tkT_ge a f n R2 R0 R4 R5 0
            rw [IntKind.wrap_i64]
            omega)
          by_cases hj : j = m + 1
          · have hbb : (tj == tm + n) = true := by rw [htj, hj, tkT_succ, htm']; simp
            have HG : Hid (pre ++ [j] = List.range (pre ++ [j]).length ∧ atT a f n (pre ++ [j]).length = tj ∧ (((pre ++ [j]).length : Nat) : Int) = kk + 1) := Lib.hid (by
              have hl1 : (pre ++ [j]).length = m + 2 := by simp [hm]
              refine ⟨?_, by rw [hl1, htj, hj]; rfl, by rw [hl1, hkk]; omega⟩
              rw [hl1, List.range_succ, hj, ← hm, ← hpre])
            have HK := Lib.hid hW7
            clear hW7 htj hj h0 hpre htm ht0 x1 x2 htm' hkk hm hle hge hK2 hK1
            refine wpIn_region_vals (by kernel_rfl) (by kernel_rfl) (by kernel_rfl) (by kernel_rfl) (by kernel_rfl) (hdf _ (by kernel_rfl)) (fun i => ([.int .i64 f, .int .i64 n, .bool true, .bool false, .bool false, .int .i64 tj, .int .i64 n, .int .i64 a, .int .i64 a, .bool false, .bool false, .bool false, .int .i64 kk, .bool false, .bool false, undef, undef, undef, undef, undef, undef, .bool false, .bool false, .bool false, .int .i64 kk, .bool true, .bool true, .int .i64 tj, .int .i64 tm, .int .i64 n, .int .i64 (tm + n), .bool false, .bool false, .bool false] : List Value).getD i undef) { tmps := #[.agg #[.int .i64 f, .int .i64 a, .int .i64 n, .int .i64 s], .pointer (some ⟨g0, 0, none⟩), .pointer (some ⟨g0 + 1, 0, none⟩), .pointer (some ⟨b1, 0, none⟩), .pointer (some ⟨b2, 0, none⟩), .pointer (some ⟨b3, 0, none⟩), .pointer (some ⟨b4, 0, none⟩), .pointer (some ⟨p7, 0, none⟩), .pointer (some ⟨p7 + 1, 0, none⟩), .int .i64 tj, .pointer (some ⟨g0, 0, none⟩), .int .i64 f, .pointer (some ⟨g0, 1, none⟩), .int .i64 a, .pointer (some ⟨g0, 2, none⟩), .int .i64 n, .pointer (some ⟨g0, 3, none⟩), .int .i64 s, .int .i64 s, .bool false, .bool false, .int .i64 s, .bool false, .bool false, .bool false, .bool true, .bool false, .bool false, undef, .int .i64 f, .int .i64 a, .int .i64 n, .func (.func 23) #[] #[.pointer (some ⟨p7 + 2 + 1, 0, none⟩), .pointer (some ⟨p7 + 2, 0, none⟩), .pointer (some ⟨p7 + 2 + 2, 0, none⟩)], .int .i64 tj, .int .i64 f, .int .i64 n, .bool true, .bool false, .bool false, .int .i64 tj, .int .i64 n, .int .i64 a, .int .i64 a, .bool false, .bool false, .bool false, .int .i64 kk, .bool false, .bool false, undef, undef, undef, undef, undef, undef, .bool false, .bool false, .bool false, .int .i64 kk, .bool true, .bool true, .int .i64 tj, .int .i64 tm, .int .i64 n, .int .i64 (tm + n), .bool false, .bool false, .bool false, undef, undef, undef, undef, undef, undef, undef, undef, undef, undef, undef, undef, undef, undef, undef, undef, undef, undef, undef, undef, undef, undef, undef, undef, undef, undef, undef, undef, undef, undef, undef, undef, undef, undef], defers := [] } (by kernel_rfl) (fun w2 => w2 = W7) HK.out.symm ⟨?_, ?_, ?_, ?_, ?_, ?_, ?_, ?_, ?_, ?_, ?_, ?_, ?_, ?_, ?_, ?_, ?_, ?_, ?_, ?_, ?_, ?_, ?_, ?_, ?_, ?_, ?_, ?_, ?_, ?_, ?_, ?_, ?_, ?_, trivial⟩ ?_
            · refine .inl ⟨by kernel_rfl, ?_⟩
              rintro w2 rfl
              exact .val _ (by simp [execOp, Act.eval, c1, c2, c3, c4, c5, c6, hmd, hn0, hbb, bne, n0, n1, hw, go_sem]) rfl
            · refine .inl ⟨by kernel_rfl, ?_⟩
              rintro w2 rfl
              exact .val _ (by simp [execOp, Act.eval, c1, c2, c3, c4, c5, c6, hmd, hn0, hbb, bne, n0, n1, hw, go_sem]) rfl
            · refine .inl ⟨by kernel_rfl, ?_⟩
              rintro w2 rfl
              exact .call _ _ _ (by simp [execOp, Act.eval, c1, c2, c3, c4, c5, c6, hmd, hn0, hbb, bne, n0, n1, hw, go_sem]) ((right_yes _ _ _ R0 (by omega) R2 R3).mono fun e w2 h => ⟨h.1, h.2.symm⟩)
            · refine .inl ⟨by kernel_rfl, ?_⟩
              rintro w2 rfl
              exact .val _ (by simp [execOp, Act.eval, c1, c2, c3, c4, c5, c6, hmd, hn0, hbb, bne, n0, n1, hw, go_sem]) rfl
            · refine .inl ⟨by kernel_rfl, ?_⟩
              rintro w2 rfl
              exact .val _ (by simp [execOp, Act.eval, c1, c2, c3, c4, c5, c6, hmd, hn0, hbb, bne, n0, n1, hw, go_sem]) rfl
            · refine .inl ⟨by kernel_rfl, ?_⟩
              rintro w2 rfl
              exact .val _ (by simp [execOp, Act.eval, c1, c2, c3, c4, c5, c6, hmd, hn0, hbb, bne, n0, n1, hw, go_sem]) rfl
            · refine .inl ⟨by kernel_rfl, ?_⟩
              rintro w2 rfl
              exact .val _ (by simp [execOp, Act.eval, c1, c2, c3, c4, c5, c6, hmd, hn0, hbb, bne, n0, n1, hw, go_sem]) rfl
            · refine .inl ⟨by kernel_rfl, ?_⟩
              rintro w2 rfl
              exact .val _ (by simp [execOp, Act.eval, c1, c2, c3, c4, c5, c6, hmd, hn0, hbb, bne, n0, n1, hw, go_sem]) rfl
            · refine .inl ⟨by kernel_rfl, ?_⟩
              rintro w2 rfl
              exact .val _ (by simp [execOp, Act.eval, c1, c2, c3, c4, c5, c6, hmd, hn0, hbb, bne, n0, n1, hw, go_sem]) rfl
            · refine .inl ⟨by kernel_rfl, ?_⟩
              rintro w2 rfl
              exact .val _ (by simp [execOp, Act.eval, c1, c2, c3, c4, c5, c6, hmd, hn0, hbb, bne, n0, n1, hw, go_sem]) rfl
            · refine .inl ⟨by kernel_rfl, ?_⟩
              rintro w2 rfl
              exact .val _ (by simp [execOp, Act.eval, c1, c2, c3, c4, c5, c6, hmd, hn0, hbb, bne, n0, n1, hw, go_sem]) rfl
            · refine .inl ⟨by kernel_rfl, ?_⟩
              rintro w2 rfl
              exact .val _ (by simp [execOp, Act.eval, c1, c2, c3, c4, c5, c6, hmd, hn0, hbb, bne, n0, n1, hw, go_sem]) rfl
            · refine .inl ⟨by kernel_rfl, ?_⟩
              rintro w2 rfl
              exact .val _ (by simp [execOp, Act.eval, c1, c2, c3, c4, c5, c6, hmd, hn0, hbb, bne, n0, n1, hw, go_sem]) rfl
            · refine .inl ⟨by kernel_rfl, ?_⟩
              rintro w2 rfl
              exact .val _ (by simp [execOp, Act.eval, c1, c2, c3, c4, c5, c6, hmd, hn0, hbb, bne, n0, n1, hw, go_sem]) rfl
            · refine .inl ⟨by kernel_rfl, ?_⟩
              rintro w2 rfl
              exact .val _ (by simp [execOp, Act.eval, c1, c2, c3, c4, c5, c6, hmd, hn0, hbb, bne, n0, n1, hw, go_sem]) rfl
            · exact .inr ⟨by kernel_rfl, rfl⟩
            · exact .inr ⟨by kernel_rfl, rfl⟩
            · exact .inr ⟨by kernel_rfl, rfl⟩
            · exact .inr ⟨by kernel_rfl, rfl⟩
            · exact .inr ⟨by kernel_rfl, rfl⟩
            · exact .inr ⟨by kernel_rfl, rfl⟩
            · refine .inl ⟨by kernel_rfl, ?_⟩
              rintro w2 rfl
              exact .val _ (by simp [execOp, Act.eval, c1, c2, c3, c4, c5, c6, hmd, hn0, hbb, bne, n0, n1, hw, go_sem]) rfl
            · refine .inl ⟨by kernel_rfl, ?_⟩
              rintro w2 rfl
              exact .val _ (by simp [execOp, Act.eval, c1, c2, c3, c4, c5, c6, hmd, hn0, hbb, bne, n0, n1, hw, go_sem]) rfl
            · refine .inl ⟨by kernel_rfl, ?_⟩
              rintro w2 rfl
              exact .val _ (by simp [execOp, Act.eval, c1, c2, c3, c4, c5, c6, hmd, hn0, hbb, bne, n0, n1, hw, go_sem]) rfl
            · refine .inl ⟨by kernel_rfl, ?_⟩
              rintro w2 rfl
              exact .val _ (by simp [execOp, Act.eval, c1, c2, c3, c4, c5, c6, hmd, hn0, hbb, bne, n0, n1, hw, go_sem]) rfl
            · refine .inl ⟨by kernel_rfl, ?_⟩
              rintro w2 rfl
              exact .val _ (by simp [execOp, Act.eval, c1, c2, c3, c4, c5, c6, hmd, hn0, hbb, bne, n0, n1, hw, go_sem]) rfl
            · refine .inl ⟨by kernel_rfl, ?_⟩
              rintro w2 rfl
              exact .val _ (by simp [execOp, Act.eval, c1, c2, c3, c4, c5, c6, hmd, hn0, hbb, bne, n0, n1, hw, go_sem]) rfl
            · refine .inl ⟨by kernel_rfl, ?_⟩
              rintro w2 rfl
              exact .val _ (by simp [execOp, Act.eval, c1, c2, c3, c4, c5, c6, hmd, hn0, hbb, bne, n0, n1, hw, go_sem]) rfl
            · refine .inl ⟨by kernel_rfl, ?_⟩
              rintro w2 rfl
              exact .val _ (by simp [execOp, Act.eval, c1, c2, c3, c4, c5, c6, hmd, hn0, hbb, bne, n0, n1, hw, go_sem]) rfl
            · refine .inl ⟨by kernel_rfl, ?_⟩
              rintro w2 rfl
              exact .val _ (by simp [execOp, Act.eval, c1, c2, c3, c4, c5, c6, hmd, hn0, hbb, bne, n0, n1, hw, go_sem]) rfl
            · refine .inl ⟨by kernel_rfl, ?_⟩
              rintro w2 rfl
              exact .val _ (by simp [execOp, Act.eval, c1, c2, c3, c4, c5, c6, hmd, hn0, hbb, bne, n0, n1, hw, go_sem]) rfl
            · refine .inl ⟨by kernel_rfl, ?_⟩
              rintro w2 rfl
              exact .val _ (by simp [execOp, Act.eval, c1, c2, c3, c4, c5, c6, hmd, hn0, hbb, bne, n0, n1, hw, go_sem]) rfl
            · refine .inl ⟨by kernel_rfl, ?_⟩
              rintro w2 rfl
              exact .val _ (by simp [execOp, Act.eval, c1, c2, c3, c4, c5, c6, hmd, hn0, hbb, bne, n0, n1, hw, go_sem]) rfl
            · refine .inl ⟨by kernel_rfl, ?_⟩
              rintro w2 rfl
              exact .val _ (by simp [execOp, Act.eval, c1, c2, c3, c4, c5, c6, hmd, hn0, hbb, bne, n0, n1, hw, go_sem]) rfl
            intro w3 hw3
            rw [hw3]
            clear hw3
            have hwk : IntKind.i64.wrap (kk + 1) = kk + 1 := HWK.out
            gi_wp2
            · obtain ⟨g1, g2, g3⟩ := HG.out
              have hKO : KeepsOthers W W7 := by rw [HK.out]; exact KeepsOthers.drew W
              exact ⟨((hKO.trans (KeepsOthers.setCell _ _ _)).trans (KeepsOthers.setCell _ _ _)).from _, .inr ⟨rfl, (z4.other (B' := p7) (by omega) _).other (B' := p7 + 1) (by omega) _, (zr.other (B' := p7) (by omega) _).other (B' := p7 + 1) (by omega) _, by have h9 := (v6.other (B' := p7) (by omega) (.int .i64 tj)).set (.int .i64 (kk + 1)); rw [show s = kk + 1 by first | omega | (rename_i hh; simpa using hh) | (rename_i hh; exact (show kk + 1 = s by simpa using hh).symm) | (rename_i hh; trace_state; fail)] ; exact h9⟩, (zB.setCell (p := ⟨p7, 0, none⟩) (by simp; omega) _).setCell (p := ⟨p7 + 1, 0, none⟩) (by simp; omega) _⟩
            · obtain ⟨g1, g2, g3⟩ := HG.out
              have hKO : KeepsOthers W W7 := by rw [HK.out]; exact KeepsOthers.drew W
              have hsz7 : p7 + 5 ≤ W7.heap.size := by rw [HK.out]; exact hsz
              refine ⟨((hKO.trans (KeepsOthers.setCell _ _ _)).trans (KeepsOthers.setCell _ _ _)).from _, fun b q1 q2 => ?_, g1, ⟨⟨(z1.other (B' := p7) (by omega) _).other (B' := p7 + 1) (by omega) _, (z2.other (B' := p7) (by omega) _).other (B' := p7 + 1) (by omega) _, (z3.other (B' := p7) (by omega) _).other (B' := p7 + 1) (by omega) _, (z4.other (B' := p7) (by omega) _).other (B' := p7 + 1) (by omega) _, (zr.other (B' := p7) (by omega) _).other (B' := p7 + 1) (by omega) _⟩, by rw [g2]; exact (v5.set _).other (B' := p7 + 1) (by omega) _, by rw [g3]; exact (v6.other (B' := p7) (by omega) _).set _⟩, (zB.setCell (p := ⟨p7, 0, none⟩) (by simp; omega) _).setCell (p := ⟨p7 + 1, 0, none⟩) (by simp; omega) _⟩
              have t1 := (grownBy_setCell' W7 p7 (.int .i64 tj)).block b (by omega) (fun e => by cases e; omega)
              have t2 := (grownBy_setCell' (W7.setCell ⟨p7, 0, none⟩ (.int .i64 tj)) (p7 + 1) (.int .i64 (kk + 1))).block b (by simp; omega) (fun e => by cases e; omega)
              rw [HK.out] at t1
              rw [HK.out] at t2
              rw [HK.out]
              exact t2.trans t1
          · have hbb : (tj == tm + n) = false := by
              rw [htj, htm', ← tkT_succ]
              simpa using tkT_ne a f n R2 hj
            have HG : Hid (pre ++ [j] ≠ List.range (pre ++ [j]).length) := Lib.hid (fun e => by
              have hl1 : (pre ++ [j]).length = m + 2 := by simp [hm]
              rw [hl1, List.range_succ] at e
              have := (List.append_inj' e rfl).2
              simp at this
              exact hj this)
            have HK := Lib.hid hW7
            clear hW7 htj hj h0 hpre htm ht0 x1 x2 htm' hkk hm hle hge hK2 hK1
            refine wpIn_region_vals (by kernel_rfl) (by kernel_rfl) (by kernel_rfl) (by kernel_rfl) (by kernel_rfl) (hdf _ (by kernel_rfl)) (fun i => ([.int .i64 f, .int .i64 n, .bool true, .bool false, .bool false, .int .i64 tj, .int .i64 n, .int .i64 a, .int .i64 a, .bool false, .bool false, .bool false, .int .i64 kk, .bool false, .bool false, undef, undef, undef, undef, undef, undef, .bool false, .bool false, .bool false, .int .i64 kk, .bool true, .bool true, .int .i64 tj, .int .i64 tm, .int .i64 n, .int .i64 (tm + n), .bool true, .bool true, .bool true] : List Value).getD i undef) { tmps := #[.agg #[.int .i64 f, .int .i64 a, .int .i64 n, .int .i64 s], .pointer (some ⟨g0, 0, none⟩), .pointer (some ⟨g0 + 1, 0, none⟩), .pointer (some ⟨b1, 0, none⟩), .pointer (some ⟨b2, 0, none⟩), .pointer (some ⟨b3, 0, none⟩), .pointer (some ⟨b4, 0, none⟩), .pointer (some ⟨p7, 0, none⟩), .pointer (some ⟨p7 + 1, 0, none⟩), .int .i64 tj, .pointer (some ⟨g0, 0, none⟩), .int .i64 f, .pointer (some ⟨g0, 1, none⟩), .int .i64 a, .pointer (some ⟨g0, 2, none⟩), .int .i64 n, .pointer (some ⟨g0, 3, none⟩), .int .i64 s, .int .i64 s, .bool false, .bool false, .int .i64 s, .bool false, .bool false, .bool false, .bool true, .bool false, .bool false, undef, .int .i64 f, .int .i64 a, .int .i64 n, .func (.func 23) #[] #[.pointer (some ⟨p7 + 2 + 1, 0, none⟩), .pointer (some ⟨p7 + 2, 0, none⟩), .pointer (some ⟨p7 + 2 + 2, 0, none⟩)], .int .i64 tj, .int .i64 f, .int .i64 n, .bool true, .bool false, .bool false, .int .i64 tj, .int .i64 n, .int .i64 a, .int .i64 a, .bool false, .bool false, .bool false, .int .i64 kk, .bool false, .bool false, undef, undef, undef, undef, undef, undef, .bool false, .bool false, .bool false, .int .i64 kk, .bool true, .bool true, .int .i64 tj, .int .i64 tm, .int .i64 n, .int .i64 (tm + n), .bool true, .bool true, .bool true, undef, undef, undef, undef, undef, undef, undef, undef, undef, undef, undef, undef, undef, undef, undef, undef, undef, undef, undef, undef, undef, undef, undef, undef, undef, undef, undef, undef, undef, undef, undef, undef, undef, undef], defers := [] } (by kernel_rfl) (fun w2 => w2 = W7) HK.out.symm ⟨?_, ?_, ?_, ?_, ?_, ?_, ?_, ?_, ?_, ?_, ?_, ?_, ?_, ?_, ?_, ?_, ?_, ?_, ?_, ?_, ?_, ?_, ?_, ?_, ?_, ?_, ?_, ?_, ?_, ?_, ?_, ?_, ?_, ?_, trivial⟩ ?_
            · refine .inl ⟨by kernel_rfl, ?_⟩
              rintro w2 rfl
              exact .val _ (by simp [execOp, Act.eval, c1, c2, c3, c4, c5, c6, hmd, hn0, hbb, bne, n0, n1, hw, go_sem]) rfl
            · refine .inl ⟨by kernel_rfl, ?_⟩
              rintro w2 rfl
              exact .val _ (by simp [execOp, Act.eval, c1, c2, c3, c4, c5, c6, hmd, hn0, hbb, bne, n0, n1, hw, go_sem]) rfl
            · refine .inl ⟨by kernel_rfl, ?_⟩
              rintro w2 rfl
              exact .call _ _ _ (by simp [execOp, Act.eval, c1, c2, c3, c4, c5, c6, hmd, hn0, hbb, bne, n0, n1, hw, go_sem]) ((right_yes _ _ _ R0 (by omega) R2 R3).mono fun e w2 h => ⟨h.1, h.2.symm⟩)
            · refine .inl ⟨by kernel_rfl, ?_⟩
              rintro w2 rfl
              exact .val _ (by simp [execOp, Act.eval, c1, c2, c3, c4, c5, c6, hmd, hn0, hbb, bne, n0, n1, hw, go_sem]) rfl
            · refine .inl ⟨by kernel_rfl, ?_⟩
              rintro w2 rfl
              exact .val _ (by simp [execOp, Act.eval, c1, c2, c3, c4, c5, c6, hmd, hn0, hbb, bne, n0, n1, hw, go_sem]) rfl
            · refine .inl ⟨by kernel_rfl, ?_⟩
              rintro w2 rfl
              exact .val _ (by simp [execOp, Act.eval, c1, c2, c3, c4, c5, c6, hmd, hn0, hbb, bne, n0, n1, hw, go_sem]) rfl
            · refine .inl ⟨by kernel_rfl, ?_⟩
              rintro w2 rfl
              exact .val _ (by simp [execOp, Act.eval, c1, c2, c3, c4, c5, c6, hmd, hn0, hbb, bne, n0, n1, hw, go_sem]) rfl
            · refine .inl ⟨by kernel_rfl, ?_⟩
              rintro w2 rfl
              exact .val _ (by simp [execOp, Act.eval, c1, c2, c3, c4, c5, c6, hmd, hn0, hbb, bne, n0, n1, hw, go_sem]) rfl
            · refine .inl ⟨by kernel_rfl, ?_⟩
              rintro w2 rfl
              exact .val _ (by simp [execOp, Act.eval, c1, c2, c3, c4, c5, c6, hmd, hn0, hbb, bne, n0, n1, hw, go_sem]) rfl
            · refine .inl ⟨by kernel_rfl, ?_⟩
              rintro w2 rfl
              exact .val _ (by simp [execOp, Act.eval, c1, c2, c3, c4, c5, c6, hmd, hn0, hbb, bne, n0, n1, hw, go_sem]) rfl
            · refine .inl ⟨by kernel_rfl, ?_⟩
              rintro w2 rfl
              exact .val _ (by simp [execOp, Act.eval, c1, c2, c3, c4, c5, c6, hmd, hn0, hbb, bne, n0, n1, hw, go_sem]) rfl
            · refine .inl ⟨by kernel_rfl, ?_⟩
              rintro w2 rfl
              exact .val _ (by simp [execOp, Act.eval, c1, c2, c3, c4, c5, c6, hmd, hn0, hbb, bne, n0, n1, hw, go_sem]) rfl
            · refine .inl ⟨by kernel_rfl, ?_⟩
              rintro w2 rfl
              exact .val _ (by simp [execOp, Act.eval, c1, c2, c3, c4, c5, c6, hmd, hn0, hbb, bne, n0, n1, hw, go_sem]) rfl
            · refine .inl ⟨by kernel_rfl, ?_⟩
              rintro w2 rfl
              exact .val _ (by simp [execOp, Act.eval, c1, c2, c3, c4, c5, c6, hmd, hn0, hbb, bne, n0, n1, hw, go_sem]) rfl
            · refine .inl ⟨by kernel_rfl, ?_⟩
              rintro w2 rfl
              exact .val _ (by simp [execOp, Act.eval, c1, c2, c3, c4, c5, c6, hmd, hn0, hbb, bne, n0, n1, hw, go_sem]) rfl
            · exact .inr ⟨by kernel_rfl, rfl⟩
            · exact .inr ⟨by kernel_rfl, rfl⟩
            · exact .inr ⟨by kernel_rfl, rfl⟩
            · exact .inr ⟨by kernel_rfl, rfl⟩
            · exact .inr ⟨by kernel_rfl, rfl⟩
            · exact .inr ⟨by kernel_rfl, rfl⟩
            · refine .inl ⟨by kernel_rfl, ?_⟩
              rintro w2 rfl
              exact .val _ (by simp [execOp, Act.eval, c1, c2, c3, c4, c5, c6, hmd, hn0, hbb, bne, n0, n1, hw, go_sem]) rfl
            · refine .inl ⟨by kernel_rfl, ?_⟩
              rintro w2 rfl
              exact .val _ (by simp [execOp, Act.eval, c1, c2, c3, c4, c5, c6, hmd, hn0, hbb, bne, n0, n1, hw, go_sem]) rfl
            · refine .inl ⟨by kernel_rfl, ?_⟩
              rintro w2 rfl
              exact .val _ (by simp [execOp, Act.eval, c1, c2, c3, c4, c5, c6, hmd, hn0, hbb, bne, n0, n1, hw, go_sem]) rfl
            · refine .inl ⟨by kernel_rfl, ?_⟩
              rintro w2 rfl
              exact .val _ (by simp [execOp, Act.eval, c1, c2, c3, c4, c5, c6, hmd, hn0, hbb, bne, n0, n1, hw, go_sem]) rfl
            · refine .inl ⟨by kernel_rfl, ?_⟩
              rintro w2 rfl
              exact .val _ (by simp [execOp, Act.eval, c1, c2, c3, c4, c5, c6, hmd, hn0, hbb, bne, n0, n1, hw, go_sem]) rfl
            · refine .inl ⟨by kernel_rfl, ?_⟩
              rintro w2 rfl
              exact .val _ (by simp [execOp, Act.eval, c1, c2, c3, c4, c5, c6, hmd, hn0, hbb, bne, n0, n1, hw, go_sem]) rfl
            · refine .inl ⟨by kernel_rfl, ?_⟩
              rintro w2 rfl
              exact .val _ (by simp [execOp, Act.eval, c1, c2, c3, c4, c5, c6, hmd, hn0, hbb, bne, n0, n1, hw, go_sem]) rfl
            · refine .inl ⟨by kernel_rfl, ?_⟩
              rintro w2 rfl
              exact .val _ (by simp [execOp, Act.eval, c1, c2, c3, c4, c5, c6, hmd, hn0, hbb, bne, n0, n1, hw, go_sem]) rfl
            · refine .inl ⟨by kernel_rfl, ?_⟩
              rintro w2 rfl
              exact .val _ (by simp [execOp, Act.eval, c1, c2, c3, c4, c5, c6, hmd, hn0, hbb, bne, n0, n1, hw, go_sem]) rfl
            · refine .inl ⟨by kernel_rfl, ?_⟩
              rintro w2 rfl
              exact .val _ (by simp [execOp, Act.eval, c1, c2, c3, c4, c5, c6, hmd, hn0, hbb, bne, n0, n1, hw, go_sem]) rfl
            · refine .inl ⟨by kernel_rfl, ?_⟩
              rintro w2 rfl
              exact .val _ (by simp [execOp, Act.eval, c1, c2, c3, c4, c5, c6, hmd, hn0, hbb, bne, n0, n1, hw, go_sem]) rfl
            · refine .inl ⟨by kernel_rfl, ?_⟩
              rintro w2 rfl
              exact .val _ (by simp [execOp, Act.eval, c1, c2, c3, c4, c5, c6, hmd, hn0, hbb, bne, n0, n1, hw, go_sem]) rfl
            · refine .inl ⟨by kernel_rfl, ?_⟩
              rintro w2 rfl
              exact .val _ (by simp [execOp, Act.eval, c1, c2, c3, c4, c5, c6, hmd, hn0, hbb, bne, n0, n1, hw, go_sem]) rfl
            intro w3 hw3
            rw [hw3]
            clear hw3
            gi_wp2
            have hKO : KeepsOthers W W7 := by rw [HK.out]; exact KeepsOthers.drew W
            exact ⟨(hKO.trans (KeepsOthers.setCell _ _ _)).from _, .inl ⟨rfl, HG.out⟩, zB.setCell (p := ⟨g0 + 1, 0, none⟩) (by simp; omega) _⟩
      case done =>
        rintro D ys W hD rfl ⟨_, ⟨⟨e1, e2, e3, e4, er⟩, ⟨x1, x2⟩⟩, hB⟩ hK
        obtain ⟨R0, R1, R2, R3, R4, R5, R6⟩ := hok
        rw [List.length_range] at x1 x2
        obtain ⟨m, rfl⟩ : ∃ m, K = m + 1 := ⟨K - 1, by omega⟩
        simp only [atT] at x1
        rw [tkT_succ] at hK2
        have hle := hK1 m (by omega)
        have hge := tkT_ge a f n R2 R0 R4 R5 m
        generalize tkT a f n m = tm at *
        obtain ⟨kk, hkk⟩ : ∃ z : Int, z = ((m + 1 : Nat) : Int) := ⟨_, rfl⟩
        rw [← hkk] at x2
        clear hkk hK1
        have k1 := e1.cell
        have k2 := e2.cell
        have k3 := e3.cell
        have k4 := e4.cell
        have k5 := x1.cell
        have k6 := x2.cell
        have HSD : Hid (∀ w2, Fresh W w2 → Boxed w2 (g0 + 1) 4 (.bool false) ∧ Below w.heap.size w w2 ∧ w2.heap[D]? = some (.deferred (some []))) := Lib.hid (fun w2 hf2 => ⟨(Below.block hf2 _ er.lt).trans er, Below.trans hB (hf2.mono hB.size), (Below.block hf2 D (Array.getElem?_eq_some_iff.1 hK).1).trans hK⟩)
        by_cases hs : kk = s
        · subst hs
          have m0 : (kk == kk) = true := by simp
          go_wp2_with fail
          with_reducible refine (awake_true _).mono ?_
          rintro e w2 ⟨rfl, hf2⟩
          obtain ⟨d1, d2, d3⟩ := HSD.out _ (by first | with_reducible assumption | with_reducible exact Fresh.tD hf2)
          have p1 := d1.cell
          have p2 := d1.frozen
          clear hf2
          go_wp2
          have hb9 := d1.set (.bool true)
          have hK' := (KeepsOthers.setCell w2 ⟨g0 + 1, 0, none⟩ (.bool true)).same D _ d3 rfl
          refine ⟨by simp, .inl ⟨_, _, rfl, run_takeDeferred hK', ?_⟩⟩
          have hc5 := cell_kept hb9.cell (grownBy_putObj' _ D (.deferred none)) (fun r e => by cases e; exact ⟨_, hK', rfl⟩)
          refine ⟨.bool true, ?_, rfl, (d2.setCell (p := ⟨g0 + 1, 0, none⟩) (by simp; omega) _).trans (belowK_b (w := w) (Nat.le_refl _) _ D _ _ (by omega) hK' rfl rfl)⟩
          simp [results, Try.f7, go_sem, hc5]
        · have m0 : (kk == s) = false := by simpa using hs
          have m1 : decide (a < 0) = false := decide_eq_false (by omega)
          have m2 : decide (n ≤ a) = false := decide_eq_false (by omega)
          have m3 : decide (1073741824 ≤ tm + n) = true := decide_eq_true (by omega)
          have m4 : IntKind.i64.wrap (tm + n) = tm + n := by rw [IntKind.wrap_i64]; omega
          rcases Int.lt_or_eq_of_le hge with hlt | heq
          · have hnl : ¬ tm < f := by omega
            go_wp2_with fail
            with_reducible refine (right_yes _ _ _ R0 (by omega) R2 R3).mono ?_
            rintro e w9 ⟨rfl, rfl⟩
            go_wp2_with fail
            with_reducible refine (awake_true _).mono ?_
            rintro e w2 ⟨rfl, hf2⟩
            obtain ⟨d1, d2, d3⟩ := HSD.out _ (by first | with_reducible assumption | with_reducible exact Fresh.tD hf2)
            have p1 := d1.cell
            have p2 := d1.frozen
            clear hf2
            go_wp2
            have hb9 := d1.set (.bool true)
            have hK' := (KeepsOthers.setCell w2 ⟨g0 + 1, 0, none⟩ (.bool true)).same D _ d3 rfl
            refine ⟨by simp, .inl ⟨_, _, rfl, run_takeDeferred hK', ?_⟩⟩
            have hc5 := cell_kept hb9.cell (grownBy_putObj' _ D (.deferred none)) (fun r e => by cases e; exact ⟨_, hK', rfl⟩)
            refine ⟨.bool true, ?_, rfl, (d2.setCell (p := ⟨g0 + 1, 0, none⟩) (by simp; omega) _).trans (belowK_b (w := w) (Nat.le_refl _) _ D _ _ (by omega) hK' rfl rfl)⟩
            simp [results, Try.f7, go_sem, hc5]
          · subst heq
            go_wp2_with fail
            with_reducible refine (right_yes _ _ _ R0 (by omega) R2 R3).mono ?_
            rintro e w9 ⟨rfl, rfl⟩
            go_wp2_with fail
            with_reducible refine (awake_true _).mono ?_
            rintro e w2 ⟨rfl, hf2⟩
            obtain ⟨d1, d2, d3⟩ := HSD.out _ (by first | with_reducible assumption | with_reducible exact Fresh.tD hf2)
            have p1 := d1.cell
            have p2 := d1.frozen
            clear hf2
            go_wp2
            have hb9 := d1.set (.bool true)
            have hK' := (KeepsOthers.setCell w2 ⟨g0 + 1, 0, none⟩ (.bool true)).same D _ d3 rfl
            refine ⟨by simp, .inl ⟨_, _, rfl, run_takeDeferred hK', ?_⟩⟩
            have hc5 := cell_kept hb9.cell (grownBy_putObj' _ D (.deferred none)) (fun r e => by cases e; exact ⟨_, hK', rfl⟩)
            refine ⟨.bool true, ?_, rfl, (d2.setCell (p := ⟨g0 + 1, 0, none⟩) (by simp; omega) _).trans (belowK_b (w := w) (Nat.le_refl _) _ D _ _ (by omega) hK' rfl rfl)⟩
            simp [results, Try.f7, go_sem, hc5]
      case stop =>
        rintro D c pre W hD ⟨k, rfl⟩ ⟨⟨rfl, hne⟩ | ⟨rfl, e4, er, x2⟩, hB⟩ hK
        · exact absurd (by simp) hne
        have k4 := e4.cell
        have k6 := x2.cell
        have m0 : (s == s) = true := by simp
        have HSD : Hid (∀ w2, Fresh W w2 → Boxed w2 (g0 + 1) 4 (.bool false) ∧ Below w.heap.size w w2 ∧ w2.heap[D]? = some (.deferred (some []))) := Lib.hid (fun w2 hf2 => ⟨(Below.block hf2 _ er.lt).trans er, Below.trans hB (hf2.mono hB.size), (Below.block hf2 D (Array.getElem?_eq_some_iff.1 hK).1).trans hK⟩)
        refine wpIn_wide.2 ?_
        go_wp2_with fail
        with_reducible refine (awake_true _).mono ?_
        rintro e w2 ⟨rfl, hf2⟩
        obtain ⟨d1, d2, d3⟩ := HSD.out _ (by first | with_reducible assumption | with_reducible exact Fresh.tD hf2)
        have p1 := d1.cell
        have p2 := d1.frozen
        clear hf2
        go_wp2
        have hb9 := d1.set (.bool true)
        have hK' := (KeepsOthers.setCell w2 ⟨g0 + 1, 0, none⟩ (.bool true)).same D _ d3 rfl
        refine ⟨by simp, .inl ⟨_, _, rfl, run_takeDeferred hK', ?_⟩⟩
        have hc5 := cell_kept hb9.cell (grownBy_putObj' _ D (.deferred none)) (fun r e => by cases e; exact ⟨_, hK', rfl⟩)
        refine ⟨.bool true, ?_, rfl, (d2.setCell (p := ⟨g0 + 1, 0, none⟩) (by simp; omega) _).trans (belowK_b (w := w) (Nat.le_refl _) _ D _ _ (by omega) hK' rfl rfl)⟩
        simp [results, Try.f7, go_sem, hc5]
    · refine wpIn_rangeFunc_ownH rfl (by omega) (gf := 23) (lb := #[.pointer (some ⟨p7 + 2 + 1, 0, none⟩), .pointer (some ⟨p7 + 2, 0, none⟩), .pointer (some ⟨p7 + 2 + 2, 0, none⟩)]) rfl trivial (enters_of Try.func23 (by kernel_rfl) rfl)
        (turns_no 5 (by omega) f a n (p7 + 2) W5 hq hok) hKt hKb (Below.refl _ _) (fun _ => rfl)
        (fun pre W => ((Boxed W b1 3 (.int .i64 f) ∧ Boxed W b2 3 (.int .i64 a) ∧ Boxed W b3 3 (.int .i64 n) ∧ Boxed W b4 3 (.int .i64 s) ∧ Boxed W (g0 + 1) 4 (.bool false)) ∧ (Boxed W p7 3 (.int .i64 0) ∧ Boxed W (p7 + 1) 3 (.int .i64 0))) ∧ Below w.heap.size w W)
        (fun c pre W => True)
        (OwnFrom.and (OwnFrom.and (OwnFrom.and (Own.from (boxed_own _ _ _) _) (OwnFrom.and (Own.from (boxed_own _ _ _) _) (OwnFrom.and (Own.from (boxed_own _ _ _) _) (OwnFrom.and (Own.from (boxed_own _ _ _) _) (Own.from (boxed_own _ _ _) _))))) (OwnFrom.and (Own.from (boxed_own _ _ _) _) (Own.from (boxed_own _ _ _) _))) (ownFrom_below (Nat.le_refl _) (by omega)))
        (fun c => ownFrom_pure _ _)
        ⟨⟨⟨y1, y2, y3, y4, yr⟩, ⟨z1, z2⟩⟩, by rw [hg0]; exact hb5⟩
        (fun x a' W => True)
        (fun x a' => fun s' A B row hs hg hr => trivial)
        ?assign ?body ?done ?stop
      case assign =>
        rintro l pre x W K hI hK
        dsimp only [encT]
        gi_wp2
        exact hK _ _ (KeepsOthers.refl _ |>.from _) (fun _ _ _ => rfl) hI trivial
      case body =>
        intro l pre x a' W hl hr hI hA hlt
        exact absurd hlt (Nat.not_lt_zero _)
      case stop =>
        intro D c pre W hD h
        exact absurd h id
      case done =>
        rintro D ys W hD rfl ⟨⟨⟨e1, e2, e3, e4, er⟩, ⟨x1, x2⟩⟩, hB⟩ hK
        have k1 := e1.cell
        have k2 := e2.cell
        have k3 := e3.cell
        have k4 := e4.cell
        have k5 := x1.cell
        have k6 := x2.cell
        have m0 : ((0 : Int) == s) = false := by have := HSS.out; simp; omega
        have HSD : Hid (∀ w2, Fresh W w2 → Boxed w2 (g0 + 1) 4 (.bool false) ∧ Below w.heap.size w w2 ∧ w2.heap[D]? = some (.deferred (some []))) := Lib.hid (fun w2 hf2 => ⟨(Below.block hf2 _ er.lt).trans er, Below.trans hB (hf2.mono hB.size), (Below.block hf2 D (Array.getElem?_eq_some_iff.1 hK).1).trans hK⟩)
        by_cases hR : 0 ≤ f ∧ f < 1073741824 ∧ 1 ≤ n ∧ n ≤ 64
        · obtain ⟨R0, R1, R2, R3⟩ := hR
          have HX : Hid (0 ≤ a → a < n → 1073741824 ≤ f + n) := Lib.hid (fun h1 h2 => by
            have h3 := SM.next_bd a f n R2 h1 h2
            rcases Int.lt_or_le 1073741823 (SM.nextOf a f n) with h | h
            · omega
            · exact absurd ⟨R0, by omega, R2, R3, h1, h2, h⟩ hok)
          by_cases ha : a < 0
          · have m1 : decide (a < 0) = true := decide_eq_true ha
            go_wp2_with fail
            with_reducible refine (right_yes _ _ _ R0 R1 R2 R3).mono ?_
            rintro e w9 ⟨rfl, rfl⟩
            go_wp2_with fail
            with_reducible refine (awake_true _).mono ?_
            rintro e w2 ⟨rfl, hf2⟩
            obtain ⟨d1, d2, d3⟩ := HSD.out _ (by first | with_reducible assumption | with_reducible exact Fresh.tD hf2)
            have p1 := d1.cell
            have p2 := d1.frozen
            clear hf2 k1 k2 k3 k4 k5 k6
            go_wp2
            have hb9 := d1.set (.bool true)
            have hK' := (KeepsOthers.setCell w2 ⟨g0 + 1, 0, none⟩ (.bool true)).same D _ d3 rfl
            refine ⟨by simp, .inl ⟨_, _, rfl, run_takeDeferred hK', ?_⟩⟩
            have hc5 := cell_kept hb9.cell (grownBy_putObj' _ D (.deferred none)) (fun r e => by cases e; exact ⟨_, hK', rfl⟩)
            refine ⟨.bool true, ?_, rfl, (d2.setCell (p := ⟨g0 + 1, 0, none⟩) (by simp; omega) _).trans (belowK_b (w := w) (Nat.le_refl _) _ D _ _ (by omega) hK' rfl rfl)⟩
            simp [results, Try.f7, go_sem, hc5]
          · have m1 : decide (a < 0) = false := decide_eq_false ha
            by_cases hn : n ≤ a
            · have m2 : decide (n ≤ a) = true := decide_eq_true hn
              go_wp2_with fail
              with_reducible refine (right_yes _ _ _ R0 R1 R2 R3).mono ?_
              rintro e w9 ⟨rfl, rfl⟩
              go_wp2_with fail
              with_reducible refine (awake_true _).mono ?_
              rintro e w2 ⟨rfl, hf2⟩
              obtain ⟨d1, d2, d3⟩ := HSD.out _ (by first | with_reducible assumption | with_reducible exact Fresh.tD hf2)
              have p1 := d1.cell
              have p2 := d1.frozen
              clear hf2 k1 k2 k3 k4 k5 k6
              go_wp2
              have hb9 := d1.set (.bool true)
              have hK' := (KeepsOthers.setCell w2 ⟨g0 + 1, 0, none⟩ (.bool true)).same D _ d3 rfl
              refine ⟨by simp, .inl ⟨_, _, rfl, run_takeDeferred hK', ?_⟩⟩
              have hc5 := cell_kept hb9.cell (grownBy_putObj' _ D (.deferred none)) (fun r e => by cases e; exact ⟨_, hK', rfl⟩)
              refine ⟨.bool true, ?_, rfl, (d2.setCell (p := ⟨g0 + 1, 0, none⟩) (by simp; omega) _).trans (belowK_b (w := w) (Nat.le_refl _) _ D _ _ (by omega) hK' rfl rfl)⟩
              simp [results, Try.f7, go_sem, hc5]
            · have m2 : decide (n ≤ a) = false := decide_eq_false hn
              have hx := HX.out (by omega) (by omega)
              have m3 : decide (1073741824 ≤ f + n) = true := decide_eq_true hx
              have m4 : IntKind.i64.wrap (f + n) = f + n := by rw [IntKind.wrap_i64]; omega
              go_wp2_with fail
              with_reducible refine (right_yes _ _ _ R0 R1 R2 R3).mono ?_
              rintro e w9 ⟨rfl, rfl⟩
              go_wp2_with fail
              with_reducible refine (awake_true _).mono ?_
              rintro e w2 ⟨rfl, hf2⟩
              obtain ⟨d1, d2, d3⟩ := HSD.out _ (by first | with_reducible assumption | with_reducible exact Fresh.tD hf2)
              have p1 := d1.cell
              have p2 := d1.frozen
              clear hf2 k1 k2 k3 k4 k5 k6
              go_wp2
              have hb9 := d1.set (.bool true)
              have hK' := (KeepsOthers.setCell w2 ⟨g0 + 1, 0, none⟩ (.bool true)).same D _ d3 rfl
              refine ⟨by simp, .inl ⟨_, _, rfl, run_takeDeferred hK', ?_⟩⟩
              have hc5 := cell_kept hb9.cell (grownBy_putObj' _ D (.deferred none)) (fun r e => by cases e; exact ⟨_, hK', rfl⟩)
              refine ⟨.bool true, ?_, rfl, (d2.setCell (p := ⟨g0 + 1, 0, none⟩) (by simp; omega) _).trans (belowK_b (w := w) (Nat.le_refl _) _ D _ _ (by omega) hK' rfl rfl)⟩
              simp [results, Try.f7, go_sem, hc5]
        · have HR := Lib.hid hR
          clear hR
          go_wp2_with fail
          with_reducible refine (right_no _ _ _ HR.out).mono ?_
          rintro e w9 ⟨rfl, rfl⟩
          go_wp2_with fail
          with_reducible refine (awake_true _).mono ?_
          rintro e w2 ⟨rfl, hf2⟩
          obtain ⟨d1, d2, d3⟩ := HSD.out _ (by first | with_reducible assumption | with_reducible exact Fresh.tD hf2)
          have p1 := d1.cell
          have p2 := d1.frozen
          clear hf2 k1 k2 k3 k4 k5 k6
          go_wp2
          have hb9 := d1.set (.bool true)
          have hK' := (KeepsOthers.setCell w2 ⟨g0 + 1, 0, none⟩ (.bool true)).same D _ d3 rfl
          refine ⟨by simp, .inl ⟨_, _, rfl, run_takeDeferred hK', ?_⟩⟩
          have hc5 := cell_kept hb9.cell (grownBy_putObj' _ D (.deferred none)) (fun r e => by cases e; exact ⟨_, hK', rfl⟩)
          refine ⟨.bool true, ?_, rfl, (d2.setCell (p := ⟨g0 + 1, 0, none⟩) (by simp; omega) _).trans (belowK_b (w := w) (Nat.le_refl _) _ D _ _ (by omega) hK' rfl rfl)⟩
          simp [results, Try.f7, go_sem, hc5]
end Go.Proofs.Ytalojmebbccdnaa
