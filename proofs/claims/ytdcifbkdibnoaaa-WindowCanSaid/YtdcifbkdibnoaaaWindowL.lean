/-
  Windows in blocks of their own, step by step.
-/
import Derived.Test.YtdcifbkdibnoaaaParts
namespace Go.Proofs.Ytdcifbkdibnoaaa
set_option linter.unusedVariables false
open Go.RowKit

def WIs (w : World) (b : Nat) (s : Int) : Prop := Blk w b 25 #[.int .i64 s] ∧ -2147483648 ≤ s ∧ s ≤ 2147483647
theorem WIs.cell {w : World} {b : Nat} {s : Int} (h : WIs w b s) : w.cell? ⟨b, 0, none⟩ = some (.int .i64 s) := by rw [h.1.cell]; rfl
theorem WIs.frozen {w : World} {b : Nat} {s : Int} (h : WIs w b s) : w.frozen? ⟨b, 0, none⟩ = false := h.1.frozen 0
theorem WIs.only {S : Nat → Prop} {w w' : World} {b : Nat} {s : Int} (h : WIs w b s) (ho : Only S w w') (hs : ¬ S b) : WIs w' b s := ⟨h.1.only ho hs, h.2⟩
theorem WIs.fresh {w w' : World} {b : Nat} {s : Int} (h : WIs w b s) (ho : Fresh w w') : WIs w' b s := ⟨h.1.fresh ho, h.2⟩
theorem WIs.wrote {w w' : World} {b : Nat} {s v : Int} (h : WIs w b s) (hw : Wrote ⟨b, 0, none⟩ (.int .i64 v) w w') (h0 : -2147483648 ≤ v) (h1 : v ≤ 2147483647) : WIs w' b v := by
  have := hw.blk h.1
  exact ⟨this, h0, h1⟩

/-- One step of a window, as plain numbers do it. -/
def stepF (n k a b : Int) : Int × Int :=
  if k = 3 then (if a < 0 ∨ 2147483647 < a ∨ b < 0 ∨ 2147483647 < b then (n, 11) else if 2147483647 < n + b - a then (n, 103) else if n + b - a < -2147483648 then (n, 11) else (n + b - a, 0))
  else if a < 0 ∨ 2147483647 < a then (n, 11)
  else if k = 1 then (if a = 0 then (n, 11) else if 2147483647 < n + a then (n, 103) else (n + a, 0))
  else if 0 < a ∧ n < a then (n, 15) else (n - a, 0)

def WPost (b : Nat) (w : World) (r : Int × Int) (e : Ending) (w' : World) : Prop := e = .returned (.int .i64 r.2) ∧ WIs w' b r.1 ∧ Only (· = b) w w'

theorem grow_w (b : Nat) (s a c : Int) (w : World) (h : WIs w b s) :
    Calls Try.prog 11 #[.pointer (some ⟨b, 0, none⟩), .int .i64 a] w (WPost b w (stepF s 1 a c)) := by
  have h0 := h.2.1
  have h1 := h.2.2
  by_cases h2 : 1 ≤ a ∧ a ≤ 2147483647
  · by_cases h3 : s + a ≤ 2147483647
    · have e : stepF s 1 a c = (s + a, 0) := by
        unfold stepF; rw [if_neg (by omega), if_neg (by omega), if_pos rfl, if_neg (by omega), if_neg (by omega)]
      rw [e]
      refine (grow_ok b 0 s a w h.cell h.frozen h2.1 h2.2 h0 h3).mono ?_
      rintro e w' ⟨rfl, rfl⟩
      exact ⟨rfl, h.wrote (Wrote.set _ _ _) (by omega) (by omega), Only.setCell _ ⟨b, 0, none⟩ _⟩
    · have e : stepF s 1 a c = (s, 103) := by
        unfold stepF; rw [if_neg (by omega), if_neg (by omega), if_pos rfl, if_neg (by omega), if_pos (by omega)]
      rw [e]
      refine (grow_flow b 0 s a w h.cell h2.1 h2.2 h0 h1 (by omega)).mono ?_
      rintro e w' ⟨rfl, rfl⟩
      exact ⟨rfl, h, Only.refl _ _⟩
  · have e : stepF s 1 a c = (s, 11) := by
      unfold stepF; rw [if_neg (by omega)]
      by_cases h3 : a < 0 ∨ 2147483647 < a
      · rw [if_pos h3]
      · rw [if_neg h3, if_pos rfl, if_pos (by omega)]
    rw [e]
    refine (grow_range _ a w h2).mono ?_
    rintro e w' ⟨rfl, rfl⟩
    exact ⟨rfl, h, Only.refl _ _⟩

theorem spend_w (b : Nat) (s a c : Int) (w : World) (h : WIs w b s) :
    Calls Try.prog 12 #[.pointer (some ⟨b, 0, none⟩), .int .i64 a] w (WPost b w (stepF s 2 a c)) := by
  have h0 := h.2.1
  have h1 := h.2.2
  by_cases h2 : 0 ≤ a ∧ a ≤ 2147483647
  · by_cases h3 : a = 0 ∨ (1 ≤ a ∧ a ≤ s)
    · have e : stepF s 2 a c = (s - a, 0) := by
        unfold stepF; rw [if_neg (by omega), if_neg (by omega), if_neg (by omega), if_neg (by omega)]
      rw [e]
      refine (spend_ok b 0 s a w h.cell h.frozen h2.2 h0 h1 h3 h.1.lt).mono ?_
      rintro e w' ⟨rfl, hw⟩
      exact ⟨rfl, h.wrote hw (by omega) (by omega), hw.1⟩
    · have e : stepF s 2 a c = (s, 15) := by
        unfold stepF; rw [if_neg (by omega), if_neg (by omega), if_neg (by omega), if_pos (by omega)]
      rw [e]
      refine (spend_full b 0 s a w h.cell h2.1 h2.2 h3).mono ?_
      rintro e w' ⟨rfl, hf⟩
      exact ⟨rfl, h.fresh hf, Only.of_fresh hf⟩
  · have e : stepF s 2 a c = (s, 11) := by
      unfold stepF; rw [if_neg (by omega), if_pos (by omega)]
    rw [e]
    refine (spend_range _ a w h2).mono ?_
    rintro e w' ⟨rfl, rfl⟩
    exact ⟨rfl, h, Only.refl _ _⟩

theorem shift_w (b : Nat) (s f t : Int) (w : World) (h : WIs w b s) :
    Calls Try.prog 13 #[.pointer (some ⟨b, 0, none⟩), .int .i64 f, .int .i64 t] w (WPost b w (stepF s 3 f t)) := by
  have h0 := h.2.1
  have h1 := h.2.2
  by_cases h2 : 0 ≤ f ∧ f ≤ 2147483647 ∧ 0 ≤ t ∧ t ≤ 2147483647
  · obtain ⟨f0, f1, t0, t1⟩ := h2
    by_cases h3 : 2147483647 < s + t - f
    · have e : stepF s 3 f t = (s, 103) := by unfold stepF; rw [if_pos rfl, if_neg (by omega), if_pos h3]
      rw [e]
      refine (shift_no b 0 s f t 103 w h.cell f0 f1 t0 t1 h0 h1 (.inl ⟨h3, rfl⟩)).mono ?_
      rintro e w' ⟨rfl, rfl⟩
      exact ⟨rfl, h, Only.refl _ _⟩
    · by_cases h4 : s + t - f < -2147483648
      · have e : stepF s 3 f t = (s, 11) := by unfold stepF; rw [if_pos rfl, if_neg (by omega), if_neg h3, if_pos h4]
        rw [e]
        refine (shift_no b 0 s f t 11 w h.cell f0 f1 t0 t1 h0 h1 (.inr ⟨h4, rfl⟩)).mono ?_
        rintro e w' ⟨rfl, rfl⟩
        exact ⟨rfl, h, Only.refl _ _⟩
      · have e : stepF s 3 f t = (s + t - f, 0) := by unfold stepF; rw [if_pos rfl, if_neg (by omega), if_neg h3, if_neg h4]
        rw [e]
        refine (shift_ok b 0 s f t w h.cell h.frozen f0 f1 t0 t1 h0 h1 (by omega) (by omega)).mono ?_
        rintro e w' ⟨rfl, rfl⟩
        exact ⟨rfl, h.wrote (Wrote.set _ _ _) (by omega) (by omega), Only.setCell _ ⟨b, 0, none⟩ _⟩
  · have e : stepF s 3 f t = (s, 11) := by unfold stepF; rw [if_pos rfl, if_pos (by omega)]
    rw [e]
    refine (shift_range _ f t w h2).mono ?_
    rintro e w' ⟨rfl, rfl⟩
    exact ⟨rfl, h, Only.refl _ _⟩

theorem stepF_bd (n k a b : Int) (h0 : -2147483648 ≤ n) (h1 : n ≤ 2147483647) : -2147483648 ≤ (stepF n k a b).1 ∧ (stepF n k a b).1 ≤ 2147483647 := by
  unfold stepF
  repeat' split
  all_goals (simp only []; omega)

theorem s1 : stepF 10 2 7 0 = (3, 0) := by decide
theorem s2 : stepF 3 3 10 5 = (-2, 0) := by decide
theorem s3 : stepF (-2) 2 1 0 = (-2, 15) := by decide
theorem s4 : stepF (-2) 1 2147483647 0 = (2147483645, 0) := by decide
theorem s5 : stepF 2147483645 1 3 0 = (2147483645, 103) := by decide

set_option maxHeartbeats 800000 in
theorem awake_true (w : World) :
    Calls Try.prog 8 #[] w fun e w' => e = .returned (.bool true) ∧ Fresh w w' := by
  go_enter Try.func8, Try.ntmps8
  go_wp2_with fail
  refine (wnew_yes 10 _ (by omega) (by omega)).mono ?_
  rintro e w1 ⟨rfl, hf1⟩
  go_wp2_with fail
  have hW : WIs (w1.alloc (.cells #[.int .i64 10] 25)) w1.heap.size 10 := ⟨Blk.new _ _ _, by omega, by omega⟩
  refine (spend_w _ 10 7 0 _ hW).mono ?_
  rw [s1]
  rintro e w2 ⟨rfl, hW2, ho2⟩
  clear hW
  go_wp2_with fail
  refine (shift_w _ 3 10 5 _ hW2).mono ?_
  rw [s2]
  rintro e w3 ⟨rfl, hW3, ho3⟩
  clear hW2
  go_wp2_with fail
  refine (spend_w _ (-2) 1 0 _ hW3).mono ?_
  rw [s3]
  rintro e w4 ⟨rfl, hW4, ho4⟩
  clear hW3
  go_wp2_with fail
  refine (wnew_no (-1) _ (by omega)).mono ?_
  rintro e w5 ⟨rfl, hf5⟩
  have hW5 := (hW4.fresh hf5).fresh (Fresh.alloc w5 (.cells #[.int .i64 0] 25))
  have hc5 := hW5.cell
  have hn : w1.heap.size < w5.heap.size := (hW4.fresh hf5).1.lt
  clear hW4
  go_wp2_with fail
  refine (wsize_any (-2) _).mono ?_
  rintro e w6 ⟨rfl, hf6⟩
  have hW6 := hW5.fresh hf6
  clear hc5 hW5
  go_wp2_with fail
  refine (grow_w _ (-2) 2147483647 0 _ hW6).mono ?_
  rw [s4]
  rintro e w7 ⟨rfl, hW7, ho7⟩
  clear hW6
  go_wp2_with fail
  refine (grow_w _ 2147483645 3 0 _ hW7).mono ?_
  rw [s5]
  rintro e w8 ⟨rfl, hW8, ho8⟩
  clear hW7
  go_wp2_with fail
  refine (parts_yes 10 3 _ (by omega) (by omega) (by omega) (by omega)).mono ?_
  rintro e w9 ⟨rfl, _, hf9⟩
  go_wp2_with fail
  go_ret
  refine ⟨rfl, ?_⟩
  have h1 : Only (· = w1.heap.size) w1 w4 := ((((Only.of_fresh (Fresh.alloc _ _)).trans ho2).trans ho3).trans ho4)
  have h2 : Only (· = w1.heap.size) w4 w9 := ((Only.of_fresh (hf5.trans ((Fresh.alloc _ _).trans hf6))).trans ho7).trans (ho8.trans (Only.of_fresh hf9))
  exact hf1.trans ((h1.trans h2).fresh (fun k hk e => by omega))
end Go.Proofs.Ytdcifbkdibnoaaa
