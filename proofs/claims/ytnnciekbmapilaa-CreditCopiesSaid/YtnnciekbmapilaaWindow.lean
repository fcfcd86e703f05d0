/-
  Contracts of package window.
-/
import Derived.Test.YtnnciekbmapilaaMem
namespace Go.Proofs.Ytnnciekbmapilaa
set_option linter.unusedVariables false
open Go.RowKit

theorem rightSize_any (n : Int) (w : World) :
    Calls Try.prog 28 #[.int .i64 n] w fun e w' => e = .returned (.bool (decide (0 ≤ n) && decide (n ≤ 2147483647))) ∧ w = w' := by
  by_cases h : 0 ≤ n
  · go_enter Try.func28, Try.ntmps28
    go_wp2
    go_ret
    exact ⟨ret_bool (by simp [h]), rfl⟩
  · have h' : decide (0 ≤ n) = false := by simpa using h
    go_enter Try.func28, Try.ntmps28
    go_wp2
    go_ret
    exact ⟨ret_bool (by simp [h']), rfl⟩
theorem rightSize_yes (n : Int) (w : World) (h0 : 0 ≤ n) (h1 : n ≤ 2147483647) :
    Calls Try.prog 28 #[.int .i64 n] w fun e w' => e = .returned (.bool true) ∧ w = w' := by
  have := rightSize_any n w
  rwa [show (decide (0 ≤ n) && decide (n ≤ 2147483647)) = true by simp [h0, h1]] at this
theorem rightSize_no (n : Int) (w : World) (h : ¬ (0 ≤ n ∧ n ≤ 2147483647)) :
    Calls Try.prog 28 #[.int .i64 n] w fun e w' => e = .returned (.bool false) ∧ w = w' := by
  have := rightSize_any n w
  rwa [show (decide (0 ≤ n) && decide (n ≤ 2147483647)) = false by rw [← Bool.not_eq_true]; intro hh; simp at hh; omega] at this

theorem wnew_yes (n : Int) (w : World) (h0 : 0 ≤ n) (h1 : n ≤ 2147483647) :
    Calls Try.prog 18 #[.int .i64 n] w fun e w' => e = .returned (.tuple #[.agg #[.int .i64 n], .int .i64 0]) ∧ Fresh w w' := by
  go_enter Try.func18, Try.ntmps18
  go_wp2_with (go_at_call 28; refine (rightSize_yes _ _ h0 h1).mono ?_; rintro e w' ⟨rfl, rfl⟩)
  exact bodyPost_ret (v := .tuple #[.agg #[.int .i64 n], .int .i64 0]) (by simp [results, Try.results18, go_sem]) rfl ⟨rfl, Fresh.alloc _ _⟩
theorem wnew_no (n : Int) (w : World) (h : ¬ (0 ≤ n ∧ n ≤ 2147483647)) :
    Calls Try.prog 18 #[.int .i64 n] w fun e w' => e = .returned (.tuple #[.agg #[.int .i64 0], .int .i64 11]) ∧ Fresh w w' := by
  have H := Lib.hid (fun w => rightSize_no n w h)
  clear h
  go_enter Try.func18, Try.ntmps18
  go_wp2_with (go_at_call 28; refine (H.out _).mono ?_; rintro e w' ⟨rfl, rfl⟩)
  exact bodyPost_ret (v := .tuple #[.agg #[.int .i64 0], .int .i64 11]) (by simp [results, Try.results18, go_sem]) rfl ⟨rfl, Fresh.alloc _ _⟩

theorem wsize_any (n : Int) (w : World) :
    Calls Try.prog 26 #[.agg #[.int .i64 n]] w fun e w' => e = .returned (.int .i64 n) ∧ Fresh w w' := by
  go_enter Try.func26, Try.ntmps26
  go_wp2
  go_ret
  exact ⟨rfl, Fresh.alloc _ _⟩

theorem can_yes (s n : Int) (w : World) (h : n = 0 ∨ (1 ≤ n ∧ n ≤ s)) :
    Calls Try.prog 29 #[.agg #[.int .i64 s], .int .i64 n] w fun e w' => e = .returned (.bool true) ∧ Fresh w w' := by
  by_cases h0 : n = 0
  · subst h0
    clear h
    go_enter Try.func29, Try.ntmps29
    go_wp2
    go_ret
    exact ⟨rfl, Fresh.alloc _ _⟩
  · have h0' : (n == 0) = false := by simpa using h0
    have h1 : 1 ≤ n := by omega
    have h2 : n ≤ s := by omega
    clear h h0
    go_enter Try.func29, Try.ntmps29
    go_wp2
    go_ret
    exact ⟨rfl, Fresh.alloc _ _⟩
theorem can_no (s n : Int) (w : World) (h : ¬ (n = 0 ∨ (1 ≤ n ∧ n ≤ s))) :
    Calls Try.prog 29 #[.agg #[.int .i64 s], .int .i64 n] w fun e w' => e = .returned (.bool false) ∧ Fresh w w' := by
  have h0' : (n == 0) = false := by simp; omega
  by_cases h1 : 1 ≤ n
  · have h2 : decide (n ≤ s) = false := by simp; omega
    clear h
    go_enter Try.func29, Try.ntmps29
    go_wp2
    go_ret
    exact ⟨rfl, Fresh.alloc _ _⟩
  · have h2 : decide (1 ≤ n) = false := by simp; omega
    clear h
    go_enter Try.func29, Try.ntmps29
    go_wp2
    go_ret
    exact ⟨rfl, Fresh.alloc _ _⟩

theorem grow_ok (b o : Nat) (s n : Int) (w : World) (hc : w.cell? ⟨b, o, none⟩ = some (.int .i64 s)) (hz : w.frozen? ⟨b, o, none⟩ = false)
    (h0 : 1 ≤ n) (h1 : n ≤ 2147483647) (h2 : -2147483648 ≤ s) (h3 : s + n ≤ 2147483647) :
    Calls Try.prog 23 #[.pointer (some ⟨b, o, none⟩), .int .i64 n] w fun e w' => e = .returned (.int .i64 0) ∧ w.setCell ⟨b, o, none⟩ (.int .i64 (s + n)) = w' := by
  go_enter Try.func23, Try.ntmps23
  go_wp2_with (go_at_call 28; refine (rightSize_yes _ _ (by omega) h1).mono ?_; rintro e w' ⟨rfl, rfl⟩)
  go_ret
  exact ⟨rfl, rfl⟩
theorem grow_flow (b o : Nat) (s n : Int) (w : World) (hc : w.cell? ⟨b, o, none⟩ = some (.int .i64 s))
    (h0 : 1 ≤ n) (h1 : n ≤ 2147483647) (h2 : -2147483648 ≤ s) (h2' : s ≤ 2147483647) (h3 : 2147483647 < s + n) :
    Calls Try.prog 23 #[.pointer (some ⟨b, o, none⟩), .int .i64 n] w fun e w' => e = .returned (.int .i64 103) ∧ w = w' := by
  go_enter Try.func23, Try.ntmps23
  go_wp2_with (go_at_call 28; refine (rightSize_yes _ _ (by omega) h1).mono ?_; rintro e w' ⟨rfl, rfl⟩)
  go_ret
  exact ⟨rfl, rfl⟩
theorem grow_range (p : Value) (n : Int) (w : World) (h : ¬ (1 ≤ n ∧ n ≤ 2147483647)) :
    Calls Try.prog 23 #[p, .int .i64 n] w fun e w' => e = .returned (.int .i64 11) ∧ w = w' := by
  by_cases h0 : n = 0
  · subst h0
    clear h
    go_enter Try.func23, Try.ntmps23
    go_wp2_with (go_at_call 28; refine (rightSize_yes _ _ (by omega) (by omega)).mono ?_; rintro e w' ⟨rfl, rfl⟩)
    go_ret
    exact ⟨rfl, rfl⟩
  · have H := Lib.hid (fun w => rightSize_no n w (by omega))
    clear h h0
    go_enter Try.func23, Try.ntmps23
    go_wp2_with (go_at_call 28; refine (H.out _).mono ?_; rintro e w' ⟨rfl, rfl⟩)
    go_ret
    exact ⟨rfl, rfl⟩

theorem spend_ok (b o : Nat) (s n : Int) (w : World) (hc : w.cell? ⟨b, o, none⟩ = some (.int .i64 s)) (hz : w.frozen? ⟨b, o, none⟩ = false)
    (h1 : n ≤ 2147483647) (h2 : -2147483648 ≤ s) (h2' : s ≤ 2147483647) (h3 : n = 0 ∨ (1 ≤ n ∧ n ≤ s)) (hb : b < w.heap.size) :
    Calls Try.prog 25 #[.pointer (some ⟨b, o, none⟩), .int .i64 n] w fun e w' => e = .returned (.int .i64 0) ∧ Wrote ⟨b, o, none⟩ (.int .i64 (s - n)) w w' := by
  have H := Lib.hid (fun w => can_yes s n w h3)
  have g0 : 0 ≤ n := by omega
  have g1 : -4294967296 ≤ s - n := by omega
  clear h3
  go_enter Try.func25, Try.ntmps25
  go_wp2_with fail
  refine (rightSize_yes _ _ g0 h1).mono ?_
  rintro e w' ⟨rfl, rfl⟩
  go_wp2_with fail
  refine (H.out _).mono ?_
  rintro e w' ⟨rfl, hf⟩
  have hc' := (hf.cell (p := ⟨b, o, none⟩) hb).trans hc
  have hz' := (hf.frozen (p := ⟨b, o, none⟩) hb).trans hz
  go_wp2_with fail
  go_ret
  exact ⟨rfl, Wrote.after hf hb⟩
theorem spend_full (b o : Nat) (s n : Int) (w : World) (hc : w.cell? ⟨b, o, none⟩ = some (.int .i64 s))
    (h0 : 0 ≤ n) (h1 : n ≤ 2147483647) (h3 : ¬ (n = 0 ∨ (1 ≤ n ∧ n ≤ s))) :
    Calls Try.prog 25 #[.pointer (some ⟨b, o, none⟩), .int .i64 n] w fun e w' => e = .returned (.int .i64 15) ∧ Fresh w w' := by
  have H := Lib.hid (fun w => can_no s n w h3)
  clear h3
  go_enter Try.func25, Try.ntmps25
  go_wp2_with fail
  refine (rightSize_yes _ _ h0 h1).mono ?_
  rintro e w' ⟨rfl, rfl⟩
  go_wp2_with fail
  refine (H.out _).mono ?_
  rintro e w' ⟨rfl, hf⟩
  go_wp2_with fail
  go_ret
  exact ⟨rfl, hf⟩
theorem spend_range (p : Value) (n : Int) (w : World) (h : ¬ (0 ≤ n ∧ n ≤ 2147483647)) :
    Calls Try.prog 25 #[p, .int .i64 n] w fun e w' => e = .returned (.int .i64 11) ∧ w = w' := by
  have H := Lib.hid (fun w => rightSize_no n w h)
  clear h
  go_enter Try.func25, Try.ntmps25
  go_wp2_with fail
  refine (H.out _).mono ?_
  rintro e w' ⟨rfl, rfl⟩
  go_wp2_with fail
  go_ret
  exact ⟨rfl, rfl⟩


end Go.Proofs.Ytnnciekbmapilaa
