/-
  The law QueueNew.
-/
import Derived.Test.YthfifeclmikbgaaQueA
namespace Go.Proofs.Ythfifeclmikbgaa
set_option linter.unusedVariables false
set_option linter.unusedSimpArgs false
open Go.RowKit
section
variable {w : World}
theorem right_nil_no (a b c : Int) (h : a < 1 ∨ 64 < a ∨ b < 0 ∨ 1048576 < b ∨ c < 1 ∨ 4096 < c) : Calls Try.prog 7 #[.agg #[.int .i64 a, .int .i64 b, .int .i64 c, .slice none 0 0]] w fun e w' => e = .returned (.bool false) ∧ Fresh w w' := by
  by_cases h1 : a < 1
  · have p1 : ¬ 1 ≤ a := by omega
    clear h
    go_enter Try.func7, Try.ntmps7
    go_upto_region 1 with fail
    refine wp_gen (fun W => Fresh w W ∧ Blk W w.heap.size 24 #[.int .i64 a, .int .i64 b, .int .i64 c, .slice none 0 0]) ⟨Fresh.alloc _ _, Blk.new _ _ _⟩ ?_
    rintro W ⟨hf0, hb0⟩
    obtain ⟨c0, c1, c2, c3⟩ := hb0.c4
    have HF := Lib.hid hf0
    clear hf0 hb0
    go_wp2
    go_loopw [9] (fun i wr => i = .int .i64 0 ∧ wr = W) (fun _ _ => 0)
    case atStart => exact ⟨rfl, rfl⟩
    case round =>
      obtain ⟨rfl, rfl⟩ := hrel
      go_wp2
      go_ret
      first | exact ⟨rfl, HF.out⟩ | exact ⟨ret_bool (by simp; omega), HF.out⟩
  by_cases h2 : 64 < a
  · have p1 : 1 ≤ a := by omega
    have p2 : ¬ a ≤ 64 := by omega
    clear h
    go_enter Try.func7, Try.ntmps7
    go_upto_region 1 with fail
    refine wp_gen (fun W => Fresh w W ∧ Blk W w.heap.size 24 #[.int .i64 a, .int .i64 b, .int .i64 c, .slice none 0 0]) ⟨Fresh.alloc _ _, Blk.new _ _ _⟩ ?_
    rintro W ⟨hf0, hb0⟩
    obtain ⟨c0, c1, c2, c3⟩ := hb0.c4
    have HF := Lib.hid hf0
    clear hf0 hb0
    go_wp2
    go_loopw [9] (fun i wr => i = .int .i64 0 ∧ wr = W) (fun _ _ => 0)
    case atStart => exact ⟨rfl, rfl⟩
    case round =>
      obtain ⟨rfl, rfl⟩ := hrel
      go_wp2
      go_ret
      first | exact ⟨rfl, HF.out⟩ | exact ⟨ret_bool (by simp; omega), HF.out⟩
  by_cases h3 : b < 0
  · have p1 : 1 ≤ a := by omega
    have p2 : a ≤ 64 := by omega
    have p3 : ¬ 0 ≤ b := by omega
    clear h
    go_enter Try.func7, Try.ntmps7
    go_upto_region 1 with fail
    refine wp_gen (fun W => Fresh w W ∧ Blk W w.heap.size 24 #[.int .i64 a, .int .i64 b, .int .i64 c, .slice none 0 0]) ⟨Fresh.alloc _ _, Blk.new _ _ _⟩ ?_
    rintro W ⟨hf0, hb0⟩
    obtain ⟨c0, c1, c2, c3⟩ := hb0.c4
    have HF := Lib.hid hf0
    clear hf0 hb0
    go_wp2
    go_loopw [9] (fun i wr => i = .int .i64 0 ∧ wr = W) (fun _ _ => 0)
    case atStart => exact ⟨rfl, rfl⟩
    case round =>
      obtain ⟨rfl, rfl⟩ := hrel
      go_wp2
      go_ret
      first | exact ⟨rfl, HF.out⟩ | exact ⟨ret_bool (by simp; omega), HF.out⟩
  by_cases h4 : 1048576 < b
  · have p1 : 1 ≤ a := by omega
    have p2 : a ≤ 64 := by omega
    have p3 : 0 ≤ b := by omega
    have p4 : ¬ b ≤ 1048576 := by omega
    clear h
    go_enter Try.func7, Try.ntmps7
    go_upto_region 1 with fail
    refine wp_gen (fun W => Fresh w W ∧ Blk W w.heap.size 24 #[.int .i64 a, .int .i64 b, .int .i64 c, .slice none 0 0]) ⟨Fresh.alloc _ _, Blk.new _ _ _⟩ ?_
    rintro W ⟨hf0, hb0⟩
    obtain ⟨c0, c1, c2, c3⟩ := hb0.c4
    have HF := Lib.hid hf0
    clear hf0 hb0
    go_wp2
    go_loopw [9] (fun i wr => i = .int .i64 0 ∧ wr = W) (fun _ _ => 0)
    case atStart => exact ⟨rfl, rfl⟩
    case round =>
      obtain ⟨rfl, rfl⟩ := hrel
      go_wp2
      go_ret
      first | exact ⟨rfl, HF.out⟩ | exact ⟨ret_bool (by simp; omega), HF.out⟩
  by_cases h5 : c < 1
  · have p1 : 1 ≤ a := by omega
    have p2 : a ≤ 64 := by omega
    have p3 : 0 ≤ b := by omega
    have p4 : b ≤ 1048576 := by omega
    have p5 : ¬ 1 ≤ c := by omega
    clear h
    go_enter Try.func7, Try.ntmps7
    go_upto_region 1 with fail
    refine wp_gen (fun W => Fresh w W ∧ Blk W w.heap.size 24 #[.int .i64 a, .int .i64 b, .int .i64 c, .slice none 0 0]) ⟨Fresh.alloc _ _, Blk.new _ _ _⟩ ?_
    rintro W ⟨hf0, hb0⟩
    obtain ⟨c0, c1, c2, c3⟩ := hb0.c4
    have HF := Lib.hid hf0
    clear hf0 hb0
    go_wp2
    go_loopw [9] (fun i wr => i = .int .i64 0 ∧ wr = W) (fun _ _ => 0)
    case atStart => exact ⟨rfl, rfl⟩
    case round =>
      obtain ⟨rfl, rfl⟩ := hrel
      go_wp2
      go_ret
      first | exact ⟨rfl, HF.out⟩ | exact ⟨ret_bool (by simp; omega), HF.out⟩
  have p1 : 1 ≤ a := by omega
  have p2 : a ≤ 64 := by omega
  have p3 : 0 ≤ b := by omega
  have p4 : b ≤ 1048576 := by omega
  have p5 : 1 ≤ c := by omega
  have p6 : ¬ c ≤ 4096 := by omega
  clear h
  go_enter Try.func7, Try.ntmps7
  go_upto_region 1 with fail
  refine wp_gen (fun W => Fresh w W ∧ Blk W w.heap.size 24 #[.int .i64 a, .int .i64 b, .int .i64 c, .slice none 0 0]) ⟨Fresh.alloc _ _, Blk.new _ _ _⟩ ?_
  rintro W ⟨hf0, hb0⟩
  obtain ⟨c0, c1, c2, c3⟩ := hb0.c4
  have HF := Lib.hid hf0
  clear hf0 hb0
  go_wp2
  go_loopw [9] (fun i wr => i = .int .i64 0 ∧ wr = W) (fun _ _ => 0)
  case atStart => exact ⟨rfl, rfl⟩
  case round =>
    obtain ⟨rfl, rfl⟩ := hrel
    go_wp2
    go_ret
    first | exact ⟨rfl, HF.out⟩ | exact ⟨ret_bool (by simp; omega), HF.out⟩
theorem right_nil (a b c : Int) (p1 : 1 ≤ a) (p2 : a ≤ 64) (p3 : 0 ≤ b) (p4 : b ≤ 1048576) (p5 : 1 ≤ c) (p6 : c ≤ 4096) : Calls Try.prog 7 #[.agg #[.int .i64 a, .int .i64 b, .int .i64 c, .slice none 0 0]] w fun e w' => e = .returned (.bool true) ∧ Fresh w w' := by
  go_enter Try.func7, Try.ntmps7
  go_upto_region 1 with fail
  refine wp_gen (fun W => Fresh w W ∧ Blk W w.heap.size 24 #[.int .i64 a, .int .i64 b, .int .i64 c, .slice none 0 0]) ⟨Fresh.alloc _ _, Blk.new _ _ _⟩ ?_
  rintro W ⟨hf0, hb0⟩
  obtain ⟨c0, c1, c2, c3⟩ := hb0.c4
  have HF := Lib.hid hf0
  clear hf0 hb0
  go_wp2
  go_loopw [9] (fun i wr => i = .int .i64 0 ∧ wr = W) (fun _ _ => 0)
  case atStart => exact ⟨rfl, rfl⟩
  case round =>
    obtain ⟨rfl, rfl⟩ := hrel
    go_wp2
    go_ret
    first | exact ⟨rfl, HF.out⟩ | exact ⟨ret_bool (by simp; omega), HF.out⟩
def LwP (w : World) (e : Ending) (w' : World) : Prop := e = .returned (.bool true) ∧ Below w.heap.size w w'
theorem new_bad (a b c : Int) (h : a < 1 ∨ 64 < a ∨ b < 0 ∨ 1048576 < b ∨ c < 1 ∨ 4096 < c) : Calls Try.prog 6 #[.int .i64 a, .int .i64 b, .int .i64 c] w (LwP w) := by
  go_enter Try.func6, Try.ntmps6
  go_wp2_with fail
  with_reducible refine (qu_new_no a b c _ h).mono ?_
  rintro e w1 ⟨rfl, rfl⟩
  go_wp2_with fail
  with_reducible refine (right_nil_no a b c h).mono ?_
  rintro e w2 ⟨rfl, hf2⟩
  have HF2 := Lib.hid hf2
  clear hf2
  go_wp2_with fail
  with_reducible refine (qu_awake _).mono ?_
  rintro e w3 ⟨rfl, hf3⟩
  have HF3 := Lib.hid hf3
  clear hf3
  go_wp2
  go_ret
  exact ⟨rfl, HF2.out.trans HF3.out⟩
theorem lenR_nil (n : Nat) : lenR nilR n = 0 := by
  induction n with
  | zero => rfl
  | succ n ih => rw [lenR_succ, ih]; rfl
theorem new_good (n : Nat) (b c : Int) (p1 : 1 ≤ n) (p2 : n ≤ 64) (p3 : 0 ≤ b) (p4 : b ≤ 1048576) (p5 : 1 ≤ c) (p6 : c ≤ 4096) : Calls Try.prog 6 #[.int .i64 (n : Int), .int .i64 b, .int .i64 c] w (LwP w) := by
  go_enter Try.func6, Try.ntmps6
  go_wp2_with fail
  with_reducible refine (qu_new n b c _ p1 p2 p3 p4 p5 p6).mono ?_
  rintro e w1 ⟨q, R, rfl, hq, hql, hRl, hf1⟩
  have HQ := Lib.hid (hq w.heap.size)
  have HF1 := Lib.hid hf1
  have HRL := Lib.hid hRl
  clear hq hql hRl hf1
  go_wp2_with fail
  with_reducible refine (right_nil (n : Int) b c (by omega) (by omega) p3 p4 p5 p6).mono ?_
  rintro e w2 ⟨rfl, hf2⟩
  have HF2 := Lib.hid (HF1.out.trans hf2)
  have HQ2 := Lib.hid (HQ.out.fresh hf2)
  clear hf2
  have HL : Hid (Calls Try.prog 11 #[.pointer (some ⟨q, 0, none⟩), .int .i64 0] w2 fun e w' => e = .returned (.int .i64 0) ∧ w2 = w') := Lib.hid (qu_len 0 HQ2.out (by omega))
  go_wp2_with fail
  with_reducible refine HL.out.mono ?_
  rintro e w3 ⟨rfl, rfl⟩
  have HC := Lib.hid (qu_clear HQ2.out)
  rw [lenR_nil] at HC
  go_wp2_with fail
  with_reducible refine HC.out.mono ?_
  rintro e w3 ⟨rfl, _, ho3⟩
  have HF3 : Hid (Fresh w w3) := Lib.hid (Below.trans HF2.out (Only.below ho3 HF2.out.size (fun k e => by rw [e]; exact HRL.out)))
  clear ho3
  rw [show ((0 : Nat) : Int) = 0 from rfl]
  go_wp2_with fail
  with_reducible refine (qu_awake _).mono ?_
  rintro e w4 ⟨rfl, hf4⟩
  have HF4 := Lib.hid (HF3.out.trans hf4)
  clear hf4
  go_wp2
  go_ret
  exact ⟨rfl, HF4.out⟩
end
theorem QueueNew_any (a b c : Int) (w : World) (_ : -9223372036854775808 ≤ a ∧ a ≤ 9223372036854775807) (_ : -9223372036854775808 ≤ b ∧ b ≤ 9223372036854775807) (_ : -9223372036854775808 ≤ c ∧ c ≤ 9223372036854775807) : Calls Try.prog 6 #[.int .i64 a, .int .i64 b, .int .i64 c] w fun e w' => e = .returned (.bool true) ∧ Below w.heap.size w w' := by
  show Calls _ _ _ _ (LwP w)
  by_cases h : a < 1 ∨ 64 < a ∨ b < 0 ∨ 1048576 < b ∨ c < 1 ∨ 4096 < c
  · exact new_bad a b c h
  · obtain ⟨n, rfl⟩ : ∃ n : Nat, a = (n : Int) := ⟨a.toNat, by omega⟩
    exact new_good n b c (by omega) (by omega) (by omega) (by omega) (by omega) (by omega)
end Go.Proofs.Ythfifeclmikbgaa
