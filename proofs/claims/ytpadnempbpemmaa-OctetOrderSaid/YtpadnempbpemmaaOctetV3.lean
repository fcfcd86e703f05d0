/-
  The law OctetOrder: its walk.
-/
import Derived.Test.YtpadnempbpemmaaOctetV
namespace Go.Proofs.Ytpadnempbpemmaa
set_option linter.unusedVariables false
open Go.RowKit

theorem numL_cons (a : UInt8) (l : List UInt8) : numL (a :: l) = a.toNat * 256 ^ l.length + numL l := by
  have key : ∀ (n : Nat) (l : List UInt8), l.length = n → numL (a :: l) = a.toNat * 256 ^ n + numL l := by
    intro n
    induction n with
    | zero => intro l h; rw [List.length_eq_zero_iff.1 h]; simp [numL]
    | succ n ih =>
      intro l h
      have hne : l ≠ [] := by intro e; simp [e] at h
      have e1 : a :: l = (a :: l.dropLast) ++ [l.getLast hne] := by
        rw [List.cons_append, List.dropLast_concat_getLast]
      rw [e1, numL_snoc, ih l.dropLast (by simp [h])]
      conv => rhs; rw [← List.dropLast_concat_getLast hne, numL_snoc]
      rw [Nat.pow_succ, Nat.add_mul, Nat.mul_assoc, Nat.add_assoc]
  exact key _ l rfl
/-- Of lists of one length, the order of the numbers is that of the lists. -/
theorem numL_lex : ∀ a b : List UInt8, a.length = b.length → (Op.bytesLess a b = decide (numL a < numL b)) := by
  intro a
  induction a with
  | nil => intro b h; have : b = [] := List.eq_nil_of_length_eq_zero (by simpa using h.symm); subst this; simp [Op.bytesLess]
  | cons x l ih =>
    intro b h
    cases b with
    | nil => simp at h
    | cons y m =>
      have hl : l.length = m.length := by simpa using h
      rw [Op.bytesLess, ih m hl, numL_cons, numL_cons, hl]
      have h1 := numL_lt l
      have h2 := numL_lt m
      rw [hl] at h1
      generalize 256 ^ m.length = p at *
      generalize numL l = u at *
      generalize numL m = v at *
      have hlt : (x < y) ↔ x.toNat < y.toNat := UInt8.lt_iff_toNat_lt
      have heq : (x = y) ↔ x.toNat = y.toNat := UInt8.toNat_inj.symm
      rw [Bool.eq_iff_iff]
      simp only [Bool.or_eq_true, Bool.and_eq_true, decide_eq_true_eq, beq_iff_eq, hlt, heq]
      generalize x.toNat = xx at *
      generalize y.toNat = yy at *
      constructor
      · rintro (hh | ⟨hh, hh2⟩)
        · have : (xx + 1) * p ≤ yy * p := Nat.mul_le_mul_right p hh
          rw [Nat.add_mul] at this
          omega
        · subst hh; omega
      · intro hh
        rcases Nat.lt_trichotomy xx yy with c | c | c
        · exact .inl c
        · subst c; exact .inr ⟨rfl, by omega⟩
        · exfalso
          have : (yy + 1) * p ≤ xx * p := Nat.mul_le_mul_right p c
          rw [Nat.add_mul] at this
          omega
theorem numL_big8 (x n : Nat) (hx : x < 18446744073709551616) (h : 8 ≤ n) : numL (bigL x n) = x := by
  rw [numL_bigL]
  refine Nat.mod_eq_of_lt (Nat.lt_of_lt_of_le hx ?_)
  have : 256 ^ 8 ≤ 256 ^ n := Nat.pow_le_pow_right (by omega) h
  rwa [show (256 : Nat) ^ 8 = 18446744073709551616 from rfl] at this

set_option maxRecDepth 100000 in
set_option maxHeartbeats 1600000 in
theorem OctetOrder_walk (x y n : Nat) (w : World) (hx : x < 18446744073709551616) (hy : y < 18446744073709551616) (h1 : 8 ≤ n) (h2 : n ≤ 64) :
    Calls Try.prog 6 #[.int .u64 x, .int .u64 y, .int .i64 n] w fun e w' => e = .returned (.bool true) ∧ Fresh w w' := by
  have HX := Lib.hid (fun w => obig_yes x n w hx (by omega) h2)
  have HY := Lib.hid (fun w => obig_yes y n w hy (by omega) h2)
  have HSX := Lib.hid (fun w g h => str_eq_big x n w g h)
  have HSY := Lib.hid (fun w g h => str_eq_big y n w g h)
  have ex := numL_big8 x n hx h1
  have ey := numL_big8 y n hy h1
  have hlex := numL_lex (bigL x n) (bigL y n) (by rw [bigL_length, bigL_length])
  rw [ex, ey] at hlex
  have t : ∀ l : List UInt8, (strB l).toList = l := fun l => by
    rw [ByteArray.toList_eq]; rfl
  have hbl : Op.bytesLess (strB (bigL x n)).toList (strB (bigL y n)).toList = decide (x < y) := by
    rw [← hlex, t, t]
  have heq : ((strB (bigL x n)).toList == (strB (bigL y n)).toList) = decide (x = y) := by
    rw [t, t, Bool.eq_iff_iff]
    simp only [beq_iff_eq, decide_eq_true_eq]
    constructor
    · intro h
      have := congrArg numL h
      rwa [ex, ey] at this
    · intro h; rw [h]
  clear ex ey hlex hx hy t
  obtain ⟨S, hS⟩ : ∃ S, S = strB (bigL x n) := ⟨_, rfl⟩
  obtain ⟨T, hT⟩ : ∃ T, T = strB (bigL y n) := ⟨_, rfl⟩
  rw [← hS] at HSX hbl heq
  rw [← hT] at HSY hbl heq
  clear hS hT
  have d1 : ((x : Int) == (y : Int)) = decide (x = y) := by
    rw [Bool.eq_iff_iff]; simp; omega
  generalize hb1 : decide (x < y) = b1 at *
  generalize hb2 : decide (x = y) = b2 at *
  have hb1' : decide ((x : Int) < (y : Int)) = b1 := by rw [← hb1]; simp
  clear hb2
  go_enter Try.func6, Try.ntmps6
  go_wp2_with fail
  go_region_with (go_at_call 7; first | ((with_reducible refine (HX.out _).mono ?_); rintro e w2 ⟨rfl, hb2, hf2⟩; have hc2 := HSX.out w2 w.heap.size hb2) | ((with_reducible refine (HY.out _).mono ?_); rintro e w3 ⟨rfl, hb3, hf3⟩; have hc2 := HSX.out w3 w.heap.size (hb2.fresh hf3); have hc3 := HSY.out w3 w2.heap.size hb3))
  all_goals
    have hF : Fresh w w3 := (Fresh.drew _).trans (hf2.trans hf3)
    clear hc2 hc3 hb2 hb3
    go_wp2_with fail
    refine (awake_true _).mono ?_
    rintro e w4 ⟨rfl, hf4⟩
    go_wp2_with fail
    go_ret
    exact ⟨rfl, hF.trans hf4⟩

theorem OctetOrder_any (x y n : Int) (w : World) (wx : (Lit.int .u64 x).wf = true) (wy : (Lit.int .u64 y).wf = true) (_ : (Lit.int .i64 n).wf = true) :
    Calls Try.prog 6 #[.int .u64 x, .int .u64 y, .int .i64 n] w fun e w' => e = .returned (.bool true) ∧ Below w.heap.size w w' := by
  by_cases h : 8 ≤ n ∧ n ≤ 64
  · obtain ⟨hx0, hx1⟩ := wf_u64_bd wx
    obtain ⟨hy0, hy1⟩ := wf_u64_bd wy
    obtain ⟨a, rfl⟩ : ∃ a : Nat, x = a := ⟨x.toNat, by omega⟩
    obtain ⟨b, rfl⟩ : ∃ b : Nat, y = b := ⟨y.toNat, by omega⟩
    obtain ⟨m, rfl⟩ : ∃ m : Nat, n = m := ⟨n.toNat, by omega⟩
    exact OctetOrder_walk a b m w (by omega) (by omega) (by omega) (by omega)
  · clear wx wy
    by_cases h1 : n < 8
    · clear h
      go_enter Try.func6, Try.ntmps6
      go_wp2_with fail
      refine (awake_true _).mono ?_
      rintro e w4 ⟨rfl, hf4⟩
      go_wp2_with fail
      go_ret
      exact ⟨rfl, hf4⟩
    · have h2 : 64 < n := by omega
      clear h
      go_enter Try.func6, Try.ntmps6
      go_wp2_with fail
      refine (awake_true _).mono ?_
      rintro e w4 ⟨rfl, hf4⟩
      go_wp2_with fail
      go_ret
      exact ⟨rfl, hf4⟩
end Go.Proofs.Ytpadnempbpemmaa
