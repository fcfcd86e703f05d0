/-
  The document's answers for layer 9.
-/
import Derived.Test.YtpokpkijhakpjaaFrameL
namespace Go.Proofs.Ytpokpkijhakpjaa
set_option linter.unusedVariables false
open Go.RowKit

theorem rbig_at (x n : Nat) (z k : Int) (L : List UInt8) (w : World) (hz : z = (x : Int)) (hk : k = (n : Int)) (hL : bigL x n = L) (hx1 : x < 18446744073709551616) (h2 : n ≤ 64) :
    Calls Try.prog 36 #[.int .u64 z, .int .i64 k] w fun e w' => e = .returned (.string (strB L)) ∧ Fresh w w' := by
  subst hz hk hL
  exact ref_big x n w hx1 h2
theorem bigL_1 (x : UInt8) : bigL x.toNat 1 = [x] := by
  simp [bigL, List.range_succ]
set_option maxRecDepth 100000 in
set_option maxHeartbeats 800000 in
theorem rbytes (x y : UInt8) (st : Nat) (l : List UInt8) (w : World) (hst : st ≤ 2147483647) (hl : l.length ≤ 16777215) :
    Calls Try.prog 27 #[.int .i64 (x.toNat : Int), .int .i64 (y.toNat : Int), .int .i64 (st : Int), .string (strB l)] w fun e w' => e = .returned (.string (strB (frB2 x y st l))) ∧ Fresh w w' := by
  have hx := UInt8.toNat_lt x
  have hy := UInt8.toNat_lt y
  have R1 := Lib.hid (fun W => rbig_at l.length 3 (l.length : Int) 3 _ W rfl rfl rfl (by omega) (by omega))
  have R2 := Lib.hid (fun W => rbig_at x.toNat 1 (x.toNat : Int) 1 _ W rfl rfl (bigL_1 x) (by omega) (by omega))
  have R3 := Lib.hid (fun W => rbig_at y.toNat 1 (y.toNat : Int) 1 _ W rfl rfl (bigL_1 y) (by omega) (by omega))
  have R4 := Lib.hid (fun W => rbig_at st 4 (st : Int) 4 _ W rfl rfl rfl (by omega) (by omega))
  have HE : Hid (strB (bigL l.length 3) ++ strB [x] ++ strB [y] ++ strB (bigL st 4) ++ strB l = strB (frB2 x y st l)) := by
    show _ = _
    rw [strB_append, strB_append, strB_append, strB_append]
    simp [frB2]
  have s0 : (strB l).size = l.length := strB_size l
  have s1 : (strB (bigL l.length 3)).size = 3 := by rw [strB_size, bigL_length]
  have s2 : (strB [x]).size = 1 := rfl
  have s3 : (strB [y]).size = 1 := rfl
  have s4 : (strB (bigL st 4)).size = 4 := by rw [strB_size, bigL_length]
  generalize strB l = S0 at *
  generalize strB (bigL l.length 3) = S1 at *
  generalize strB [x] = S2 at *
  generalize strB [y] = S3 at *
  generalize strB (bigL st 4) = S4 at *
  go_enter Try.func27, Try.ntmps27
  go_wp2_with fail
  with_reducible refine (R1.out _).mono ?_
  rintro e w1 ⟨rfl, h1⟩
  go_wp2_with fail
  with_reducible refine (R2.out _).mono ?_
  rintro e w2 ⟨rfl, h2⟩
  go_wp2_with fail
  with_reducible refine (R3.out _).mono ?_
  rintro e w3 ⟨rfl, h3⟩
  go_wp2_with fail
  with_reducible refine (R4.out _).mono ?_
  rintro e w4 ⟨rfl, h4⟩
  go_wp2
  go_ret
  exact ⟨by rw [← HE.out]; rfl, ((h1.trans h2).trans h3).trans h4⟩
end Go.Proofs.Ytpokpkijhakpjaa
