/-
  The law's one: a call of both.
-/
import Derived.Test.YthfifeclmikbgaaQueM
namespace Go.Proofs.Ythfifeclmikbgaa
set_option linter.unusedVariables false
set_option linter.unusedSimpArgs false
open Go.RowKit
section
variable {base q R n : Nat} {by_ it : Int} {ro : Rows} {w : World}
set_option maxRecDepth 100000 in
set_option maxHeartbeats 6400000 in
/-- No call is asked, and the list is not empty: nothing is done. -/
theorem one_other (A : Option Addr) (c m : Nat) (zv : Value) (a b cc : Int) (o : OpQ) (hz : zv = .slice none 0 0 ∨ ∃ A' n' c', zv = .slice A' n' c') (h1 : o.k ≠ 1) (h2 : o.k ≠ 2) (h3 : o.k ≠ 3) (h4 : o.k ≠ 4) (h5 : o.k ≠ 5) (hm : 0 < m) :
    Calls Try.prog 14 #[.pointer (some ⟨q, 0, none⟩), .slice A m c, .agg #[.int .i64 a, .int .i64 b, .int .i64 cc, zv], .agg #[.int .i64 o.k, .int .i64 o.t, .int .i64 o.n, .int .i64 o.x.num, .slice o.x.HA o.x.h.length o.x.hc, .slice o.x.BA o.x.b.length o.x.bc]] w fun e w' => e = .returned (.tuple #[.slice A m c, .bool true]) ∧ Fresh w w' := by
  have e1 : (o.k == 1) = false := by simpa using h1
  have e2 : (o.k == 2) = false := by simpa using h2
  have e3 : (o.k == 3) = false := by simpa using h3
  have e4 : (o.k == 4) = false := by simpa using h4
  have e5 : (o.k == 5) = false := by simpa using h5
  have hm0 : ((m : Int) == 0) = false := by simp; omega
  clear h1 h2 h3 h4 h5
  obtain ⟨A', n', c', rfl⟩ : ∃ A' n' c', zv = .slice A' n' c' := by
    rcases hz with rfl | h
    · exact ⟨_, _, _, rfl⟩
    · exact h
  clear hz
  go_enter Try.func14, Try.ntmps14
  go_wp2
  go_ret2
  exact ⟨rfl, (Fresh.alloc _ _).allocS _⟩
end
end Go.Proofs.Ythfifeclmikbgaa
