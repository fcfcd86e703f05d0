/-
  Contracts of package frame: Bytes.
-/
import Derived.Test.YtapnlkmofldmdaaFrame
import Derived.Test.YtapnlkmofldmdaaMake
namespace Go.Proofs.Ytapnlkmofldmdaa
set_option linter.unusedVariables false
open Go.RowKit

/-- New bytes are told, and an error's number. -/
def BytesPost (L : List UInt8) (w : World) (e : Ending) (w' : World) : Prop :=
  ∃ A c, e = .returned (.tuple #[.slice A L.length c, .int .i64 0]) ∧ L.length ≤ c ∧ c ≤ maxLen ∧ Own w' w.heap.size 5 1 (.slice A L.length c) L.length (L.map byteV) ∧ Fresh w w'

/-- A right frame's bytes. -/
def frB2 (x y : UInt8) (st : Nat) (l : List UInt8) : List UInt8 := bigL l.length 3 ++ ([x, y] ++ (bigL st 4 ++ l))
theorem frB2_length (x y : UInt8) (st : Nat) (l : List UInt8) : (frB2 x y st l).length = 9 + l.length := by
  simp [frB2, bigL_length]; omega

end Go.Proofs.Ytapnlkmofldmdaa
