/-
  Contracts of package payload: numbers, marks; '==' between arrays of truths.
-/
import Derived.Test.YtcdghmidpaeloaaPayE
namespace Go.Proofs.Ytcdghmidpaeloaa
set_option linter.unusedVariables false
open Go.RowKit

def ItV.agg (x : ItV) : Value := .agg #[.int .i64 x.ty, .int .i64 x.st, .slice x.A x.l.length x.c, .bool x.en, .bool x.eh, .bool x.ak, .int .i64 x.fl, .int .i64 x.co, .int .i64 x.la, .int .i64 x.inc, .int .i64 x.de, .int .i64 x.we, .bool x.wd, .bool x.ex, .slice x.PA x.ps.length x.pc]
def ItV.nums (x : ItV) : List Int := [x.ty, x.st, x.fl, x.co, x.la, x.inc, x.de, x.we]
def ItV.mks (x : ItV) : List Bool := [x.en, x.eh, x.ak, x.wd, x.ex]
theorem inumbers (ty st : Int) (sv : Value) (en eh ak : Bool) (fl co la inc de we : Int) (wd ex : Bool) (pv : Value) (w : World) :
    Calls Try.prog 21 #[.agg #[.int .i64 ty, .int .i64 st, sv, .bool en, .bool eh, .bool ak, .int .i64 fl, .int .i64 co, .int .i64 la, .int .i64 inc, .int .i64 de, .int .i64 we, .bool wd, .bool ex, pv]] w fun e w' => e = .returned (.agg #[.int .i64 ty, .int .i64 st, .int .i64 fl, .int .i64 co, .int .i64 la, .int .i64 inc, .int .i64 de, .int .i64 we]) ∧ Fresh w w' := by
  go_enter Try.func21, Try.ntmps21
  go_wp2_with fail
  go_returns
  exact ⟨rfl, by repeat (first | with_reducible exact Fresh.refl _ | with_reducible apply Fresh.drewS | with_reducible apply Fresh.allocS)⟩
theorem imarks (ty st : Int) (sv : Value) (en eh ak : Bool) (fl co la inc de we : Int) (wd ex : Bool) (pv : Value) (w : World) :
    Calls Try.prog 22 #[.agg #[.int .i64 ty, .int .i64 st, sv, .bool en, .bool eh, .bool ak, .int .i64 fl, .int .i64 co, .int .i64 la, .int .i64 inc, .int .i64 de, .int .i64 we, .bool wd, .bool ex, pv]] w fun e w' => e = .returned (.agg #[.bool en, .bool eh, .bool ak, .bool wd, .bool ex]) ∧ Fresh w w' := by
  go_enter Try.func22, Try.ntmps22
  go_wp2_with fail
  go_returns
  exact ⟨rfl, by repeat (first | with_reducible exact Fresh.refl _ | with_reducible apply Fresh.drewS | with_reducible apply Fresh.allocS)⟩
end Go.Proofs.Ytcdghmidpaeloaa

