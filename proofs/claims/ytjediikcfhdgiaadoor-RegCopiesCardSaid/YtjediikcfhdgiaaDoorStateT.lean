/-
  Layer 13: the document's answer, its other calls.
-/
import Derived.Test.YtjediikcfhdgiaaDoorStateS
namespace Go.Proofs.YtjediikcfhdgiaaDoor
set_option linter.unusedVariables false
open Go.RowKit Go.ChangeShapes Go.WideShapes Go.Deep
theorem ref_num (x : RS) (w : World) (hx : x ∈ rsL) : Calls Tryd.prog 29 #[x.v] w fun en w' => en = .returned (.int .i64 x.N) ∧ Fresh w w' := by
  simp only [rsL, List.mem_cons, List.not_mem_nil, or_false] at hx
  rcases hx with rfl | rfl | rfl | rfl | rfl | rfl | rfl | rfl | rfl
  all_goals
    show Calls _ _ #[.agg #[.int .i64 _, .int .i64 _, .int .i64 _, .int .i64 _]] _ _
    go_enter Tryd.func29, Tryd.ntmps29
    go_wp2
    go_ret
    exact ⟨rfl, Fresh.alloc _ _⟩
theorem ref_new (w : World) : Calls Tryd.prog 39 #[] w fun en w' => en = .returned (RS.v ⟨0, 1, 1, 0⟩) ∧ Fresh w w' := by
  go_enter Tryd.func39, Tryd.ntmps39
  go_wp2
  refine bodyPost_ret (v := RS.v ⟨0, 1, 1, 0⟩) (by simp [results, Tryd.results39, go_sem, RS.v]) rfl ⟨rfl, ?_⟩
  repeat (first | exact Fresh.refl _ | apply Fresh.drewS | apply Fresh.allocS)
end Go.Proofs.YtjediikcfhdgiaaDoor

