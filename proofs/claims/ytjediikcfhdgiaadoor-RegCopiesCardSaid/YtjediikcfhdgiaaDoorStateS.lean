/-
  Layer 13: the document's answer, and how it fits.
-/
import Derived.Test.YtjediikcfhdgiaaDoorStateR
namespace Go.Proofs.YtjediikcfhdgiaaDoor
set_option linter.unusedVariables false
open Go.RowKit Go.ChangeShapes Go.WideShapes Go.Deep
def refN (b w t r : Int) : Int := if b = 0 then 0 else if r = 1 ∨ (w = 0 ∧ t = 0) then 4 else if t = 0 then 2 else if w = 0 then 3 else 1
/-- The document's state: begun, we, they, reset. -/
structure RS where
  (b w t r : Int)
deriving DecidableEq
def RS.N (x : RS) : Int := refN x.b x.w x.t x.r
def refW (x : RS) (e : Int) : Int :=
  if e ≤ 3 then (if x.N = 4 ∨ (x.N = 0 ∧ e ≠ 0) ∨ (x.w = 0 ∧ e ≠ 3) then 1 else 0)
  else if x.N = 0 then 2 else if e = 7 then 0 else if e = 8 then 0 else if x.N = 4 ∨ x.t = 0 then 3 else 0
def refX (x : RS) (e : Int) : RS :=
  if e ≤ 3 then (if x.N = 4 ∨ (x.N = 0 ∧ e ≠ 0) ∨ (x.w = 0 ∧ e ≠ 3) then x else ⟨1, if e = 2 then 0 else x.w, x.t, if e = 3 then 1 else x.r⟩)
  else if x.N = 0 then x else if e = 7 then ⟨x.b, x.w, x.t, 1⟩ else if e = 8 then x else if x.N = 4 ∨ x.t = 0 then ⟨x.b, x.w, x.t, 1⟩ else if e = 6 then ⟨x.b, x.w, 0, x.r⟩ else x
def RS.v (x : RS) : Value := .agg #[.int .i64 x.b, .int .i64 x.w, .int .i64 x.t, .int .i64 x.r]
/-- All that there are. -/
def rsL : List RS := [⟨0, 1, 1, 0⟩, ⟨1, 0, 0, 0⟩, ⟨1, 0, 0, 1⟩, ⟨1, 0, 1, 0⟩, ⟨1, 0, 1, 1⟩, ⟨1, 1, 0, 0⟩, ⟨1, 1, 0, 1⟩, ⟨1, 1, 1, 0⟩, ⟨1, 1, 1, 1⟩]
theorem rs_closed : ∀ x ∈ rsL, ∀ e : Fin 9, refX x (e.val : Int) ∈ rsL := by decide
theorem rs_fit0 : ∀ x ∈ rsL, ∀ e : Fin 9, 0 ≤ x.N ∧ x.N ≤ 4 ∧ doA x.N (e.val : Int) = (refX x (e.val : Int)).N ∧ doGood x.N (e.val : Int) = decide (refW x (e.val : Int) = 0) ∧
    (decide (doE x.N (e.val : Int) = 25) = decide (refW x (e.val : Int) = 1)) ∧ ((decide (doC x.N (e.val : Int) = 0) && !doB x.N (e.val : Int)) = decide (refW x (e.val : Int) < 2)) ∧ doB x.N (e.val : Int) = decide (refW x (e.val : Int) = 2) := by decide

set_option maxHeartbeats 12800000 in
theorem ref_do (x : RS) (e : Int) (w : World) (hx : x ∈ rsL) (h0 : 0 ≤ e) (h8 : e ≤ 8) :
    Calls Tryd.prog 38 #[x.v, .int .i64 e] w fun en w' => en = .returned (.tuple #[(refX x e).v, .int .i64 (refW x e)]) ∧ Fresh w w' := by
  have he : e = 0 ∨ e = 1 ∨ e = 2 ∨ e = 3 ∨ e = 4 ∨ e = 5 ∨ e = 6 ∨ e = 7 ∨ e = 8 := by omega
  clear h0 h8
  simp only [rsL, List.mem_cons, List.not_mem_nil, or_false] at hx
  rcases hx with rfl | rfl | rfl | rfl | rfl | rfl | rfl | rfl | rfl
  all_goals
    rcases he with rfl | rfl | rfl | rfl | rfl | rfl | rfl | rfl | rfl
    all_goals
      show Calls _ _ #[.agg #[.int .i64 _, .int .i64 _, .int .i64 _, .int .i64 _], _] _ _
      go_enter Tryd.func38, Tryd.ntmps38
      go_wp2
      refine bodyPost_ret (v := .tuple #[(refX _ _).v, .int .i64 (refW _ _)]) (by simp [results, Tryd.results38, go_sem, RS.v, refX, refW, RS.N, refN]) rfl ⟨rfl, ?_⟩
      repeat (first | exact Fresh.refl _ | apply Fresh.drewS | apply Fresh.allocS)
end Go.Proofs.YtjediikcfhdgiaaDoor

