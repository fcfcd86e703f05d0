/-
  Layer 13: the document's answer, its other calls.
-/
import Derived.Test.YtdmcinndpkcjjaaDoorStateS
namespace Go.Proofs.YtdmcinndpkcjjaaDoor
set_option linter.unusedVariables false
open Go.RowKit Go.ChangeShapes Go.WideShapes Go.Deep
theorem ref_num (x : RS) (w : World) (hx : x ∈ rsL) : Calls Tryd.prog 13 #[x.v] w fun en w' => en = .returned (.int .i64 x.N) ∧ Fresh w w' := by
  simp only [rsL, List.mem_cons, List.not_mem_nil, or_false] at hx
  rcases hx with rfl | rfl | rfl | rfl | rfl | rfl | rfl | rfl | rfl
  all_goals
    show Calls _ _ #[.agg #[.int .i64 _, .int .i64 _, .int .i64 _, .int .i64 _]] _ _
    go_enter Tryd.func13, Tryd.ntmps13
    go_wp2
    go_ret
    exact ⟨rfl, Fresh.alloc _ _⟩
theorem ref_new (w : World) : Calls Tryd.prog 17 #[] w fun en w' => en = .returned (RS.v ⟨0, 1, 1, 0⟩) ∧ Fresh w w' := by
  go_enter Tryd.func17, Tryd.ntmps17
  go_wp2
  refine bodyPost_ret (v := RS.v ⟨0, 1, 1, 0⟩) (by simp [results, Tryd.results17, go_sem, RS.v]) rfl ⟨rfl, ?_⟩
  repeat (first | exact Fresh.refl _ | apply Fresh.drewS | apply Fresh.allocS)
def atX (s : Int) : RS := if s = 1 then ⟨1, 1, 1, 0⟩ else if s = 2 then ⟨1, 1, 0, 0⟩ else if s = 3 then ⟨1, 0, 1, 0⟩ else if s = 4 then ⟨1, 0, 0, 1⟩ else ⟨0, 1, 1, 0⟩
theorem ref_at (s : Int) (w : World) (h0 : 0 ≤ s) (h4 : s ≤ 4) : Calls Tryd.prog 12 #[.int .i64 s] w fun en w' => en = .returned (atX s).v ∧ Fresh w w' := by
  have hs : s = 0 ∨ s = 1 ∨ s = 2 ∨ s = 3 ∨ s = 4 := by omega
  clear h0 h4
  rcases hs with rfl | rfl | rfl | rfl | rfl
  · go_enter Tryd.func12, Tryd.ntmps12
    go_wp2_with fail
    with_reducible refine (ref_new _).mono ?_
    rintro en w1 ⟨rfl, hf1⟩
    have hB1 := (Blk.new w 34 #[.int .i64 0, .int .i64 0, .int .i64 0, .int .i64 0]).fresh hf1
    obtain ⟨r0, r1, r2, r3⟩ := hB1.c4
    obtain ⟨z0, z1, z2, z3⟩ := hB1.z4
    have hz1 : w.heap.size < w1.heap.size := hB1.lt
    have HF1 : Hid (Fresh w w1) := Lib.hid ((Fresh.alloc _ _).trans hf1)
    clear hf1 hB1
    simp only [RS.v]
    go_wp2
    refine bodyPost_ret (v := (atX 0).v) (by simp [results, Tryd.results12, go_sem, RS.v, atX, r0, r1, r2, r3]) rfl ⟨rfl, ?_⟩
    repeat (first | exact HF1.out | apply Fresh.drewS | apply Fresh.allocS | (refine Fresh.step ?_ _ _ (Nat.le_refl _)))
  all_goals
    go_enter Tryd.func12, Tryd.ntmps12
    go_wp2
    refine bodyPost_ret (v := (atX _).v) (by simp [results, Tryd.results12, go_sem, RS.v, atX]) rfl ⟨rfl, ?_⟩
    repeat (first | exact Fresh.refl _ | apply Fresh.drewS | apply Fresh.allocS)
theorem at_rs : ∀ s : Fin 5, atX (s.val : Int) ∈ rsL ∧ (atX (s.val : Int)).N = s.val := by decide
end Go.Proofs.YtdmcinndpkcjjaaDoor
