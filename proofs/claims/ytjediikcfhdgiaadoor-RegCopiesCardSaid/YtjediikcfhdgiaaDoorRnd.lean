/-
  A region that draws its order, in a round of a range over a function: by the plain words.
-/
import Derived.Test.YtjediikcfhdgiaaDoorGen
import Derived.RangeFuncNested
import Derived.RangeFuncCalls
import Derived.OrdersIn
import Derived.Deep.RegionHeld
namespace Go.Proofs.YtjediikcfhdgiaaDoor
set_option linter.unusedVariables false
open Go.RowKit
section
variable {P : Program} {ops : Array Oper} {Q : Exit → Act → World → Prop} {l n : Nat}
theorem wpIn_of_wp {o : Oper} {a : Act} {w : World} {K : Act → World → Prop} (hdf : ∀ c, o.op ≠ .defer c) (h : o.wp P a w K Q) : o.wpIn (Fence.wide.inRound l) n P a w K Q := by
  refine ⟨fun f _ => trivial, ?_⟩
  rw [Oper.semAt_eq _ _ _ hdf]
  unfold Oper.wp at h
  revert h
  generalize (execOp a.eval o).run P w = r
  intro h
  cases r with
  | ok nx w' =>
    cases nx with
    | value v => exact h
    | skip => exact h
    | defer d => exact h
    | enter f args => exact ⟨fun h => by simp [Fence.wide] at h, (callsIn_wide (n := n - 1)).2 h⟩
    | row r args =>
      refine ⟨fun h => by simp [Fence.wide] at h, ?_⟩
      intro c cs hroom
      obtain ⟨v, w'', hv, hs⟩ := h c cs
      exact ⟨v, w'', hv, stepsIn_wide.2 hs⟩
    | _ => exact h.elim
  | halt hh w' =>
    cases hh with
    | panic v => exact h
    | _ => exact h.elim
theorem wpAnyIn_of_wpAny {md : Region.Mode} (hdf : ∀ (i : Nat) (o : Oper), ops[i]? = some o → ∀ c, o.op ≠ .defer c) (hlo : ¬ LetsOut Q) : ∀ (fuel : Nat) (listed : Array Bool) (a : Act) (w : World), wpAny P md ops Q fuel listed a w → wpAnyIn (Fence.wide.inRound l) n P md ops Q fuel listed a w
  | 0, _, _, _, h => h
  | fuel + 1, listed, a, w, h => by
    refine ⟨h.1, fun i hi => ?_⟩
    have h2 := h.2 i hi
    unfold wpOp at h2
    unfold wpOpIn
    cases ho : ops[i]? with
    | none => rw [ho] at h2; exact wpAnyIn_of_wpAny hdf hlo fuel _ _ _ h2
    | some o =>
      rw [ho] at h2
      simp only at h2 ⊢
      split
      · rename_i hw
        rw [if_pos hw] at h2
        rcases h2 with h2 | ⟨_, h2⟩
        · refine wpIn_of_wp (hdf i o ho) ?_
          unfold Oper.wp at h2 ⊢
          revert h2
          generalize (execOp a.eval o).run P w = r
          intro h2
          cases r with
          | ok nx w' =>
            cases nx with
            | value v => exact wpAnyIn_of_wpAny hdf hlo fuel _ _ _ h2
            | skip => exact wpAnyIn_of_wpAny hdf hlo fuel _ _ _ h2
            | defer d => exact wpAnyIn_of_wpAny hdf hlo fuel _ _ _ h2
            | enter f args =>
              refine Calls.mono h2 fun e w3 h3 => ?_
              cases e with
              | returned v => exact wpAnyIn_of_wpAny hdf hlo fuel _ _ _ h3
              | _ => exact h3
            | row r args =>
              intro c cs
              obtain ⟨v, w'', hv, hs⟩ := h2 c cs
              exact ⟨v, w'', wpAnyIn_of_wpAny hdf hlo fuel _ _ _ hv, hs⟩
            | _ => exact h2.elim
          | halt hh w' =>
            cases hh with
            | panic v => exact h2
            | _ => exact h2.elim
        · exact absurd h2 hlo
      · rename_i hw
        rw [if_neg hw] at h2
        exact ⟨fun f _ => trivial, wpAnyIn_of_wpAny hdf hlo fuel _ _ _ h2⟩
/-- A region of a round, by the plain words that hold S. -/
theorem rnd_held {id : Nat} {a : Act} {w : World} {S : World → Prop} (hm : P.follows .mixedOrders = true) (hdf : (ops.all fun o => match o.op with | .defer _ => false | _ => true) = true) (hlo : ¬ LetsOut Q) (hS : S w.drew)
    (h : S w.drew → wpAnyH P .any ops Q S ops.size (Array.replicate ops.size false) a w.drew) : (Code.region id ops true).wpIn (Fence.wide.inRound l) n P Q a w :=
  wpIn_region_any hm (wpAnyIn_of_wpAny (fun i o ho c e => by
    have := Array.all_eq_true_iff_forall_mem.1 hdf o (Array.mem_of_getElem? ho)
    rw [e] at this
    cases this) hlo _ _ _ _ (wpAny_of_held _ _ _ _ (h hS)))
end
/-- A walk that never panics need not tell what a panic would leave. -/
def NoPanic (Q : Exit → Act → World → Prop) : Exit → Act → World → Prop := fun e a w => match e with
  | .panic _ => False
  | .normal => Q .normal a w
  | .ret => Q .ret a w
  | .exit i => Q (.exit i) a w
  | .goto i => Q (.goto i) a w
  | .outgrown => Q .outgrown a w
theorem NoPanic.normal {Q : Exit → Act → World → Prop} {a : Act} {w : World} (h : Q .normal a w) : NoPanic Q .normal a w := h
theorem wp_noPanic {P : Program} {c : Code} {Q : Exit → Act → World → Prop} {a : Act} {w : World} (h : c.wp P (NoPanic Q) a w) : c.wp P Q a w :=
  wp_mono h (fun e a w h => by cases e <;> first | exact h | exact h.elim)
end Go.Proofs.YtjediikcfhdgiaaDoor

