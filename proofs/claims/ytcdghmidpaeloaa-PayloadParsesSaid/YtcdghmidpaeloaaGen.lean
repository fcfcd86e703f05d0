/-
  The world ahead of some code, by what is known of it alone.
-/
import Derived.Test.YtcdghmidpaeloaaRet
import Derived.Deep.RegionLaw
namespace Go.Proofs.Ytcdghmidpaeloaa
set_option linter.unusedVariables false
open Go.RowKit
theorem wp_gen {P : Program} {c : Code} {Q : Exit → Act → World → Prop} {a : Act} {w : World} (S : World → Prop) (hS : S w) (h : ∀ w', S w' → c.wp P Q a w') : c.wp P Q a w := h w hS
theorem Fresh.step2 {w w' : World} {p : Addr} {v : Value} (hp : w.heap.size ≤ p.block) (h : Fresh w w') : Fresh w (w'.setCell p v) := h.step p v hp
theorem Only.step2 {S : Nat → Prop} {w w' : World} {p : Addr} {v : Value} (hp : S p.block ∨ w.heap.size ≤ p.block) (h : Only S w w') : Only S w (w'.setCell p v) := h.step p v hp
theorem wx_gen {F : Exit → Act → World → Prop} {e : Exit} {a : Act} {w : World} (S : World → Prop) (hS : S w) (h : ∀ w', S w' → F e a w') : F e a w := h w hS
/-- An append whose run is known, as one step of a region that draws its order. -/
theorem step_app {P : Program} {ops : Array Oper} {o : Oper} {a : Act} {w : World} {K : Act → World → Prop} {Q : Exit → Act → World → Prop} {E : Prop} (hgd : o.guard = none) (s x : Operand) (t : TypeId)
    (ho : o.op = .call { callee := .builtin .append, args := #[s, x], argTypes := #[t, t] }) {v vx v' : Value} {w' : World} {ty : TypeId} (hrun : (Builtin.append_ #[t, t] ty #[v, vx]).run P w = .ok v' w')
    (hty : o.type = ty) (hs : a.eval s = v) (hx : a.eval x = vx) (h : K (a.put o.dst v') w') : if Region.wanted o (yielded ops a.tmps) = true then Oper.wp P o a w K Q else E := by
  have hw : Region.wanted o (yielded ops a.tmps) = true := by simp [Region.wanted, hgd]
  rw [if_pos hw]
  subst hty
  unfold Oper.wp
  simp [execOp, ho, resolve, invoke, builtin, hs, hx, hrun, Result.andThen]
  exact h
end Go.Proofs.Ytcdghmidpaeloaa

