/-
  A region that draws its order and has no guards, by an invariant: the frame is told by what it yields.
-/
import Derived.Test.YthfifeclmikbgaaInv2
namespace Go.Proofs.Ythfifeclmikbgaa
set_option linter.unusedVariables false
open Go.RowKit
theorem dst_lt {ops : Array Oper} {i : Nat} {d : Tmp} (h : dstOf ops i = some d) : i < ops.size := by
  unfold dstOf at h
  by_cases hi : i < ops.size
  · exact hi
  · rw [Array.getElem?_eq_none (by omega)] at h
    cases h
theorem wp_region_inv3 {P : Program} {ops : Array Oper} {Q : Exit → Act → World → Prop} {id : Nat} {a0 : Act} {w : World} (hm : P.follows .mixedOrders = true) (hd : dagB .any ops = true) (ha : apartB ops = true) (hg : (ops.all fun o => o.guard.isNone) = true) (J : Array Bool → (Nat → Value) → World → Prop)
    (h0 : ∀ u, J (Array.replicate ops.size false) u w.drew)
    (hstep : ∀ (listed : Array Bool) (u : Nat → Value) (w : World) (i : Nat) (o : Oper) (A : Act), (∀ j d, dstOf ops j = some d → d < a0.tmps.size → A.eval (.tmp d) = u j) → (∀ d, ((List.range ops.size).all fun j => dstOf ops j != some d) = true → A.eval (.tmp d) = a0.eval (.tmp d)) →
      (∀ L, listed = L → listed.size = ops.size) → ops[i]? = some o → listed.getD i true = false → (∀ e ∈ o.after, Region.binds .any e = true → listed.getD e.on false = true) → J listed u w →
      ∀ K : Act → World → Prop, (∀ v w', J (listed.setIfInBounds i true) (updV u i v) w' → K (A.put o.dst v) w') → Oper.wp P o A w K Q)
    (hend : ∀ (listed : Array Bool) (u : Nat → Value) (w : World), (∀ i, i < ops.size → listed.getD i false = true) → J listed u w → Q .normal (actOf (dstOf ops) a0 u ops.size) w) : (Code.region id ops true).wp P Q a0 w := by
  refine wp_region_inv2 hm hd ha J h0 ?_ hend
  intro listed u w i o hs ho hf hdep hJ K hK
  have hgo : o.guard = none := by
    have := Array.all_eq_true_iff_forall_mem.1 hg o (Array.mem_of_getElem? ho)
    simpa using this
  have hw : Region.wanted o (yielded ops (actOf (dstOf ops) a0 u ops.size).tmps) = true := by simp [Region.wanted, hgo]
  rw [if_pos hw]
  refine hstep listed u w i o _ (fun j d hj hb => actOf_eval hb hj (apart_of ha) (dst_lt hj)) (fun d hd => actOf_other fun j hj => ?_) (fun _ _ => hs) ho hf hdep hJ K hK
  have := List.all_eq_true.1 hd j (List.mem_range.2 hj)
  simpa using this
theorem getD_tf {l : Array Bool} {i : Nat} (h : l.getD i true = false) : l.getD i false = false := by
  by_cases hi : i < l.size
  · simp only [Array.getD, hi, dif_pos] at h ⊢
    exact h
  · simp [Array.getD, hi] at h
/-! One operation's run. -/
theorem inv_val {P : Program} {o : Oper} {a : Act} {w w' : World} {K : Act → World → Prop} {Q : Exit → Act → World → Prop} (v : Value) (hrun : (execOp a.eval o).run P w = .ok (.value v) w') (h : K (a.put o.dst v) w') : Oper.wp P o a w K Q := by
  unfold Oper.wp
  rw [hrun]
  exact h
theorem inv_skip {P : Program} {o : Oper} {a : Act} {w w' : World} {K : Act → World → Prop} {Q : Exit → Act → World → Prop} (hrun : (execOp a.eval o).run P w = .ok .skip w') (h : K (a.put o.dst undef) w') : Oper.wp P o a w K Q := by
  unfold Oper.wp
  rw [hrun]
  exact h
theorem inv_call {P : Program} {o : Oper} {a : Act} {w w' : World} {K : Act → World → Prop} {Q : Exit → Act → World → Prop} (f : FuncId) (args : Array Value) (R : Ending → World → Prop) (hrun : (execOp a.eval o).run P w = .ok (.enter f args) w') (hc : Calls P f args w' R) (h : ∀ e w'', R e w'' → ∃ v, e = .returned v ∧ K (a.put o.dst v) w'') : Oper.wp P o a w K Q := by
  unfold Oper.wp
  rw [hrun, Oper.upon_enter]
  refine hc.mono fun e w'' hr => ?_
  obtain ⟨v, rfl, hk⟩ := h e w'' hr
  exact hk
/-- What was yielded stays, when another operation is carried out. -/
theorem keep_val {listed : Array Bool} {n i : Nat} {u : Nat → Value} {v : Value} {vals : Nat → Option Value} (hs : listed.size = n) (hi : i < n) (h : ∀ k x, vals k = some x → listed.getD k false = true → u k = x) (hv : ∀ x, vals i = some x → v = x) :
    ∀ k x, vals k = some x → (listed.setIfInBounds i true).getD k false = true → updV u i v k = x := by
  intro k x hx hl
  by_cases e : k = i
  · subst e
    rw [updV_same]
    exact hv x hx
  · rw [updV_ne e]
    rw [getD_set _ _ _ _ (by omega), if_neg e] at hl
    exact h k x hx hl
end Go.Proofs.Ythfifeclmikbgaa
