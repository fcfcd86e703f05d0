/-
  Texts laid together: Inv3 Val.
-/
import Derived.Test.YtginhebfjbhmnaaGreatG26
import Derived.OrdersIn
/-
  A region that draws its order and has no guards, by an invariant: the frame is told by what it yields.
-/
namespace Go.Proofs.YtginhebfjbhmnaaGreat
set_option maxRecDepth 100000
set_option linter.unusedVariables false
open Go.RowKit
theorem dst_lt {ops : Array Oper} {i : Nat} {d : Tmp} (h : dstOf ops i = some d) : i < ops.size := by
  unfold dstOf at h
  by_cases hi : i < ops.size
  · exact hi
  · rw [Array.getElem?_eq_none (by omega)] at h
    cases h
theorem wp_region_inv3 {P : Program} {ops : Array Oper} {Q : Exit → Act → World → Prop} {id : Nat} {a0 : Act} {w : World} (hm : P.follows .mixedOrders = true) (hd : dagB .any ops = true) (ha : apartB ops = true) (hg : (ops.all fun o => o.guard.isNone) = true) (J : Array Bool → (Nat → Value) → World → Prop)
    (h0 : ∀ u, J (Array.replicate ops.size false) u w.drew)
    (hstep : ∀ (listed : Array Bool) (u : Nat → Value) (w : World) (i : Nat) (o : Oper) (A : Act), (∀ j d, dstOf ops j = some d → d < a0.tmps.size → A.eval (.tmp d) = u j) → (∀ d, ((List.range ops.size).all fun j => dstOf ops j != some d) = true → A.eval (.tmp d) = a0.eval (.tmp d)) →
      (∀ L, listed = L → listed.size = ops.size) → ops[i]? = some o → listed.getD i true = false → (∀ e ∈ o.after, Region.binds .any e = true → listed.getD e.on false = true) → J listed u w →
      ∀ K : Act → World → Prop, (∀ v w', J (listed.setIfInBounds i true) (updV u i v) w' → K (A.put o.dst v) w') → Oper.wp P o A w K Q)
    (hend : ∀ (listed : Array Bool) (u : Nat → Value) (w : World), (∀ i, i < ops.size → listed.getD i false = true) → J listed u w → Q .normal (actOf (dstOf ops) a0 u ops.size) w) : (Code.region id ops true).wp P Q a0 w := by
  refine wp_region_inv2 hm hd ha J h0 ?_ hend
  intro listed u w i o hs ho hf hdep hJ K hK
  have hgo : o.guard = none := by
    have := Array.all_eq_true_iff_forall_mem.1 hg o (Array.mem_of_getElem? ho)
    simpa using this
  have hw : Region.wanted o (yielded ops (actOf (dstOf ops) a0 u ops.size).tmps) = true := by simp [Region.wanted, hgo]
  rw [if_pos hw]
  refine hstep listed u w i o _ (fun j d hj hb => actOf_eval hb hj (apart_of ha) (dst_lt hj)) (fun d hd => actOf_other fun j hj => ?_) (fun _ _ => hs) ho hf hdep hJ K hK
  have := List.all_eq_true.1 hd j (List.mem_range.2 hj)
  simpa using this
theorem getD_tf {l : Array Bool} {i : Nat} (h : l.getD i true = false) : l.getD i false = false := by
  by_cases hi : i < l.size
  · simp only [Array.getD, hi, dif_pos] at h ⊢
    exact h
  · simp [Array.getD, hi] at h
/-! One operation's run. -/
theorem inv_val {P : Program} {o : Oper} {a : Act} {w w' : World} {K : Act → World → Prop} {Q : Exit → Act → World → Prop} (v : Value) (hrun : (execOp a.eval o).run P w = .ok (.value v) w') (h : K (a.put o.dst v) w') : Oper.wp P o a w K Q := by
  unfold Oper.wp
  rw [hrun]
  exact h
theorem inv_skip {P : Program} {o : Oper} {a : Act} {w w' : World} {K : Act → World → Prop} {Q : Exit → Act → World → Prop} (hrun : (execOp a.eval o).run P w = .ok .skip w') (h : K (a.put o.dst undef) w') : Oper.wp P o a w K Q := by
  unfold Oper.wp
  rw [hrun]
  exact h
theorem inv_call {P : Program} {o : Oper} {a : Act} {w w' : World} {K : Act → World → Prop} {Q : Exit → Act → World → Prop} (f : FuncId) (args : Array Value) (R : Ending → World → Prop) (hrun : (execOp a.eval o).run P w = .ok (.enter f args) w') (hc : Calls P f args w' R) (h : ∀ e w'', R e w'' → ∃ v, e = .returned v ∧ K (a.put o.dst v) w'') : Oper.wp P o a w K Q := by
  unfold Oper.wp
  rw [hrun, Oper.upon_enter]
  refine hc.mono fun e w'' hr => ?_
  obtain ⟨v, rfl, hk⟩ := h e w'' hr
  exact hk
/-- What was yielded stays, when another operation is carried out. -/
theorem keep_val {listed : Array Bool} {n i : Nat} {u : Nat → Value} {v : Value} {vals : Nat → Option Value} (hs : listed.size = n) (hi : i < n) (h : ∀ k x, vals k = some x → listed.getD k false = true → u k = x) (hv : ∀ x, vals i = some x → v = x) :
    ∀ k x, vals k = some x → (listed.setIfInBounds i true).getD k false = true → updV u i v k = x := by
  intro k x hx hl
  by_cases e : k = i
  · subst e
    rw [updV_same]
    exact hv x hx
  · rw [updV_ne e]
    rw [getD_set _ _ _ _ (by omega), if_neg e] at hl
    exact h k x hx hl
end Go.Proofs.YtginhebfjbhmnaaGreat

/-
  A region that draws its order, told by what each operation yields: the values are given, each operation is looked at once, at the frame that the region leaves.
-/
namespace Go.Proofs.YtginhebfjbhmnaaGreat
set_option maxRecDepth 100000
set_option linter.unusedVariables false
open Go.RowKit

/-- Each operation reads only what no operation yields, or what it waits for. -/
def readsB (ops : Array Oper) : Bool := (List.range ops.size).all fun i => ((ops[i]?).map fun o => (o.looksAt ops).all fun d => (List.range ops.size).all fun j => dstOf ops j != some d || o.after.any fun e => e.on == j && Region.binds .any e).getD true
/-- One operation: it leaves v, and I holds behind it. -/
inductive StepV (P : Program) (o : Oper) (ρ : Operand → Value) (v : Value) (I : World → Prop) (w : World) : Prop where
  | val (w' : World) (h : (execOp ρ o).run P w = .ok (.value v) w') (hI : I w')
  | skip (w' : World) (hv : v = undef) (h : (execOp ρ o).run P w = .ok .skip w') (hI : I w')
  | call (f : FuncId) (args : Array Value) (w' : World) (h : (execOp ρ o).run P w = .ok (.enter f args) w') (hc : Calls P f args w' fun e w'' => e = .returned v ∧ I w'')
/-- All operations, one by one. -/
def AllV (P : Program) (ops : Array Oper) (A : Act) (V : Nat → Value) (I : World → Prop) : Nat → List Oper → Prop
  | _, [] => True
  | i, o :: os => ((Region.wanted o (yielded ops A.tmps) = true ∧ ∀ w, I w → StepV P o A.eval (V i) I w) ∨ (Region.wanted o (yielded ops A.tmps) = false ∧ V i = undef)) ∧ AllV P ops A V I (i + 1) os
section
variable {P : Program} {ops : Array Oper} {A : Act} {V : Nat → Value} {I : World → Prop}
theorem AllV.at : ∀ {l : List Oper} {k i : Nat} {o : Oper}, AllV P ops A V I k l → l[i]? = some o → (Region.wanted o (yielded ops A.tmps) = true ∧ ∀ w, I w → StepV P o A.eval (V (k + i)) I w) ∨ (Region.wanted o (yielded ops A.tmps) = false ∧ V (k + i) = undef)
  | [], _, _, _, _, h => by simp at h
  | x :: l, k, 0, o, h, ho => by
    simp at ho
    subst ho
    exact h.1
  | x :: l, k, i + 1, o, h, ho => by
    have := AllV.at (i := i) h.2 (by simpa using ho)
    rw [show k + 1 + i = k + (i + 1) by omega] at this
    exact this
theorem put_actOf {dst : Nat → Option Tmp} {a0 : Act} {u V : Nat → Value} {n i : Nat} (hd : ∀ i j, i < n → j < n → i ≠ j → ∀ d, dst i = some d → dst j ≠ some d) (hi : i < n) : (actOf dst a0 u n).put (dst i) (V i) = actOf dst a0 (updV u i (V i)) n := actOf_put hd hi
theorem looks_same {a0 : Act} {u : Nat → Value} {listed : Array Bool} {i : Nat} {o : Oper} (ha : apartB ops = true) (hr : readsB ops = true) (ho : ops[i]? = some o)
    (hl : ∀ e ∈ o.after, Region.binds .any e = true → listed.getD e.on false = true) (hu : ∀ j, listed.getD j false = true → u j = V j) :
    ∀ d ∈ o.looksAt ops, (actOf (dstOf ops) a0 u ops.size).tmps[d]? = (actOf (dstOf ops) a0 V ops.size).tmps[d]? := by
  have hi := (Array.getElem?_eq_some_iff.1 ho).1
  intro d hd
  have h1 := List.all_eq_true.1 hr i (List.mem_range.2 hi)
  rw [ho] at h1
  simp only [Option.map_some, Option.getD_some] at h1
  have h2 := List.all_eq_true.1 h1 d hd
  have key : ∀ n, n ≤ ops.size → (actOf (dstOf ops) a0 u n).tmps[d]? = (actOf (dstOf ops) a0 V n).tmps[d]? := by
    intro n
    induction n with
    | zero => intro _; rfl
    | succ n ih =>
      intro hn
      show ((actOf (dstOf ops) a0 u n).put (dstOf ops n) (u n)).tmps[d]? = ((actOf (dstOf ops) a0 V n).put (dstOf ops n) (V n)).tmps[d]?
      have h3 := List.all_eq_true.1 h2 n (List.mem_range.2 (by omega))
      cases hdn : dstOf ops n with
      | none => exact ih (by omega)
      | some d' =>
        by_cases e : d' = d
        · subst e
          simp only [hdn, bne_self_eq_false, Bool.false_or] at h3
          obtain ⟨e, he, hh⟩ := Array.any_eq_true'.1 h3
          simp only [Bool.and_eq_true, beq_iff_eq] at hh
          have := hu n (by rw [← hh.1]; exact hl e he hh.2)
          rw [this]
          simp [Act.put, Array.getElem?_setIfInBounds, actOf_size]
        · simp only [Act.put, Array.getElem?_setIfInBounds_ne e]
          exact ih (by omega)
  exact key _ (Nat.le_refl _)
theorem same_exec {a a' : Act} {o : Oper} (hs : ∀ cs b, o.op ≠ .select cs b) (h : ∀ d ∈ o.looksAt ops, a.tmps[d]? = a'.tmps[d]?) : execOp a.eval o = execOp a'.eval o :=
  execOp_congr o hs fun x hx => by
    cases x with
    | tmp t =>
      have : t ∈ o.looksAt ops := List.mem_append_left _ (List.mem_filterMap.2 ⟨.tmp t, by simpa using hx, rfl⟩)
      simp [Act.eval, h t this]
    | _ => rfl
theorem same_wanted {a a' : Act} {o : Oper} (h : ∀ d ∈ o.looksAt ops, a.tmps[d]? = a'.tmps[d]?) : Region.wanted o (yielded ops a.tmps) = Region.wanted o (yielded ops a'.tmps) := by
  unfold Region.wanted
  cases hg : o.guard with
  | none => rfl
  | some gw =>
    obtain ⟨g, want⟩ := gw
    have hy : yielded ops a.tmps g = yielded ops a'.tmps g := by
      unfold yielded
      cases ht : (ops[g]?).bind (·.dst) with
      | none => rfl
      | some t =>
        have : t ∈ o.looksAt ops := by simp [Oper.looksAt, hg, ht]
        simp [h t this]
    simp only [hy]
theorem updV_listed {listed : Array Bool} {u : Nat → Value} {i : Nat} (hi : i < listed.size) (hu : ∀ j, listed.getD j false = true → u j = V j) : ∀ j, (listed.setIfInBounds i true).getD j false = true → updV u i (V i) j = V j := by
  intro j hj
  rw [getD_set _ _ _ _ hi] at hj
  by_cases e : j = i
  · subst e; exact updV_same _ _ _
  · rw [updV_ne e]; rw [if_neg e] at hj; exact hu j hj
theorem wp_region_vals {Q : Exit → Act → World → Prop} {id : Nat} {a0 : Act} {w : World} (hm : P.follows .mixedOrders = true) (hd : dagB .any ops = true) (ha : apartB ops = true) (hr : readsB ops = true) (hs : Region.noSelect ops = true)
    (V : Nat → Value) (A : Act) (hA : actOf (dstOf ops) a0 V ops.size = A) (I : World → Prop) (h0 : I w.drew) (hstep : AllV P ops A V I 0 ops.toList) (hend : ∀ w, I w → Q .normal A w) : (Code.region id ops true).wp P Q a0 w := by
  refine wp_region_inv hm hd (fun listed a w => ∃ u, a = actOf (dstOf ops) a0 u ops.size ∧ (∀ j, listed.getD j false = true → u j = V j) ∧ I w) ?_ ?_ ?_
  · refine ⟨fun i => match dstOf ops i with
      | none => undef
      | some d => a0.eval (.tmp d), (actOf_self fun i d _ h => by simp only [h]).symm, fun j h => ?_, h0⟩
    simp [Array.getD] at h
  · rintro listed a w i o hsz ho hf hdep ⟨u, rfl, hu, hI⟩ K hK
    have hi := (Array.getElem?_eq_some_iff.1 ho).1
    have hdo : o.dst = dstOf ops i := by unfold dstOf; rw [ho]; rfl
    have hlk := looks_same (V := V) (a0 := a0) ha hr ho hdep hu
    rw [hA] at hlk
    have hK' : ∀ w', I w' → K ((actOf (dstOf ops) a0 u ops.size).put o.dst (V i)) w' := fun w' hI' => hK _ _ ⟨updV u i (V i), by rw [hdo]; exact put_actOf (apart_of ha) hi, updV_listed (by omega) hu, hI'⟩
    rw [same_wanted hlk]
    have hst := AllV.at (i := i) hstep (by simpa using ho)
    rw [Nat.zero_add] at hst
    rcases hst with ⟨hw, hst⟩ | ⟨hw, hv⟩
    · rw [if_pos hw]
      have hex := same_exec (fun cs b => Region.noSelect_spec hs i o cs b ho) hlk
      unfold Oper.wp
      rw [hex]
      rcases hst w hI with ⟨w', h, hI'⟩ | ⟨w', hv, h, hI'⟩ | ⟨f, args, w', h, hc⟩
      · rw [h]; exact hK' _ hI'
      · rw [h]; rw [hv] at hK'; exact hK' _ hI'
      · rw [h, Oper.upon_enter]
        refine hc.mono fun e w'' hh => ?_
        obtain ⟨rfl, hI'⟩ := hh
        exact hK' _ hI'
    · rw [if_neg (by rw [hw]; exact Bool.false_ne_true)]
      rw [hv] at hK'
      exact hK' _ hI
  · rintro listed a w hsz hl ⟨u, rfl, hu, hI⟩
    rw [show actOf (dstOf ops) a0 u ops.size = A by rw [← hA]; exact actOf_congr fun i hi => hu i (hl i hi)]
    exact hend _ hI
/-! The same inside a fence that lets everything in. -/
theorem wpAnyIn_inv {F : Fence} {n : Nat} {md : Region.Mode} {Q : Exit → Act → World → Prop} (hd : dagB md ops = true) (J : Array Bool → Act → World → Prop)
    (hstep : ∀ (listed : Array Bool) (a : Act) (w : World) (i : Nat) (o : Oper), listed.size = ops.size → ops[i]? = some o → listed.getD i true = false → (∀ e ∈ o.after, Region.binds md e = true → listed.getD e.on false = true) → J listed a w →
      ∀ K : Act → World → Prop, (∀ a' w', J (listed.setIfInBounds i true) a' w' → K a' w') → if Region.wanted o (yielded ops a.tmps) = true then Oper.wpIn F n P o a w K Q else (∀ f, o.about P w a.eval = some f → F.fn f) ∧ K (a.put o.dst undef) w)
    (hend : ∀ (listed : Array Bool) (a : Act) (w : World), listed.size = ops.size → (∀ i, i < ops.size → listed.getD i false = true) → J listed a w → Q .normal a w) :
    ∀ (fuel : Nat) (listed : Array Bool) (a : Act) (w : World), listed.size = ops.size → openCount ops.size listed ≤ fuel → J listed a w → wpAnyIn F n P md ops Q fuel listed a w
  | 0, listed, a, w, hs, hc, hI => by
    have hr : Region.ready md ops listed = [] := by
      apply List.eq_nil_iff_forall_not_mem.2
      intro i hi
      obtain ⟨h1, h2, _⟩ := mem_ready.1 hi
      have h0 : openCount ops.size listed = 0 := by omega
      unfold openCount at h0
      have h3 := List.length_eq_zero_iff.1 h0
      have h4 : i ∈ (List.range ops.size).filter fun i => !listed.getD i true := List.mem_filter.2 ⟨List.mem_range.2 h1, by simp [h2]⟩
      rw [h3] at h4
      cases h4
    exact ⟨hr, hend _ _ _ hs (ready_nil hd hs hr) hI⟩
  | fuel + 1, listed, a, w, hs, hc, hI => by
    refine ⟨fun hr => hend _ _ _ hs (ready_nil hd hs hr) hI, fun i hi => ?_⟩
    obtain ⟨h1, h2, o, ho, h3⟩ := mem_ready.1 hi
    refine wpOpIn_step ho fun K hK => hstep listed a w i o hs ho h2 h3 hI K fun a' w' hI' => hK _ _ ?_
    exact wpAnyIn_inv hd J hstep hend fuel _ a' w' (by simp [hs]) (by have := openCount_set hs h1 h2; omega) hI'
theorem wpIn_region_vals {l n : Nat} {Q : Exit → Act → World → Prop} {id : Nat} {a0 : Act} {w : World} (hm : P.follows .mixedOrders = true) (hd : dagB .any ops = true) (ha : apartB ops = true) (hr : readsB ops = true) (hs : Region.noSelect ops = true)
    (hdf : ∀ (i : Nat) (o : Oper), ops[i]? = some o → ∀ c, o.op ≠ .defer c)
    (V : Nat → Value) (A : Act) (hA : actOf (dstOf ops) a0 V ops.size = A) (I : World → Prop) (h0 : I w.drew) (hstep : AllV P ops A V I 0 ops.toList) (hend : ∀ w, I w → Q .normal A w) : (Code.region id ops true).wpIn (Fence.wide.inRound l) n P Q a0 w := by
  refine wpIn_region_any hm (wpAnyIn_inv hd (fun listed a w => ∃ u, a = actOf (dstOf ops) a0 u ops.size ∧ (∀ j, listed.getD j false = true → u j = V j) ∧ I w) ?_ ?_ ops.size _ a0 w.drew (by simp) ?_ ?_)
  · rintro listed a w i o hsz ho hf hdep ⟨u, rfl, hu, hI⟩ K hK
    have hi := (Array.getElem?_eq_some_iff.1 ho).1
    have hdo : o.dst = dstOf ops i := by unfold dstOf; rw [ho]; rfl
    have hlk := looks_same (V := V) (a0 := a0) ha hr ho hdep hu
    rw [hA] at hlk
    have hK' : ∀ w', I w' → K ((actOf (dstOf ops) a0 u ops.size).put o.dst (V i)) w' := fun w' hI' => hK _ _ ⟨updV u i (V i), by rw [hdo]; exact put_actOf (apart_of ha) hi, updV_listed (by omega) hu, hI'⟩
    rw [same_wanted hlk]
    have hst := AllV.at (i := i) hstep (by simpa using ho)
    rw [Nat.zero_add] at hst
    rcases hst with ⟨hw, hst⟩ | ⟨hw, hv⟩
    · rw [if_pos hw]
      have hex := same_exec (fun cs b => Region.noSelect_spec hs i o cs b ho) hlk
      refine ⟨fun f _ => trivial, ?_⟩
      rw [Oper.semAt_eq _ _ _ (hdf i o ho), hex]
      rcases hst w hI with ⟨w', h, hI'⟩ | ⟨w', hv, h, hI'⟩ | ⟨f, args, w', h, hc⟩
      · rw [h]; exact hK' _ hI'
      · rw [h]; rw [hv] at hK'; exact hK' _ hI'
      · rw [h, Oper.uponIn_enter]
        refine ⟨fun h => by simp [Fence.wide] at h, ?_⟩
        refine (callsIn_wide (n := n - 1)).2 (hc.mono fun e w'' hh => ?_)
        obtain ⟨rfl, hI'⟩ := hh
        exact hK' _ hI'
    · rw [if_neg (by rw [hw]; exact Bool.false_ne_true)]
      rw [hv] at hK'
      exact ⟨fun f _ => trivial, hK' _ hI⟩
  · rintro listed a w hsz hl ⟨u, rfl, hu, hI⟩
    rw [show actOf (dstOf ops) a0 u ops.size = A by rw [← hA]; exact actOf_congr fun i hi => hu i (hl i hi)]
    exact hend _ hI
  · unfold openCount
    exact Nat.le_trans (List.length_filter_le _ _) (by simp)
  · refine ⟨fun i => match dstOf ops i with
      | none => undef
      | some d => a0.eval (.tmp d), (actOf_self fun i d _ h => by simp only [h]).symm, fun j h => ?_, h0⟩
    simp [Array.getD] at h
end
end Go.Proofs.YtginhebfjbhmnaaGreat

