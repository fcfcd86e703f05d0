/-
  Texts laid together: Inv Inv2 Inv3 Val Box Val2 Val3.
-/
import Derived.Test.YtapikjhfgcbifaaGreatDoorGen
import Derived.OrdersIn
/-
  A region that draws its order, by an invariant: each operation by itself, whatever came ahead of it.
-/
namespace Go.Proofs.YtapikjhfgcbifaaGreatDoor
set_option linter.unusedVariables false
open Go.RowKit

theorem filter_lt {α : Type} {p q : α → Bool} : ∀ {l : List α}, (∀ x ∈ l, p x = true → q x = true) → (∃ x ∈ l, q x = true ∧ p x = false) → (l.filter p).length < (l.filter q).length
  | [], _, h => by obtain ⟨x, hx, _⟩ := h; cases hx
  | y :: l, h1, h2 => by
    have hle : (l.filter p).length ≤ (l.filter q).length := by
      clear h2
      induction l with
      | nil => simp
      | cons z l ih =>
        have ih' := ih (fun x hx => h1 x (by rcases List.mem_cons.1 hx with e | e <;> simp [e]))
        have hz := h1 z (by simp)
        simp only [List.filter_cons]
        cases hp : p z <;> cases hq : q z <;> simp_all <;> omega
    obtain ⟨x, hx, hq, hp⟩ := h2
    rcases List.mem_cons.1 hx with rfl | hx
    · simp [List.filter_cons, hp, hq]; omega
    · have := filter_lt (l := l) (fun x hx => h1 x (by simp [hx])) ⟨x, hx, hq, hp⟩
      have hy := h1 y (by simp)
      simp only [List.filter_cons]
      cases hpy : p y <;> cases hqy : q y <;> simp_all <;> omega

/-- What is not yet listed. -/
def openCount (n : Nat) (listed : Array Bool) : Nat := ((List.range n).filter fun i => !listed.getD i true).length
theorem getD_set (l : Array Bool) (i j : Nat) (d : Bool) (hi : i < l.size) : (l.setIfInBounds i true).getD j d = if j = i then true else l.getD j d := by
  by_cases hj : j = i
  · subst hj
    simp [Array.getD, hi]
  · simp only [hj, if_false, Array.getD_eq_getD_getElem?]
    rw [Array.getElem?_setIfInBounds_ne (fun e => hj e.symm)]
theorem openCount_set {n : Nat} {listed : Array Bool} {i : Nat} (hs : listed.size = n) (hi : i < n) (hf : listed.getD i true = false) : openCount n (listed.setIfInBounds i true) < openCount n listed := by
  unfold openCount
  refine filter_lt (fun x hx h => ?_) ⟨i, List.mem_range.2 hi, by simp [hf], ?_⟩
  · rw [getD_set _ _ _ _ (by omega)] at h
    by_cases e : x = i
    · simp [e] at h
    · simpa [e] using h
  · rw [getD_set _ _ _ _ (by omega)]
    simp

/-- Each edge that binds leads back. -/
def dagB (md : Region.Mode) (ops : Array Oper) : Bool := (List.range ops.size).all fun i => ((ops[i]?).map fun o => o.after.all fun e => !Region.binds md e || decide (e.on < i)).getD true

section
variable {P : Program} {ops : Array Oper} {Q : Exit → Act → World → Prop} {md : Region.Mode}
theorem mem_ready {listed : Array Bool} {i : Nat} : i ∈ Region.ready md ops listed ↔ i < ops.size ∧ listed.getD i true = false ∧ ∃ o, ops[i]? = some o ∧ ∀ e ∈ o.after, Region.binds md e = true → listed.getD e.on false = true := by
  unfold Region.ready
  rw [List.mem_filter, List.mem_range]
  constructor
  · rintro ⟨hi, h⟩
    rw [Array.getElem?_eq_getElem hi] at h ⊢
    simp only [Option.map_some, Option.getD_some, Bool.and_eq_true, Bool.not_eq_true'] at h
    refine ⟨hi, h.1, _, rfl, fun e he hb => ?_⟩
    have h2 := Array.all_eq_true_iff_forall_mem.1 h.2 e he
    simpa [hb] using h2
  · rintro ⟨hi, hf, o, ho, h⟩
    refine ⟨hi, ?_⟩
    rw [ho]
    simp only [Option.map_some, Option.getD_some, Bool.and_eq_true, Bool.not_eq_true']
    refine ⟨hf, Array.all_eq_true_iff_forall_mem.2 fun e he => ?_⟩
    cases hb : Region.binds md e with
    | false => rfl
    | true => simpa using h e he hb
theorem ready_nil (hd : dagB md ops = true) {listed : Array Bool} (hs : listed.size = ops.size) (h : Region.ready md ops listed = []) : ∀ i, i < ops.size → listed.getD i false = true := by
  intro i
  induction i using Nat.strongRecOn with
  | _ i ih =>
    intro hi
    cases hl : listed.getD i true with
    | true =>
      have : listed[i]? = some (listed[i]'(by omega)) := Array.getElem?_eq_getElem (by omega)
      simp only [Array.getD_eq_getD_getElem?, this, Option.getD_some] at hl ⊢
      exact hl
    | false =>
      exfalso
      have ho : ops[i]? = some ops[i] := Array.getElem?_eq_getElem hi
      have hm : i ∈ Region.ready md ops listed := mem_ready.2 ⟨hi, hl, _, ho, fun e he hb => by
        have h1 := List.all_eq_true.1 hd i (List.mem_range.2 hi)
        rw [ho] at h1
        simp only [Option.map_some, Option.getD_some] at h1
        have h2 := Array.all_eq_true_iff_forall_mem.1 h1 e he
        simp [hb] at h2
        exact ih e.on h2 (by omega)⟩
      rw [h] at hm
      cases hm
theorem wpAny_inv (hd : dagB md ops = true) (I : Array Bool → Act → World → Prop)
    (hstep : ∀ (listed : Array Bool) (a : Act) (w : World) (i : Nat) (o : Oper), listed.size = ops.size → ops[i]? = some o → listed.getD i true = false → (∀ e ∈ o.after, Region.binds md e = true → listed.getD e.on false = true) → I listed a w →
      ∀ K : Act → World → Prop, (∀ a' w', I (listed.setIfInBounds i true) a' w' → K a' w') → if Region.wanted o (yielded ops a.tmps) = true then Oper.wp P o a w K Q else K (a.put o.dst undef) w)
    (hend : ∀ (listed : Array Bool) (a : Act) (w : World), listed.size = ops.size → (∀ i, i < ops.size → listed.getD i false = true) → I listed a w → Q .normal a w) :
    ∀ (fuel : Nat) (listed : Array Bool) (a : Act) (w : World), listed.size = ops.size → openCount ops.size listed ≤ fuel → I listed a w → wpAny P md ops Q fuel listed a w
  | 0, listed, a, w, hs, hc, hI => by
    have hr : Region.ready md ops listed = [] := by
      apply List.eq_nil_iff_forall_not_mem.2
      intro i hi
      obtain ⟨h1, h2, _⟩ := mem_ready.1 hi
      have h0 : openCount ops.size listed = 0 := by omega
      unfold openCount at h0
      have h3 := List.length_eq_zero_iff.1 h0
      have h4 : i ∈ (List.range ops.size).filter fun i => !listed.getD i true := List.mem_filter.2 ⟨List.mem_range.2 h1, by simp [h2]⟩
      rw [h3] at h4
      cases h4
    exact ⟨hr, hend _ _ _ hs (ready_nil hd hs hr) hI⟩
  | fuel + 1, listed, a, w, hs, hc, hI => by
    refine ⟨fun hr => hend _ _ _ hs (ready_nil hd hs hr) hI, fun i hi => ?_⟩
    obtain ⟨h1, h2, o, ho, h3⟩ := mem_ready.1 hi
    refine wpOp_step ho fun K hK => hstep listed a w i o hs ho h2 h3 hI K fun a' w' hI' => hK _ _ ?_
    exact wpAny_inv hd I hstep hend fuel _ a' w' (by simp [hs]) (by have := openCount_set hs h1 h2; omega) hI'
/-- A region by an invariant. -/
theorem wp_region_inv {id : Nat} {a : Act} {w : World} (hm : P.follows .mixedOrders = true) (hd : dagB .any ops = true) (I : Array Bool → Act → World → Prop) (h0 : I (Array.replicate ops.size false) a w.drew)
    (hstep : ∀ (listed : Array Bool) (a : Act) (w : World) (i : Nat) (o : Oper), listed.size = ops.size → ops[i]? = some o → listed.getD i true = false → (∀ e ∈ o.after, Region.binds .any e = true → listed.getD e.on false = true) → I listed a w →
      ∀ K : Act → World → Prop, (∀ a' w', I (listed.setIfInBounds i true) a' w' → K a' w') → if Region.wanted o (yielded ops a.tmps) = true then Oper.wp P o a w K Q else K (a.put o.dst undef) w)
    (hend : ∀ (listed : Array Bool) (a : Act) (w : World), listed.size = ops.size → (∀ i, i < ops.size → listed.getD i false = true) → I listed a w → Q .normal a w) : (Code.region id ops true).wp P Q a w := by
  refine wp_region_any hm (wpAny_inv hd I hstep hend ops.size _ a w.drew (by simp) ?_ h0)
  unfold openCount
  exact Nat.le_trans (List.length_filter_le _ _) (by simp)
end
end Go.Proofs.YtapikjhfgcbifaaGreatDoor

/-
  A region that draws its order, by an invariant on what the operations have yielded.
-/
namespace Go.Proofs.YtapikjhfgcbifaaGreatDoor
set_option linter.unusedVariables false
open Go.RowKit

/-- The frame once operation i has yielded u i, for each i < n. -/
def actOf (dst : Nat → Option Tmp) (a0 : Act) (u : Nat → Value) : Nat → Act
  | 0 => a0
  | n + 1 => (actOf dst a0 u n).put (dst n) (u n)
def updV (u : Nat → Value) (i : Nat) (v : Value) : Nat → Value := fun j => if j = i then v else u j
theorem updV_same (u : Nat → Value) (i : Nat) (v : Value) : updV u i v i = v := if_pos rfl
theorem updV_ne {u : Nat → Value} {i j : Nat} {v : Value} (h : j ≠ i) : updV u i v j = u j := if_neg h
theorem put_put (a : Act) (d : Option Tmp) (v u : Value) : (a.put d v).put d u = a.put d u := by
  cases d with
  | none => rfl
  | some d => simp [Act.put]
theorem put_size (a : Act) (d : Option Tmp) (v : Value) : (a.put d v).tmps.size = a.tmps.size := by
  cases d with
  | none => rfl
  | some d => simp [Act.put]
section
variable {dst : Nat → Option Tmp} {a0 : Act} {u : Nat → Value}
theorem actOf_congr {u' : Nat → Value} : ∀ {n : Nat}, (∀ i, i < n → u i = u' i) → actOf dst a0 u n = actOf dst a0 u' n
  | 0, _ => rfl
  | n + 1, h => by
    show (actOf dst a0 u n).put _ _ = (actOf dst a0 u' n).put _ _
    rw [actOf_congr (fun i hi => h i (by omega)), h n (by omega)]
theorem actOf_size : ∀ n : Nat, (actOf dst a0 u n).tmps.size = a0.tmps.size
  | 0 => rfl
  | n + 1 => (put_size _ _ _).trans (actOf_size n)
theorem actOf_put {v : Value} {i : Nat} : ∀ {n : Nat}, (∀ i j, i < n → j < n → i ≠ j → ∀ d, dst i = some d → dst j ≠ some d) → i < n → (actOf dst a0 u n).put (dst i) v = actOf dst a0 (updV u i v) n
  | 0, _, hi => by omega
  | n + 1, hd, hi => by
    by_cases e : i = n
    · subst e
      show ((actOf dst a0 u i).put (dst i) (u i)).put (dst i) v = (actOf dst a0 (updV u i v) i).put (dst i) (updV u i v i)
      rw [put_put, updV_same]
      congr 1
      exact actOf_congr fun j hj => (updV_ne (by omega)).symm
    · show ((actOf dst a0 u n).put (dst n) (u n)).put (dst i) v = (actOf dst a0 (updV u i v) n).put (dst n) (updV u i v n)
      rw [updV_ne (fun h => e h.symm), ← actOf_put (fun i j hi hj => hd i j (by omega) (by omega)) (show i < n by omega)]
      exact Act.put_comm _ _ _ fun d h1 h2 => hd n i (by omega) (by omega) (fun h => e h.symm) d h1 h2
theorem actOf_other {d : Tmp} : ∀ {n : Nat}, (∀ i, i < n → dst i ≠ some d) → (actOf dst a0 u n).eval (.tmp d) = a0.eval (.tmp d)
  | 0, _ => rfl
  | n + 1, h => by
    show ((actOf dst a0 u n).put (dst n) (u n)).eval _ = _
    rw [Act.eval_put fun e he hd => by cases hd; exact h n (by omega) he]
    exact actOf_other fun i hi => h i (by omega)
theorem actOf_eval {d : Tmp} {i : Nat} (hb : d < a0.tmps.size) (hi0 : dst i = some d) : ∀ {n : Nat}, (∀ i j, i < n → j < n → i ≠ j → ∀ d, dst i = some d → dst j ≠ some d) → i < n → (actOf dst a0 u n).eval (.tmp d) = u i
  | 0, _, hi => by omega
  | n + 1, hd, hi => by
    show ((actOf dst a0 u n).put (dst n) (u n)).eval _ = _
    by_cases e : i = n
    · subst e
      rw [hi0]
      have hs : d < (actOf dst a0 u i).tmps.size := by rw [actOf_size]; exact hb
      simp [Act.eval, Act.put, hs]
    · rw [Act.eval_put fun d' he hd' => by cases hd'; exact hd i n (by omega) (by omega) e _ hi0 he]
      exact actOf_eval hb hi0 (fun i j hi hj => hd i j (by omega) (by omega)) (by omega)
theorem actOf_self : ∀ {n : Nat}, (∀ i d, i < n → dst i = some d → u i = a0.eval (.tmp d)) → actOf dst a0 u n = a0
  | 0, _ => rfl
  | n + 1, h => by
    show (actOf dst a0 u n).put (dst n) (u n) = a0
    rw [actOf_self fun i d hi => h i d (by omega)]
    cases hd : dst n with
    | none => rfl
    | some d =>
      rw [h n d (by omega) hd]
      have : a0.tmps.setIfInBounds d (a0.eval (.tmp d)) = a0.tmps := by
        apply Array.ext
        · simp
        · intro k h1 h2
          rw [Array.getElem_setIfInBounds]
          split
          · rename_i e
            subst e
            simp [Act.eval, h2]
          · rfl
      simp [Act.put, this]
end
def dstOf (ops : Array Oper) (i : Nat) : Option Tmp := (ops[i]?).bind (·.dst)
/-- No two operations yield into one slot. -/
def apartB (ops : Array Oper) : Bool := (List.range ops.size).all fun i => (List.range ops.size).all fun j => i == j || (match dstOf ops i with
  | none => true
  | some d => dstOf ops j != some d)
theorem apart_of {ops : Array Oper} (h : apartB ops = true) : ∀ i j, i < ops.size → j < ops.size → i ≠ j → ∀ d, dstOf ops i = some d → dstOf ops j ≠ some d := by
  intro i j hi hj hne d hd he
  have h1 := List.all_eq_true.1 h i (List.mem_range.2 hi)
  have h2 := List.all_eq_true.1 h1 j (List.mem_range.2 hj)
  rw [hd] at h2
  simp [hne, he] at h2
/-- A region by an invariant on what was yielded. -/
theorem wp_region_inv2 {P : Program} {ops : Array Oper} {Q : Exit → Act → World → Prop} {id : Nat} {a0 : Act} {w : World} (hm : P.follows .mixedOrders = true) (hd : dagB .any ops = true) (ha : apartB ops = true) (J : Array Bool → (Nat → Value) → World → Prop)
    (h0 : ∀ u, J (Array.replicate ops.size false) u w.drew)
    (hstep : ∀ (listed : Array Bool) (u : Nat → Value) (w : World) (i : Nat) (o : Oper), listed.size = ops.size → ops[i]? = some o → listed.getD i true = false → (∀ e ∈ o.after, Region.binds .any e = true → listed.getD e.on false = true) → J listed u w →
      ∀ K : Act → World → Prop, (∀ v w', J (listed.setIfInBounds i true) (updV u i v) w' → K ((actOf (dstOf ops) a0 u ops.size).put o.dst v) w') →
        if Region.wanted o (yielded ops (actOf (dstOf ops) a0 u ops.size).tmps) = true then Oper.wp P o (actOf (dstOf ops) a0 u ops.size) w K Q else K ((actOf (dstOf ops) a0 u ops.size).put o.dst undef) w)
    (hend : ∀ (listed : Array Bool) (u : Nat → Value) (w : World), (∀ i, i < ops.size → listed.getD i false = true) → J listed u w → Q .normal (actOf (dstOf ops) a0 u ops.size) w) : (Code.region id ops true).wp P Q a0 w := by
  refine wp_region_inv hm hd (fun listed a w => ∃ u, a = actOf (dstOf ops) a0 u ops.size ∧ J listed u w) ?_ ?_ ?_
  · exact ⟨fun i => match dstOf ops i with
      | none => undef
      | some d => a0.eval (.tmp d), (actOf_self fun i d _ h => by simp only [h]).symm, h0 _⟩
  · rintro listed a w i o hs ho hf hdep ⟨u, rfl, hJ⟩ K hK
    refine hstep listed u w i o hs ho hf hdep hJ K fun v w' hJ' => hK _ _ ⟨updV u i v, ?_, hJ'⟩
    have hdo : o.dst = dstOf ops i := by unfold dstOf; rw [ho]; rfl
    rw [hdo]
    exact actOf_put (apart_of ha) (Array.getElem?_eq_some_iff.1 ho).1
  · rintro listed a w hs hl ⟨u, rfl, hJ⟩
    exact hend listed u w hl hJ
end Go.Proofs.YtapikjhfgcbifaaGreatDoor

/-
  A region that draws its order and has no guards, by an invariant: the frame is told by what it yields.
-/
namespace Go.Proofs.YtapikjhfgcbifaaGreatDoor
set_option linter.unusedVariables false
open Go.RowKit
theorem dst_lt {ops : Array Oper} {i : Nat} {d : Tmp} (h : dstOf ops i = some d) : i < ops.size := by
  unfold dstOf at h
  by_cases hi : i < ops.size
  · exact hi
  · rw [Array.getElem?_eq_none (by omega)] at h
    cases h
theorem wp_region_inv3 {P : Program} {ops : Array Oper} {Q : Exit → Act → World → Prop} {id : Nat} {a0 : Act} {w : World} (hm : P.follows .mixedOrders = true) (hd : dagB .any ops = true) (ha : apartB ops = true) (hg : (ops.all fun o => o.guard.isNone) = true) (J : Array Bool → (Nat → Value) → World → Prop)
    (h0 : ∀ u, J (Array.replicate ops.size false) u w.drew)
    (hstep : ∀ (listed : Array Bool) (u : Nat → Value) (w : World) (i : Nat) (o : Oper) (A : Act), (∀ j d, dstOf ops j = some d → d < a0.tmps.size → A.eval (.tmp d) = u j) → (∀ d, ((List.range ops.size).all fun j => dstOf ops j != some d) = true → A.eval (.tmp d) = a0.eval (.tmp d)) →
      (∀ L, listed = L → listed.size = ops.size) → ops[i]? = some o → listed.getD i true = false → (∀ e ∈ o.after, Region.binds .any e = true → listed.getD e.on false = true) → J listed u w →
      ∀ K : Act → World → Prop, (∀ v w', J (listed.setIfInBounds i true) (updV u i v) w' → K (A.put o.dst v) w') → Oper.wp P o A w K Q)
    (hend : ∀ (listed : Array Bool) (u : Nat → Value) (w : World), (∀ i, i < ops.size → listed.getD i false = true) → J listed u w → Q .normal (actOf (dstOf ops) a0 u ops.size) w) : (Code.region id ops true).wp P Q a0 w := by
  refine wp_region_inv2 hm hd ha J h0 ?_ hend
  intro listed u w i o hs ho hf hdep hJ K hK
  have hgo : o.guard = none := by
    have := Array.all_eq_true_iff_forall_mem.1 hg o (Array.mem_of_getElem? ho)
    simpa using this
  have hw : Region.wanted o (yielded ops (actOf (dstOf ops) a0 u ops.size).tmps) = true := by simp [Region.wanted, hgo]
  rw [if_pos hw]
  refine hstep listed u w i o _ (fun j d hj hb => actOf_eval hb hj (apart_of ha) (dst_lt hj)) (fun d hd => actOf_other fun j hj => ?_) (fun _ _ => hs) ho hf hdep hJ K hK
  have := List.all_eq_true.1 hd j (List.mem_range.2 hj)
  simpa using this
theorem getD_tf {l : Array Bool} {i : Nat} (h : l.getD i true = false) : l.getD i false = false := by
  by_cases hi : i < l.size
  · simp only [Array.getD, hi, dif_pos] at h ⊢
    exact h
  · simp [Array.getD, hi] at h
/-! One operation's run. -/
theorem inv_val {P : Program} {o : Oper} {a : Act} {w w' : World} {K : Act → World → Prop} {Q : Exit → Act → World → Prop} (v : Value) (hrun : (execOp a.eval o).run P w = .ok (.value v) w') (h : K (a.put o.dst v) w') : Oper.wp P o a w K Q := by
  unfold Oper.wp
  rw [hrun]
  exact h
theorem inv_skip {P : Program} {o : Oper} {a : Act} {w w' : World} {K : Act → World → Prop} {Q : Exit → Act → World → Prop} (hrun : (execOp a.eval o).run P w = .ok .skip w') (h : K (a.put o.dst undef) w') : Oper.wp P o a w K Q := by
  unfold Oper.wp
  rw [hrun]
  exact h
theorem inv_call {P : Program} {o : Oper} {a : Act} {w w' : World} {K : Act → World → Prop} {Q : Exit → Act → World → Prop} (f : FuncId) (args : Array Value) (R : Ending → World → Prop) (hrun : (execOp a.eval o).run P w = .ok (.enter f args) w') (hc : Calls P f args w' R) (h : ∀ e w'', R e w'' → ∃ v, e = .returned v ∧ K (a.put o.dst v) w'') : Oper.wp P o a w K Q := by
  unfold Oper.wp
  rw [hrun, Oper.upon_enter]
  refine hc.mono fun e w'' hr => ?_
  obtain ⟨v, rfl, hk⟩ := h e w'' hr
  exact hk
/-- What was yielded stays, when another operation is carried out. -/
theorem keep_val {listed : Array Bool} {n i : Nat} {u : Nat → Value} {v : Value} {vals : Nat → Option Value} (hs : listed.size = n) (hi : i < n) (h : ∀ k x, vals k = some x → listed.getD k false = true → u k = x) (hv : ∀ x, vals i = some x → v = x) :
    ∀ k x, vals k = some x → (listed.setIfInBounds i true).getD k false = true → updV u i v k = x := by
  intro k x hx hl
  by_cases e : k = i
  · subst e
    rw [updV_same]
    exact hv x hx
  · rw [updV_ne e]
    rw [getD_set _ _ _ _ (by omega), if_neg e] at hl
    exact h k x hx hl
end Go.Proofs.YtapikjhfgcbifaaGreatDoor

/-
  A region that draws its order, told by what each operation yields: the values are given, each operation is looked at once, at the frame that the region leaves.
-/
namespace Go.Proofs.YtapikjhfgcbifaaGreatDoor
set_option linter.unusedVariables false
open Go.RowKit

/-- Each operation reads only what no operation yields, or what it waits for. -/
def readsB (ops : Array Oper) : Bool := (List.range ops.size).all fun i => ((ops[i]?).map fun o => (o.looksAt ops).all fun d => (List.range ops.size).all fun j => dstOf ops j != some d || o.after.any fun e => e.on == j && Region.binds .any e).getD true
/-- One operation: it leaves v, and I holds behind it. -/
inductive StepV (P : Program) (o : Oper) (ρ : Operand → Value) (v : Value) (I : World → Prop) (w : World) : Prop where
  | val (w' : World) (h : (execOp ρ o).run P w = .ok (.value v) w') (hI : I w')
  | skip (w' : World) (hv : v = undef) (h : (execOp ρ o).run P w = .ok .skip w') (hI : I w')
  | call (f : FuncId) (args : Array Value) (w' : World) (h : (execOp ρ o).run P w = .ok (.enter f args) w') (hc : Calls P f args w' fun e w'' => e = .returned v ∧ I w'')
/-- All operations, one by one. -/
def AllV (P : Program) (ops : Array Oper) (A : Act) (V : Nat → Value) (I : World → Prop) : Nat → List Oper → Prop
  | _, [] => True
  | i, o :: os => ((Region.wanted o (yielded ops A.tmps) = true ∧ ∀ w, I w → StepV P o A.eval (V i) I w) ∨ (Region.wanted o (yielded ops A.tmps) = false ∧ V i = undef)) ∧ AllV P ops A V I (i + 1) os
section
variable {P : Program} {ops : Array Oper} {A : Act} {V : Nat → Value} {I : World → Prop}
theorem AllV.at : ∀ {l : List Oper} {k i : Nat} {o : Oper}, AllV P ops A V I k l → l[i]? = some o → (Region.wanted o (yielded ops A.tmps) = true ∧ ∀ w, I w → StepV P o A.eval (V (k + i)) I w) ∨ (Region.wanted o (yielded ops A.tmps) = false ∧ V (k + i) = undef)
  | [], _, _, _, _, h => by simp at h
  | x :: l, k, 0, o, h, ho => by
    simp at ho
    subst ho
    exact h.1
  | x :: l, k, i + 1, o, h, ho => by
    have := AllV.at (i := i) h.2 (by simpa using ho)
    rw [show k + 1 + i = k + (i + 1) by omega] at this
    exact this
theorem put_actOf {dst : Nat → Option Tmp} {a0 : Act} {u V : Nat → Value} {n i : Nat} (hd : ∀ i j, i < n → j < n → i ≠ j → ∀ d, dst i = some d → dst j ≠ some d) (hi : i < n) : (actOf dst a0 u n).put (dst i) (V i) = actOf dst a0 (updV u i (V i)) n := actOf_put hd hi
theorem looks_same {a0 : Act} {u : Nat → Value} {listed : Array Bool} {i : Nat} {o : Oper} (ha : apartB ops = true) (hr : readsB ops = true) (ho : ops[i]? = some o)
    (hl : ∀ e ∈ o.after, Region.binds .any e = true → listed.getD e.on false = true) (hu : ∀ j, listed.getD j false = true → u j = V j) :
    ∀ d ∈ o.looksAt ops, (actOf (dstOf ops) a0 u ops.size).tmps[d]? = (actOf (dstOf ops) a0 V ops.size).tmps[d]? := by
  have hi := (Array.getElem?_eq_some_iff.1 ho).1
  intro d hd
  have h1 := List.all_eq_true.1 hr i (List.mem_range.2 hi)
  rw [ho] at h1
  simp only [Option.map_some, Option.getD_some] at h1
  have h2 := List.all_eq_true.1 h1 d hd
  have key : ∀ n, n ≤ ops.size → (actOf (dstOf ops) a0 u n).tmps[d]? = (actOf (dstOf ops) a0 V n).tmps[d]? := by
    intro n
    induction n with
    | zero => intro _; rfl
    | succ n ih =>
      intro hn
      show ((actOf (dstOf ops) a0 u n).put (dstOf ops n) (u n)).tmps[d]? = ((actOf (dstOf ops) a0 V n).put (dstOf ops n) (V n)).tmps[d]?
      have h3 := List.all_eq_true.1 h2 n (List.mem_range.2 (by omega))
      cases hdn : dstOf ops n with
      | none => exact ih (by omega)
      | some d' =>
        by_cases e : d' = d
        · subst e
          simp only [hdn, bne_self_eq_false, Bool.false_or] at h3
          obtain ⟨e, he, hh⟩ := Array.any_eq_true'.1 h3
          simp only [Bool.and_eq_true, beq_iff_eq] at hh
          have := hu n (by rw [← hh.1]; exact hl e he hh.2)
          rw [this]
          simp [Act.put, Array.getElem?_setIfInBounds, actOf_size]
        · simp only [Act.put, Array.getElem?_setIfInBounds_ne e]
          exact ih (by omega)
  exact key _ (Nat.le_refl _)
theorem same_exec {a a' : Act} {o : Oper} (hs : ∀ cs b, o.op ≠ .select cs b) (h : ∀ d ∈ o.looksAt ops, a.tmps[d]? = a'.tmps[d]?) : execOp a.eval o = execOp a'.eval o :=
  execOp_congr o hs fun x hx => by
    cases x with
    | tmp t =>
      have : t ∈ o.looksAt ops := List.mem_append_left _ (List.mem_filterMap.2 ⟨.tmp t, by simpa using hx, rfl⟩)
      simp [Act.eval, h t this]
    | _ => rfl
theorem same_wanted {a a' : Act} {o : Oper} (h : ∀ d ∈ o.looksAt ops, a.tmps[d]? = a'.tmps[d]?) : Region.wanted o (yielded ops a.tmps) = Region.wanted o (yielded ops a'.tmps) := by
  unfold Region.wanted
  cases hg : o.guard with
  | none => rfl
  | some gw =>
    obtain ⟨g, want⟩ := gw
    have hy : yielded ops a.tmps g = yielded ops a'.tmps g := by
      unfold yielded
      cases ht : (ops[g]?).bind (·.dst) with
      | none => rfl
      | some t =>
        have : t ∈ o.looksAt ops := by simp [Oper.looksAt, hg, ht]
        simp [h t this]
    simp only [hy]
theorem updV_listed {listed : Array Bool} {u : Nat → Value} {i : Nat} (hi : i < listed.size) (hu : ∀ j, listed.getD j false = true → u j = V j) : ∀ j, (listed.setIfInBounds i true).getD j false = true → updV u i (V i) j = V j := by
  intro j hj
  rw [getD_set _ _ _ _ hi] at hj
  by_cases e : j = i
  · subst e; exact updV_same _ _ _
  · rw [updV_ne e]; rw [if_neg e] at hj; exact hu j hj
theorem wp_region_vals {Q : Exit → Act → World → Prop} {id : Nat} {a0 : Act} {w : World} (hm : P.follows .mixedOrders = true) (hd : dagB .any ops = true) (ha : apartB ops = true) (hr : readsB ops = true) (hs : Region.noSelect ops = true)
    (V : Nat → Value) (A : Act) (hA : actOf (dstOf ops) a0 V ops.size = A) (I : World → Prop) (h0 : I w.drew) (hstep : AllV P ops A V I 0 ops.toList) (hend : ∀ w, I w → Q .normal A w) : (Code.region id ops true).wp P Q a0 w := by
  refine wp_region_inv hm hd (fun listed a w => ∃ u, a = actOf (dstOf ops) a0 u ops.size ∧ (∀ j, listed.getD j false = true → u j = V j) ∧ I w) ?_ ?_ ?_
  · refine ⟨fun i => match dstOf ops i with
      | none => undef
      | some d => a0.eval (.tmp d), (actOf_self fun i d _ h => by simp only [h]).symm, fun j h => ?_, h0⟩
    simp [Array.getD] at h
  · rintro listed a w i o hsz ho hf hdep ⟨u, rfl, hu, hI⟩ K hK
    have hi := (Array.getElem?_eq_some_iff.1 ho).1
    have hdo : o.dst = dstOf ops i := by unfold dstOf; rw [ho]; rfl
    have hlk := looks_same (V := V) (a0 := a0) ha hr ho hdep hu
    rw [hA] at hlk
    have hK' : ∀ w', I w' → K ((actOf (dstOf ops) a0 u ops.size).put o.dst (V i)) w' := fun w' hI' => hK _ _ ⟨updV u i (V i), by rw [hdo]; exact put_actOf (apart_of ha) hi, updV_listed (by omega) hu, hI'⟩
    rw [same_wanted hlk]
    have hst := AllV.at (i := i) hstep (by simpa using ho)
    rw [Nat.zero_add] at hst
    rcases hst with ⟨hw, hst⟩ | ⟨hw, hv⟩
    · rw [if_pos hw]
      have hex := same_exec (fun cs b => Region.noSelect_spec hs i o cs b ho) hlk
      unfold Oper.wp
      rw [hex]
      rcases hst w hI with ⟨w', h, hI'⟩ | ⟨w', hv, h, hI'⟩ | ⟨f, args, w', h, hc⟩
      · rw [h]; exact hK' _ hI'
      · rw [h]; rw [hv] at hK'; exact hK' _ hI'
      · rw [h, Oper.upon_enter]
        refine hc.mono fun e w'' hh => ?_
        obtain ⟨rfl, hI'⟩ := hh
        exact hK' _ hI'
    · rw [if_neg (by rw [hw]; exact Bool.false_ne_true)]
      rw [hv] at hK'
      exact hK' _ hI
  · rintro listed a w hsz hl ⟨u, rfl, hu, hI⟩
    rw [show actOf (dstOf ops) a0 u ops.size = A by rw [← hA]; exact actOf_congr fun i hi => hu i (hl i hi)]
    exact hend _ hI
/-! The same inside a fence that lets everything in. -/
theorem wpAnyIn_inv {F : Fence} {n : Nat} {md : Region.Mode} {Q : Exit → Act → World → Prop} (hd : dagB md ops = true) (J : Array Bool → Act → World → Prop)
    (hstep : ∀ (listed : Array Bool) (a : Act) (w : World) (i : Nat) (o : Oper), listed.size = ops.size → ops[i]? = some o → listed.getD i true = false → (∀ e ∈ o.after, Region.binds md e = true → listed.getD e.on false = true) → J listed a w →
      ∀ K : Act → World → Prop, (∀ a' w', J (listed.setIfInBounds i true) a' w' → K a' w') → if Region.wanted o (yielded ops a.tmps) = true then Oper.wpIn F n P o a w K Q else (∀ f, o.about P w a.eval = some f → F.fn f) ∧ K (a.put o.dst undef) w)
    (hend : ∀ (listed : Array Bool) (a : Act) (w : World), listed.size = ops.size → (∀ i, i < ops.size → listed.getD i false = true) → J listed a w → Q .normal a w) :
    ∀ (fuel : Nat) (listed : Array Bool) (a : Act) (w : World), listed.size = ops.size → openCount ops.size listed ≤ fuel → J listed a w → wpAnyIn F n P md ops Q fuel listed a w
  | 0, listed, a, w, hs, hc, hI => by
    have hr : Region.ready md ops listed = [] := by
      apply List.eq_nil_iff_forall_not_mem.2
      intro i hi
      obtain ⟨h1, h2, _⟩ := mem_ready.1 hi
      have h0 : openCount ops.size listed = 0 := by omega
      unfold openCount at h0
      have h3 := List.length_eq_zero_iff.1 h0
      have h4 : i ∈ (List.range ops.size).filter fun i => !listed.getD i true := List.mem_filter.2 ⟨List.mem_range.2 h1, by simp [h2]⟩
      rw [h3] at h4
      cases h4
    exact ⟨hr, hend _ _ _ hs (ready_nil hd hs hr) hI⟩
  | fuel + 1, listed, a, w, hs, hc, hI => by
    refine ⟨fun hr => hend _ _ _ hs (ready_nil hd hs hr) hI, fun i hi => ?_⟩
    obtain ⟨h1, h2, o, ho, h3⟩ := mem_ready.1 hi
    refine wpOpIn_step ho fun K hK => hstep listed a w i o hs ho h2 h3 hI K fun a' w' hI' => hK _ _ ?_
    exact wpAnyIn_inv hd J hstep hend fuel _ a' w' (by simp [hs]) (by have := openCount_set hs h1 h2; omega) hI'
theorem wpIn_region_vals {l n : Nat} {Q : Exit → Act → World → Prop} {id : Nat} {a0 : Act} {w : World} (hm : P.follows .mixedOrders = true) (hd : dagB .any ops = true) (ha : apartB ops = true) (hr : readsB ops = true) (hs : Region.noSelect ops = true)
    (hdf : ∀ (i : Nat) (o : Oper), ops[i]? = some o → ∀ c, o.op ≠ .defer c)
    (V : Nat → Value) (A : Act) (hA : actOf (dstOf ops) a0 V ops.size = A) (I : World → Prop) (h0 : I w.drew) (hstep : AllV P ops A V I 0 ops.toList) (hend : ∀ w, I w → Q .normal A w) : (Code.region id ops true).wpIn (Fence.wide.inRound l) n P Q a0 w := by
  refine wpIn_region_any hm (wpAnyIn_inv hd (fun listed a w => ∃ u, a = actOf (dstOf ops) a0 u ops.size ∧ (∀ j, listed.getD j false = true → u j = V j) ∧ I w) ?_ ?_ ops.size _ a0 w.drew (by simp) ?_ ?_)
  · rintro listed a w i o hsz ho hf hdep ⟨u, rfl, hu, hI⟩ K hK
    have hi := (Array.getElem?_eq_some_iff.1 ho).1
    have hdo : o.dst = dstOf ops i := by unfold dstOf; rw [ho]; rfl
    have hlk := looks_same (V := V) (a0 := a0) ha hr ho hdep hu
    rw [hA] at hlk
    have hK' : ∀ w', I w' → K ((actOf (dstOf ops) a0 u ops.size).put o.dst (V i)) w' := fun w' hI' => hK _ _ ⟨updV u i (V i), by rw [hdo]; exact put_actOf (apart_of ha) hi, updV_listed (by omega) hu, hI'⟩
    rw [same_wanted hlk]
    have hst := AllV.at (i := i) hstep (by simpa using ho)
    rw [Nat.zero_add] at hst
    rcases hst with ⟨hw, hst⟩ | ⟨hw, hv⟩
    · rw [if_pos hw]
      have hex := same_exec (fun cs b => Region.noSelect_spec hs i o cs b ho) hlk
      refine ⟨fun f _ => trivial, ?_⟩
      rw [Oper.semAt_eq _ _ _ (hdf i o ho), hex]
      rcases hst w hI with ⟨w', h, hI'⟩ | ⟨w', hv, h, hI'⟩ | ⟨f, args, w', h, hc⟩
      · rw [h]; exact hK' _ hI'
      · rw [h]; rw [hv] at hK'; exact hK' _ hI'
      · rw [h, Oper.uponIn_enter]
        refine ⟨fun h => by simp [Fence.wide] at h, ?_⟩
        refine (callsIn_wide (n := n - 1)).2 (hc.mono fun e w'' hh => ?_)
        obtain ⟨rfl, hI'⟩ := hh
        exact hK' _ hI'
    · rw [if_neg (by rw [hw]; exact Bool.false_ne_true)]
      rw [hv] at hK'
      exact ⟨fun f _ => trivial, hK' _ hI⟩
  · rintro listed a w hsz hl ⟨u, rfl, hu, hI⟩
    rw [show actOf (dstOf ops) a0 u ops.size = A by rw [← hA]; exact actOf_congr fun i hi => hu i (hl i hi)]
    exact hend _ hI
  · unfold openCount
    exact Nat.le_trans (List.length_filter_le _ _) (by simp)
  · refine ⟨fun i => match dstOf ops i with
      | none => undef
      | some d => a0.eval (.tmp d), (actOf_self fun i d _ h => by simp only [h]).symm, fun j h => ?_, h0⟩
    simp [Array.getD] at h
end
end Go.Proofs.YtapikjhfgcbifaaGreatDoor

/-
  A region that draws its order and makes blocks: told by what each operation yields, where the new blocks' numbers stay open.
-/
namespace Go.Proofs.YtapikjhfgcbifaaGreatDoor
set_option linter.unusedVariables false
open Go.RowKit

/-- A block that the region makes: by operation a; operation t stores into it (none, if t is out of reach). -/
structure Bx where
  (a t : Nat) (T : TypeId) (z f : Array Value)
def ptrV (p : Nat) : Value := .pointer (some ⟨p, 0, none⟩)
/-- What operation i yields, given the blocks' numbers. -/
def Vx (L : List (Nat → Value)) (s : Nat → Nat) (i : Nat) : Value := (L.getD i (fun _ => undef)) (s i)
def updN (s : Nat → Nat) (i p : Nat) : Nat → Nat := fun j => if j = i then p else s j
theorem updN_same (s : Nat → Nat) (i p : Nat) : updN s i p i = p := if_pos rfl
theorem updN_ne {s : Nat → Nat} {i j p : Nat} (h : j ≠ i) : updN s i p j = s j := if_neg h
theorem Vx_updN {L : List (Nat → Value)} {s : Nat → Nat} {i j p : Nat} (h : j ≠ i) : Vx L (updN s i p) j = Vx L s j := by unfold Vx; rw [updN_ne h]
structure RBx (W : World) (bx : List Bx) (listed : Array Bool) (s : Nat → Nat) (w : World) : Prop where
  fr : Fresh W w
  box : ∀ b ∈ bx, listed.getD b.a false = true → W.heap.size ≤ s b.a ∧ Blk w (s b.a) b.T (if listed.getD b.t false = true then b.f else b.z)
  ne : ∀ b ∈ bx, ∀ c ∈ bx, b.a ≠ c.a → listed.getD b.a false = true → listed.getD c.a false = true → s b.a ≠ s c.a
  late : ∀ b ∈ bx, listed.getD b.t false = true → listed.getD b.a false = true
/-- The numbers are apart. -/
def apartBx (n : Nat) (bx : List (Nat × Nat)) : Bool := bx.all fun b => decide (b.1 < n) && bx.all fun c => b.1 != c.2
def nodupBx : List (Nat × Nat) → Bool
  | [] => true
  | b :: r => (r.all fun c => b.1 != c.1 && b.2 != c.2) && nodupBx r
def Bx.at (b : Bx) : Nat × Nat := (b.a, b.t)
theorem nodup_a : ∀ {bx : List Bx}, nodupBx (bx.map Bx.at) = true → ∀ b ∈ bx, ∀ c ∈ bx, (b.a = c.a → b = c) ∧ (b.t = c.t → b = c)
  | [], _, b, hb, _, _ => by cases hb
  | x :: r, h, b, hb, c, hc => by
    simp only [List.map_cons, nodupBx, Bool.and_eq_true, List.all_eq_true, List.mem_map, forall_exists_index, and_imp, forall_apply_eq_imp_iff₂, bne_iff_ne, Bx.at] at h
    obtain ⟨h1, h2⟩ := h
    rcases List.mem_cons.1 hb with e1 | hb'
    · rcases List.mem_cons.1 hc with e2 | hc'
      · subst e1 e2
        exact ⟨fun _ => rfl, fun _ => rfl⟩
      · subst e1
        exact ⟨fun e => absurd e (h1 c hc').1, fun e => absurd e (h1 c hc').2⟩
    · rcases List.mem_cons.1 hc with e2 | hc'
      · subst e2
        exact ⟨fun e => absurd e.symm (h1 b hb').1, fun e => absurd e.symm (h1 b hb').2⟩
      · exact nodup_a h2 b hb' c hc'
theorem apart_a {n : Nat} {bx : List Bx} (h : apartBx n (bx.map Bx.at) = true) : ∀ b ∈ bx, b.a < n ∧ ∀ c ∈ bx, b.a ≠ c.t := by
  intro b hb
  simp only [apartBx, List.all_eq_true, List.mem_map, forall_exists_index, and_imp, forall_apply_eq_imp_iff₂, Bool.and_eq_true, decide_eq_true_eq, bne_iff_ne, Bx.at] at h
  exact ⟨(h b hb).1, fun c hc => (h b hb).2 c hc⟩
section
variable {W w w' : World} {bx : List Bx} {listed : Array Bool} {s : Nat → Nat} {n : Nat}
theorem RBx.normal (h : RBx W bx listed s w) (hf : Fresh w w') (hs : listed.size = n) {i : Nat} (hi : i < n) (hn : ∀ b ∈ bx, b.a ≠ i ∧ b.t ≠ i) : RBx W bx (listed.setIfInBounds i true) s w' := by
  refine ⟨h.fr.trans hf, fun b hb hl => ?_, fun b hb c hc hne hl hl' => ?_, fun b hb hl => ?_⟩
  · rw [getD_set _ _ _ _ (by omega), if_neg (hn b hb).1] at hl
    rw [getD_set _ _ _ _ (by omega), if_neg (hn b hb).2]
    exact ⟨(h.box b hb hl).1, (h.box b hb hl).2.fresh hf⟩
  · rw [getD_set _ _ _ _ (by omega), if_neg (hn b hb).1] at hl
    rw [getD_set _ _ _ _ (by omega), if_neg (hn c hc).1] at hl'
    exact h.ne b hb c hc hne hl hl'
  · rw [getD_set _ _ _ _ (by omega), if_neg (hn b hb).2] at hl
    rw [getD_set _ _ _ _ (by omega), if_neg (hn b hb).1]
    exact h.late b hb hl
theorem RBx.make (h : RBx W bx listed s w) (ha : apartBx n (bx.map Bx.at) = true) (hd : nodupBx (bx.map Bx.at) = true) (hs : listed.size = n) {b0 : Bx} (hb0 : b0 ∈ bx) (hl0 : listed.getD b0.a false = false) {p : Nat} (hp : w.heap.size ≤ p) (hf : Fresh w w') (hk : Blk w' p b0.T b0.z) :
    RBx W bx (listed.setIfInBounds b0.a true) (updN s b0.a p) w' := by
  have hi := (apart_a ha b0 hb0).1
  have ht : ∀ c ∈ bx, c.t ≠ b0.a := fun c hc e => (apart_a ha b0 hb0).2 c hc e.symm
  have hlt : ∀ c ∈ bx, listed.getD c.a false = true → s c.a < w.heap.size := fun c hc hl => (h.box c hc hl).2.lt
  refine ⟨h.fr.trans hf, fun b hb hl => ?_, fun b hb c hc hne hl hl' => ?_, fun b hb hl => ?_⟩
  · rw [getD_set _ _ _ _ (by omega), if_neg (ht b hb)]
    by_cases e : b.a = b0.a
    · have := (nodup_a hd b hb b0 hb0).1 e
      subst this
      rw [updN_same]
      refine ⟨Nat.le_trans (Below.size h.fr) hp, ?_⟩
      rw [if_neg (fun hh => by rw [h.late b hb hh] at hl0; cases hl0)]
      exact hk
    · rw [getD_set _ _ _ _ (by omega), if_neg e] at hl
      rw [updN_ne e]
      exact ⟨(h.box b hb hl).1, (h.box b hb hl).2.fresh hf⟩
  · rw [getD_set _ _ _ _ (by omega)] at hl hl'
    by_cases e : b.a = b0.a
    · rw [if_neg (by omega)] at hl'
      rw [e, updN_same, updN_ne (by omega)]
      have := hlt c hc hl'
      omega
    · rw [if_neg e] at hl
      rw [updN_ne e]
      by_cases e' : c.a = b0.a
      · rw [e', updN_same]
        have := hlt b hb hl
        omega
      · rw [if_neg e'] at hl'
        rw [updN_ne e']
        exact h.ne b hb c hc hne hl hl'
  · rw [getD_set _ _ _ _ (by omega), if_neg (ht b hb)] at hl
    rw [getD_set _ _ _ _ (by omega)]
    split
    · rfl
    · exact h.late b hb hl
theorem RBx.put (h : RBx W bx listed s w) (ha : apartBx n (bx.map Bx.at) = true) (hd : nodupBx (bx.map Bx.at) = true) (hs : listed.size = n) {b0 : Bx} (hb0 : b0 ∈ bx) (hi : b0.t < n) (hl0 : listed.getD b0.a false = true) (hf : Only (· = s b0.a) w w') (hk : Blk w' (s b0.a) b0.T b0.f) :
    RBx W bx (listed.setIfInBounds b0.t true) s w' := by
  have hne : ∀ b ∈ bx, b.a ≠ b0.t := fun b hb => (apart_a ha b hb).2 b0 hb0
  refine ⟨?_, fun b hb hl => ?_, fun b hb c hc hn hl hl' => ?_, fun b hb hl => ?_⟩
  · exact Only.fresh ((Only.of_fresh h.fr).trans' hf (S := (· = s b0.a)) fun i _ hi => hi) fun k hk e => by have := (h.box b0 hb0 hl0).1; omega
  · rw [getD_set _ _ _ _ (by omega), if_neg (hne b hb)] at hl
    by_cases e : b.t = b0.t
    · have := (nodup_a hd b hb b0 hb0).2 e
      subst this
      rw [getD_set _ _ _ _ (by omega), if_pos rfl, if_pos rfl]
      exact ⟨(h.box b hb hl).1, hk⟩
    · rw [getD_set _ _ _ _ (by omega), if_neg e]
      refine ⟨(h.box b hb hl).1, (h.box b hb hl).2.only hf (fun ee => ?_)⟩
      refine h.ne b hb b0 hb0 (fun e2 => ?_) hl hl0 ee
      have := (nodup_a hd b hb b0 hb0).1 e2
      exact e (by rw [this])
  · rw [getD_set _ _ _ _ (by omega), if_neg (hne b hb)] at hl
    rw [getD_set _ _ _ _ (by omega), if_neg (hne c hc)] at hl'
    exact h.ne b hb c hc hn hl hl'
  · rw [getD_set _ _ _ _ (by omega), if_neg (hne b hb)]
    rw [getD_set _ _ _ _ (by omega)] at hl
    by_cases e : b.t = b0.t
    · have := (nodup_a hd b hb b0 hb0).2 e
      subst this
      exact hl0
    · rw [if_neg e] at hl
      exact h.late b hb hl
end
/-- An operation that makes a block. -/
inductive MakeV (P : Program) (o : Oper) (ρ : Operand → Value) (F : Nat → Value) (T : TypeId) (z : Array Value) (w : World) : Prop where
  | alloc (h : (execOp ρ o).run P w = .ok (.value (F w.heap.size)) (w.alloc (.cells z T)))
  | call (f : FuncId) (args : Array Value) (h : (execOp ρ o).run P w = .ok (.enter f args) w) (hc : Calls P f args w fun e w'' => ∃ p, e = .returned (F p) ∧ w.heap.size ≤ p ∧ Blk w'' p T z ∧ Fresh w w'')
def DepsIn (o : Oper) (listed : Array Bool) : Prop := ∀ e ∈ o.after, Region.binds .any e = true → listed.getD e.on false = true
/-- All other operations, one by one. -/
def AllN (P : Program) (ops : Array Oper) (A : (Nat → Nat) → Act) (L : List (Nat → Value)) (W : World) (bx : List Bx) : Nat → List Oper → Prop
  | _, [] => True
  | i, o :: os => ((bx.any fun b => b.a == i || b.t == i) = true ∨ ∀ listed s w, RBx W bx listed s w → DepsIn o listed → (Region.wanted o (yielded ops (A s).tmps) = true ∧ StepV P o (A s).eval (Vx L s i) (fun w' => Fresh w w') w) ∨ (Region.wanted o (yielded ops (A s).tmps) = false ∧ Vx L s i = undef)) ∧ AllN P ops A L W bx (i + 1) os
/-- The operations that make blocks, or store into them. -/
def AllM (P : Program) (ops : Array Oper) (A : (Nat → Nat) → Act) (L : List (Nat → Value)) (W : World) (bx : List Bx) : List Bx → Prop
  | [] => True
  | b :: r => ((∃ o, ops[b.a]? = some o ∧ o.guard = none ∧ ∀ listed s w, RBx W bx listed s w → DepsIn o listed → MakeV P o (A s).eval (L.getD b.a fun _ => undef) b.T b.z w) ∧
      (ops.size ≤ b.t ∨ ∃ o, ops[b.t]? = some o ∧ o.guard = none ∧ (o.after.any fun e => e.on == b.a && Region.binds .any e) = true ∧ ∀ listed s w, RBx W bx listed s w → DepsIn o listed → Blk w (s b.a) b.T b.z → Vx L s b.t = undef ∧ ∃ w', (execOp (A s).eval o).run P w = .ok .skip w' ∧ Blk w' (s b.a) b.T b.f ∧ Only (· = s b.a) w w')) ∧ AllM P ops A L W bx r
section
variable {P : Program} {ops : Array Oper} {A : (Nat → Nat) → Act} {L : List (Nat → Value)} {W : World} {bx : List Bx}
theorem AllN.at : ∀ {l : List Oper} {k i : Nat} {o : Oper}, AllN P ops A L W bx k l → l[i]? = some o → ((bx.any fun b => b.a == k + i || b.t == k + i) = true ∨ ∀ listed s w, RBx W bx listed s w → DepsIn o listed → (Region.wanted o (yielded ops (A s).tmps) = true ∧ StepV P o (A s).eval (Vx L s (k + i)) (fun w' => Fresh w w') w) ∨ (Region.wanted o (yielded ops (A s).tmps) = false ∧ Vx L s (k + i) = undef))
  | [], _, _, _, _, h => by simp at h
  | x :: l, k, 0, o, h, ho => by
    simp at ho
    subst ho
    exact h.1
  | x :: l, k, i + 1, o, h, ho => by
    have := AllN.at (i := i) h.2 (by simpa using ho)
    rw [show k + 1 + i = k + (i + 1) by omega] at this
    exact this
theorem AllM.at : ∀ {l : List Bx}, AllM P ops A L W bx l → ∀ b ∈ l, ((∃ o, ops[b.a]? = some o ∧ o.guard = none ∧ ∀ listed s w, RBx W bx listed s w → DepsIn o listed → MakeV P o (A s).eval (L.getD b.a fun _ => undef) b.T b.z w) ∧
      (ops.size ≤ b.t ∨ ∃ o, ops[b.t]? = some o ∧ o.guard = none ∧ (o.after.any fun e => e.on == b.a && Region.binds .any e) = true ∧ ∀ listed s w, RBx W bx listed s w → DepsIn o listed → Blk w (s b.a) b.T b.z → Vx L s b.t = undef ∧ ∃ w', (execOp (A s).eval o).run P w = .ok .skip w' ∧ Blk w' (s b.a) b.T b.f ∧ Only (· = s b.a) w w'))
  | [], _, b, hb => by cases hb
  | x :: r, h, b, hb => by
    rcases List.mem_cons.1 hb with rfl | hb
    · exact h.1
    · exact AllM.at h.2 b hb
theorem wp_region_boxes {Q : Exit → Act → World → Prop} {id : Nat} {a0 : Act} (hm : P.follows .mixedOrders = true) (hd : dagB .any ops = true) (ha : apartB ops = true) (hr : readsB ops = true) (hs : Region.noSelect ops = true)
    (L : List (Nat → Value)) (bx : List Bx) (hba : apartBx ops.size (bx.map Bx.at) = true) (hbn : nodupBx (bx.map Bx.at) = true) (A : (Nat → Nat) → Act) (hA : ∀ s, actOf (dstOf ops) a0 (Vx L s) ops.size = A s)
    (hN : AllN P ops A L W bx 0 ops.toList) (hM : AllM P ops A L W bx bx)
    (hend : ∀ listed s w, (∀ i, i < ops.size → listed.getD i false = true) → RBx W bx listed s w → Q .normal (A s) w) : (Code.region id ops true).wp P Q a0 W := by
  refine wp_region_inv hm hd (fun listed a w => ∃ u s, a = actOf (dstOf ops) a0 u ops.size ∧ (∀ j, listed.getD j false = true → u j = Vx L s j) ∧ RBx W bx listed s w) ?_ ?_ ?_
  · refine ⟨fun i => match dstOf ops i with
      | none => undef
      | some d => a0.eval (.tmp d), fun _ => 0, (actOf_self fun i d _ h => by simp only [h]).symm, fun j h => ?_, Fresh.drew _, fun b _ h => ?_, fun b _ c _ _ h => ?_, fun b _ h => ?_⟩
    all_goals simp [Array.getD] at h
  · rintro listed a w i o hsz ho hf hdep ⟨u, s, rfl, hu, hR⟩ K hK
    have hi := (Array.getElem?_eq_some_iff.1 ho).1
    have hdo : o.dst = dstOf ops i := by unfold dstOf; rw [ho]; rfl
    have hlk := looks_same (V := Vx L s) (a0 := a0) ha hr ho hdep hu
    rw [hA] at hlk
    have hK' : ∀ s' w' v, v = Vx L s' i → (∀ j, j ≠ i → Vx L s' j = Vx L s j) → RBx W bx (listed.setIfInBounds i true) s' w' → K ((actOf (dstOf ops) a0 u ops.size).put o.dst v) w' := by
      rintro s' w' v rfl hV hR'
      refine hK _ _ ⟨updV u i (Vx L s' i), s', by rw [hdo]; exact actOf_put (apart_of ha) hi, fun j hj => ?_, hR'⟩
      rw [getD_set _ _ _ _ (by omega)] at hj
      by_cases e : j = i
      · subst e; exact updV_same _ _ _
      · rw [if_neg e] at hj
        rw [updV_ne e, hu j hj, hV j e]
    rw [same_wanted hlk]
    have hex := same_exec (fun cs b => Region.noSelect_spec hs i o cs b ho) hlk
    by_cases hbx : ∃ b ∈ bx, b.a = i ∨ b.t = i
    · obtain ⟨b, hb, hbi⟩ := hbx
      obtain ⟨⟨oa, hoa, hga, hra⟩, hst⟩ := AllM.at hM b hb
      rcases hbi with rfl | rfl
      · rw [hoa] at ho
        obtain rfl := Option.some.inj ho
        rw [if_pos (by simp [Region.wanted, hga])]
        have hlf : listed.getD b.a false = false := getD_tf hf
        unfold Oper.wp
        rw [hex]
        rcases hra listed s w hR hdep with h | ⟨f, args, h, hc⟩
        · rw [h]
          refine hK' (updN s b.a w.heap.size) _ _ ?_ (fun j hj => Vx_updN hj) (hR.make hba hbn hsz hb hlf (Nat.le_refl _) (Fresh.alloc _ _) (Blk.new _ _ _))
          unfold Vx
          rw [updN_same]
        · rw [h, Oper.upon_enter]
          refine hc.mono fun e w'' hh => ?_
          obtain ⟨p, rfl, hp, hk, hf2⟩ := hh
          refine hK' (updN s b.a p) _ _ ?_ (fun j hj => Vx_updN hj) (hR.make hba hbn hsz hb hlf hp hf2 hk)
          unfold Vx
          rw [updN_same]
      · rcases hst with h | ⟨ot, hot, hgt, hdp, hrt⟩
        · omega
        · rw [hot] at ho
          obtain rfl := Option.some.inj ho
          rw [if_pos (by simp [Region.wanted, hgt])]
          obtain ⟨e, he, hh⟩ := Array.any_eq_true'.1 hdp
          simp only [Bool.and_eq_true, beq_iff_eq] at hh
          have hla : listed.getD b.a false = true := by rw [← hh.1]; exact hdep e he hh.2
          have hbk := (hR.box b hb hla).2
          rw [if_neg (by rw [getD_tf hf]; exact Bool.false_ne_true)] at hbk
          obtain ⟨hv, w', h, hk, hon⟩ := hrt listed s w hR hdep hbk
          unfold Oper.wp
          rw [hex, h]
          exact hK' s w' undef hv.symm (fun j _ => rfl) (hR.put hba hbn hsz hb hi hla hon hk)
    · have hn : ∀ b ∈ bx, b.a ≠ i ∧ b.t ≠ i := fun b hb => ⟨fun e => hbx ⟨b, hb, .inl e⟩, fun e => hbx ⟨b, hb, .inr e⟩⟩
      have hst := AllN.at (i := i) hN (by simpa using ho)
      rw [Nat.zero_add] at hst
      rcases hst with h | hst
      · obtain ⟨b, hb, h⟩ := List.any_eq_true.1 h
        simp only [Bool.or_eq_true, beq_iff_eq] at h
        rcases h with h | h
        · exact absurd h (hn b hb).1
        · exact absurd h (hn b hb).2
      · rcases hst listed s w hR hdep with ⟨hw, hst⟩ | ⟨hw, hv⟩
        · rw [if_pos hw]
          unfold Oper.wp
          rw [hex]
          rcases hst with ⟨w', h, hI'⟩ | ⟨w', hv, h, hI'⟩ | ⟨f, args, w', h, hc⟩
          · rw [h]; exact hK' s _ _ rfl (fun j _ => rfl) (hR.normal hI' hsz hi hn)
          · rw [h]; exact hK' s _ _ hv.symm (fun j _ => rfl) (hR.normal hI' hsz hi hn)
          · rw [h, Oper.upon_enter]
            refine hc.mono fun e w'' hh => ?_
            obtain ⟨rfl, hI'⟩ := hh
            exact hK' s _ _ rfl (fun j _ => rfl) (hR.normal hI' hsz hi hn)
        · rw [if_neg (by rw [hw]; exact Bool.false_ne_true)]
          exact hK' s _ _ hv.symm (fun j _ => rfl) (hR.normal (Fresh.refl _) hsz hi hn)
  · rintro listed a w hsz hl ⟨u, s, rfl, hu, hR⟩
    rw [show actOf (dstOf ops) a0 u ops.size = A s by rw [← hA]; exact actOf_congr fun i hi => hu i (hl i hi)]
    exact hend listed s w hl hR
end
end Go.Proofs.YtapikjhfgcbifaaGreatDoor

/-
  A region that draws its order, told by values, where what holds of the world hangs on what has come up (a store into a block that stood).
-/
namespace Go.Proofs.YtapikjhfgcbifaaGreatDoor
set_option linter.unusedVariables false
open Go.RowKit

def AllVL (P : Program) (n : Nat) (ops : Array Oper) (A : Act) (V : Nat → Value) (I : Array Bool → World → Prop) : Nat → List Oper → Prop
  | _, [] => True
  | i, o :: os => (∀ listed w, listed.size = n → listed.getD i false = false → DepsIn o listed → I listed w →
      (Region.wanted o (yielded ops A.tmps) = true ∧ StepV P o A.eval (V i) (I (listed.setIfInBounds i true)) w) ∨ (Region.wanted o (yielded ops A.tmps) = false ∧ V i = undef ∧ I (listed.setIfInBounds i true) w)) ∧ AllVL P n ops A V I (i + 1) os
section
variable {P : Program} {n : Nat} {ops : Array Oper} {A : Act} {V : Nat → Value} {I : Array Bool → World → Prop}
theorem AllVL.at : ∀ {l : List Oper} {k i : Nat} {o : Oper}, AllVL P n ops A V I k l → l[i]? = some o → ∀ listed w, listed.size = n → listed.getD (k + i) false = false → DepsIn o listed → I listed w →
      (Region.wanted o (yielded ops A.tmps) = true ∧ StepV P o A.eval (V (k + i)) (I (listed.setIfInBounds (k + i) true)) w) ∨ (Region.wanted o (yielded ops A.tmps) = false ∧ V (k + i) = undef ∧ I (listed.setIfInBounds (k + i) true) w)
  | [], _, _, _, _, h => by simp at h
  | x :: l, k, 0, o, h, ho => by
    simp at ho
    subst ho
    exact h.1
  | x :: l, k, i + 1, o, h, ho => by
    have := AllVL.at (i := i) h.2 (by simpa using ho)
    rw [show k + 1 + i = k + (i + 1) by omega] at this
    exact this
theorem wp_region_valsL {Q : Exit → Act → World → Prop} {id : Nat} {a0 : Act} {w : World} (hm : P.follows .mixedOrders = true) (hd : dagB .any ops = true) (ha : apartB ops = true) (hr : readsB ops = true) (hs : Region.noSelect ops = true)
    (V : Nat → Value) (A : Act) (hA : actOf (dstOf ops) a0 V ops.size = A) (I : Array Bool → World → Prop) (h0 : I (Array.replicate ops.size false) w.drew) (hstep : AllVL P ops.size ops A V I 0 ops.toList)
    (hend : ∀ listed w, (∀ i, i < ops.size → listed.getD i false = true) → I listed w → Q .normal A w) : (Code.region id ops true).wp P Q a0 w := by
  refine wp_region_inv hm hd (fun listed a w => ∃ u, a = actOf (dstOf ops) a0 u ops.size ∧ (∀ j, listed.getD j false = true → u j = V j) ∧ I listed w) ?_ ?_ ?_
  · refine ⟨fun i => match dstOf ops i with
      | none => undef
      | some d => a0.eval (.tmp d), (actOf_self fun i d _ h => by simp only [h]).symm, fun j h => ?_, h0⟩
    simp [Array.getD] at h
  · rintro listed a w i o hsz ho hf hdep ⟨u, rfl, hu, hI⟩ K hK
    have hi := (Array.getElem?_eq_some_iff.1 ho).1
    have hdo : o.dst = dstOf ops i := by unfold dstOf; rw [ho]; rfl
    have hlk := looks_same (V := V) (a0 := a0) ha hr ho hdep hu
    rw [hA] at hlk
    have hK' : ∀ w', I (listed.setIfInBounds i true) w' → K ((actOf (dstOf ops) a0 u ops.size).put o.dst (V i)) w' := fun w' hI' => hK _ _ ⟨updV u i (V i), by rw [hdo]; exact put_actOf (apart_of ha) hi, updV_listed (by omega) hu, hI'⟩
    rw [same_wanted hlk]
    have hst := AllVL.at (i := i) hstep (by simpa using ho) listed w hsz (by rw [Nat.zero_add]; exact getD_tf hf) hdep hI
    rw [Nat.zero_add] at hst
    rcases hst with ⟨hw, hst⟩ | ⟨hw, hv, hI'⟩
    · rw [if_pos hw]
      have hex := same_exec (fun cs b => Region.noSelect_spec hs i o cs b ho) hlk
      unfold Oper.wp
      rw [hex]
      rcases hst with ⟨w', h, hI'⟩ | ⟨w', hv, h, hI'⟩ | ⟨f, args, w', h, hc⟩
      · rw [h]; exact hK' _ hI'
      · rw [h]; rw [hv] at hK'; exact hK' _ hI'
      · rw [h, Oper.upon_enter]
        refine hc.mono fun e w'' hh => ?_
        obtain ⟨rfl, hI'⟩ := hh
        exact hK' _ hI'
    · rw [if_neg (by rw [hw]; exact Bool.false_ne_true)]
      rw [hv] at hK'
      exact hK' _ hI'
  · rintro listed a w hsz hl ⟨u, rfl, hu, hI⟩
    rw [show actOf (dstOf ops) a0 u ops.size = A by rw [← hA]; exact actOf_congr fun i hi => hu i (hl i hi)]
    exact hend _ _ hl hI
end
/-- One store, at place t: ahead of it x holds, behind it y. -/
def Once (t : Nat) (x y : World → Prop) (L : Array Bool) (w : World) : Prop := if L.getD t false = true then y w else x w
theorem Once.keep {t i n : Nat} {x y : World → Prop} {L : Array Bool} {w w' : World} (h : Once t x y L w) (hs : L.size = n) (hi : i < n) (hne : t ≠ i) (hx : x w → x w') (hy : y w → y w') : Once t x y (L.setIfInBounds i true) w' := by
  unfold Once at *
  rw [getD_set _ _ _ _ (by omega), if_neg hne]
  split
  · rename_i hh; rw [if_pos hh] at h; exact hy h
  · rename_i hh; rw [if_neg hh] at h; exact hx h
theorem Once.put {t n : Nat} {x y : World → Prop} {L : Array Bool} {w' : World} (hs : L.size = n) (hi : t < n) (hy : y w') : Once t x y (L.setIfInBounds t true) w' := by
  unfold Once
  rw [getD_set _ _ _ _ (by omega), if_pos rfl, if_pos rfl]
  exact hy
theorem Once.ahead {t : Nat} {x y : World → Prop} {L : Array Bool} {w : World} (h : Once t x y L w) (hl : L.getD t false = false) : x w := by
  unfold Once at h
  rwa [if_neg (by rw [hl]; exact Bool.false_ne_true)] at h
theorem Once.behind {t : Nat} {x y : World → Prop} {L : Array Bool} {w : World} (h : Once t x y L w) (hl : L.getD t false = true) : y w := by
  unfold Once at h
  rwa [if_pos hl] at h
theorem Once.any {t : Nat} {x y z : World → Prop} {L : Array Bool} {w : World} (h : Once t x y L w) (hx : x w → z w) (hy : y w → z w) : z w := by
  unfold Once at h
  split at h
  · exact hy h
  · exact hx h
theorem Once.start {t n : Nat} {x y : World → Prop} {w : World} (h : x w) : Once t x y (Array.replicate n false) w := by
  unfold Once
  rw [if_neg (by simp [Array.getD])]
  exact h
end Go.Proofs.YtapikjhfgcbifaaGreatDoor

/-
  A region that draws its order, told by values, where what holds of the world hangs on what has come up; what has come up is closed.
-/
namespace Go.Proofs.YtapikjhfgcbifaaGreatDoor
set_option linter.unusedVariables false
open Go.RowKit

/-- Whatever has come up, what it waits for has. -/
def Closed (ops : Array Oper) (L : Array Bool) : Prop := ∀ j o, ops[j]? = some o → L.getD j false = true → DepsIn o L
theorem Closed.start (ops : Array Oper) (n : Nat) : Closed ops (Array.replicate n false) := fun j o _ h => by simp [Array.getD] at h
theorem Closed.step {ops : Array Oper} {L : Array Bool} {i : Nat} {o : Oper} (h : Closed ops L) (hi : i < L.size) (ho : ops[i]? = some o) (hd : DepsIn o L) : Closed ops (L.setIfInBounds i true) := by
  intro j o' ho' hl e he hb
  rw [getD_set _ _ _ _ hi]
  by_cases h1 : e.on = i
  · rw [if_pos h1]
  · rw [if_neg h1]
    by_cases h2 : j = i
    · subst h2
      rw [ho] at ho'
      obtain rfl := Option.some.inj ho'
      exact hd e he hb
    · rw [getD_set _ _ _ _ hi, if_neg h2] at hl
      exact h j o' ho' hl e he hb
/-- What came up ahead: if j has come up, and waits for i, i has. -/
def waitsB (ops : Array Oper) (j i : Nat) : Bool := ((ops[j]?).map fun o => o.after.any fun e => e.on == i && Region.binds .any e).getD false
theorem Closed.back {ops : Array Oper} {L : Array Bool} (h : Closed ops L) {j i : Nat} (hw : waitsB ops j i = true) (hl : L.getD j false = true) : L.getD i false = true := by
  unfold waitsB at hw
  cases ho : ops[j]? with
  | none => rw [ho] at hw; simp at hw
  | some o =>
    rw [ho] at hw
    simp only [Option.map_some, Option.getD_some] at hw
    obtain ⟨e, he, hh⟩ := Array.any_eq_true'.1 hw
    simp only [Bool.and_eq_true, beq_iff_eq] at hh
    rw [← hh.1]
    exact h j o ho hl e he hh.2
def AllVC (P : Program) (n : Nat) (ops : Array Oper) (A : Act) (V : Nat → Value) (I : Array Bool → World → Prop) : Nat → List Oper → Prop
  | _, [] => True
  | i, o :: os => (∀ listed w, listed.size = n → Closed ops listed → listed.getD i false = false → DepsIn o listed → I listed w →
      (Region.wanted o (yielded ops A.tmps) = true ∧ StepV P o A.eval (V i) (I (listed.setIfInBounds i true)) w) ∨ (Region.wanted o (yielded ops A.tmps) = false ∧ V i = undef ∧ I (listed.setIfInBounds i true) w)) ∧ AllVC P n ops A V I (i + 1) os
section
variable {P : Program} {n : Nat} {ops : Array Oper} {A : Act} {V : Nat → Value} {I : Array Bool → World → Prop}
theorem AllVC.at : ∀ {l : List Oper} {k i : Nat} {o : Oper}, AllVC P n ops A V I k l → l[i]? = some o → ∀ listed w, listed.size = n → Closed ops listed → listed.getD (k + i) false = false → DepsIn o listed → I listed w →
      (Region.wanted o (yielded ops A.tmps) = true ∧ StepV P o A.eval (V (k + i)) (I (listed.setIfInBounds (k + i) true)) w) ∨ (Region.wanted o (yielded ops A.tmps) = false ∧ V (k + i) = undef ∧ I (listed.setIfInBounds (k + i) true) w)
  | [], _, _, _, _, h => by simp at h
  | x :: l, k, 0, o, h, ho => by
    simp at ho
    subst ho
    exact h.1
  | x :: l, k, i + 1, o, h, ho => by
    have := AllVC.at (i := i) h.2 (by simpa using ho)
    rw [show k + 1 + i = k + (i + 1) by omega] at this
    exact this
theorem wp_region_valsC {Q : Exit → Act → World → Prop} {id : Nat} {a0 : Act} {w : World} (hm : P.follows .mixedOrders = true) (hd : dagB .any ops = true) (ha : apartB ops = true) (hr : readsB ops = true) (hs : Region.noSelect ops = true)
    (V : Nat → Value) (A : Act) (hA : actOf (dstOf ops) a0 V ops.size = A) (I : Array Bool → World → Prop) (h0 : I (Array.replicate ops.size false) w.drew) (hstep : AllVC P ops.size ops A V I 0 ops.toList)
    (hend : ∀ listed w, (∀ i, i < ops.size → listed.getD i false = true) → I listed w → Q .normal A w) : (Code.region id ops true).wp P Q a0 w := by
  refine wp_region_inv hm hd (fun listed a w => ∃ u, a = actOf (dstOf ops) a0 u ops.size ∧ (∀ j, listed.getD j false = true → u j = V j) ∧ Closed ops listed ∧ I listed w) ?_ ?_ ?_
  · refine ⟨fun i => match dstOf ops i with
      | none => undef
      | some d => a0.eval (.tmp d), (actOf_self fun i d _ h => by simp only [h]).symm, fun j h => ?_, Closed.start _ _, h0⟩
    simp [Array.getD] at h
  · rintro listed a w i o hsz ho hf hdep ⟨u, rfl, hu, hC, hI⟩ K hK
    have hi := (Array.getElem?_eq_some_iff.1 ho).1
    have hdo : o.dst = dstOf ops i := by unfold dstOf; rw [ho]; rfl
    have hlk := looks_same (V := V) (a0 := a0) ha hr ho hdep hu
    rw [hA] at hlk
    have hK' : ∀ w', I (listed.setIfInBounds i true) w' → K ((actOf (dstOf ops) a0 u ops.size).put o.dst (V i)) w' := fun w' hI' => hK _ _ ⟨updV u i (V i), by rw [hdo]; exact put_actOf (apart_of ha) hi, updV_listed (by omega) hu, hC.step (by omega) ho hdep, hI'⟩
    rw [same_wanted hlk]
    have hst := AllVC.at (i := i) hstep (by simpa using ho) listed w hsz hC (by rw [Nat.zero_add]; exact getD_tf hf) hdep hI
    rw [Nat.zero_add] at hst
    rcases hst with ⟨hw, hst⟩ | ⟨hw, hv, hI'⟩
    · rw [if_pos hw]
      have hex := same_exec (fun cs b => Region.noSelect_spec hs i o cs b ho) hlk
      unfold Oper.wp
      rw [hex]
      rcases hst with ⟨w', h, hI'⟩ | ⟨w', hv, h, hI'⟩ | ⟨f, args, w', h, hc⟩
      · rw [h]; exact hK' _ hI'
      · rw [h]; rw [hv] at hK'; exact hK' _ hI'
      · rw [h, Oper.upon_enter]
        refine hc.mono fun e w'' hh => ?_
        obtain ⟨rfl, hI'⟩ := hh
        exact hK' _ hI'
    · rw [if_neg (by rw [hw]; exact Bool.false_ne_true)]
      rw [hv] at hK'
      exact hK' _ hI'
  · rintro listed a w hsz hl ⟨u, rfl, hu, _, hI⟩
    rw [show actOf (dstOf ops) a0 u ops.size = A by rw [← hA]; exact actOf_congr fun i hi => hu i (hl i hi)]
    exact hend _ _ hl hI
end
end Go.Proofs.YtapikjhfgcbifaaGreatDoor

