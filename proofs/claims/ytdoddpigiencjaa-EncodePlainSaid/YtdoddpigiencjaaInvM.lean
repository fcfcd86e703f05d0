/-
  Texts laid together: Inv Inv2 Inv3.
-/
import Derived.Test.YtdoddpigiencjaaGen
/-
  A region that draws its order, by an invariant: each operation by itself, whatever came ahead of it.
-/
namespace Go.Proofs.Ytdoddpigiencjaa
set_option linter.unusedVariables false
open Go.RowKit

theorem filter_lt {α : Type} {p q : α → Bool} : ∀ {l : List α}, (∀ x ∈ l, p x = true → q x = true) → (∃ x ∈ l, q x = true ∧ p x = false) → (l.filter p).length < (l.filter q).length
  | [], _, h => by obtain ⟨x, hx, _⟩ := h; cases hx
  | y :: l, h1, h2 => by
    have hle : (l.filter p).length ≤ (l.filter q).length := by
      clear h2
      induction l with
      | nil => simp
      | cons z l ih =>
        have ih' := ih (fun x hx => h1 x (by rcases List.mem_cons.1 hx with e | e <;> simp [e]))
        have hz := h1 z (by simp)
        simp only [List.filter_cons]
        cases hp : p z <;> cases hq : q z <;> simp_all <;> omega
    obtain ⟨x, hx, hq, hp⟩ := h2
    rcases List.mem_cons.1 hx with rfl | hx
    · simp [List.filter_cons, hp, hq]; omega
    · have := filter_lt (l := l) (fun x hx => h1 x (by simp [hx])) ⟨x, hx, hq, hp⟩
      have hy := h1 y (by simp)
      simp only [List.filter_cons]
      cases hpy : p y <;> cases hqy : q y <;> simp_all <;> omega

/-- What is not yet listed. -/
def openCount (n : Nat) (listed : Array Bool) : Nat := ((List.range n).filter fun i => !listed.getD i true).length
theorem getD_set (l : Array Bool) (i j : Nat) (d : Bool) (hi : i < l.size) : (l.setIfInBounds i true).getD j d = if j = i then true else l.getD j d := by
  by_cases hj : j = i
  · subst hj
    simp [Array.getD, hi]
  · simp only [hj, if_false, Array.getD_eq_getD_getElem?]
    rw [Array.getElem?_setIfInBounds_ne (fun e => hj e.symm)]
theorem openCount_set {n : Nat} {listed : Array Bool} {i : Nat} (hs : listed.size = n) (hi : i < n) (hf : listed.getD i true = false) : openCount n (listed.setIfInBounds i true) < openCount n listed := by
  unfold openCount
  refine filter_lt (fun x hx h => ?_) ⟨i, List.mem_range.2 hi, by simp [hf], ?_⟩
  · rw [getD_set _ _ _ _ (by omega)] at h
    by_cases e : x = i
    · simp [e] at h
    · simpa [e] using h
  · rw [getD_set _ _ _ _ (by omega)]
    simp

/-- Each edge that binds leads back. -/
def dagB (md : Region.Mode) (ops : Array Oper) : Bool := (List.range ops.size).all fun i => ((ops[i]?).map fun o => o.after.all fun e => !Region.binds md e || decide (e.on < i)).getD true

section
variable {P : Program} {ops : Array Oper} {Q : Exit → Act → World → Prop} {md : Region.Mode}
theorem mem_ready {listed : Array Bool} {i : Nat} : i ∈ Region.ready md ops listed ↔ i < ops.size ∧ listed.getD i true = false ∧ ∃ o, ops[i]? = some o ∧ ∀ e ∈ o.after, Region.binds md e = true → listed.getD e.on false = true := by
  unfold Region.ready
  rw [List.mem_filter, List.mem_range]
  constructor
  · rintro ⟨hi, h⟩
    rw [Array.getElem?_eq_getElem hi] at h ⊢
    simp only [Option.map_some, Option.getD_some, Bool.and_eq_true, Bool.not_eq_true'] at h
    refine ⟨hi, h.1, _, rfl, fun e he hb => ?_⟩
    have h2 := Array.all_eq_true_iff_forall_mem.1 h.2 e he
    simpa [hb] using h2
  · rintro ⟨hi, hf, o, ho, h⟩
    refine ⟨hi, ?_⟩
    rw [ho]
    simp only [Option.map_some, Option.getD_some, Bool.and_eq_true, Bool.not_eq_true']
    refine ⟨hf, Array.all_eq_true_iff_forall_mem.2 fun e he => ?_⟩
    cases hb : Region.binds md e with
    | false => rfl
    | true => simpa using h e he hb
theorem ready_nil (hd : dagB md ops = true) {listed : Array Bool} (hs : listed.size = ops.size) (h : Region.ready md ops listed = []) : ∀ i, i < ops.size → listed.getD i false = true := by
  intro i
  induction i using Nat.strongRecOn with
  | _ i ih =>
    intro hi
    cases hl : listed.getD i true with
    | true =>
      have : listed[i]? = some (listed[i]'(by omega)) := Array.getElem?_eq_getElem (by omega)
      simp only [Array.getD_eq_getD_getElem?, this, Option.getD_some] at hl ⊢
      exact hl
    | false =>
      exfalso
      have ho : ops[i]? = some ops[i] := Array.getElem?_eq_getElem hi
      have hm : i ∈ Region.ready md ops listed := mem_ready.2 ⟨hi, hl, _, ho, fun e he hb => by
        have h1 := List.all_eq_true.1 hd i (List.mem_range.2 hi)
        rw [ho] at h1
        simp only [Option.map_some, Option.getD_some] at h1
        have h2 := Array.all_eq_true_iff_forall_mem.1 h1 e he
        simp [hb] at h2
        exact ih e.on h2 (by omega)⟩
      rw [h] at hm
      cases hm
theorem wpAny_inv (hd : dagB md ops = true) (I : Array Bool → Act → World → Prop)
    (hstep : ∀ (listed : Array Bool) (a : Act) (w : World) (i : Nat) (o : Oper), listed.size = ops.size → ops[i]? = some o → listed.getD i true = false → (∀ e ∈ o.after, Region.binds md e = true → listed.getD e.on false = true) → I listed a w →
      ∀ K : Act → World → Prop, (∀ a' w', I (listed.setIfInBounds i true) a' w' → K a' w') → if Region.wanted o (yielded ops a.tmps) = true then Oper.wp P o a w K Q else K (a.put o.dst undef) w)
    (hend : ∀ (listed : Array Bool) (a : Act) (w : World), listed.size = ops.size → (∀ i, i < ops.size → listed.getD i false = true) → I listed a w → Q .normal a w) :
    ∀ (fuel : Nat) (listed : Array Bool) (a : Act) (w : World), listed.size = ops.size → openCount ops.size listed ≤ fuel → I listed a w → wpAny P md ops Q fuel listed a w
  | 0, listed, a, w, hs, hc, hI => by
    have hr : Region.ready md ops listed = [] := by
      apply List.eq_nil_iff_forall_not_mem.2
      intro i hi
      obtain ⟨h1, h2, _⟩ := mem_ready.1 hi
      have h0 : openCount ops.size listed = 0 := by omega
      unfold openCount at h0
      have h3 := List.length_eq_zero_iff.1 h0
      have h4 : i ∈ (List.range ops.size).filter fun i => !listed.getD i true := List.mem_filter.2 ⟨List.mem_range.2 h1, by simp [h2]⟩
      rw [h3] at h4
      cases h4
    exact ⟨hr, hend _ _ _ hs (ready_nil hd hs hr) hI⟩
  | fuel + 1, listed, a, w, hs, hc, hI => by
    refine ⟨fun hr => hend _ _ _ hs (ready_nil hd hs hr) hI, fun i hi => ?_⟩
    obtain ⟨h1, h2, o, ho, h3⟩ := mem_ready.1 hi
    refine wpOp_step ho fun K hK => hstep listed a w i o hs ho h2 h3 hI K fun a' w' hI' => hK _ _ ?_
    exact wpAny_inv hd I hstep hend fuel _ a' w' (by simp [hs]) (by have := openCount_set hs h1 h2; omega) hI'
/-- A region by an invariant. -/
theorem wp_region_inv {id : Nat} {a : Act} {w : World} (hm : P.follows .mixedOrders = true) (hd : dagB .any ops = true) (I : Array Bool → Act → World → Prop) (h0 : I (Array.replicate ops.size false) a w.drew)
    (hstep : ∀ (listed : Array Bool) (a : Act) (w : World) (i : Nat) (o : Oper), listed.size = ops.size → ops[i]? = some o → listed.getD i true = false → (∀ e ∈ o.after, Region.binds .any e = true → listed.getD e.on false = true) → I listed a w →
      ∀ K : Act → World → Prop, (∀ a' w', I (listed.setIfInBounds i true) a' w' → K a' w') → if Region.wanted o (yielded ops a.tmps) = true then Oper.wp P o a w K Q else K (a.put o.dst undef) w)
    (hend : ∀ (listed : Array Bool) (a : Act) (w : World), listed.size = ops.size → (∀ i, i < ops.size → listed.getD i false = true) → I listed a w → Q .normal a w) : (Code.region id ops true).wp P Q a w := by
  refine wp_region_any hm (wpAny_inv hd I hstep hend ops.size _ a w.drew (by simp) ?_ h0)
  unfold openCount
  exact Nat.le_trans (List.length_filter_le _ _) (by simp)
end
end Go.Proofs.Ytdoddpigiencjaa

/-
  A region that draws its order, by an invariant on what the operations have yielded.
-/
namespace Go.Proofs.Ytdoddpigiencjaa
set_option linter.unusedVariables false
open Go.RowKit

/-- The frame once operation i has yielded u i, for each i < n. -/
def actOf (dst : Nat → Option Tmp) (a0 : Act) (u : Nat → Value) : Nat → Act
  | 0 => a0
  | n + 1 => (actOf dst a0 u n).put (dst n) (u n)
def updV (u : Nat → Value) (i : Nat) (v : Value) : Nat → Value := fun j => if j = i then v else u j
theorem updV_same (u : Nat → Value) (i : Nat) (v : Value) : updV u i v i = v := if_pos rfl
theorem updV_ne {u : Nat → Value} {i j : Nat} {v : Value} (h : j ≠ i) : updV u i v j = u j := if_neg h
theorem put_put (a : Act) (d : Option Tmp) (v u : Value) : (a.put d v).put d u = a.put d u := by
  cases d with
  | none => rfl
  | some d => simp [Act.put]
theorem put_size (a : Act) (d : Option Tmp) (v : Value) : (a.put d v).tmps.size = a.tmps.size := by
  cases d with
  | none => rfl
  | some d => simp [Act.put]
section
variable {dst : Nat → Option Tmp} {a0 : Act} {u : Nat → Value}
theorem actOf_congr {u' : Nat → Value} : ∀ {n : Nat}, (∀ i, i < n → u i = u' i) → actOf dst a0 u n = actOf dst a0 u' n
  | 0, _ => rfl
  | n + 1, h => by
    show (actOf dst a0 u n).put _ _ = (actOf dst a0 u' n).put _ _
    rw [actOf_congr (fun i hi => h i (by omega)), h n (by omega)]
theorem actOf_size : ∀ n : Nat, (actOf dst a0 u n).tmps.size = a0.tmps.size
  | 0 => rfl
  | n + 1 => (put_size _ _ _).trans (actOf_size n)
theorem actOf_put {v : Value} {i : Nat} : ∀ {n : Nat}, (∀ i j, i < n → j < n → i ≠ j → ∀ d, dst i = some d → dst j ≠ some d) → i < n → (actOf dst a0 u n).put (dst i) v = actOf dst a0 (updV u i v) n
  | 0, _, hi => by omega
  | n + 1, hd, hi => by
    by_cases e : i = n
    · subst e
      show ((actOf dst a0 u i).put (dst i) (u i)).put (dst i) v = (actOf dst a0 (updV u i v) i).put (dst i) (updV u i v i)
      rw [put_put, updV_same]
      congr 1
      exact actOf_congr fun j hj => (updV_ne (by omega)).symm
    · show ((actOf dst a0 u n).put (dst n) (u n)).put (dst i) v = (actOf dst a0 (updV u i v) n).put (dst n) (updV u i v n)
      rw [updV_ne (fun h => e h.symm), ← actOf_put (fun i j hi hj => hd i j (by omega) (by omega)) (show i < n by omega)]
      exact Act.put_comm _ _ _ fun d h1 h2 => hd n i (by omega) (by omega) (fun h => e h.symm) d h1 h2
theorem actOf_other {d : Tmp} : ∀ {n : Nat}, (∀ i, i < n → dst i ≠ some d) → (actOf dst a0 u n).eval (.tmp d) = a0.eval (.tmp d)
  | 0, _ => rfl
  | n + 1, h => by
    show ((actOf dst a0 u n).put (dst n) (u n)).eval _ = _
    rw [Act.eval_put fun e he hd => by cases hd; exact h n (by omega) he]
    exact actOf_other fun i hi => h i (by omega)
theorem actOf_eval {d : Tmp} {i : Nat} (hb : d < a0.tmps.size) (hi0 : dst i = some d) : ∀ {n : Nat}, (∀ i j, i < n → j < n → i ≠ j → ∀ d, dst i = some d → dst j ≠ some d) → i < n → (actOf dst a0 u n).eval (.tmp d) = u i
  | 0, _, hi => by omega
  | n + 1, hd, hi => by
    show ((actOf dst a0 u n).put (dst n) (u n)).eval _ = _
    by_cases e : i = n
    · subst e
      rw [hi0]
      have hs : d < (actOf dst a0 u i).tmps.size := by rw [actOf_size]; exact hb
      simp [Act.eval, Act.put, hs]
    · rw [Act.eval_put fun d' he hd' => by cases hd'; exact hd i n (by omega) (by omega) e _ hi0 he]
      exact actOf_eval hb hi0 (fun i j hi hj => hd i j (by omega) (by omega)) (by omega)
theorem actOf_self : ∀ {n : Nat}, (∀ i d, i < n → dst i = some d → u i = a0.eval (.tmp d)) → actOf dst a0 u n = a0
  | 0, _ => rfl
  | n + 1, h => by
    show (actOf dst a0 u n).put (dst n) (u n) = a0
    rw [actOf_self fun i d hi => h i d (by omega)]
    cases hd : dst n with
    | none => rfl
    | some d =>
      rw [h n d (by omega) hd]
      have : a0.tmps.setIfInBounds d (a0.eval (.tmp d)) = a0.tmps := by
        apply Array.ext
        · simp
        · intro k h1 h2
          rw [Array.getElem_setIfInBounds]
          split
          · rename_i e
            subst e
            simp [Act.eval, h2]
          · rfl
      simp [Act.put, this]
end
def dstOf (ops : Array Oper) (i : Nat) : Option Tmp := (ops[i]?).bind (·.dst)
/-- No two operations yield into one slot. -/
def apartB (ops : Array Oper) : Bool := (List.range ops.size).all fun i => (List.range ops.size).all fun j => i == j || (match dstOf ops i with
  | none => true
  | some d => dstOf ops j != some d)
theorem apart_of {ops : Array Oper} (h : apartB ops = true) : ∀ i j, i < ops.size → j < ops.size → i ≠ j → ∀ d, dstOf ops i = some d → dstOf ops j ≠ some d := by
  intro i j hi hj hne d hd he
  have h1 := List.all_eq_true.1 h i (List.mem_range.2 hi)
  have h2 := List.all_eq_true.1 h1 j (List.mem_range.2 hj)
  rw [hd] at h2
  simp [hne, he] at h2
/-- A region by an invariant on what was yielded. -/
theorem wp_region_inv2 {P : Program} {ops : Array Oper} {Q : Exit → Act → World → Prop} {id : Nat} {a0 : Act} {w : World} (hm : P.follows .mixedOrders = true) (hd : dagB .any ops = true) (ha : apartB ops = true) (J : Array Bool → (Nat → Value) → World → Prop)
    (h0 : ∀ u, J (Array.replicate ops.size false) u w.drew)
    (hstep : ∀ (listed : Array Bool) (u : Nat → Value) (w : World) (i : Nat) (o : Oper), listed.size = ops.size → ops[i]? = some o → listed.getD i true = false → (∀ e ∈ o.after, Region.binds .any e = true → listed.getD e.on false = true) → J listed u w →
      ∀ K : Act → World → Prop, (∀ v w', J (listed.setIfInBounds i true) (updV u i v) w' → K ((actOf (dstOf ops) a0 u ops.size).put o.dst v) w') →
        if Region.wanted o (yielded ops (actOf (dstOf ops) a0 u ops.size).tmps) = true then Oper.wp P o (actOf (dstOf ops) a0 u ops.size) w K Q else K ((actOf (dstOf ops) a0 u ops.size).put o.dst undef) w)
    (hend : ∀ (listed : Array Bool) (u : Nat → Value) (w : World), (∀ i, i < ops.size → listed.getD i false = true) → J listed u w → Q .normal (actOf (dstOf ops) a0 u ops.size) w) : (Code.region id ops true).wp P Q a0 w := by
  refine wp_region_inv hm hd (fun listed a w => ∃ u, a = actOf (dstOf ops) a0 u ops.size ∧ J listed u w) ?_ ?_ ?_
  · exact ⟨fun i => match dstOf ops i with
      | none => undef
      | some d => a0.eval (.tmp d), (actOf_self fun i d _ h => by simp only [h]).symm, h0 _⟩
  · rintro listed a w i o hs ho hf hdep ⟨u, rfl, hJ⟩ K hK
    refine hstep listed u w i o hs ho hf hdep hJ K fun v w' hJ' => hK _ _ ⟨updV u i v, ?_, hJ'⟩
    have hdo : o.dst = dstOf ops i := by unfold dstOf; rw [ho]; rfl
    rw [hdo]
    exact actOf_put (apart_of ha) (Array.getElem?_eq_some_iff.1 ho).1
  · rintro listed a w hs hl ⟨u, rfl, hJ⟩
    exact hend listed u w hl hJ
end Go.Proofs.Ytdoddpigiencjaa

/-
  A region that draws its order and has no guards, by an invariant: the frame is told by what it yields.
-/
namespace Go.Proofs.Ytdoddpigiencjaa
set_option linter.unusedVariables false
open Go.RowKit
theorem dst_lt {ops : Array Oper} {i : Nat} {d : Tmp} (h : dstOf ops i = some d) : i < ops.size := by
  unfold dstOf at h
  by_cases hi : i < ops.size
  · exact hi
  · rw [Array.getElem?_eq_none (by omega)] at h
    cases h
theorem wp_region_inv3 {P : Program} {ops : Array Oper} {Q : Exit → Act → World → Prop} {id : Nat} {a0 : Act} {w : World} (hm : P.follows .mixedOrders = true) (hd : dagB .any ops = true) (ha : apartB ops = true) (hg : (ops.all fun o => o.guard.isNone) = true) (J : Array Bool → (Nat → Value) → World → Prop)
    (h0 : ∀ u, J (Array.replicate ops.size false) u w.drew)
    (hstep : ∀ (listed : Array Bool) (u : Nat → Value) (w : World) (i : Nat) (o : Oper) (A : Act), (∀ j d, dstOf ops j = some d → d < a0.tmps.size → A.eval (.tmp d) = u j) → (∀ d, ((List.range ops.size).all fun j => dstOf ops j != some d) = true → A.eval (.tmp d) = a0.eval (.tmp d)) →
      (∀ L, listed = L → listed.size = ops.size) → ops[i]? = some o → listed.getD i true = false → (∀ e ∈ o.after, Region.binds .any e = true → listed.getD e.on false = true) → J listed u w →
      ∀ K : Act → World → Prop, (∀ v w', J (listed.setIfInBounds i true) (updV u i v) w' → K (A.put o.dst v) w') → Oper.wp P o A w K Q)
    (hend : ∀ (listed : Array Bool) (u : Nat → Value) (w : World), (∀ i, i < ops.size → listed.getD i false = true) → J listed u w → Q .normal (actOf (dstOf ops) a0 u ops.size) w) : (Code.region id ops true).wp P Q a0 w := by
  refine wp_region_inv2 hm hd ha J h0 ?_ hend
  intro listed u w i o hs ho hf hdep hJ K hK
  have hgo : o.guard = none := by
    have := Array.all_eq_true_iff_forall_mem.1 hg o (Array.mem_of_getElem? ho)
    simpa using this
  have hw : Region.wanted o (yielded ops (actOf (dstOf ops) a0 u ops.size).tmps) = true := by simp [Region.wanted, hgo]
  rw [if_pos hw]
  refine hstep listed u w i o _ (fun j d hj hb => actOf_eval hb hj (apart_of ha) (dst_lt hj)) (fun d hd => actOf_other fun j hj => ?_) (fun _ _ => hs) ho hf hdep hJ K hK
  have := List.all_eq_true.1 hd j (List.mem_range.2 hj)
  simpa using this
theorem getD_tf {l : Array Bool} {i : Nat} (h : l.getD i true = false) : l.getD i false = false := by
  by_cases hi : i < l.size
  · simp only [Array.getD, hi, dif_pos] at h ⊢
    exact h
  · simp [Array.getD, hi] at h
/-! One operation's run. -/
theorem inv_val {P : Program} {o : Oper} {a : Act} {w w' : World} {K : Act → World → Prop} {Q : Exit → Act → World → Prop} (v : Value) (hrun : (execOp a.eval o).run P w = .ok (.value v) w') (h : K (a.put o.dst v) w') : Oper.wp P o a w K Q := by
  unfold Oper.wp
  rw [hrun]
  exact h
theorem inv_skip {P : Program} {o : Oper} {a : Act} {w w' : World} {K : Act → World → Prop} {Q : Exit → Act → World → Prop} (hrun : (execOp a.eval o).run P w = .ok .skip w') (h : K (a.put o.dst undef) w') : Oper.wp P o a w K Q := by
  unfold Oper.wp
  rw [hrun]
  exact h
theorem inv_call {P : Program} {o : Oper} {a : Act} {w w' : World} {K : Act → World → Prop} {Q : Exit → Act → World → Prop} (f : FuncId) (args : Array Value) (R : Ending → World → Prop) (hrun : (execOp a.eval o).run P w = .ok (.enter f args) w') (hc : Calls P f args w' R) (h : ∀ e w'', R e w'' → ∃ v, e = .returned v ∧ K (a.put o.dst v) w'') : Oper.wp P o a w K Q := by
  unfold Oper.wp
  rw [hrun, Oper.upon_enter]
  refine hc.mono fun e w'' hr => ?_
  obtain ⟨v, rfl, hk⟩ := h e w'' hr
  exact hk
/-- What was yielded stays, when another operation is carried out. -/
theorem keep_val {listed : Array Bool} {n i : Nat} {u : Nat → Value} {v : Value} {vals : Nat → Option Value} (hs : listed.size = n) (hi : i < n) (h : ∀ k x, vals k = some x → listed.getD k false = true → u k = x) (hv : ∀ x, vals i = some x → v = x) :
    ∀ k x, vals k = some x → (listed.setIfInBounds i true).getD k false = true → updV u i v k = x := by
  intro k x hx hl
  by_cases e : k = i
  · subst e
    rw [updV_same]
    exact hv x hx
  · rw [updV_ne e]
    rw [getD_set _ _ _ _ (by omega), if_neg e] at hl
    exact h k x hx hl
end Go.Proofs.Ytdoddpigiencjaa

