/-
  A region that draws its order, by an invariant on what the operations have yielded.
-/
import Derived.Test.YthfifeclmikbgaaInv
namespace Go.Proofs.Ythfifeclmikbgaa
set_option linter.unusedVariables false
open Go.RowKit

/-- The frame once operation i has yielded u i, for each i < n. -/
def actOf (dst : Nat → Option Tmp) (a0 : Act) (u : Nat → Value) : Nat → Act
  | 0 => a0
  | n + 1 => (actOf dst a0 u n).put (dst n) (u n)
def updV (u : Nat → Value) (i : Nat) (v : Value) : Nat → Value := fun j => if j = i then v else u j
theorem updV_same (u : Nat → Value) (i : Nat) (v : Value) : updV u i v i = v := if_pos rfl
theorem updV_ne {u : Nat → Value} {i j : Nat} {v : Value} (h : j ≠ i) : updV u i v j = u j := if_neg h
theorem put_put (a : Act) (d : Option Tmp) (v u : Value) : (a.put d v).put d u = a.put d u := by
  cases d with
  | none => rfl
  | some d => simp [Act.put]
theorem put_size (a : Act) (d : Option Tmp) (v : Value) : (a.put d v).tmps.size = a.tmps.size := by
  cases d with
  | none => rfl
  | some d => simp [Act.put]
section
variable {dst : Nat → Option Tmp} {a0 : Act} {u : Nat → Value}
theorem actOf_congr {u' : Nat → Value} : ∀ {n : Nat}, (∀ i, i < n → u i = u' i) → actOf dst a0 u n = actOf dst a0 u' n
  | 0, _ => rfl
  | n + 1, h => by
    show (actOf dst a0 u n).put _ _ = (actOf dst a0 u' n).put _ _
    rw [actOf_congr (fun i hi => h i (by omega)), h n (by omega)]
theorem actOf_size : ∀ n : Nat, (actOf dst a0 u n).tmps.size = a0.tmps.size
  | 0 => rfl
  | n + 1 => (put_size _ _ _).trans (actOf_size n)
theorem actOf_put {v : Value} {i : Nat} : ∀ {n : Nat}, (∀ i j, i < n → j < n → i ≠ j → ∀ d, dst i = some d → dst j ≠ some d) → i < n → (actOf dst a0 u n).put (dst i) v = actOf dst a0 (updV u i v) n
  | 0, _, hi => by omega
  | n + 1, hd, hi => by
    by_cases e : i = n
    · subst e
      show ((actOf dst a0 u i).put (dst i) (u i)).put (dst i) v = (actOf dst a0 (updV u i v) i).put (dst i) (updV u i v i)
      rw [put_put, updV_same]
      congr 1
      exact actOf_congr fun j hj => (updV_ne (by omega)).symm
    · show ((actOf dst a0 u n).put (dst n) (u n)).put (dst i) v = (actOf dst a0 (updV u i v) n).put (dst n) (updV u i v n)
      rw [updV_ne (fun h => e h.symm), ← actOf_put (fun i j hi hj => hd i j (by omega) (by omega)) (show i < n by omega)]
      exact Act.put_comm _ _ _ fun d h1 h2 => hd n i (by omega) (by omega) (fun h => e h.symm) d h1 h2
theorem actOf_other {d : Tmp} : ∀ {n : Nat}, (∀ i, i < n → dst i ≠ some d) → (actOf dst a0 u n).eval (.tmp d) = a0.eval (.tmp d)
  | 0, _ => rfl
  | n + 1, h => by
    show ((actOf dst a0 u n).put (dst n) (u n)).eval _ = _
    rw [Act.eval_put fun e he hd => by cases hd; exact h n (by omega) he]
    exact actOf_other fun i hi => h i (by omega)
theorem actOf_eval {d : Tmp} {i : Nat} (hb : d < a0.tmps.size) (hi0 : dst i = some d) : ∀ {n : Nat}, (∀ i j, i < n → j < n → i ≠ j → ∀ d, dst i = some d → dst j ≠ some d) → i < n → (actOf dst a0 u n).eval (.tmp d) = u i
  | 0, _, hi => by omega
  | n + 1, hd, hi => by
    show ((actOf dst a0 u n).put (dst n) (u n)).eval _ = _
    by_cases e : i = n
    · subst e
      rw [hi0]
      have hs : d < (actOf dst a0 u i).tmps.size := by rw [actOf_size]; exact hb
      simp [Act.eval, Act.put, hs]
    · rw [Act.eval_put fun d' he hd' => by cases hd'; exact hd i n (by omega) (by omega) e _ hi0 he]
      exact actOf_eval hb hi0 (fun i j hi hj => hd i j (by omega) (by omega)) (by omega)
theorem actOf_self : ∀ {n : Nat}, (∀ i d, i < n → dst i = some d → u i = a0.eval (.tmp d)) → actOf dst a0 u n = a0
  | 0, _ => rfl
  | n + 1, h => by
    show (actOf dst a0 u n).put (dst n) (u n) = a0
    rw [actOf_self fun i d hi => h i d (by omega)]
    cases hd : dst n with
    | none => rfl
    | some d =>
      rw [h n d (by omega) hd]
      have : a0.tmps.setIfInBounds d (a0.eval (.tmp d)) = a0.tmps := by
        apply Array.ext
        · simp
        · intro k h1 h2
          rw [Array.getElem_setIfInBounds]
          split
          · rename_i e
            subst e
            simp [Act.eval, h2]
          · rfl
      simp [Act.put, this]
end
def dstOf (ops : Array Oper) (i : Nat) : Option Tmp := (ops[i]?).bind (·.dst)
/-- No two operations yield into one slot. -/
def apartB (ops : Array Oper) : Bool := (List.range ops.size).all fun i => (List.range ops.size).all fun j => i == j || (match dstOf ops i with
  | none => true
  | some d => dstOf ops j != some d)
theorem apart_of {ops : Array Oper} (h : apartB ops = true) : ∀ i j, i < ops.size → j < ops.size → i ≠ j → ∀ d, dstOf ops i = some d → dstOf ops j ≠ some d := by
  intro i j hi hj hne d hd he
  have h1 := List.all_eq_true.1 h i (List.mem_range.2 hi)
  have h2 := List.all_eq_true.1 h1 j (List.mem_range.2 hj)
  rw [hd] at h2
  simp [hne, he] at h2
/-- A region by an invariant on what was yielded. -/
theorem wp_region_inv2 {P : Program} {ops : Array Oper} {Q : Exit → Act → World → Prop} {id : Nat} {a0 : Act} {w : World} (hm : P.follows .mixedOrders = true) (hd : dagB .any ops = true) (ha : apartB ops = true) (J : Array Bool → (Nat → Value) → World → Prop)
    (h0 : ∀ u, J (Array.replicate ops.size false) u w.drew)
    (hstep : ∀ (listed : Array Bool) (u : Nat → Value) (w : World) (i : Nat) (o : Oper), listed.size = ops.size → ops[i]? = some o → listed.getD i true = false → (∀ e ∈ o.after, Region.binds .any e = true → listed.getD e.on false = true) → J listed u w →
      ∀ K : Act → World → Prop, (∀ v w', J (listed.setIfInBounds i true) (updV u i v) w' → K ((actOf (dstOf ops) a0 u ops.size).put o.dst v) w') →
        if Region.wanted o (yielded ops (actOf (dstOf ops) a0 u ops.size).tmps) = true then Oper.wp P o (actOf (dstOf ops) a0 u ops.size) w K Q else K ((actOf (dstOf ops) a0 u ops.size).put o.dst undef) w)
    (hend : ∀ (listed : Array Bool) (u : Nat → Value) (w : World), (∀ i, i < ops.size → listed.getD i false = true) → J listed u w → Q .normal (actOf (dstOf ops) a0 u ops.size) w) : (Code.region id ops true).wp P Q a0 w := by
  refine wp_region_inv hm hd (fun listed a w => ∃ u, a = actOf (dstOf ops) a0 u ops.size ∧ J listed u w) ?_ ?_ ?_
  · exact ⟨fun i => match dstOf ops i with
      | none => undef
      | some d => a0.eval (.tmp d), (actOf_self fun i d _ h => by simp only [h]).symm, h0 _⟩
  · rintro listed a w i o hs ho hf hdep ⟨u, rfl, hJ⟩ K hK
    refine hstep listed u w i o hs ho hf hdep hJ K fun v w' hJ' => hK _ _ ⟨updV u i v, ?_, hJ'⟩
    have hdo : o.dst = dstOf ops i := by unfold dstOf; rw [ho]; rfl
    rw [hdo]
    exact actOf_put (apart_of ha) (Array.getElem?_eq_some_iff.1 ho).1
  · rintro listed a w hs hl ⟨u, rfl, hJ⟩
    exact hend listed u w hl hJ
end Go.Proofs.Ythfifeclmikbgaa
