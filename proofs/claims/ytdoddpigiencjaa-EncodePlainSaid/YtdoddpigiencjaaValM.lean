/-
  Texts laid together: Val2 Val3.
-/
import Derived.Test.YtdoddpigiencjaaBox
/-
  A region that draws its order, told by values, where what holds of the world hangs on what has come up (a store into a block that stood).
-/
namespace Go.Proofs.Ytdoddpigiencjaa
set_option linter.unusedVariables false
open Go.RowKit

def AllVL (P : Program) (n : Nat) (ops : Array Oper) (A : Act) (V : Nat → Value) (I : Array Bool → World → Prop) : Nat → List Oper → Prop
  | _, [] => True
  | i, o :: os => (∀ listed w, listed.size = n → listed.getD i false = false → DepsIn o listed → I listed w →
      (Region.wanted o (yielded ops A.tmps) = true ∧ StepV P o A.eval (V i) (I (listed.setIfInBounds i true)) w) ∨ (Region.wanted o (yielded ops A.tmps) = false ∧ V i = undef ∧ I (listed.setIfInBounds i true) w)) ∧ AllVL P n ops A V I (i + 1) os
section
variable {P : Program} {n : Nat} {ops : Array Oper} {A : Act} {V : Nat → Value} {I : Array Bool → World → Prop}
theorem AllVL.at : ∀ {l : List Oper} {k i : Nat} {o : Oper}, AllVL P n ops A V I k l → l[i]? = some o → ∀ listed w, listed.size = n → listed.getD (k + i) false = false → DepsIn o listed → I listed w →
      (Region.wanted o (yielded ops A.tmps) = true ∧ StepV P o A.eval (V (k + i)) (I (listed.setIfInBounds (k + i) true)) w) ∨ (Region.wanted o (yielded ops A.tmps) = false ∧ V (k + i) = undef ∧ I (listed.setIfInBounds (k + i) true) w)
  | [], _, _, _, _, h => by simp at h
  | x :: l, k, 0, o, h, ho => by
    simp at ho
    subst ho
    exact h.1
  | x :: l, k, i + 1, o, h, ho => by
    have := AllVL.at (i := i) h.2 (by simpa using ho)
    rw [show k + 1 + i = k + (i + 1) by omega] at this
    exact this
theorem wp_region_valsL {Q : Exit → Act → World → Prop} {id : Nat} {a0 : Act} {w : World} (hm : P.follows .mixedOrders = true) (hd : dagB .any ops = true) (ha : apartB ops = true) (hr : readsB ops = true) (hs : Region.noSelect ops = true)
    (V : Nat → Value) (A : Act) (hA : actOf (dstOf ops) a0 V ops.size = A) (I : Array Bool → World → Prop) (h0 : I (Array.replicate ops.size false) w.drew) (hstep : AllVL P ops.size ops A V I 0 ops.toList)
    (hend : ∀ listed w, (∀ i, i < ops.size → listed.getD i false = true) → I listed w → Q .normal A w) : (Code.region id ops true).wp P Q a0 w := by
  refine wp_region_inv hm hd (fun listed a w => ∃ u, a = actOf (dstOf ops) a0 u ops.size ∧ (∀ j, listed.getD j false = true → u j = V j) ∧ I listed w) ?_ ?_ ?_
  · refine ⟨fun i => match dstOf ops i with
      | none => undef
      | some d => a0.eval (.tmp d), (actOf_self fun i d _ h => by simp only [h]).symm, fun j h => ?_, h0⟩
    simp [Array.getD] at h
  · rintro listed a w i o hsz ho hf hdep ⟨u, rfl, hu, hI⟩ K hK
    have hi := (Array.getElem?_eq_some_iff.1 ho).1
    have hdo : o.dst = dstOf ops i := by unfold dstOf; rw [ho]; rfl
    have hlk := looks_same (V := V) (a0 := a0) ha hr ho hdep hu
    rw [hA] at hlk
    have hK' : ∀ w', I (listed.setIfInBounds i true) w' → K ((actOf (dstOf ops) a0 u ops.size).put o.dst (V i)) w' := fun w' hI' => hK _ _ ⟨updV u i (V i), by rw [hdo]; exact put_actOf (apart_of ha) hi, updV_listed (by omega) hu, hI'⟩
    rw [same_wanted hlk]
    have hst := AllVL.at (i := i) hstep (by simpa using ho) listed w hsz (by rw [Nat.zero_add]; exact getD_tf hf) hdep hI
    rw [Nat.zero_add] at hst
    rcases hst with ⟨hw, hst⟩ | ⟨hw, hv, hI'⟩
    · rw [if_pos hw]
      have hex := same_exec (fun cs b => Region.noSelect_spec hs i o cs b ho) hlk
      unfold Oper.wp
      rw [hex]
      rcases hst with ⟨w', h, hI'⟩ | ⟨w', hv, h, hI'⟩ | ⟨f, args, w', h, hc⟩
      · rw [h]; exact hK' _ hI'
      · rw [h]; rw [hv] at hK'; exact hK' _ hI'
      · rw [h, Oper.upon_enter]
        refine hc.mono fun e w'' hh => ?_
        obtain ⟨rfl, hI'⟩ := hh
        exact hK' _ hI'
    · rw [if_neg (by rw [hw]; exact Bool.false_ne_true)]
      rw [hv] at hK'
      exact hK' _ hI'
  · rintro listed a w hsz hl ⟨u, rfl, hu, hI⟩
    rw [show actOf (dstOf ops) a0 u ops.size = A by rw [← hA]; exact actOf_congr fun i hi => hu i (hl i hi)]
    exact hend _ _ hl hI
end
/-- One store, at place t: ahead of it x holds, behind it y. -/
def Once (t : Nat) (x y : World → Prop) (L : Array Bool) (w : World) : Prop := if L.getD t false = true then y w else x w
theorem Once.keep {t i n : Nat} {x y : World → Prop} {L : Array Bool} {w w' : World} (h : Once t x y L w) (hs : L.size = n) (hi : i < n) (hne : t ≠ i) (hx : x w → x w') (hy : y w → y w') : Once t x y (L.setIfInBounds i true) w' := by
  unfold Once at *
  rw [getD_set _ _ _ _ (by omega), if_neg hne]
  split
  · rename_i hh; rw [if_pos hh] at h; exact hy h
  · rename_i hh; rw [if_neg hh] at h; exact hx h
theorem Once.put {t n : Nat} {x y : World → Prop} {L : Array Bool} {w' : World} (hs : L.size = n) (hi : t < n) (hy : y w') : Once t x y (L.setIfInBounds t true) w' := by
  unfold Once
  rw [getD_set _ _ _ _ (by omega), if_pos rfl, if_pos rfl]
  exact hy
theorem Once.ahead {t : Nat} {x y : World → Prop} {L : Array Bool} {w : World} (h : Once t x y L w) (hl : L.getD t false = false) : x w := by
  unfold Once at h
  rwa [if_neg (by rw [hl]; exact Bool.false_ne_true)] at h
theorem Once.behind {t : Nat} {x y : World → Prop} {L : Array Bool} {w : World} (h : Once t x y L w) (hl : L.getD t false = true) : y w := by
  unfold Once at h
  rwa [if_pos hl] at h
theorem Once.any {t : Nat} {x y z : World → Prop} {L : Array Bool} {w : World} (h : Once t x y L w) (hx : x w → z w) (hy : y w → z w) : z w := by
  unfold Once at h
  split at h
  · exact hy h
  · exact hx h
theorem Once.start {t n : Nat} {x y : World → Prop} {w : World} (h : x w) : Once t x y (Array.replicate n false) w := by
  unfold Once
  rw [if_neg (by simp [Array.getD])]
  exact h
end Go.Proofs.Ytdoddpigiencjaa

/-
  A region that draws its order, told by values, where what holds of the world hangs on what has come up; what has come up is closed.
-/
namespace Go.Proofs.Ytdoddpigiencjaa
set_option linter.unusedVariables false
open Go.RowKit

/-- Whatever has come up, what it waits for has. -/
def Closed (ops : Array Oper) (L : Array Bool) : Prop := ∀ j o, ops[j]? = some o → L.getD j false = true → DepsIn o L
theorem Closed.start (ops : Array Oper) (n : Nat) : Closed ops (Array.replicate n false) := fun j o _ h => by simp [Array.getD] at h
theorem Closed.step {ops : Array Oper} {L : Array Bool} {i : Nat} {o : Oper} (h : Closed ops L) (hi : i < L.size) (ho : ops[i]? = some o) (hd : DepsIn o L) : Closed ops (L.setIfInBounds i true) := by
  intro j o' ho' hl e he hb
  rw [getD_set _ _ _ _ hi]
  by_cases h1 : e.on = i
  · rw [if_pos h1]
  · rw [if_neg h1]
    by_cases h2 : j = i
    · subst h2
      rw [ho] at ho'
      obtain rfl := Option.some.inj ho'
      exact hd e he hb
    · rw [getD_set _ _ _ _ hi, if_neg h2] at hl
      exact h j o' ho' hl e he hb
/-- What came up ahead: if j has come up, and waits for i, i has. -/
def waitsB (ops : Array Oper) (j i : Nat) : Bool := ((ops[j]?).map fun o => o.after.any fun e => e.on == i && Region.binds .any e).getD false
theorem Closed.back {ops : Array Oper} {L : Array Bool} (h : Closed ops L) {j i : Nat} (hw : waitsB ops j i = true) (hl : L.getD j false = true) : L.getD i false = true := by
  unfold waitsB at hw
  cases ho : ops[j]? with
  | none => rw [ho] at hw; simp at hw
  | some o =>
    rw [ho] at hw
    simp only [Option.map_some, Option.getD_some] at hw
    obtain ⟨e, he, hh⟩ := Array.any_eq_true'.1 hw
    simp only [Bool.and_eq_true, beq_iff_eq] at hh
    rw [← hh.1]
    exact h j o ho hl e he hh.2
def AllVC (P : Program) (n : Nat) (ops : Array Oper) (A : Act) (V : Nat → Value) (I : Array Bool → World → Prop) : Nat → List Oper → Prop
  | _, [] => True
  | i, o :: os => (∀ listed w, listed.size = n → Closed ops listed → listed.getD i false = false → DepsIn o listed → I listed w →
      (Region.wanted o (yielded ops A.tmps) = true ∧ StepV P o A.eval (V i) (I (listed.setIfInBounds i true)) w) ∨ (Region.wanted o (yielded ops A.tmps) = false ∧ V i = undef ∧ I (listed.setIfInBounds i true) w)) ∧ AllVC P n ops A V I (i + 1) os
section
variable {P : Program} {n : Nat} {ops : Array Oper} {A : Act} {V : Nat → Value} {I : Array Bool → World → Prop}
theorem AllVC.at : ∀ {l : List Oper} {k i : Nat} {o : Oper}, AllVC P n ops A V I k l → l[i]? = some o → ∀ listed w, listed.size = n → Closed ops listed → listed.getD (k + i) false = false → DepsIn o listed → I listed w →
      (Region.wanted o (yielded ops A.tmps) = true ∧ StepV P o A.eval (V (k + i)) (I (listed.setIfInBounds (k + i) true)) w) ∨ (Region.wanted o (yielded ops A.tmps) = false ∧ V (k + i) = undef ∧ I (listed.setIfInBounds (k + i) true) w)
  | [], _, _, _, _, h => by simp at h
  | x :: l, k, 0, o, h, ho => by
    simp at ho
    subst ho
    exact h.1
  | x :: l, k, i + 1, o, h, ho => by
    have := AllVC.at (i := i) h.2 (by simpa using ho)
    rw [show k + 1 + i = k + (i + 1) by omega] at this
    exact this
theorem wp_region_valsC {Q : Exit → Act → World → Prop} {id : Nat} {a0 : Act} {w : World} (hm : P.follows .mixedOrders = true) (hd : dagB .any ops = true) (ha : apartB ops = true) (hr : readsB ops = true) (hs : Region.noSelect ops = true)
    (V : Nat → Value) (A : Act) (hA : actOf (dstOf ops) a0 V ops.size = A) (I : Array Bool → World → Prop) (h0 : I (Array.replicate ops.size false) w.drew) (hstep : AllVC P ops.size ops A V I 0 ops.toList)
    (hend : ∀ listed w, (∀ i, i < ops.size → listed.getD i false = true) → I listed w → Q .normal A w) : (Code.region id ops true).wp P Q a0 w := by
  refine wp_region_inv hm hd (fun listed a w => ∃ u, a = actOf (dstOf ops) a0 u ops.size ∧ (∀ j, listed.getD j false = true → u j = V j) ∧ Closed ops listed ∧ I listed w) ?_ ?_ ?_
  · refine ⟨fun i => match dstOf ops i with
      | none => undef
      | some d => a0.eval (.tmp d), (actOf_self fun i d _ h => by simp only [h]).symm, fun j h => ?_, Closed.start _ _, h0⟩
    simp [Array.getD] at h
  · rintro listed a w i o hsz ho hf hdep ⟨u, rfl, hu, hC, hI⟩ K hK
    have hi := (Array.getElem?_eq_some_iff.1 ho).1
    have hdo : o.dst = dstOf ops i := by unfold dstOf; rw [ho]; rfl
    have hlk := looks_same (V := V) (a0 := a0) ha hr ho hdep hu
    rw [hA] at hlk
    have hK' : ∀ w', I (listed.setIfInBounds i true) w' → K ((actOf (dstOf ops) a0 u ops.size).put o.dst (V i)) w' := fun w' hI' => hK _ _ ⟨updV u i (V i), by rw [hdo]; exact put_actOf (apart_of ha) hi, updV_listed (by omega) hu, hC.step (by omega) ho hdep, hI'⟩
    rw [same_wanted hlk]
    have hst := AllVC.at (i := i) hstep (by simpa using ho) listed w hsz hC (by rw [Nat.zero_add]; exact getD_tf hf) hdep hI
    rw [Nat.zero_add] at hst
    rcases hst with ⟨hw, hst⟩ | ⟨hw, hv, hI'⟩
    · rw [if_pos hw]
      have hex := same_exec (fun cs b => Region.noSelect_spec hs i o cs b ho) hlk
      unfold Oper.wp
      rw [hex]
      rcases hst with ⟨w', h, hI'⟩ | ⟨w', hv, h, hI'⟩ | ⟨f, args, w', h, hc⟩
      · rw [h]; exact hK' _ hI'
      · rw [h]; rw [hv] at hK'; exact hK' _ hI'
      · rw [h, Oper.upon_enter]
        refine hc.mono fun e w'' hh => ?_
        obtain ⟨rfl, hI'⟩ := hh
        exact hK' _ hI'
    · rw [if_neg (by rw [hw]; exact Bool.false_ne_true)]
      rw [hv] at hK'
      exact hK' _ hI'
  · rintro listed a w hsz hl ⟨u, rfl, hu, _, hI⟩
    rw [show actOf (dstOf ops) a0 u ops.size = A by rw [← hA]; exact actOf_congr fun i hi => hu i (hl i hi)]
    exact hend _ _ hl hI
end
end Go.Proofs.Ytdoddpigiencjaa

