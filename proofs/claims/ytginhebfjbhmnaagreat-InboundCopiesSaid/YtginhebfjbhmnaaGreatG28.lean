/-
  Texts laid together: Box Val2.
-/
import Derived.Test.YtginhebfjbhmnaaGreatG27
/-
  A region that draws its order and makes blocks: told by what each operation yields, where the new blocks' numbers stay open.
-/
namespace Go.Proofs.YtginhebfjbhmnaaGreat
set_option maxRecDepth 100000
set_option linter.unusedVariables false
open Go.RowKit

/-- A block that the region makes: by operation a; operation t stores into it (none, if t is out of reach). -/
structure Bx where
  (a t : Nat) (T : TypeId) (z f : Array Value)
def ptrV (p : Nat) : Value := .pointer (some ⟨p, 0, none⟩)
/-- What operation i yields, given the blocks' numbers. -/
def Vx (L : List (Nat → Value)) (s : Nat → Nat) (i : Nat) : Value := (L.getD i (fun _ => undef)) (s i)
def updN (s : Nat → Nat) (i p : Nat) : Nat → Nat := fun j => if j = i then p else s j
theorem updN_same (s : Nat → Nat) (i p : Nat) : updN s i p i = p := if_pos rfl
theorem updN_ne {s : Nat → Nat} {i j p : Nat} (h : j ≠ i) : updN s i p j = s j := if_neg h
theorem Vx_updN {L : List (Nat → Value)} {s : Nat → Nat} {i j p : Nat} (h : j ≠ i) : Vx L (updN s i p) j = Vx L s j := by unfold Vx; rw [updN_ne h]
structure RBx (W : World) (bx : List Bx) (listed : Array Bool) (s : Nat → Nat) (w : World) : Prop where
  fr : Fresh W w
  box : ∀ b ∈ bx, listed.getD b.a false = true → W.heap.size ≤ s b.a ∧ Blk w (s b.a) b.T (if listed.getD b.t false = true then b.f else b.z)
  ne : ∀ b ∈ bx, ∀ c ∈ bx, b.a ≠ c.a → listed.getD b.a false = true → listed.getD c.a false = true → s b.a ≠ s c.a
  late : ∀ b ∈ bx, listed.getD b.t false = true → listed.getD b.a false = true
/-- The numbers are apart. -/
def apartBx (n : Nat) (bx : List (Nat × Nat)) : Bool := bx.all fun b => decide (b.1 < n) && bx.all fun c => b.1 != c.2
def nodupBx : List (Nat × Nat) → Bool
  | [] => true
  | b :: r => (r.all fun c => b.1 != c.1 && b.2 != c.2) && nodupBx r
def Bx.at (b : Bx) : Nat × Nat := (b.a, b.t)
theorem nodup_a : ∀ {bx : List Bx}, nodupBx (bx.map Bx.at) = true → ∀ b ∈ bx, ∀ c ∈ bx, (b.a = c.a → b = c) ∧ (b.t = c.t → b = c)
  | [], _, b, hb, _, _ => by cases hb
  | x :: r, h, b, hb, c, hc => by
    simp only [List.map_cons, nodupBx, Bool.and_eq_true, List.all_eq_true, List.mem_map, forall_exists_index, and_imp, forall_apply_eq_imp_iff₂, bne_iff_ne, Bx.at] at h
    obtain ⟨h1, h2⟩ := h
    rcases List.mem_cons.1 hb with e1 | hb'
    · rcases List.mem_cons.1 hc with e2 | hc'
      · subst e1 e2
        exact ⟨fun _ => rfl, fun _ => rfl⟩
      · subst e1
        exact ⟨fun e => absurd e (h1 c hc').1, fun e => absurd e (h1 c hc').2⟩
    · rcases List.mem_cons.1 hc with e2 | hc'
      · subst e2
        exact ⟨fun e => absurd e.symm (h1 b hb').1, fun e => absurd e.symm (h1 b hb').2⟩
      · exact nodup_a h2 b hb' c hc'
theorem apart_a {n : Nat} {bx : List Bx} (h : apartBx n (bx.map Bx.at) = true) : ∀ b ∈ bx, b.a < n ∧ ∀ c ∈ bx, b.a ≠ c.t := by
  intro b hb
  simp only [apartBx, List.all_eq_true, List.mem_map, forall_exists_index, and_imp, forall_apply_eq_imp_iff₂, Bool.and_eq_true, decide_eq_true_eq, bne_iff_ne, Bx.at] at h
  exact ⟨(h b hb).1, fun c hc => (h b hb).2 c hc⟩
section
variable {W w w' : World} {bx : List Bx} {listed : Array Bool} {s : Nat → Nat} {n : Nat}
theorem RBx.normal (h : RBx W bx listed s w) (hf : Fresh w w') (hs : listed.size = n) {i : Nat} (hi : i < n) (hn : ∀ b ∈ bx, b.a ≠ i ∧ b.t ≠ i) : RBx W bx (listed.setIfInBounds i true) s w' := by
  refine ⟨h.fr.trans hf, fun b hb hl => ?_, fun b hb c hc hne hl hl' => ?_, fun b hb hl => ?_⟩
  · rw [getD_set _ _ _ _ (by omega), if_neg (hn b hb).1] at hl
    rw [getD_set _ _ _ _ (by omega), if_neg (hn b hb).2]
    exact ⟨(h.box b hb hl).1, (h.box b hb hl).2.fresh hf⟩
  · rw [getD_set _ _ _ _ (by omega), if_neg (hn b hb).1] at hl
    rw [getD_set _ _ _ _ (by omega), if_neg (hn c hc).1] at hl'
    exact h.ne b hb c hc hne hl hl'
  · rw [getD_set _ _ _ _ (by omega), if_neg (hn b hb).2] at hl
    rw [getD_set _ _ _ _ (by omega), if_neg (hn b hb).1]
    exact h.late b hb hl
theorem RBx.make (h : RBx W bx listed s w) (ha : apartBx n (bx.map Bx.at) = true) (hd : nodupBx (bx.map Bx.at) = true) (hs : listed.size = n) {b0 : Bx} (hb0 : b0 ∈ bx) (hl0 : listed.getD b0.a false = false) {p : Nat} (hp : w.heap.size ≤ p) (hf : Fresh w w') (hk : Blk w' p b0.T b0.z) :
    RBx W bx (listed.setIfInBounds b0.a true) (updN s b0.a p) w' := by
  have hi := (apart_a ha b0 hb0).1
  have ht : ∀ c ∈ bx, c.t ≠ b0.a := fun c hc e => (apart_a ha b0 hb0).2 c hc e.symm
  have hlt : ∀ c ∈ bx, listed.getD c.a false = true → s c.a < w.heap.size := fun c hc hl => (h.box c hc hl).2.lt
  refine ⟨h.fr.trans hf, fun b hb hl => ?_, fun b hb c hc hne hl hl' => ?_, fun b hb hl => ?_⟩
  · rw [getD_set _ _ _ _ (by omega), if_neg (ht b hb)]
    by_cases e : b.a = b0.a
    · have := (nodup_a hd b hb b0 hb0).1 e
      subst this
      rw [updN_same]
      refine ⟨Nat.le_trans (Below.size h.fr) hp, ?_⟩
      rw [if_neg (fun hh => by rw [h.late b hb hh] at hl0; cases hl0)]
      exact hk
    · rw [getD_set _ _ _ _ (by omega), if_neg e] at hl
      rw [updN_ne e]
      exact ⟨(h.box b hb hl).1, (h.box b hb hl).2.fresh hf⟩
  · rw [getD_set _ _ _ _ (by omega)] at hl hl'
    by_cases e : b.a = b0.a
    · rw [if_neg (by omega)] at hl'
      rw [e, updN_same, updN_ne (by omega)]
      have := hlt c hc hl'
      omega
    · rw [if_neg e] at hl
      rw [updN_ne e]
      by_cases e' : c.a = b0.a
      · rw [e', updN_same]
        have := hlt b hb hl
        omega
      · rw [if_neg e'] at hl'
        rw [updN_ne e']
        exact h.ne b hb c hc hne hl hl'
  · rw [getD_set _ _ _ _ (by omega), if_neg (ht b hb)] at hl
    rw [getD_set _ _ _ _ (by omega)]
    split
    · rfl
    · exact h.late b hb hl
theorem RBx.put (h : RBx W bx listed s w) (ha : apartBx n (bx.map Bx.at) = true) (hd : nodupBx (bx.map Bx.at) = true) (hs : listed.size = n) {b0 : Bx} (hb0 : b0 ∈ bx) (hi : b0.t < n) (hl0 : listed.getD b0.a false = true) (hf : Only (· = s b0.a) w w') (hk : Blk w' (s b0.a) b0.T b0.f) :
    RBx W bx (listed.setIfInBounds b0.t true) s w' := by
  have hne : ∀ b ∈ bx, b.a ≠ b0.t := fun b hb => (apart_a ha b hb).2 b0 hb0
  refine ⟨?_, fun b hb hl => ?_, fun b hb c hc hn hl hl' => ?_, fun b hb hl => ?_⟩
  · exact Only.fresh ((Only.of_fresh h.fr).trans' hf (S := (· = s b0.a)) fun i _ hi => hi) fun k hk e => by have := (h.box b0 hb0 hl0).1; omega
  · rw [getD_set _ _ _ _ (by omega), if_neg (hne b hb)] at hl
    by_cases e : b.t = b0.t
    · have := (nodup_a hd b hb b0 hb0).2 e
      subst this
      rw [getD_set _ _ _ _ (by omega), if_pos rfl, if_pos rfl]
      exact ⟨(h.box b hb hl).1, hk⟩
    · rw [getD_set _ _ _ _ (by omega), if_neg e]
      refine ⟨(h.box b hb hl).1, (h.box b hb hl).2.only hf (fun ee => ?_)⟩
      refine h.ne b hb b0 hb0 (fun e2 => ?_) hl hl0 ee
      have := (nodup_a hd b hb b0 hb0).1 e2
      exact e (by rw [this])
  · rw [getD_set _ _ _ _ (by omega), if_neg (hne b hb)] at hl
    rw [getD_set _ _ _ _ (by omega), if_neg (hne c hc)] at hl'
    exact h.ne b hb c hc hn hl hl'
  · rw [getD_set _ _ _ _ (by omega), if_neg (hne b hb)]
    rw [getD_set _ _ _ _ (by omega)] at hl
    by_cases e : b.t = b0.t
    · have := (nodup_a hd b hb b0 hb0).2 e
      subst this
      exact hl0
    · rw [if_neg e] at hl
      exact h.late b hb hl
end
/-- An operation that makes a block. -/
inductive MakeV (P : Program) (o : Oper) (ρ : Operand → Value) (F : Nat → Value) (T : TypeId) (z : Array Value) (w : World) : Prop where
  | alloc (h : (execOp ρ o).run P w = .ok (.value (F w.heap.size)) (w.alloc (.cells z T)))
  | call (f : FuncId) (args : Array Value) (h : (execOp ρ o).run P w = .ok (.enter f args) w) (hc : Calls P f args w fun e w'' => ∃ p, e = .returned (F p) ∧ w.heap.size ≤ p ∧ Blk w'' p T z ∧ Fresh w w'')
def DepsIn (o : Oper) (listed : Array Bool) : Prop := ∀ e ∈ o.after, Region.binds .any e = true → listed.getD e.on false = true
/-- All other operations, one by one. -/
def AllN (P : Program) (ops : Array Oper) (A : (Nat → Nat) → Act) (L : List (Nat → Value)) (W : World) (bx : List Bx) : Nat → List Oper → Prop
  | _, [] => True
  | i, o :: os => ((bx.any fun b => b.a == i || b.t == i) = true ∨ ∀ listed s w, RBx W bx listed s w → DepsIn o listed → (Region.wanted o (yielded ops (A s).tmps) = true ∧ StepV P o (A s).eval (Vx L s i) (fun w' => Fresh w w') w) ∨ (Region.wanted o (yielded ops (A s).tmps) = false ∧ Vx L s i = undef)) ∧ AllN P ops A L W bx (i + 1) os
/-- The operations that make blocks, or store into them. -/
def AllM (P : Program) (ops : Array Oper) (A : (Nat → Nat) → Act) (L : List (Nat → Value)) (W : World) (bx : List Bx) : List Bx → Prop
  | [] => True
  | b :: r => ((∃ o, ops[b.a]? = some o ∧ o.guard = none ∧ ∀ listed s w, RBx W bx listed s w → DepsIn o listed → MakeV P o (A s).eval (L.getD b.a fun _ => undef) b.T b.z w) ∧
      (ops.size ≤ b.t ∨ ∃ o, ops[b.t]? = some o ∧ o.guard = none ∧ (o.after.any fun e => e.on == b.a && Region.binds .any e) = true ∧ ∀ listed s w, RBx W bx listed s w → DepsIn o listed → Blk w (s b.a) b.T b.z → Vx L s b.t = undef ∧ ∃ w', (execOp (A s).eval o).run P w = .ok .skip w' ∧ Blk w' (s b.a) b.T b.f ∧ Only (· = s b.a) w w')) ∧ AllM P ops A L W bx r
section
variable {P : Program} {ops : Array Oper} {A : (Nat → Nat) → Act} {L : List (Nat → Value)} {W : World} {bx : List Bx}
theorem AllN.at : ∀ {l : List Oper} {k i : Nat} {o : Oper}, AllN P ops A L W bx k l → l[i]? = some o → ((bx.any fun b => b.a == k + i || b.t == k + i) = true ∨ ∀ listed s w, RBx W bx listed s w → DepsIn o listed → (Region.wanted o (yielded ops (A s).tmps) = true ∧ StepV P o (A s).eval (Vx L s (k + i)) (fun w' => Fresh w w') w) ∨ (Region.wanted o (yielded ops (A s).tmps) = false ∧ Vx L s (k + i) = undef))
  | [], _, _, _, _, h => by simp at h
  | x :: l, k, 0, o, h, ho => by
    simp at ho
    subst ho
    exact h.1
  | x :: l, k, i + 1, o, h, ho => by
    have := AllN.at (i := i) h.2 (by simpa using ho)
    rw [show k + 1 + i = k + (i + 1) by omega] at this
    exact this
theorem AllM.at : ∀ {l : List Bx}, AllM P ops A L W bx l → ∀ b ∈ l, ((∃ o, ops[b.a]? = some o ∧ o.guard = none ∧ ∀ listed s w, RBx W bx listed s w → DepsIn o listed → MakeV P o (A s).eval (L.getD b.a fun _ => undef) b.T b.z w) ∧
      (ops.size ≤ b.t ∨ ∃ o, ops[b.t]? = some o ∧ o.guard = none ∧ (o.after.any fun e => e.on == b.a && Region.binds .any e) = true ∧ ∀ listed s w, RBx W bx listed s w → DepsIn o listed → Blk w (s b.a) b.T b.z → Vx L s b.t = undef ∧ ∃ w', (execOp (A s).eval o).run P w = .ok .skip w' ∧ Blk w' (s b.a) b.T b.f ∧ Only (· = s b.a) w w'))
  | [], _, b, hb => by cases hb
  | x :: r, h, b, hb => by
    rcases List.mem_cons.1 hb with rfl | hb
    · exact h.1
    · exact AllM.at h.2 b hb
theorem wp_region_boxes {Q : Exit → Act → World → Prop} {id : Nat} {a0 : Act} (hm : P.follows .mixedOrders = true) (hd : dagB .any ops = true) (ha : apartB ops = true) (hr : readsB ops = true) (hs : Region.noSelect ops = true)
    (L : List (Nat → Value)) (bx : List Bx) (hba : apartBx ops.size (bx.map Bx.at) = true) (hbn : nodupBx (bx.map Bx.at) = true) (A : (Nat → Nat) → Act) (hA : ∀ s, actOf (dstOf ops) a0 (Vx L s) ops.size = A s)
    (hN : AllN P ops A L W bx 0 ops.toList) (hM : AllM P ops A L W bx bx)
    (hend : ∀ listed s w, (∀ i, i < ops.size → listed.getD i false = true) → RBx W bx listed s w → Q .normal (A s) w) : (Code.region id ops true).wp P Q a0 W := by
  refine wp_region_inv hm hd (fun listed a w => ∃ u s, a = actOf (dstOf ops) a0 u ops.size ∧ (∀ j, listed.getD j false = true → u j = Vx L s j) ∧ RBx W bx listed s w) ?_ ?_ ?_
  · refine ⟨fun i => match dstOf ops i with
      | none => undef
      | some d => a0.eval (.tmp d), fun _ => 0, (actOf_self fun i d _ h => by simp only [h]).symm, fun j h => ?_, Fresh.drew _, fun b _ h => ?_, fun b _ c _ _ h => ?_, fun b _ h => ?_⟩
    all_goals simp [Array.getD] at h
  · rintro listed a w i o hsz ho hf hdep ⟨u, s, rfl, hu, hR⟩ K hK
    have hi := (Array.getElem?_eq_some_iff.1 ho).1
    have hdo : o.dst = dstOf ops i := by unfold dstOf; rw [ho]; rfl
    have hlk := looks_same (V := Vx L s) (a0 := a0) ha hr ho hdep hu
    rw [hA] at hlk
    have hK' : ∀ s' w' v, v = Vx L s' i → (∀ j, j ≠ i → Vx L s' j = Vx L s j) → RBx W bx (listed.setIfInBounds i true) s' w' → K ((actOf (dstOf ops) a0 u ops.size).put o.dst v) w' := by
      rintro s' w' v rfl hV hR'
      refine hK _ _ ⟨updV u i (Vx L s' i), s', by rw [hdo]; exact actOf_put (apart_of ha) hi, fun j hj => ?_, hR'⟩
      rw [getD_set _ _ _ _ (by omega)] at hj
      by_cases e : j = i
      · subst e; exact updV_same _ _ _
      · rw [if_neg e] at hj
        rw [updV_ne e, hu j hj, hV j e]
    rw [same_wanted hlk]
    have hex := same_exec (fun cs b => Region.noSelect_spec hs i o cs b ho) hlk
    by_cases hbx : ∃ b ∈ bx, b.a = i ∨ b.t = i
    · obtain ⟨b, hb, hbi⟩ := hbx
      obtain ⟨⟨oa, hoa, hga, hra⟩, hst⟩ := AllM.at hM b hb
      rcases hbi with rfl | rfl
      · rw [hoa] at ho
        obtain rfl := Option.some.inj ho
        rw [if_pos (by simp [Region.wanted, hga])]
        have hlf : listed.getD b.a false = false := getD_tf hf
        unfold Oper.wp
        rw [hex]
        rcases hra listed s w hR hdep with h | ⟨f, args, h, hc⟩
        · rw [h]
          refine hK' (updN s b.a w.heap.size) _ _ ?_ (fun j hj => Vx_updN hj) (hR.make hba hbn hsz hb hlf (Nat.le_refl _) (Fresh.alloc _ _) (Blk.new _ _ _))
          unfold Vx
          rw [updN_same]
        · rw [h, Oper.upon_enter]
          refine hc.mono fun e w'' hh => ?_
          obtain ⟨p, rfl, hp, hk, hf2⟩ := hh
          refine hK' (updN s b.a p) _ _ ?_ (fun j hj => Vx_updN hj) (hR.make hba hbn hsz hb hlf hp hf2 hk)
          unfold Vx
          rw [updN_same]
      · rcases hst with h | ⟨ot, hot, hgt, hdp, hrt⟩
        · omega
        · rw [hot] at ho
          obtain rfl := Option.some.inj ho
          rw [if_pos (by simp [Region.wanted, hgt])]
          obtain ⟨e, he, hh⟩ := Array.any_eq_true'.1 hdp
          simp only [Bool.and_eq_true, beq_iff_eq] at hh
          have hla : listed.getD b.a false = true := by rw [← hh.1]; exact hdep e he hh.2
          have hbk := (hR.box b hb hla).2
          rw [if_neg (by rw [getD_tf hf]; exact Bool.false_ne_true)] at hbk
          obtain ⟨hv, w', h, hk, hon⟩ := hrt listed s w hR hdep hbk
          unfold Oper.wp
          rw [hex, h]
          exact hK' s w' undef hv.symm (fun j _ => rfl) (hR.put hba hbn hsz hb hi hla hon hk)
    · have hn : ∀ b ∈ bx, b.a ≠ i ∧ b.t ≠ i := fun b hb => ⟨fun e => hbx ⟨b, hb, .inl e⟩, fun e => hbx ⟨b, hb, .inr e⟩⟩
      have hst := AllN.at (i := i) hN (by simpa using ho)
      rw [Nat.zero_add] at hst
      rcases hst with h | hst
      · obtain ⟨b, hb, h⟩ := List.any_eq_true.1 h
        simp only [Bool.or_eq_true, beq_iff_eq] at h
        rcases h with h | h
        · exact absurd h (hn b hb).1
        · exact absurd h (hn b hb).2
      · rcases hst listed s w hR hdep with ⟨hw, hst⟩ | ⟨hw, hv⟩
        · rw [if_pos hw]
          unfold Oper.wp
          rw [hex]
          rcases hst with ⟨w', h, hI'⟩ | ⟨w', hv, h, hI'⟩ | ⟨f, args, w', h, hc⟩
          · rw [h]; exact hK' s _ _ rfl (fun j _ => rfl) (hR.normal hI' hsz hi hn)
          · rw [h]; exact hK' s _ _ hv.symm (fun j _ => rfl) (hR.normal hI' hsz hi hn)
          · rw [h, Oper.upon_enter]
            refine hc.mono fun e w'' hh => ?_
            obtain ⟨rfl, hI'⟩ := hh
            exact hK' s _ _ rfl (fun j _ => rfl) (hR.normal hI' hsz hi hn)
        · rw [if_neg (by rw [hw]; exact Bool.false_ne_true)]
          exact hK' s _ _ hv.symm (fun j _ => rfl) (hR.normal (Fresh.refl _) hsz hi hn)
  · rintro listed a w hsz hl ⟨u, s, rfl, hu, hR⟩
    rw [show actOf (dstOf ops) a0 u ops.size = A s by rw [← hA]; exact actOf_congr fun i hi => hu i (hl i hi)]
    exact hend listed s w hl hR
end
end Go.Proofs.YtginhebfjbhmnaaGreat

/-
  A region that draws its order, told by values, where what holds of the world hangs on what has come up (a store into a block that stood).
-/
namespace Go.Proofs.YtginhebfjbhmnaaGreat
set_option maxRecDepth 100000
set_option linter.unusedVariables false
open Go.RowKit

def AllVL (P : Program) (n : Nat) (ops : Array Oper) (A : Act) (V : Nat → Value) (I : Array Bool → World → Prop) : Nat → List Oper → Prop
  | _, [] => True
  | i, o :: os => (∀ listed w, listed.size = n → listed.getD i false = false → DepsIn o listed → I listed w →
      (Region.wanted o (yielded ops A.tmps) = true ∧ StepV P o A.eval (V i) (I (listed.setIfInBounds i true)) w) ∨ (Region.wanted o (yielded ops A.tmps) = false ∧ V i = undef ∧ I (listed.setIfInBounds i true) w)) ∧ AllVL P n ops A V I (i + 1) os
section
variable {P : Program} {n : Nat} {ops : Array Oper} {A : Act} {V : Nat → Value} {I : Array Bool → World → Prop}
theorem AllVL.at : ∀ {l : List Oper} {k i : Nat} {o : Oper}, AllVL P n ops A V I k l → l[i]? = some o → ∀ listed w, listed.size = n → listed.getD (k + i) false = false → DepsIn o listed → I listed w →
      (Region.wanted o (yielded ops A.tmps) = true ∧ StepV P o A.eval (V (k + i)) (I (listed.setIfInBounds (k + i) true)) w) ∨ (Region.wanted o (yielded ops A.tmps) = false ∧ V (k + i) = undef ∧ I (listed.setIfInBounds (k + i) true) w)
  | [], _, _, _, _, h => by simp at h
  | x :: l, k, 0, o, h, ho => by
    simp at ho
    subst ho
    exact h.1
  | x :: l, k, i + 1, o, h, ho => by
    have := AllVL.at (i := i) h.2 (by simpa using ho)
    rw [show k + 1 + i = k + (i + 1) by omega] at this
    exact this
theorem wp_region_valsL {Q : Exit → Act → World → Prop} {id : Nat} {a0 : Act} {w : World} (hm : P.follows .mixedOrders = true) (hd : dagB .any ops = true) (ha : apartB ops = true) (hr : readsB ops = true) (hs : Region.noSelect ops = true)
    (V : Nat → Value) (A : Act) (hA : actOf (dstOf ops) a0 V ops.size = A) (I : Array Bool → World → Prop) (h0 : I (Array.replicate ops.size false) w.drew) (hstep : AllVL P ops.size ops A V I 0 ops.toList)
    (hend : ∀ listed w, (∀ i, i < ops.size → listed.getD i false = true) → I listed w → Q .normal A w) : (Code.region id ops true).wp P Q a0 w := by
  refine wp_region_inv hm hd (fun listed a w => ∃ u, a = actOf (dstOf ops) a0 u ops.size ∧ (∀ j, listed.getD j false = true → u j = V j) ∧ I listed w) ?_ ?_ ?_
  · refine ⟨fun i => match dstOf ops i with
      | none => undef
      | some d => a0.eval (.tmp d), (actOf_self fun i d _ h => by simp only [h]).symm, fun j h => ?_, h0⟩
    simp [Array.getD] at h
  · rintro listed a w i o hsz ho hf hdep ⟨u, rfl, hu, hI⟩ K hK
    have hi := (Array.getElem?_eq_some_iff.1 ho).1
    have hdo : o.dst = dstOf ops i := by unfold dstOf; rw [ho]; rfl
    have hlk := looks_same (V := V) (a0 := a0) ha hr ho hdep hu
    rw [hA] at hlk
    have hK' : ∀ w', I (listed.setIfInBounds i true) w' → K ((actOf (dstOf ops) a0 u ops.size).put o.dst (V i)) w' := fun w' hI' => hK _ _ ⟨updV u i (V i), by rw [hdo]; exact put_actOf (apart_of ha) hi, updV_listed (by omega) hu, hI'⟩
    rw [same_wanted hlk]
    have hst := AllVL.at (i := i) hstep (by simpa using ho) listed w hsz (by rw [Nat.zero_add]; exact getD_tf hf) hdep hI
    rw [Nat.zero_add] at hst
    rcases hst with ⟨hw, hst⟩ | ⟨hw, hv, hI'⟩
    · rw [if_pos hw]
      have hex := same_exec (fun cs b => Region.noSelect_spec hs i o cs b ho) hlk
      unfold Oper.wp
      rw [hex]
      rcases hst with ⟨w', h, hI'⟩ | ⟨w', hv, h, hI'⟩ | ⟨f, args, w', h, hc⟩
      · rw [h]; exact hK' _ hI'
      · rw [h]; rw [hv] at hK'; exact hK' _ hI'
      · rw [h, Oper.upon_enter]
        refine hc.mono fun e w'' hh => ?_
        obtain ⟨rfl, hI'⟩ := hh
        exact hK' _ hI'
    · rw [if_neg (by rw [hw]; exact Bool.false_ne_true)]
      rw [hv] at hK'
      exact hK' _ hI'
  · rintro listed a w hsz hl ⟨u, rfl, hu, hI⟩
    rw [show actOf (dstOf ops) a0 u ops.size = A by rw [← hA]; exact actOf_congr fun i hi => hu i (hl i hi)]
    exact hend _ _ hl hI
end
/-- One store, at place t: ahead of it x holds, behind it y. -/
def Once (t : Nat) (x y : World → Prop) (L : Array Bool) (w : World) : Prop := if L.getD t false = true then y w else x w
theorem Once.keep {t i n : Nat} {x y : World → Prop} {L : Array Bool} {w w' : World} (h : Once t x y L w) (hs : L.size = n) (hi : i < n) (hne : t ≠ i) (hx : x w → x w') (hy : y w → y w') : Once t x y (L.setIfInBounds i true) w' := by
  unfold Once at *
  rw [getD_set _ _ _ _ (by omega), if_neg hne]
  split
  · rename_i hh; rw [if_pos hh] at h; exact hy h
  · rename_i hh; rw [if_neg hh] at h; exact hx h
theorem Once.put {t n : Nat} {x y : World → Prop} {L : Array Bool} {w' : World} (hs : L.size = n) (hi : t < n) (hy : y w') : Once t x y (L.setIfInBounds t true) w' := by
  unfold Once
  rw [getD_set _ _ _ _ (by omega), if_pos rfl, if_pos rfl]
  exact hy
theorem Once.ahead {t : Nat} {x y : World → Prop} {L : Array Bool} {w : World} (h : Once t x y L w) (hl : L.getD t false = false) : x w := by
  unfold Once at h
  rwa [if_neg (by rw [hl]; exact Bool.false_ne_true)] at h
theorem Once.behind {t : Nat} {x y : World → Prop} {L : Array Bool} {w : World} (h : Once t x y L w) (hl : L.getD t false = true) : y w := by
  unfold Once at h
  rwa [if_pos hl] at h
theorem Once.any {t : Nat} {x y z : World → Prop} {L : Array Bool} {w : World} (h : Once t x y L w) (hx : x w → z w) (hy : y w → z w) : z w := by
  unfold Once at h
  split at h
  · exact hy h
  · exact hx h
theorem Once.start {t n : Nat} {x y : World → Prop} {w : World} (h : x w) : Once t x y (Array.replicate n false) w := by
  unfold Once
  rw [if_neg (by simp [Array.getD])]
  exact h
end Go.Proofs.YtginhebfjbhmnaaGreat

