/-
  Contracts of package static: the first entry that is as asked.
-/
import Derived.Test.YtdoddpigiencjaaStat2
import Derived.RangeFuncBox
import Derived.RangeFuncWrites
namespace Go.Proofs.Ytdoddpigiencjaa
set_option linter.unusedVariables false
open Go.RowKit Go.Shelf

attribute [local go_sem] Oper.semAt_some

def FstIx (pr : Fld → Bool) (z : Int) : Prop := (z = 0 ∧ ∀ j, j < 61 → pr (fldAt j) = false) ∨ (∃ k : Nat, k < 61 ∧ z = (k : Int) + 1 ∧ pr (fldAt k) = true ∧ ∀ j, j < k → pr (fldAt j) = false)
def FstP (pr : Fld → Bool) (w : World) (e : Ending) (w' : World) : Prop := ∃ z, e = .returned (.int .i64 z) ∧ FstIx pr z ∧ Below w.heap.size w w'
structure FsI (w : World) (fv : Value) (pr : Fld → Bool) (pre : List (Nat × Fld)) (W : World) : Prop where
  no : ∀ p ∈ pre, pr p.2 = false
  b1 : Boxed W w.heap.size 86 fv
  b2 : Boxed W (w.heap.size + 1) 3 (.int .i64 0)
  bl : Below w.heap.size w W
theorem Below.grown_none {B : Nat} {w W W' : World} {row : Option Nat} (h : Below B w W) (hg : W.grownBy W' row) (hr : ∀ r, row = some r → B ≤ r) (hB : B ≤ W.heap.size) : Below B w W' := h.grown hg hB hr
set_option maxRecDepth 100000 in
set_option maxHeartbeats 4000000 in
theorem st_first (kf : FuncId) (caps : Array Value) (pr : Fld → Bool) (w : World) (hcf : ∀ args w, (callFunc kf args).run Try.prog w = .ok (.enter kf args) w)
    (hcall : ∀ (p : Fld) W, Below w.heap.size w W → Calls Try.prog kf (#[fldV p] ++ caps) W fun e W' => e = .returned (.bool (pr p)) ∧ Fresh W W') :
    Calls Try.prog 41 #[.func (.func kf) #[] caps] w (FstP pr w) := by
  refine (callsIn_wide (n := 6)).1 ?_
  refine callsIn_of_wp_marks Try.func41 rfl trivial ?_ rfl
  simp only [Try.ntmps41, List.size_toArray, List.length_cons, List.length_nil, Nat.reduceAdd, Nat.reduceSub, Array.replicate_succ, Array.replicate_zero, List.push_toArray, List.append_toArray, List.nil_append, List.cons_append]
  gi_wp2_with (refine ⟨trivial, ?_⟩; gi_at_call 62; refine (callsIn_wide.2 (st_all _)).mono ?_; rintro e w1 ⟨rfl, rfl⟩)
  have c1 := Boxed.new w 86 (.func (.func kf) #[] caps)
  have c2 := Boxed.new (w.alloc (.cells #[.func (.func kf) #[] caps] 86)) 3 (.int .i64 0)
  rw [World.size_alloc] at c2
  have hB0 : Below w.heap.size w ((w.alloc (.cells #[.func (.func kf) #[] caps] 86)).alloc (.cells #[.int .i64 0] 3)) := ((Below.refl _ w).alloc (Nat.le_refl _) _).alloc (by simp) _
  refine wpIn_rangeFunc_ownH rfl (by omega) (gf := 74) (lb := #[]) rfl trivial (enters_of Try.func74 (by kernel_rfl) rfl)
    (st_all1 5 (by omega) _) (fun _ _ => trivial) (fun _ _ _ _ _ _ _ _ => trivial) (Below.refl _ _) (fun _ => rfl)
    (fun pre W => ((∀ p ∈ pre, pr p.2 = false) ∧ Boxed W w.heap.size 86 (.func (.func kf) #[] caps) ∧ Boxed W (w.heap.size + 1) 3 (.int .i64 0)) ∧ Below w.heap.size w W)
    (fun c pre W => (c = .ret ∧ ∃ ini last, pre = ini ++ [last] ∧ (∀ p ∈ ini, pr p.2 = false) ∧ pr last.2 = true ∧ Boxed W (w.heap.size + 1) 3 (.int .i64 ((last.1 : Int) + 1))) ∧ Below w.heap.size w W)
    (OwnFrom.and (OwnFrom.and (ownFrom_pure _ _) (OwnFrom.and (Own.from (boxed_own _ _ _) _) (Own.from (boxed_own _ _ _) _))) (ownFrom_below (Nat.le_refl _) (by simp; omega)))
    (fun c => OwnFrom.and (fun s A B row hs hg hr => by
      obtain ⟨hc, ini, last, e1, e2, e3, e4⟩ := hs
      exact ⟨hc, ini, last, e1, e2, e3, boxed_own (β := Unit) _ _ (fun _ => .int .i64 ((last.1 : Int) + 1)) () A B row e4 hg (fun r e => (hr r e).2)⟩) (ownFrom_below (Nat.le_refl _) (by simp; omega)))
    ⟨⟨by simp, c1.alloc _, c2⟩, hB0⟩
    (fun x a' W => ∃ Bx, w.heap.size + 2 ≤ Bx ∧ Blk W Bx 26 #[.string x.2.1, .string x.2.2] ∧ a' = { tmps := #[.func (.func kf) #[] caps, .pointer (some ⟨w.heap.size, 0, none⟩), .pointer (some ⟨w.heap.size + 1, 0, none⟩), .int .i64 ((x.1 : Int) + 1), .pointer (some ⟨Bx, 0, none⟩), .func (.func 74) #[] #[], .int .i64 ((x.1 : Int) + 1), fldV x.2, undef, undef, undef, undef], defers := [] })
    (fun x a' => fun s A B row hs hg hr => by
      obtain ⟨Bx, h1, h2, h3⟩ := hs
      refine ⟨Bx, h1, ?_, h3⟩
      refine (hg.block Bx h2.lt (fun e => ?_)).trans h2
      obtain ⟨_, o, ho, hc⟩ := hr Bx e.symm
      rw [show A.heap[Bx]? = _ from h2] at ho
      cases ho
      cases hc)
    ?assign ?body ?done ?stop
  case assign =>
    rintro l pre x W K ⟨⟨hp, hb1, hb2⟩, hB⟩ hK
    have hsz := hb2.lt
    dsimp only [encF, fldV]
    gi_wp2
    exact hK _ _ ((KeepsOthers.alloc _ _).from _) trivial ⟨⟨hp, hb1.alloc _, hb2.alloc _⟩, hB.alloc hB.size _⟩ ⟨W.heap.size, by omega, Blk.new _ _ _, rfl⟩
  case body =>
    rintro l pre x a' W hl ⟨r, hr⟩ ⟨⟨hp, hb1, hb2⟩, hB⟩ ⟨Bx, hBx, hbx, rfl⟩ hlt
    have k1 := hb1.cell
    obtain ⟨x0, x1⟩ : W.cell? ⟨Bx, 0, none⟩ = some (.string x.2.1) ∧ W.cell? ⟨Bx, 1, none⟩ = some (.string x.2.2) := ⟨hbx.cell 0, hbx.cell 1⟩
    have hc := hcall x.2 W hB
    have hcf' := hcf
    dsimp only [fldV] at hc ⊢
    gi_wp2
    refine ⟨trivial, ?_⟩
    refine (CallsIn.inRound l (callsIn_wide.2 hc)).mono ?_
    rintro e w2 ⟨rfl, hf2⟩
    have hB2 : Below w.heap.size w w2 := Below.trans hB (hf2.mono hB.size)
    have hb1' : Boxed w2 w.heap.size 86 (.func (.func kf) #[] caps) := (Below.block hf2 _ hb1.lt).trans hb1
    have hb2' : Boxed w2 (w.heap.size + 1) 3 (.int .i64 0) := (Below.block hf2 _ hb2.lt).trans hb2
    have hk2 : KeepsOthers W w2 := KeepsOthers.of_grownBy hf2.grown (fun j o e => by cases e)
    have q1 := hb2'.cell
    have q2 := hb2'.frozen
    obtain ⟨b, hb⟩ : ∃ b, pr x.2 = b := ⟨_, rfl⟩
    rw [hb]
    have HB := Lib.hid hb
    clear hb hc
    cases b
    · gi_wp2
      exact ⟨hk2.from _, trivial, ⟨⟨fun p hp' => (List.mem_append.1 hp').elim (hp p) (fun e => by simp at e; subst e; exact HB.out), hb1', hb2'⟩, hB2⟩⟩
    · gi_wp2
      exact ⟨(hk2.trans (KeepsOthers.setCell _ _ _)).from _, ⟨⟨rfl, pre, x, rfl, hp, HB.out, hb2'.set _⟩, hB2.setCell (p := ⟨w.heap.size + 1, 0, none⟩) (by simp) _⟩⟩
  case done =>
    rintro D ys W hD rfl ⟨⟨hne, hb1, hb2⟩, hB⟩ hK
    have hsz := hb2.lt
    have q1 := hb2.cell
    have q2 := hb2.frozen
    have hb3 := hb2.set (.int .i64 0)
    gi_wp2
    have hK' := (KeepsOthers.setCell W ⟨w.heap.size + 1, 0, none⟩ (.int .i64 0)).same D _ hK rfl
    refine ⟨by simp, .inl ⟨_, _, rfl, run_takeDeferred hK', ?_⟩⟩
    have hc5 := cell_kept hb3.cell (grownBy_putObj' _ D (.deferred none)) (fun r e => by cases e; exact ⟨_, hK', rfl⟩)
    refine ⟨.int .i64 0, ?_, 0, rfl, .inl ⟨rfl, fun j hj => hne (j, fldAt j) (by simp only [upSt, List.mem_map, List.mem_range]; exact ⟨j, hj, rfl⟩)⟩, (hB.setCell (p := ⟨w.heap.size + 1, 0, none⟩) (by simp) _).trans (belowK_b (w := w) (Nat.le_refl _) _ D _ _ (by simp at hD; omega) hK' rfl rfl)⟩
    simp [results, Try.f41, go_sem, hc5]
  case stop =>
    rintro D c pre W hD ⟨k, hk, rfl⟩ ⟨⟨rfl, ini, last, e1, e2, e3, hb2⟩, hB⟩ hK
    gi_wp2
    refine ⟨by simp, .inl ⟨_, _, rfl, run_takeDeferred hK, ?_⟩⟩
    have hc5 := cell_kept hb2.cell (grownBy_putObj' _ D (.deferred none)) (fun r e => by cases e; exact ⟨_, hK, rfl⟩)
    obtain ⟨k', rfl⟩ : ∃ k', k = k' + 1 := by
      cases k with
      | zero => simp [upSt] at e1
      | succ k' => exact ⟨k', rfl⟩
    rw [upSt_succ] at e1
    obtain ⟨rfl, e5⟩ := List.append_inj' e1 rfl
    obtain rfl : (k', fldAt k') = last := by simpa using e5
    refine ⟨.int .i64 ((k' : Int) + 1), ?_, (k' : Int) + 1, rfl, .inr ⟨k', by omega, rfl, e3, fun j hj => e2 (j, fldAt j) (by simp only [upSt, List.mem_map, List.mem_range]; exact ⟨j, hj, rfl⟩)⟩, hB.trans (belowK_b (w := w) (Nat.le_refl _) W D _ _ (by simp at hD; omega) hK rfl rfl)⟩
    simp [results, Try.f41, go_sem, hc5]
end Go.Proofs.Ytdoddpigiencjaa

