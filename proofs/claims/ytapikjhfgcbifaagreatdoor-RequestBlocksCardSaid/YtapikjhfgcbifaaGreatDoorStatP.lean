/-
  Texts laid together: Stat2 Stat3 Stat4 Stat5.
-/
import Derived.Test.YtapikjhfgcbifaaGreatDoorStat
import Derived.RangeFuncNested
import Derived.RangeFuncBound
import Derived.RangeFuncCalls
import Derived.RangeFuncLeaves
import Derived.Shelf.Abstract
import Derived.Shelf.RegionOpen
import Derived.WalkKit
import Derived.OwnWalkIn
import Derived.TacticsInMore
import Derived.LoopNIn
import Derived.LoopIn
import Derived.RangeFuncBox
import Derived.RangeFuncWrites
import Derived.Test.YtapikjhfgcbifaaGreatDoorChain
import Derived.Test.YtapikjhfgcbifaaGreatDoorMake
import Derived.Deep.Draws
import Derived.BigQuiet
import Derived.Test.YtapikjhfgcbifaaGreatDoorShapeW
import Derived.Deep.RegionHeld3
/-
  Contracts of package static: the iterator over the table.
-/
namespace Go.Proofs.YtapikjhfgcbifaaGreatDoor
set_option linter.unusedVariables false
open Go.RowKit Go.Shelf

attribute [local go_sem] Oper.semAt_some

abbrev Fld := ByteArray × ByteArray
def fldAt (k : Nat) : Fld := tblF.getD k (⟨#[]⟩, ⟨#[]⟩)
def fldV (p : Fld) : Value := .agg #[.string p.1, .string p.2]
def upSt (k : Nat) : List (Nat × Fld) := (List.range k).map fun j => (j, fldAt j)
theorem upSt_succ (k : Nat) : upSt (k + 1) = upSt k ++ [(k, fldAt k)] := by simp [upSt, List.range_succ]
theorem upSt_length (k : Nat) : (upSt k).length = k := by simp [upSt]
def encF (x : Nat × Fld) : Array Value := #[.int .i64 ((x.1 : Int) + 1), .agg #[.string x.2.1, .string x.2.2]]
theorem flat2_get (L : List Fld) (k : Nat) (h : k < L.length) : ((L.flatMap fldC).drop (k * 2)).take 2 = fldC L[k] := by
  induction L generalizing k with
  | nil => simp at h
  | cons p L ih =>
    cases k with
    | zero => simp [fldC]
    | succ k =>
      have h2 : (fldC p).length = 2 := rfl
      rw [List.flatMap_cons, List.drop_append, h2, show (k + 1) * 2 - 2 = k * 2 by omega, List.drop_eq_nil_of_le (by rw [h2]; omega), List.nil_append, ih k (by simpa using h)]
      simp
theorem tblF_len : tblF.length = 61 := by rfl
theorem tbl_cut (k : Nat) (hk : k < 61) : tblC.extract (k * 2) (k * 2 + 2) = #[.string (fldAt k).1, .string (fldAt k).2] := by
  have h := flat2_get tblF k (by rw [tblF_len]; exact hk)
  apply Array.toList_inj.1
  rw [Array.toList_extract]
  have e : tblC.toList = tblF.flatMap fldC := rfl
  rw [e]
  simp only [List.extract, Nat.add_sub_cancel_left]
  rw [h]
  have : fldAt k = tblF[k]'(by rw [tblF_len]; exact hk) := by simp [fldAt, tblF_len, hk]
  rw [this]
  rfl
theorem run_index_agg {P : Program} {w : World} {t e : TypeId} {n k sz : Nat} {cs : Array Value} {fs : Array Field} {i : TypeInfo} (ht : P.underlying t = some (.array n e)) (he : P.underlying e = some (.struct fs)) (hi : P.info? e = some i) (hs : i.size = sz) (hk : k < n) :
    (Instr.index t (.agg cs) (.int .i64 (k : Int))).run P w = .ok (.agg (cs.extract (k * sz) (k * sz + sz))) w := by
  have h1 : (0 : Int) ≤ (k : Int) ∧ (k : Int) < (n : Int) := by omega
  simp [Instr.index, run_underlying ht, run_underlying he, asIntOf, h1, part, isAgg, sizeOf, typeInfo, hi, hs, hk, go_sem]
theorem ix_tbl (k : Nat) (hk : k < 61) (W : World) : (Instr.index 139 (.agg tblC) (.int .i64 (k : Int))).run Tryz.prog W = .ok (.agg #[.string (fldAt k).1, .string (fldAt k).2]) W := by
  obtain ⟨i, hi, his⟩ : ∃ i, Tryz.prog.info? 29 = some i ∧ i.size = 2 := by
    have h : (Tryz.prog.info? 29).map (·.size) = some 2 := by kernel_rfl
    cases hh : Tryz.prog.info? 29 with
    | none => rw [hh] at h; cases h
    | some i => rw [hh] at h; exact ⟨i, rfl, by simpa using h⟩
  rw [run_index_agg Tryz.underlying139 Tryz.underlying29 hi his hk, tbl_cut k hk]
theorem Fresh.grown {w w' : World} (h : Fresh w w') : w.grownBy w' none := ⟨Below.os h, Below.tape h, Below.output h, Below.size h, fun k hk _ => Below.block h k hk⟩
theorem st_all (w : World) : Calls Tryz.prog 96 #[] w fun e w' => e = .returned (.func (.func 109) #[] #[]) ∧ w = w' := by
  go_enter Tryz.func96, Tryz.ntmps96
  go_wp2
  go_ret
  exact ⟨rfl, rfl⟩
set_option maxRecDepth 100000 in
set_option maxHeartbeats 2000000 in
theorem st_all1 (n : Nat) (hn : 2 ≤ n) (w : World) :
    SeqStopsK Fence.wide n Tryz.prog 109 #[] encF (fun _ _ => True) (fun ys => ys = upSt 61) (fun pre => ∃ k, k ≤ 61 ∧ pre = upSt k) 61 w := fun l J Jx W hW hJ hJx hY h0 => by
  have hgo : ∀ (pre : List (Nat × Fld)) (W W' : World), J pre W → Fresh W W' → J pre W' := fun pre W W' hj hf => hJ pre W W' none hj hf.grown (fun r e => by cases e)
  refine callsIn_of_wp Tryz.func109 rfl trivial ?_ rfl
  simp only [Tryz.ntmps109, List.size_toArray, List.length_cons, List.length_nil, Nat.reduceAdd, Nat.reduceSub, Array.replicate_succ, Array.replicate_zero, List.push_toArray, List.append_toArray, List.nil_append, List.cons_append]
  gi_wp2_with (refine ⟨trivial, fun h => (by cases h), ?_⟩; gi_at_call 110; refine (callsIn_wide.2 (st_table _)).mono ?_; rintro e w1 ⟨rfl, hf1⟩; have hJ1 := hgo _ _ _ h0 hf1; clear h0 hf1)
  gi_loopw [5] (fun i wr => ∃ k : Nat, k ≤ 61 ∧ i = .int .i64 k ∧ J (upSt k) wr) (fun i _ => 61 - (intOf i).toNat)
  case atStart => exact ⟨0, Nat.zero_le _, rfl, hJ1⟩
  case round =>
    obtain ⟨k, hk, rfl, hJs⟩ := hrel
    by_cases hlt : k < 61
    · have hix := ix_tbl k hlt
      have hw : IntKind.i64.wrap ((k : Int) + 1) = (k : Int) + 1 := by rw [IntKind.wrap_i64]; omega
      obtain ⟨fn, tmps, assign, body, hy, hR⟩ := hY _ (k, fldAt k) (wr.alloc (.cells #[.string (fldAt k).1, .string (fldAt k).2] 29)) (hgo _ _ _ hJs (Fresh.alloc _ _)) (by rw [upSt_length]; exact hlt)
      dsimp only [encF] at hy
      have HU := Lib.hid (upSt_succ k)
      generalize fldAt k = fk at *
      gi_wp2
      refine ⟨fun h => (by cases h), ?_⟩
      refine hR.mono ?_
      rintro e W3 (⟨rfl, hJ3, _⟩ | ⟨rfl, hJx3⟩)
      · gi_wp2
        go_roundw
        case rel => exact ⟨k + 1, by omega, by simp, by rw [HU.out]; exact hJ3⟩
        case measure => simp [intOf]; omega
      · gi_wp2
        refine bodyPost_ret (results_none rfl _ _ _) rfl ?_
        exact ⟨⟨_, rfl⟩, .inr ⟨_, ⟨k + 1, by omega, HU.out.symm⟩, hJx3⟩⟩
    · obtain rfl : k = 61 := by omega
      gi_wp2
      go_end0
      exact ⟨⟨_, rfl⟩, .inl ⟨_, rfl, hJs⟩⟩
end Go.Proofs.YtapikjhfgcbifaaGreatDoor

/-
  Contracts of package static: the first entry that is as asked.
-/
namespace Go.Proofs.YtapikjhfgcbifaaGreatDoor
set_option linter.unusedVariables false
open Go.RowKit Go.Shelf

attribute [local go_sem] Oper.semAt_some

def FstIx (pr : Fld → Bool) (z : Int) : Prop := (z = 0 ∧ ∀ j, j < 61 → pr (fldAt j) = false) ∨ (∃ k : Nat, k < 61 ∧ z = (k : Int) + 1 ∧ pr (fldAt k) = true ∧ ∀ j, j < k → pr (fldAt j) = false)
def FstP (pr : Fld → Bool) (w : World) (e : Ending) (w' : World) : Prop := ∃ z, e = .returned (.int .i64 z) ∧ FstIx pr z ∧ Below w.heap.size w w'
structure FsI (w : World) (fv : Value) (pr : Fld → Bool) (pre : List (Nat × Fld)) (W : World) : Prop where
  no : ∀ p ∈ pre, pr p.2 = false
  b1 : Boxed W w.heap.size 67 fv
  b2 : Boxed W (w.heap.size + 1) 3 (.int .i64 0)
  bl : Below w.heap.size w W
theorem Below.grown_none {B : Nat} {w W W' : World} {row : Option Nat} (h : Below B w W) (hg : W.grownBy W' row) (hr : ∀ r, row = some r → B ≤ r) (hB : B ≤ W.heap.size) : Below B w W' := h.grown hg hB hr
set_option maxRecDepth 100000 in
set_option maxHeartbeats 4000000 in
theorem st_first (kf : FuncId) (caps : Array Value) (pr : Fld → Bool) (w : World) (hcf : ∀ args w, (callFunc kf args).run Tryz.prog w = .ok (.enter kf args) w)
    (hcall : ∀ (p : Fld) W, Below w.heap.size w W → Calls Tryz.prog kf (#[fldV p] ++ caps) W fun e W' => e = .returned (.bool (pr p)) ∧ Fresh W W') :
    Calls Tryz.prog 76 #[.func (.func kf) #[] caps] w (FstP pr w) := by
  refine (callsIn_wide (n := 6)).1 ?_
  refine callsIn_of_wp_marks Tryz.func76 rfl trivial ?_ rfl
  simp only [Tryz.ntmps76, List.size_toArray, List.length_cons, List.length_nil, Nat.reduceAdd, Nat.reduceSub, Array.replicate_succ, Array.replicate_zero, List.push_toArray, List.append_toArray, List.nil_append, List.cons_append]
  gi_wp2_with (refine ⟨trivial, ?_⟩; gi_at_call 96; refine (callsIn_wide.2 (st_all _)).mono ?_; rintro e w1 ⟨rfl, rfl⟩)
  have c1 := Boxed.new w 67 (.func (.func kf) #[] caps)
  have c2 := Boxed.new (w.alloc (.cells #[.func (.func kf) #[] caps] 67)) 3 (.int .i64 0)
  rw [World.size_alloc] at c2
  have hB0 : Below w.heap.size w ((w.alloc (.cells #[.func (.func kf) #[] caps] 67)).alloc (.cells #[.int .i64 0] 3)) := ((Below.refl _ w).alloc (Nat.le_refl _) _).alloc (by simp) _
  refine wpIn_rangeFunc_ownH rfl (by omega) (gf := 109) (lb := #[]) rfl trivial (enters_of Tryz.func109 (by kernel_rfl) rfl)
    (st_all1 5 (by omega) _) (fun _ _ => trivial) (fun _ _ _ _ _ _ _ _ => trivial) (Below.refl _ _) (fun _ => rfl)
    (fun pre W => ((∀ p ∈ pre, pr p.2 = false) ∧ Boxed W w.heap.size 67 (.func (.func kf) #[] caps) ∧ Boxed W (w.heap.size + 1) 3 (.int .i64 0)) ∧ Below w.heap.size w W)
    (fun c pre W => (c = .ret ∧ ∃ ini last, pre = ini ++ [last] ∧ (∀ p ∈ ini, pr p.2 = false) ∧ pr last.2 = true ∧ Boxed W (w.heap.size + 1) 3 (.int .i64 ((last.1 : Int) + 1))) ∧ Below w.heap.size w W)
    (OwnFrom.and (OwnFrom.and (ownFrom_pure _ _) (OwnFrom.and (Own.from (boxed_own _ _ _) _) (Own.from (boxed_own _ _ _) _))) (ownFrom_below (Nat.le_refl _) (by simp; omega)))
    (fun c => OwnFrom.and (fun s A B row hs hg hr => by
      obtain ⟨hc, ini, last, e1, e2, e3, e4⟩ := hs
      exact ⟨hc, ini, last, e1, e2, e3, boxed_own (β := Unit) _ _ (fun _ => .int .i64 ((last.1 : Int) + 1)) () A B row e4 hg (fun r e => (hr r e).2)⟩) (ownFrom_below (Nat.le_refl _) (by simp; omega)))
    ⟨⟨by simp, c1.alloc _, c2⟩, hB0⟩
    (fun x a' W => ∃ Bx, w.heap.size + 2 ≤ Bx ∧ Blk W Bx 29 #[.string x.2.1, .string x.2.2] ∧ a' = { tmps := #[.func (.func kf) #[] caps, .pointer (some ⟨w.heap.size, 0, none⟩), .pointer (some ⟨w.heap.size + 1, 0, none⟩), .int .i64 ((x.1 : Int) + 1), .pointer (some ⟨Bx, 0, none⟩), .func (.func 109) #[] #[], .int .i64 ((x.1 : Int) + 1), fldV x.2, undef, undef, undef, undef], defers := [] })
    (fun x a' => fun s A B row hs hg hr => by
      obtain ⟨Bx, h1, h2, h3⟩ := hs
      refine ⟨Bx, h1, ?_, h3⟩
      refine (hg.block Bx h2.lt (fun e => ?_)).trans h2
      obtain ⟨_, o, ho, hc⟩ := hr Bx e.symm
      rw [show A.heap[Bx]? = _ from h2] at ho
      cases ho
      cases hc)
    ?assign ?body ?done ?stop
  case assign =>
    rintro l pre x W K ⟨⟨hp, hb1, hb2⟩, hB⟩ hK
    have hsz := hb2.lt
    dsimp only [encF, fldV]
    gi_wp2
    exact hK _ _ ((KeepsOthers.alloc _ _).from _) trivial ⟨⟨hp, hb1.alloc _, hb2.alloc _⟩, hB.alloc hB.size _⟩ ⟨W.heap.size, by omega, Blk.new _ _ _, rfl⟩
  case body =>
    rintro l pre x a' W hl ⟨r, hr⟩ ⟨⟨hp, hb1, hb2⟩, hB⟩ ⟨Bx, hBx, hbx, rfl⟩ hlt
    have k1 := hb1.cell
    obtain ⟨x0, x1⟩ : W.cell? ⟨Bx, 0, none⟩ = some (.string x.2.1) ∧ W.cell? ⟨Bx, 1, none⟩ = some (.string x.2.2) := ⟨hbx.cell 0, hbx.cell 1⟩
    have hc := hcall x.2 W hB
    have hcf' := hcf
    dsimp only [fldV] at hc ⊢
    gi_wp2
    refine ⟨trivial, ?_⟩
    refine (CallsIn.inRound l (callsIn_wide.2 hc)).mono ?_
    rintro e w2 ⟨rfl, hf2⟩
    have hB2 : Below w.heap.size w w2 := Below.trans hB (hf2.mono hB.size)
    have hb1' : Boxed w2 w.heap.size 67 (.func (.func kf) #[] caps) := (Below.block hf2 _ hb1.lt).trans hb1
    have hb2' : Boxed w2 (w.heap.size + 1) 3 (.int .i64 0) := (Below.block hf2 _ hb2.lt).trans hb2
    have hk2 : KeepsOthers W w2 := KeepsOthers.of_grownBy hf2.grown (fun j o e => by cases e)
    have q1 := hb2'.cell
    have q2 := hb2'.frozen
    obtain ⟨b, hb⟩ : ∃ b, pr x.2 = b := ⟨_, rfl⟩
    rw [hb]
    have HB := Lib.hid hb
    clear hb hc
    cases b
    · gi_wp2
      exact ⟨hk2.from _, trivial, ⟨⟨fun p hp' => (List.mem_append.1 hp').elim (hp p) (fun e => by simp at e; subst e; exact HB.out), hb1', hb2'⟩, hB2⟩⟩
    · gi_wp2
      exact ⟨(hk2.trans (KeepsOthers.setCell _ _ _)).from _, ⟨⟨rfl, pre, x, rfl, hp, HB.out, hb2'.set _⟩, hB2.setCell (p := ⟨w.heap.size + 1, 0, none⟩) (by simp) _⟩⟩
  case done =>
    rintro D ys W hD rfl ⟨⟨hne, hb1, hb2⟩, hB⟩ hK
    have hsz := hb2.lt
    have q1 := hb2.cell
    have q2 := hb2.frozen
    have hb3 := hb2.set (.int .i64 0)
    gi_wp2
    have hK' := (KeepsOthers.setCell W ⟨w.heap.size + 1, 0, none⟩ (.int .i64 0)).same D _ hK rfl
    refine ⟨by simp, .inl ⟨_, _, rfl, run_takeDeferred hK', ?_⟩⟩
    have hc5 := cell_kept hb3.cell (grownBy_putObj' _ D (.deferred none)) (fun r e => by cases e; exact ⟨_, hK', rfl⟩)
    refine ⟨.int .i64 0, ?_, 0, rfl, .inl ⟨rfl, fun j hj => hne (j, fldAt j) (by simp only [upSt, List.mem_map, List.mem_range]; exact ⟨j, hj, rfl⟩)⟩, (hB.setCell (p := ⟨w.heap.size + 1, 0, none⟩) (by simp) _).trans (belowK_b (w := w) (Nat.le_refl _) _ D _ _ (by simp at hD; omega) hK' rfl rfl)⟩
    simp [results, Tryz.f76, go_sem, hc5]
  case stop =>
    rintro D c pre W hD ⟨k, hk, rfl⟩ ⟨⟨rfl, ini, last, e1, e2, e3, hb2⟩, hB⟩ hK
    gi_wp2
    refine ⟨by simp, .inl ⟨_, _, rfl, run_takeDeferred hK, ?_⟩⟩
    have hc5 := cell_kept hb2.cell (grownBy_putObj' _ D (.deferred none)) (fun r e => by cases e; exact ⟨_, hK, rfl⟩)
    obtain ⟨k', rfl⟩ : ∃ k', k = k' + 1 := by
      cases k with
      | zero => simp [upSt] at e1
      | succ k' => exact ⟨k', rfl⟩
    rw [upSt_succ] at e1
    obtain ⟨rfl, e5⟩ := List.append_inj' e1 rfl
    obtain rfl : (k', fldAt k') = last := by simpa using e5
    refine ⟨.int .i64 ((k' : Int) + 1), ?_, (k' : Int) + 1, rfl, .inr ⟨k', by omega, rfl, e3, fun j hj => e2 (j, fldAt j) (by simp only [upSt, List.mem_map, List.mem_range]; exact ⟨j, hj, rfl⟩)⟩, hB.trans (belowK_b (w := w) (Nat.le_refl _) W D _ _ (by simp at hD; omega) hK rfl rfl)⟩
    simp [results, Tryz.f76, go_sem, hc5]
end Go.Proofs.YtapikjhfgcbifaaGreatDoor

/-
  Contracts of package static: Get, Name, Find, Size.
-/
namespace Go.Proofs.YtapikjhfgcbifaaGreatDoor
set_option linter.unusedVariables false
open Go.RowKit

theorem st_name1 (p : Fld) (cb : Nat) (nm : ByteArray) (w : World) (hb : Blk w cb 9 #[.string nm]) :
    Calls Tryz.prog 97 #[.agg #[.string p.1, .string p.2], .pointer (some ⟨cb, 0, none⟩)] w fun e w' => e = .returned (.bool (p.1.toList == nm.toList)) ∧ Fresh w w' := by
  have h0 := hb.c1
  have hlt := hb.lt
  go_enter Tryz.func97, Tryz.ntmps97
  go_wp2
  go_ret
  exact ⟨rfl, by repeat (first | with_reducible exact Fresh.refl _ | with_reducible apply Fresh.drewS | with_reducible apply Fresh.allocS)⟩
theorem st_find1 (p q : Fld) (cb : Nat) (w : World) (hb : Blk w cb 29 #[.string q.1, .string q.2]) :
    Calls Tryz.prog 77 #[.agg #[.string p.1, .string p.2], .pointer (some ⟨cb, 0, none⟩)] w fun e w' => e = .returned (.bool (p.1.toList == q.1.toList && p.2.toList == q.2.toList)) ∧ Fresh w w' := by
  obtain ⟨h0, h1⟩ := hb.c2
  have hlt := hb.lt
  go_enter Tryz.func77, Tryz.ntmps77
  go_wp2
  all_goals
    go_ret
    exact ⟨by simp_all, by repeat (first | with_reducible exact Fresh.refl _ | with_reducible apply Fresh.drewS | with_reducible apply Fresh.allocS)⟩
theorem st_size (p : Fld) (w : World) (h1 : p.1.size ≤ 4611686018427387000) (h2 : p.2.size ≤ 4611686018427387000) :
    Calls Tryz.prog 43 #[.agg #[.string p.1, .string p.2]] w fun e w' => e = .returned (.int .i64 ((p.1.size : Int) + (p.2.size : Int) + 32)) ∧ Fresh w w' := by
  have e1 : IntKind.i64.wrap ((p.1.size : Int) + (p.2.size : Int)) = (p.1.size : Int) + (p.2.size : Int) := by rw [IntKind.wrap_i64]; omega
  have e2 : IntKind.i64.wrap ((p.1.size : Int) + (p.2.size : Int) + 32) = (p.1.size : Int) + (p.2.size : Int) + 32 := by rw [IntKind.wrap_i64]; omega
  go_enter Tryz.func43, Tryz.ntmps43
  go_wp2
  go_ret
  exact ⟨rfl, Fresh.alloc _ _⟩
theorem st_get_no (i : Int) (w : World) (h : i < 1 ∨ 61 < i) :
    Calls Tryz.prog 102 #[.int .i64 i] w fun e w' => e = .returned (.tuple #[.agg #[.string ⟨#[]⟩, .string ⟨#[]⟩], .int .i64 23]) ∧ Fresh w w' := by
  rcases h with h | h
  · go_enter Tryz.func102, Tryz.ntmps102
    go_wp2
    go_returns
    exact ⟨rfl, by repeat (first | with_reducible exact Fresh.refl _ | with_reducible apply Fresh.drewS | with_reducible apply Fresh.allocS)⟩
  · have h0 : decide (i < 1) = false := by simp; omega
    go_enter Tryz.func102, Tryz.ntmps102
    go_wp2
    go_returns
    exact ⟨rfl, by repeat (first | with_reducible exact Fresh.refl _ | with_reducible apply Fresh.drewS | with_reducible apply Fresh.allocS)⟩
theorem st_get (k : Nat) (i : Int) (w : World) (h : i = (k : Int) + 1) (hk : k < 61) :
    Calls Tryz.prog 102 #[.int .i64 i] w fun e w' => e = .returned (.tuple #[.agg #[.string (fldAt k).1, .string (fldAt k).2], .int .i64 0]) ∧ Fresh w w' := by
  subst h
  have d0 : decide ((k : Int) + 1 < 1) = false := by simp; omega
  have d1 : decide ((61 : Int) < (k : Int) + 1) = false := by simp; omega
  have hw : IntKind.i64.wrap ((k : Int) + 1 - 1) = (k : Int) := by rw [IntKind.wrap_i64]; omega
  have HIX := Lib.hid (ix_tbl k hk)
  generalize fldAt k = fk at *
  go_enter Tryz.func102, Tryz.ntmps102
  go_wp2_with fail
  with_reducible refine (st_table _).mono ?_
  rintro e w1 ⟨rfl, hf1⟩
  have HF := Lib.hid hf1
  have hb := (Blk.new w 29 #[.string ⟨#[]⟩, .string ⟨#[]⟩]).fresh hf1
  obtain ⟨y0, y1⟩ := hb.c2
  have z0 := hb.frozen 0
  have z1 := hb.frozen 1
  have hix := HIX.out
  clear hf1 hb
  go_wp2
  refine bodyPost_ret (v := .tuple #[.agg #[.string fk.1, .string fk.2], .int .i64 0]) (by simp [results, Tryz.results102, go_sem, y0, y1]) rfl ⟨rfl, ?_⟩
  have := (Fresh.alloc w (.cells #[.string ⟨#[]⟩, .string ⟨#[]⟩] 29)).trans HF.out
  repeat (first | with_reducible exact this | (with_reducible refine Fresh.step2 (Nat.le_refl _) ?_))
def NmP (nm : ByteArray) (w : World) (e : Ending) (w' : World) : Prop := ∃ z, e = .returned (.int .i64 z) ∧ FstIx (fun p => p.1.toList == nm.toList) z ∧ Fresh w w'
theorem st_name (nm : ByteArray) (w : World) : Calls Tryz.prog 78 #[.string nm] w (NmP nm w) := by
  have HF := Lib.hid (st_first 97 #[.pointer (some ⟨w.heap.size, 0, none⟩)] (fun p => p.1.toList == nm.toList) (w.alloc (.cells #[.string nm] 9)) Tryz.call97
    (fun p W hB => st_name1 p _ nm W ((Blk.new w 9 #[.string nm]).fresh hB)))
  go_enter Tryz.func78, Tryz.ntmps78
  go_wp2_with fail
  with_reducible refine HF.out.mono ?_
  rintro e w1 ⟨z, rfl, hz, hf⟩
  have H1 := Lib.hid (And.intro hz hf)
  clear hz hf HF
  go_wp2_with fail
  go_ret
  exact ⟨z, rfl, H1.out.1, Fresh.tA H1.out.2⟩
def prF (q : Fld) (p : Fld) : Bool := p.1.toList == q.1.toList && p.2.toList == q.2.toList
def FindP (q : Fld) (w : World) (e : Ending) (w' : World) : Prop :=
  ∃ z ex, e = .returned (.tuple #[.int .i64 z, .bool ex]) ∧ ((∃ k : Nat, k < 61 ∧ z = (k : Int) + 1 ∧ ex = true ∧ prF q (fldAt k) = true ∧ ∀ j, j < k → prF q (fldAt j) = false) ∨ (ex = false ∧ (∀ j, j < 61 → prF q (fldAt j) = false) ∧ FstIx (fun p => p.1.toList == q.1.toList) z)) ∧ Fresh w w'
theorem st_find (q : Fld) (w : World) : Calls Tryz.prog 54 #[.agg #[.string q.1, .string q.2]] w (FindP q w) := by
  have HF := Lib.hid (st_first 77 #[.pointer (some ⟨w.heap.size, 0, none⟩)] (prF q) (w.alloc (.cells #[.string q.1, .string q.2] 29)) Tryz.call77
    (fun p W hB => st_find1 p q _ W ((Blk.new w 29 #[.string q.1, .string q.2]).fresh hB)))
  go_enter Tryz.func54, Tryz.ntmps54
  go_wp2_with fail
  with_reducible refine HF.out.mono ?_
  rintro e w1 ⟨z, rfl, hz, hf⟩
  rcases hz with ⟨rfl, hno⟩ | ⟨k, hk, rfl, hy, hno⟩
  · have H1 := Lib.hid (And.intro hno hf)
    obtain ⟨c0, c1⟩ := ((Blk.new w 29 #[.string q.1, .string q.2]).fresh hf).c2
    clear hno hf HF
    go_wp2_with fail
    with_reducible refine (st_name q.1 _).mono ?_
    rintro e w2 ⟨z, rfl, hz, hf⟩
    have H2 := Lib.hid (And.intro hz hf)
    clear hz hf
    go_wp2_with fail
    go_ret2
    exact ⟨z, false, rfl, .inr ⟨rfl, H1.out.1, H2.out.1⟩, (Fresh.tA H1.out.2).trans H2.out.2⟩
  · have H1 := Lib.hid (And.intro hk (And.intro hy (And.intro hno hf)))
    have d0 : decide ((0 : Int) < (k : Int) + 1) = true := decide_eq_true (by omega)
    clear hk hy hno hf HF
    go_wp2_with fail
    go_ret2
    obtain ⟨hk, hy, hno, hf⟩ := H1.out
    exact ⟨(k : Int) + 1, true, rfl, .inl ⟨k, hk, rfl, rfl, hy, hno⟩, Fresh.tA hf⟩
theorem FstIx.at {pr : Fld → Bool} {z : Int} (h : FstIx pr z) (k : Nat) (hk : k < 61) (hy : pr (fldAt k) = true) (hn : ∀ j, j < k → pr (fldAt j) = false) : z = (k : Int) + 1 := by
  rcases h with ⟨_, hno⟩ | ⟨k', hk', rfl, hy', hn'⟩
  · rw [hno k hk] at hy; cases hy
  · rcases Nat.lt_trichotomy k k' with h | h | h
    · rw [hn' k h] at hy; cases hy
    · rw [h]
    · rw [hn k' h] at hy'; cases hy'
theorem toList_data (a : ByteArray) : a.toList = a.data.toList := ByteArray.toList_eq ..
def eqD (a b : ByteArray) : Bool := decide (a.data.toList = b.data.toList)
theorem eqD_eq (a b : ByteArray) : (a.toList == b.toList) = eqD a b := by
  rw [toList_data, toList_data, eqD]
  rw [Bool.eq_iff_iff]
  simp only [beq_iff_eq, decide_eq_true_eq]
end Go.Proofs.YtapikjhfgcbifaaGreatDoor

/-
  The law StaticSizes.
-/
namespace Go.Proofs.YtapikjhfgcbifaaGreatDoor
set_option maxRecDepth 100000
set_option linter.unusedVariables false
open Go.RowKit Go.ChangeShapes Go.WideShapes Go.Deep

theorem opens_field : Opens Tryz.prog 29 (fun w cs => ∃ p : Fld, cs = fldC p ∧ p.1.size ≤ maxLen ∧ p.2.size ≤ maxLen) :=
  (opens_struct (sz := 2) [(0, 1, QStr), (1, 1, QStr)] Tryz.underlying29 (by kernel_rfl) (by
    intro p hp
    simp only [List.mem_cons, List.not_mem_nil, or_false] at hp
    rcases hp with rfl | rfl
    · exact ⟨0, _, rfl, rfl, by kernel_rfl, opens_str Tryz.underlying9⟩
    · exact ⟨1, _, rfl, rfl, by kernel_rfl, opens_str Tryz.underlying9⟩)).mono (by
    intro w cs ⟨hl, h⟩
    match cs, hl with
    | [c0, c1], _ =>
      obtain ⟨s0, e0, l0⟩ := h _ (List.mem_cons_self ..)
      obtain ⟨s1, e1, l1⟩ := h _ (List.mem_cons_of_mem _ (List.mem_cons_self ..))
      simp at e0 e1
      subst e0 e1
      exact ⟨(s0, s1), rfl, l0, l1⟩)
structure FldsV where
  (A : Option Addr) (c : Nat) (xs : List Fld)
structure FldsV.Ok (w : World) (s : FldsV) : Prop where
  le : s.xs.length ≤ s.c
  max : s.c ≤ maxLen
  rows : Many fldC 2 w s.A s.xs
section
variable {H : Type} {enc : TypeId × Value → H} {w : World} {base : Nat} {spare : Nat → Bool} {held : Bool} {v : Value} {d : DataW H} {p : List MemPlace} {r : Reach} {b0 : Nat}
theorem open_field (hv : Value.okWide Tryz.prog w r b0 29 v) (hd : DataW.Trod enc Tryz.prog w base spare held 29 v d p) :
    ∃ q : Fld, v = .agg #[.string q.1, .string q.2] ∧ q.1.size ≤ maxLen ∧ q.2.size ≤ maxLen := by
  obtain ⟨cs, rfl, f, hc, hf⟩ := opens_field.agg Tryz.underlying29 hv hd
  refine ⟨f, ?_, hf⟩
  congr 1
  apply Array.toList_inj.1
  rw [hc]
  rfl
theorem open_fields (hv : Value.okWide Tryz.prog w r b0 22 v) (hd : DataW.Trod enc Tryz.prog w base spare held 22 v d p) :
    ∃ s : FldsV, v = .slice s.A s.xs.length s.c ∧ s.Ok w := by
  have h := (opens_slice (sz := 2) Tryz.underlying22 opens_field (by kernel_rfl) (by omega)).sl Tryz.underlying22 hv hd
  obtain ⟨A, xs, c, e, h1, h2, h3, _⟩ := h.rows (R := fun _ _ => True) (f := fldC) (fun _ ⟨q, e, _⟩ => ⟨q, e, trivial⟩)
  simp at e
  exact ⟨⟨A, c, xs⟩, e, h1, h2, h3⟩
end
theorem Many.at2 {w : World} {A : Option Addr} {xs : List Fld} (h : Many fldC 2 w A xs) (k : Nat) (x : Fld) (hx : xs[k]? = some x) :
    ∃ b o, A = some ⟨b, o, none⟩ ∧ b < w.heap.size ∧ w.cell? ⟨b, o + k * 2, none⟩ = some (.string x.1) ∧ w.cell? ⟨b, o + k * 2 + 1, none⟩ = some (.string x.2) := by
  obtain ⟨hk, rfl⟩ := List.getElem?_eq_some_iff.1 hx
  obtain ⟨b, o, e, hb, hc⟩ := h (by omega)
  exact ⟨b, o, e, hb, hc k hk 0 (by omega), hc k hk 1 (by omega)⟩
theorem wrap_eq64 (n : Int) : IntKind.i64.wrap n = wrap64 n := by
  unfold wrap64
  exact IntKind.wrap_i64 n
def szF (p : Fld) : Int := wrap64 (wrap64 ((p.1.size : Int) + (p.2.size : Int)) + 32)
theorem st_sizeW (p : Fld) (z : Int) (hz : szF p = z) (w : World) :
    Calls Tryz.prog 43 #[.agg #[.string p.1, .string p.2]] w fun e w' => e = .returned (.int .i64 z) ∧ Fresh w w' := by
  subst hz
  unfold szF
  go_enter Tryz.func43, Tryz.ntmps43
  go_wp2
  go_ret
  exact ⟨rfl, Fresh.alloc _ _⟩
def sumF (xs : List Fld) : Int := xs.foldl (fun n p => wrap64 (n + szF p)) 0
theorem sumF_succ (xs : List Fld) (k : Nat) (p : Fld) (h : xs[k]? = some p) : sumF (xs.take (k + 1)) = wrap64 (sumF (xs.take k) + szF p) := by
  obtain ⟨hk, rfl⟩ := List.getElem?_eq_some_iff.1 h
  rw [List.take_succ_eq_append_getElem hk, sumF, List.foldl_append]
  rfl
theorem st_sum (A : Option Addr) (xs : List Fld) (c : Nat) (w : World) (hm : Many fldC 2 w A xs) (hn : xs.length ≤ 1000) :
    Calls Tryz.prog 21 #[.slice A xs.length c] w fun e w' => e = .returned (.int .i64 (sumF xs)) ∧ Fresh w w' := by
  have HM := Lib.hid hm
  clear hm
  go_enter Tryz.func21, Tryz.ntmps21
  go_wp2_with fail
  go_loopw [3, 8] (fun s i wr => ∃ (k : Nat), k ≤ xs.length ∧ s = .int .i64 (sumF (xs.take k)) ∧ i = .int .i64 (k : Int) ∧ Fresh w wr) (fun _ i _ => xs.length - (intOf i).toNat)
  case atStart => exact ⟨0, by omega, rfl, rfl, Fresh.refl _⟩
  case round =>
    obtain ⟨k, hk, rfl, rfl, hf⟩ := hrel
    have HF := Lib.hid hf
    by_cases hlt : k < xs.length
    · have hlt' : (k : Int) < (xs.length : Int) := by omega
      obtain ⟨p, hy⟩ : ∃ y, xs[k]? = some y := ⟨_, List.getElem?_eq_getElem hlt⟩
      obtain ⟨b, o, rfl, hbw, hc0, hc1⟩ := HM.out.at2 k p hy
      have e0 := (hf.cell (p := ⟨b, o + k * 2, none⟩) hbw).trans hc0
      have e1 := (hf.cell (p := ⟨b, o + k * 2 + 1, none⟩) hbw).trans hc1
      have HS := Lib.hid (sumF_succ xs k p hy)
      obtain ⟨z, hz⟩ : ∃ z, szF p = z := ⟨_, rfl⟩
      have HZ := Lib.hid (fun w => st_sizeW p z hz w)
      have HZE := Lib.hid hz
      clear hc0 hc1 hy hf hz
      generalize sumF (xs.take k) = s at *
      go_wp2_with fail
      with_reducible refine (HZ.out _).mono ?_
      rintro e w2 ⟨rfl, hf2⟩
      have HF2 := Lib.hid (HF.out.trans (Fresh.tA hf2))
      clear hf2
      go_wp2_with fail
      go_roundw
      case rel => exact ⟨k + 1, by omega, by rw [HS.out, HZE.out], by go_num, HF2.out⟩
      case measure => simp [intOf]; omega
    · obtain rfl : k = xs.length := by omega
      rw [List.take_length]
      clear hf
      go_wp2_with fail
      go_ret
      exact ⟨rfl, HF.out⟩
def LwP (w : World) (e : Ending) (w' : World) : Prop := e = .returned (.bool true) ∧ Fresh w w'
end Go.Proofs.YtapikjhfgcbifaaGreatDoor

