/-
  Contracts of package static: the iterator over the table.
-/
import Derived.Test.YtdoddpigiencjaaStat
import Derived.RangeFuncNested
import Derived.RangeFuncBound
import Derived.RangeFuncCalls
import Derived.RangeFuncLeaves
import Derived.Shelf.Abstract
import Derived.Shelf.RegionOpen
import Derived.WalkKit
import Derived.OwnWalkIn
import Derived.TacticsInMore
import Derived.LoopNIn
import Derived.LoopIn
namespace Go.Proofs.Ytdoddpigiencjaa
set_option linter.unusedVariables false
open Go.RowKit Go.Shelf

attribute [local go_sem] Oper.semAt_some

abbrev Fld := ByteArray × ByteArray
def fldAt (k : Nat) : Fld := tblF.getD k (⟨#[]⟩, ⟨#[]⟩)
def fldV (p : Fld) : Value := .agg #[.string p.1, .string p.2]
def upSt (k : Nat) : List (Nat × Fld) := (List.range k).map fun j => (j, fldAt j)
theorem upSt_succ (k : Nat) : upSt (k + 1) = upSt k ++ [(k, fldAt k)] := by simp [upSt, List.range_succ]
theorem upSt_length (k : Nat) : (upSt k).length = k := by simp [upSt]
def encF (x : Nat × Fld) : Array Value := #[.int .i64 ((x.1 : Int) + 1), .agg #[.string x.2.1, .string x.2.2]]
theorem flat2_get (L : List Fld) (k : Nat) (h : k < L.length) : ((L.flatMap fldC).drop (k * 2)).take 2 = fldC L[k] := by
  induction L generalizing k with
  | nil => simp at h
  | cons p L ih =>
    cases k with
    | zero => simp [fldC]
    | succ k =>
      have h2 : (fldC p).length = 2 := rfl
      rw [List.flatMap_cons, List.drop_append, h2, show (k + 1) * 2 - 2 = k * 2 by omega, List.drop_eq_nil_of_le (by rw [h2]; omega), List.nil_append, ih k (by simpa using h)]
      simp
theorem tblF_len : tblF.length = 61 := by rfl
theorem tbl_cut (k : Nat) (hk : k < 61) : tblC.extract (k * 2) (k * 2 + 2) = #[.string (fldAt k).1, .string (fldAt k).2] := by
  have h := flat2_get tblF k (by rw [tblF_len]; exact hk)
  apply Array.toList_inj.1
  rw [Array.toList_extract]
  have e : tblC.toList = tblF.flatMap fldC := rfl
  rw [e]
  simp only [List.extract, Nat.add_sub_cancel_left]
  rw [h]
  have : fldAt k = tblF[k]'(by rw [tblF_len]; exact hk) := by simp [fldAt, tblF_len, hk]
  rw [this]
  rfl
theorem run_index_agg {P : Program} {w : World} {t e : TypeId} {n k sz : Nat} {cs : Array Value} {fs : Array Field} {i : TypeInfo} (ht : P.underlying t = some (.array n e)) (he : P.underlying e = some (.struct fs)) (hi : P.info? e = some i) (hs : i.size = sz) (hk : k < n) :
    (Instr.index t (.agg cs) (.int .i64 (k : Int))).run P w = .ok (.agg (cs.extract (k * sz) (k * sz + sz))) w := by
  have h1 : (0 : Int) ≤ (k : Int) ∧ (k : Int) < (n : Int) := by omega
  simp [Instr.index, run_underlying ht, run_underlying he, asIntOf, h1, part, isAgg, sizeOf, typeInfo, hi, hs, hk, go_sem]
theorem ix_tbl (k : Nat) (hk : k < 61) (W : World) : (Instr.index 125 (.agg tblC) (.int .i64 (k : Int))).run Try.prog W = .ok (.agg #[.string (fldAt k).1, .string (fldAt k).2]) W := by
  obtain ⟨i, hi, his⟩ : ∃ i, Try.prog.info? 26 = some i ∧ i.size = 2 := by
    have h : (Try.prog.info? 26).map (·.size) = some 2 := by kernel_rfl
    cases hh : Try.prog.info? 26 with
    | none => rw [hh] at h; cases h
    | some i => rw [hh] at h; exact ⟨i, rfl, by simpa using h⟩
  rw [run_index_agg Try.underlying125 Try.underlying26 hi his hk, tbl_cut k hk]
theorem Fresh.grown {w w' : World} (h : Fresh w w') : w.grownBy w' none := ⟨Below.os h, Below.tape h, Below.output h, Below.size h, fun k hk _ => Below.block h k hk⟩
theorem st_all (w : World) : Calls Try.prog 62 #[] w fun e w' => e = .returned (.func (.func 74) #[] #[]) ∧ w = w' := by
  go_enter Try.func62, Try.ntmps62
  go_wp2
  go_ret
  exact ⟨rfl, rfl⟩
set_option maxRecDepth 100000 in
set_option maxHeartbeats 2000000 in
theorem st_all1 (n : Nat) (hn : 2 ≤ n) (w : World) :
    SeqStopsK Fence.wide n Try.prog 74 #[] encF (fun _ _ => True) (fun ys => ys = upSt 61) (fun pre => ∃ k, k ≤ 61 ∧ pre = upSt k) 61 w := fun l J Jx W hW hJ hJx hY h0 => by
  have hgo : ∀ (pre : List (Nat × Fld)) (W W' : World), J pre W → Fresh W W' → J pre W' := fun pre W W' hj hf => hJ pre W W' none hj hf.grown (fun r e => by cases e)
  refine callsIn_of_wp Try.func74 rfl trivial ?_ rfl
  simp only [Try.ntmps74, List.size_toArray, List.length_cons, List.length_nil, Nat.reduceAdd, Nat.reduceSub, Array.replicate_succ, Array.replicate_zero, List.push_toArray, List.append_toArray, List.nil_append, List.cons_append]
  gi_wp2_with (refine ⟨trivial, fun h => (by cases h), ?_⟩; gi_at_call 75; refine (callsIn_wide.2 (st_table _)).mono ?_; rintro e w1 ⟨rfl, hf1⟩; have hJ1 := hgo _ _ _ h0 hf1; clear h0 hf1)
  gi_loopw [5] (fun i wr => ∃ k : Nat, k ≤ 61 ∧ i = .int .i64 k ∧ J (upSt k) wr) (fun i _ => 61 - (intOf i).toNat)
  case atStart => exact ⟨0, Nat.zero_le _, rfl, hJ1⟩
  case round =>
    obtain ⟨k, hk, rfl, hJs⟩ := hrel
    by_cases hlt : k < 61
    · have hix := ix_tbl k hlt
      have hw : IntKind.i64.wrap ((k : Int) + 1) = (k : Int) + 1 := by rw [IntKind.wrap_i64]; omega
      obtain ⟨fn, tmps, assign, body, hy, hR⟩ := hY _ (k, fldAt k) (wr.alloc (.cells #[.string (fldAt k).1, .string (fldAt k).2] 26)) (hgo _ _ _ hJs (Fresh.alloc _ _)) (by rw [upSt_length]; exact hlt)
      dsimp only [encF] at hy
      have HU := Lib.hid (upSt_succ k)
      generalize fldAt k = fk at *
      gi_wp2
      refine ⟨fun h => (by cases h), ?_⟩
      refine hR.mono ?_
      rintro e W3 (⟨rfl, hJ3, _⟩ | ⟨rfl, hJx3⟩)
      · gi_wp2
        go_roundw
        case rel => exact ⟨k + 1, by omega, by simp, by rw [HU.out]; exact hJ3⟩
        case measure => simp [intOf]; omega
      · gi_wp2
        refine bodyPost_ret (results_none rfl _ _ _) rfl ?_
        exact ⟨⟨_, rfl⟩, .inr ⟨_, ⟨k + 1, by omega, HU.out.symm⟩, hJx3⟩⟩
    · obtain rfl : k = 61 := by omega
      gi_wp2
      go_end0
      exact ⟨⟨_, rfl⟩, .inl ⟨_, rfl, hJs⟩⟩
end Go.Proofs.Ytdoddpigiencjaa

