/-
  The law StaticNames.
-/
import Derived.Test.YtgbnppnpikncpaaStat7
namespace Go.Proofs.Ytgbnppnpikncpaa
set_option linter.unusedVariables false
open Go.RowKit

theorem str_info : (Try.prog.info? 9).map (fun i => i.size) = some 1 := by kernel_rfl
theorem run_ix0 (W : World) (x y : ByteArray) : (Instr.index 28 (.agg #[.string x, .string y]) (.int .i64 0)).run Try.prog W = .ok (.string x) W := by
  have h := str_info
  cases hi : Try.prog.info? 9 with
  | none => rw [hi] at h; cases h
  | some i =>
    rw [hi] at h
    have hs : i.size = 1 := by simpa using h
    simp [Instr.index, run_underlying Try.underlying28, run_underlying Try.underlying9, asIntOf, part, isAgg, sizeOf, typeInfo, go_sem, hi, hs]
theorem run_ix1 (W : World) (x y : ByteArray) : (Instr.index 28 (.agg #[.string x, .string y]) (.int .i64 1)).run Try.prog W = .ok (.string y) W := by
  have h := str_info
  cases hi : Try.prog.info? 9 with
  | none => rw [hi] at h; cases h
  | some i =>
    rw [hi] at h
    have hs : i.size = 1 := by simpa using h
    simp [Instr.index, run_underlying Try.underlying28, run_underlying Try.underlying9, asIntOf, part, isAgg, sizeOf, typeInfo, go_sem, hi, hs]
section
variable {w : World}
set_option maxRecDepth 100000 in
set_option maxHeartbeats 3200000 in
theorem names_no (i : Int) (h : i < 1 ∨ 61 < i) : Calls Try.prog 7 #[.int .i64 i] w (LwP w) := by
  have HG := Lib.hid (fun w => st_get_no i w h)
  have key : i < 1 ∨ (¬ i < 1 ∧ 61 < i) := by omega
  clear h
  rcases key with h | ⟨h, h'⟩
  all_goals
    go_enter Try.func7, Try.ntmps7
    go_wp2_with fail
    with_reducible refine (HG.out _).mono ?_
    rintro e w1 ⟨rfl, hf1⟩
    have HF1 := Lib.hid hf1
    clear hf1
    go_wp2_with fail
    with_reducible refine (st_awake _).mono ?_
    rintro e w2 ⟨rfl, hf2⟩
    have HF2 := Lib.hid (HF1.out.trans (Fresh.tA hf2))
    clear hf2
    go_wp2_with fail
    go_ret
    exact ⟨rfl, HF2.out⟩
set_option maxRecDepth 100000 in
set_option maxHeartbeats 3200000 in
theorem names_yes (k : Nat) (hk : k < 61) : Calls Try.prog 7 #[.int .i64 ((k : Int) + 1)] w (LwP w) := by
  have HG := Lib.hid (fun w => st_get k ((k : Int) + 1) w rfl hk)
  have HN := Lib.hid (fun w => st_name (fldAt k).1 w)
  have HZ : Hid (∀ z, FstIx (fun p => p.1.toList == (fldAt k).1.toList) z → ∃ m : Nat, z = (m : Int) + 1 ∧ m ≤ k ∧ (fldAt m).1.toList = (fldAt k).1.toList ∧ ∀ j, j < m → ¬ (fldAt j).1.toList = (fldAt k).1.toList) := Lib.hid (fun z h => by
    rcases h with ⟨_, hn⟩ | ⟨m, hm, rfl, hy, hn⟩
    · have := hn k hk
      simp at this
    · refine ⟨m, rfl, ?_, by simpa using hy, fun j hj => by simpa using hn j hj⟩
      rcases Nat.lt_or_ge k m with h | h
      · have := hn k h
        simp at this
      · exact h)
  unfold NmP at HN
  go_enter Try.func7, Try.ntmps7
  go_wp2_with fail
  with_reducible refine (HG.out _).mono ?_
  rintro e w1 ⟨rfl, hf1⟩
  have HF1 := Lib.hid hf1
  clear hf1 HG
  go_wp2_with fail
  with_reducible refine (HN.out _).mono ?_
  rintro e w2 ⟨z, rfl, hz, hf2⟩
  obtain ⟨m, rfl, hmk, hme, hmn⟩ := HZ.out z hz
  have hb := (Blk.new w1 23 #[.string (fldAt k).1, .string (fldAt k).2]).fresh hf2
  have HB := Lib.hid hb
  have HF2 := Lib.hid (HF1.out.trans (Fresh.tA hf2))
  have HM := Lib.hid hmn
  have HGM := Lib.hid (fun w => st_get m ((m : Int) + 1) w rfl (by omega))
  have HE : Hid (∀ j, j < m → ∀ w, Calls Try.prog 10 #[.int .i64 ((j : Int) + 1)] w (EntP j w)) := Lib.hid (fun j hj w => st_entry j ((j : Int) + 1) w rfl (by omega))
  have hne : ((fldAt m).1.toList == (fldAt k).1.toList) = true := by rw [hme]; simp
  have HK := Lib.hid (And.intro hmk hk)
  have d0 : decide ((k : Int) + 1 < (m : Int) + 1) = false := decide_eq_false (by omega)
  have d0' : decide ((k : Int) < (m : Int)) = false := decide_eq_false (by omega)
  have d0'' : decide (k < m) = false := decide_eq_false (by omega)
  clear hz hf2 hb hmn hmk hk hme HF1 HN HZ
  generalize fldAt k = fk at *
  generalize w1.heap.size = g1 at *
  go_wp2_with fail
  with_reducible refine (HGM.out _).mono ?_
  rintro e w3 ⟨rfl, hf3⟩
  have HB3 := Lib.hid (HB.out.fresh hf3)
  obtain ⟨c0, c1⟩ := HB3.out.c2
  have hlt := HB3.out.lt
  have HF3 := Lib.hid (HF2.out.trans hf3)
  clear hf3 HF2 HB HGM
  go_wp2_with fail
  go_loopw [8] (fun i wr => ∃ (j : Nat), j ≤ m ∧ i = .int .i64 ((j : Int) + 1) ∧ Blk wr g1 23 #[.string fk.1, .string fk.2] ∧ Fresh w wr) (fun i _ => m + 1 - (intOf i).toNat)
  case atStart => exact ⟨0, by omega, rfl, HB3.out.alloc _, HF3.out.allocS _⟩
  case round =>
    obtain ⟨j, hj, rfl, hb, hf⟩ := hrel
    have HB4 := Lib.hid hb
    have HF4 := Lib.hid hf
    by_cases hlt2 : j < m
    · have d1 : decide ((j : Int) + 1 < (m : Int) + 1) = true := decide_eq_true (by omega)
      have d1' : decide ((j : Int) < (m : Int)) = true := decide_eq_true (by omega)
      have d1'' : decide (j < m) = true := decide_eq_true (by omega)
      have HEJ := Lib.hid (HE.out j hlt2)
      have hnj : ((fldAt j).1.toList == fk.1.toList) = false := by simpa using HM.out j hlt2
      have hw : IntKind.i64.wrap ((j : Int) + 1 + 1) = (j : Int) + 1 + 1 := by rw [IntKind.wrap_i64]; have := HK.out; omega
      unfold EntP at HEJ
      generalize fldAt j = fj at *
      clear hb hf hne
      have ix0 := run_ix0
      go_upto_region 11 with fail
      have HSK : Hid (∀ w', Fresh wr w' → w'.cell? ⟨g1, 0, none⟩ = some (.string fk.1) ∧ Fresh wr w') := Lib.hid (fun w' hw => ⟨(HB4.out.fresh hw).cell 0, hw⟩)
      go_region_held3 (fun w' => w'.cell? ⟨g1, 0, none⟩ = some (.string fk.1) ∧ Fresh wr w')
        ((refine HSK.out _ ?_; first | with_reducible assumption | with_reducible exact Fresh.drew _))
        (first | (go_at_call 10; (with_reducible refine (HEJ.out _).mono ?_); rintro e w2 ⟨rfl, hf2⟩; have hg2 : Fresh wr w2 := Fresh.trans (by first | with_reducible assumption | with_reducible exact Fresh.drew _) hf2; clear hf2))
      all_goals
        go_wp2_with fail
        go_roundw
        case rel => exact ⟨j + 1, by omega, by go_num, HB4.out.fresh hg2, HF4.out.trans hg2⟩
        case measure => simp [intOf]; omega
    · obtain rfl : j = m := by omega
      clear hb hf
      go_wp2_with fail
      with_reducible refine (st_awake _).mono ?_
      rintro e w5 ⟨rfl, hf5⟩
      have HF5 := Lib.hid (HF4.out.trans hf5)
      clear hf5
      go_wp2_with fail
      go_ret
      exact ⟨rfl, HF5.out⟩
end
theorem StaticNames_any (i : Int) (w : World) (hi : (Lit.int .i64 i).wf = true) :
    Calls Try.prog 7 #[.int .i64 i] w fun e w' => e = .returned (.bool true) ∧ Below w.heap.size w w' := by
  show Calls _ _ _ _ (LwP w)
  by_cases h : i < 1 ∨ 61 < i
  · exact names_no i h
  · obtain ⟨k, rfl⟩ : ∃ k : Nat, i = (k : Int) + 1 := ⟨(i - 1).toNat, by omega⟩
    exact names_yes k (by omega)
end Go.Proofs.Ytgbnppnpikncpaa
