/-
  The laws StaticGets, StaticNames.
-/
import Derived.Test.YtgbnppnpikncpaaStat6
namespace Go.Proofs.Ytgbnppnpikncpaa
set_option linter.unusedVariables false
open Go.RowKit

theorem prF_self (p : Fld) : prF p p = true := by simp [prF]
set_option maxRecDepth 100000 in
theorem tbl_apart : ∀ k, k < 61 → ∀ j, j < k → prF (fldAt k) (fldAt j) = false := by
  simp only [prF, eqD_eq]
  decide +kernel
section
variable {w : World}
set_option maxRecDepth 100000 in
set_option maxHeartbeats 3200000 in
theorem gets_no (i : Int) (h : i < 1 ∨ 61 < i) : Calls Try.prog 3 #[.int .i64 i] w (LwP w) := by
  have HG := Lib.hid (fun w => st_get_no i w h)
  have key : i < 1 ∨ (¬ i < 1 ∧ 61 < i) := by omega
  clear h
  rcases key with h | ⟨h, h'⟩
  all_goals
    go_enter Try.func3, Try.ntmps3
    go_wp2_with fail
    with_reducible refine (HG.out _).mono ?_
    rintro e w1 ⟨rfl, hf1⟩
    have HF1 := Lib.hid hf1
    clear hf1
    go_wp2_with fail
    with_reducible refine (st_awake _).mono ?_
    rintro e w2 ⟨rfl, hf2⟩
    have HF2 := Lib.hid (HF1.out.trans (Fresh.tA hf2))
    clear hf2
    go_wp2_with fail
    go_ret
    exact ⟨rfl, HF2.out⟩
set_option maxRecDepth 100000 in
set_option maxHeartbeats 3200000 in
theorem gets_yes (k : Nat) (hk : k < 61) : Calls Try.prog 3 #[.int .i64 ((k : Int) + 1)] w (LwP w) := by
  have HG := Lib.hid (fun w => st_get k ((k : Int) + 1) w rfl hk)
  have HE := Lib.hid (fun w => st_entry k ((k : Int) + 1) w rfl hk)
  have HFD := Lib.hid (fun w => st_find (fldAt k) w)
  have HZ : Hid (∀ z ex, ((∃ k' : Nat, k' < 61 ∧ z = (k' : Int) + 1 ∧ ex = true ∧ prF (fldAt k) (fldAt k') = true ∧ ∀ j, j < k' → prF (fldAt k) (fldAt j) = false) ∨ (ex = false ∧ (∀ j, j < 61 → prF (fldAt k) (fldAt j) = false) ∧ FstIx (fun p => p.1.toList == (fldAt k).1.toList) z)) → z = (k : Int) + 1 ∧ ex = true) := Lib.hid (fun z ex h => by
    rcases h with ⟨k', hk', rfl, rfl, hy, hn⟩ | ⟨_, hn, _⟩
    · refine ⟨?_, rfl⟩
      rcases Nat.lt_trichotomy k k' with h | h | h
      · have := hn k h
        rw [prF_self] at this
        cases this
      · rw [h]
      · rw [tbl_apart k hk k' h] at hy
        cases hy
    · have := hn k hk
      rw [prF_self] at this
      cases this)
  have d0 : decide ((k : Int) + 1 < 1) = false := decide_eq_false (by omega)
  have d1 : decide ((61 : Int) < (k : Int) + 1) = false := decide_eq_false (by omega)
  unfold EntP at HE
  unfold FindP at HFD
  generalize fldAt k = fk at *
  obtain ⟨a, b⟩ := fk
  simp only at HG HE HFD HZ
  have ka : (a.toList == a.toList) = true := by simp
  have kb : (b.toList == b.toList) = true := by simp
  have kk : (((k : Int) + 1) == ((k : Int) + 1)) = true := by simp
  clear hk
  go_enter Try.func3, Try.ntmps3
  go_wp2_with fail
  with_reducible refine (HG.out _).mono ?_
  rintro e w1 ⟨rfl, hf1⟩
  have HF1 := Lib.hid hf1
  clear hf1
  go_wp2_with fail
  with_reducible refine (HE.out _).mono ?_
  rintro e w2 ⟨rfl, hf2⟩
  have hb := (Blk.new w1 23 #[.string a, .string b]).fresh hf2
  obtain ⟨c0, c1⟩ := hb.c2
  have hlt := hb.lt
  have HB := Lib.hid hb
  have HF2 := Lib.hid (HF1.out.trans (Fresh.tA hf2))
  clear hf2 hb HF1
  generalize w1.heap.size = g1 at *
  go_wp2_with fail
  with_reducible refine (HFD.out _).mono ?_
  rintro e w3 ⟨z, ex, rfl, hz, hf3⟩
  obtain ⟨rfl, rfl⟩ := HZ.out z ex hz
  obtain ⟨c0, c1⟩ := ((HB.out.alloc _).fresh hf3).c2
  obtain ⟨e0, e1⟩ := ((Blk.new w2 28 #[.string a, .string b]).fresh hf3).c2
  have hlt2 := hf3.size
  have HF3 := Lib.hid (HF2.out.trans (Fresh.tA hf3))
  clear hf3 hz HB HF2
  generalize w2.heap.size = g2 at *
  go_wp2_with fail
  with_reducible refine (st_awake _).mono ?_
  rintro e w4 ⟨rfl, hf4⟩
  have HF4 := Lib.hid (HF3.out.trans hf4)
  clear hf4
  go_wp2_with fail
  go_ret
  exact ⟨rfl, HF4.out⟩
end
theorem StaticGets_any (i : Int) (w : World) (hi : (Lit.int .i64 i).wf = true) :
    Calls Try.prog 3 #[.int .i64 i] w fun e w' => e = .returned (.bool true) ∧ Below w.heap.size w w' := by
  show Calls _ _ _ _ (LwP w)
  by_cases h : i < 1 ∨ 61 < i
  · exact gets_no i h
  · obtain ⟨k, rfl⟩ : ∃ k : Nat, i = (k : Int) + 1 := ⟨(i - 1).toNat, by omega⟩
    exact gets_yes k (by omega)
end Go.Proofs.Ytgbnppnpikncpaa
