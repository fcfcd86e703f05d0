/-
  The law StaticFinds: its walk.
-/
import Derived.Test.YtgbnppnpikncpaaStat9
namespace Go.Proofs.Ytgbnppnpikncpaa
set_option linter.unusedVariables false
open Go.RowKit

def RsP (nm : ByteArray) (w : World) (e : Ending) (w' : World) : Prop := ∃ z, e = .returned (.int .i64 z) ∧ FstIx (prN nm) z ∧ Fresh w w'
set_option maxRecDepth 100000 in
set_option maxHeartbeats 3200000 in
theorem law_first (nm : ByteArray) (m : Nat) (hm : m ≤ 61) (hq : (m = 0 ∧ ∀ j, j < 61 → prN nm (fldAt j) = false) ∨ (0 < m ∧ prN nm (fldAt (m - 1)) = true)) (w : World) :
    Calls Try.prog 14 #[.string nm, .int .i64 (m : Int)] w (RsP nm w) := by
  have HE : Hid (∀ j : Nat, j < 61 → ∀ w, Calls Try.prog 10 #[.int .i64 ((j : Int) + 1)] w (EntP j w)) := Lib.hid (fun j hj w => st_entry j ((j : Int) + 1) w rfl hj)
  have HQ := Lib.hid hq
  clear hq
  have ix0 := run_ix0
  go_enter Try.func14, Try.ntmps14
  go_wp2_with fail
  go_loopw [5] (fun i wr => ∃ (j : Nat), j ≤ 61 ∧ (j + 1 ≤ m ∨ j = 0) ∧ i = .int .i64 ((j : Int) + 1) ∧ (∀ i, i < j → prN nm (fldAt i) = false) ∧ Fresh w wr) (fun i _ => 62 - (intOf i).toNat)
  case atStart => exact ⟨0, by omega, .inr rfl, rfl, fun i hi => by omega, Fresh.refl _⟩
  case round =>
    obtain ⟨j, hj, hjm, rfl, hn, hf⟩ := hrel
    have HF := Lib.hid hf
    have HN := Lib.hid hn
    by_cases hlt : j + 1 < m
    · have d0 : decide ((j : Int) + 1 < (m : Int)) = true := decide_eq_true (by omega)
      have d0' : (j : Int) + 1 < (m : Int) := by omega
      have hw : IntKind.i64.wrap ((j : Int) + 1 + 1) = (j : Int) + 1 + 1 := by rw [IntKind.wrap_i64]; omega
      have HEJ := Lib.hid (HE.out j (by omega))
      obtain ⟨b, hb⟩ : ∃ b, prN nm (fldAt j) = b := ⟨_, rfl⟩
      have HB := Lib.hid hb
      have hbb : ((fldAt j).1.toList == nm.toList) = b := hb
      unfold EntP at HEJ
      generalize fldAt j = fj at hbb HEJ
      clear hb hn hf
      cases b
      · go_wp2_with fail
        with_reducible refine (HEJ.out _).mono ?_
        rintro e w2 ⟨rfl, hf2⟩
        have HF2 := Lib.hid (HF.out.trans hf2)
        clear hf2
        go_wp2_with fail
        go_roundw
        case rel => exact ⟨j + 1, by omega, .inl (by omega), by go_num, fun i hi => by
          rcases Nat.lt_or_ge i j with h | h
          · exact HN.out i h
          · obtain rfl : i = j := by omega
            exact HB.out, HF2.out⟩
        case measure => simp [intOf]; omega
      · go_wp2_with fail
        with_reducible refine (HEJ.out _).mono ?_
        rintro e w2 ⟨rfl, hf2⟩
        have HF2 := Lib.hid (HF.out.trans hf2)
        clear hf2
        go_wp2_with fail
        go_ret
        exact ⟨(j : Int) + 1, rfl, .inr ⟨j, by omega, rfl, HB.out, HN.out⟩, HF2.out⟩
    · have d0 : decide ((j : Int) + 1 < (m : Int)) = false := decide_eq_false (by omega)
      have d0' : ¬ (j : Int) + 1 < (m : Int) := by omega
      clear hn hf
      go_wp2_with fail
      go_ret
      refine ⟨(m : Int), rfl, ?_, HF.out⟩
      rcases HQ.out with ⟨rfl, h⟩ | ⟨h0, h⟩
      · exact .inl ⟨rfl, h⟩
      · refine .inr ⟨m - 1, by omega, by omega, h, fun i hi => HN.out i (by omega)⟩
section
variable {w : World}
set_option maxRecDepth 100000 in
set_option maxHeartbeats 3200000 in
theorem finds_long (q : Fld) (h : 500 < q.1.size ∨ 500 < q.2.size) : Calls Try.prog 4 #[.agg #[.string q.1, .string q.2]] w (LwP w) := by
  have key : 500 < q.1.size ∨ (¬ 500 < q.1.size ∧ 500 < q.2.size) := by omega
  clear h
  obtain ⟨nm, vl⟩ := q
  simp only at *
  rcases key with h | ⟨h, h'⟩
  · have d0 : (500 : Int) < (nm.size : Int) := by omega
    go_enter Try.func4, Try.ntmps4
    go_wp2_with fail
    with_reducible refine (st_awake _).mono ?_
    rintro e w1 ⟨rfl, hf1⟩
    have HF1 := Lib.hid (Fresh.tA hf1)
    clear hf1
    go_wp2_with fail
    go_ret
    exact ⟨rfl, HF1.out⟩
  · have d0 : decide ((500 : Int) < (nm.size : Int)) = false := decide_eq_false (by omega)
    have d1 : (500 : Int) < (vl.size : Int) := by omega
    go_enter Try.func4, Try.ntmps4
    go_wp2_with fail
    with_reducible refine (st_awake _).mono ?_
    rintro e w1 ⟨rfl, hf1⟩
    have HF1 := Lib.hid (Fresh.tA hf1)
    clear hf1
    go_wp2_with fail
    go_ret
    exact ⟨rfl, HF1.out⟩
set_option maxRecDepth 100000 in
set_option maxHeartbeats 6400000 in
theorem finds_ok (q : Fld) (h1 : q.1.size ≤ 500) (h2 : q.2.size ≤ 500) : Calls Try.prog 4 #[.agg #[.string q.1, .string q.2]] w (LwP w) := by
  have d0 : decide ((500 : Int) < (q.1.size : Int)) = false := decide_eq_false (by omega)
  have d1 : decide ((500 : Int) < (q.2.size : Int)) = false := decide_eq_false (by omega)
  have HF0 := Lib.hid (fun w => st_find q w)
  have HR0 := Lib.hid (fun w => rf_find q w)
  have HR1 := Lib.hid (fun w => rf_find (q.1, ⟨#[]⟩) w)
  have HNM := Lib.hid (fun w => st_name q.1 w)
  unfold FindP at HF0
  unfold RfP at HR0 HR1
  unfold NmP at HNM
  have HQ : Hid (∀ z ex, FdIx (q.1, ⟨#[]⟩) z ex → ∃ m : Nat, z = (m : Int) ∧ m ≤ 61 ∧ ((m = 0 ∧ ∀ j, j < 61 → prN q.1 (fldAt j) = false) ∨ (0 < m ∧ prN q.1 (fldAt (m - 1)) = true))) := Lib.hid (fun z ex h => by
    rcases h with ⟨k, hk, rfl, rfl, hy, _⟩ | ⟨rfl, _, ⟨rfl, hn⟩ | ⟨k, hk, rfl, hy, _⟩⟩
    · refine ⟨k + 1, by omega, by omega, .inr ⟨by omega, ?_⟩⟩
      simp only [prF, Bool.and_eq_true] at hy
      simpa [prN] using hy.1
    · exact ⟨0, rfl, by omega, .inl ⟨rfl, hn⟩⟩
    · exact ⟨k + 1, by omega, by omega, .inr ⟨by omega, by simpa using hy⟩⟩)
  obtain ⟨nm, vl⟩ := q
  simp only at *
  clear h1 h2
  go_enter Try.func4, Try.ntmps4
  go_wp2_with fail
  with_reducible refine (HF0.out _).mono ?_
  rintro e w1 ⟨z, ex, rfl, hz, hf1⟩
  have HZ : Hid (FdIx (nm, vl) z ex) := Lib.hid hz
  have hb := (Blk.new w 23 #[.string nm, .string vl]).fresh hf1
  obtain ⟨c0, c1⟩ := hb.c2
  have HB := Lib.hid hb
  have HF1 := Lib.hid (Fresh.tA hf1)
  clear hz hb hf1 HF0
  go_wp2_with fail
  with_reducible refine (HR0.out _).mono ?_
  rintro e w2 ⟨z2, ex2, rfl, hz2, hf2⟩
  obtain ⟨rfl, rfl⟩ := HZ.out.uniq hz2
  obtain ⟨c0, c1⟩ := (HB.out.fresh hf2).c2
  have HB2 := Lib.hid (HB.out.fresh hf2)
  have HF2 := Lib.hid (HF1.out.trans hf2)
  obtain ⟨t2, ht2⟩ : ∃ t : Int, (if ex = true then (1 : Int) else 0) = t := ⟨_, rfl⟩
  have HT2 := Lib.hid ht2
  rw [ht2]
  clear hz2 hf2 HB HF1 HR0 ht2
  go_wp2_with fail
  with_reducible refine (HR1.out _).mono ?_
  rintro e w3 ⟨z3, ex3, rfl, hz3, hf3⟩
  obtain ⟨m, rfl, hm, hq⟩ := HQ.out z3 ex3 hz3
  have HLF := Lib.hid (fun w => law_first nm m hm hq w)
  have HB3 := Lib.hid (HB2.out.fresh hf3)
  have HF3 := Lib.hid (HF2.out.trans hf3)
  clear hz3 hf3 HB2 HF2 HR1 HQ hq hm
  unfold RsP at HLF
  generalize (if ex3 = true then (1 : Int) else 0) = t3 at *
  obtain ⟨zn, hzn⟩ : ∃ z, FstIx (prN nm) z := by
    by_cases hx : ∃ k, k < 61 ∧ prN nm (fldAt k) = true ∧ ∀ j, j < k → prN nm (fldAt j) = false
    · obtain ⟨k, hk, hy, hn⟩ := hx
      exact ⟨(k : Int) + 1, .inr ⟨k, hk, rfl, hy, hn⟩⟩
    · refine ⟨0, .inl ⟨rfl, ?_⟩⟩
      have : ∀ n, n ≤ 61 → ∀ j, j < n → prN nm (fldAt j) = false := by
        intro n
        induction n with
        | zero => intro _ j hj; omega
        | succ n ih =>
          intro hn j hj
          rcases Nat.lt_or_ge j n with h | h
          · exact ih (by omega) j h
          · obtain rfl : j = n := by omega
            cases hb : prN nm (fldAt j) with
            | false => rfl
            | true => exact absurd ⟨j, by omega, hb, fun i hi => ih (by omega) i hi⟩ hx
      exact this 61 (by omega)
  have HLF2 : Hid (∀ w, Calls Try.prog 14 #[.string nm, .int .i64 (m : Int)] w fun e w' => e = .returned (.int .i64 zn) ∧ Fresh w w') := Lib.hid (fun w => (HLF.out w).mono (by
    rintro e w' ⟨z, rfl, hz, hf⟩
    rw [hz.uniq hzn]
    exact ⟨rfl, hf⟩))
  have HNM2 : Hid (∀ w, Calls Try.prog 13 #[.string nm] w fun e w' => e = .returned (.int .i64 zn) ∧ Fresh w w') := Lib.hid (fun w => (HNM.out w).mono (by
    rintro e w' ⟨z, rfl, hz, hf⟩
    rw [(show FstIx (prN nm) z from hz).uniq hzn]
    exact ⟨rfl, hf⟩))
  have k1 : (z == z) = true := by simp
  have k2 : (zn == zn) = true := by simp
  have HSK : Hid (∀ w', Fresh w3 w' → w'.cell? ⟨w.heap.size, 0, none⟩ = some (.string nm) ∧ Fresh w3 w') := Lib.hid (fun w' hw => ⟨(HB3.out.fresh hw).cell 0, hw⟩)
  generalize w.heap.size = g at *
  clear HLF HNM HZ hzn HB3
  have ht2 := HT2.out
  clear HT2
  cases ex
  all_goals
    simp at ht2
    subst ht2
    go_upto_region 6 with fail
    go_region_held3 (fun w' => w'.cell? ⟨g, 0, none⟩ = some (.string nm) ∧ Fresh w3 w')
      ((refine HSK.out _ ?_; first | with_reducible assumption | with_reducible exact Fresh.drew _))
      (first
        | (go_at_call 13; (with_reducible refine (HNM2.out _).mono ?_); rintro e w4 ⟨rfl, hf4⟩; have hg4 : Fresh w3 w4 := Fresh.trans (by first | with_reducible assumption | with_reducible exact Fresh.drew _) hf4; clear hf4)
        | (go_at_call 14; (with_reducible refine (HLF2.out _).mono ?_); rintro e w5 ⟨rfl, hf5⟩; have hg5 : Fresh w3 w5 := Fresh.trans (by first | with_reducible assumption | with_reducible exact Fresh.drew _) hf5; clear hf5)
        | (go_at_call 9; (with_reducible refine (st_awake _).mono ?_); rintro e w6 ⟨rfl, hf6⟩; have hg6 : Fresh w3 w6 := Fresh.trans (by first | with_reducible assumption | with_reducible exact Fresh.drew _) hf6; clear hf6))
    all_goals
      go_wp2
      go_ret
      exact ⟨rfl, HF3.out.trans (by assumption)⟩
end
theorem StaticFinds_any (q : Fld) (w : World) (hq : q.1.size ≤ maxLen ∧ q.2.size ≤ maxLen) :
    Calls Try.prog 4 #[.agg #[.string q.1, .string q.2]] w fun e w' => e = .returned (.bool true) ∧ Below w.heap.size w w' := by
  show Calls _ _ _ _ (LwP w)
  by_cases h : 500 < q.1.size ∨ 500 < q.2.size
  · exact finds_long q h
  · exact finds_ok q (by omega) (by omega)
end Go.Proofs.Ytgbnppnpikncpaa
