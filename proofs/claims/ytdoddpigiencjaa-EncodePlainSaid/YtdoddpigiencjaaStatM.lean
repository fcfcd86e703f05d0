/-
  Texts laid together: Stat7 Stat8 Stat9.
-/
import Derived.Test.YtdoddpigiencjaaStat6
/-
  The laws StaticGets, StaticNames.
-/
namespace Go.Proofs.Ytdoddpigiencjaa
set_option maxRecDepth 100000
set_option linter.unusedVariables false
open Go.RowKit

theorem prF_self (p : Fld) : prF p p = true := by simp [prF]
set_option maxRecDepth 100000 in
theorem tbl_apart : ∀ k, k < 61 → ∀ j, j < k → prF (fldAt k) (fldAt j) = false := by
  simp only [prF, eqD_eq]
  decide +kernel
section
variable {w : World}
end
end Go.Proofs.Ytdoddpigiencjaa

/-
  The law StaticNames.
-/
namespace Go.Proofs.Ytdoddpigiencjaa
set_option maxRecDepth 100000
set_option linter.unusedVariables false
open Go.RowKit

theorem str_info : (Try.prog.info? 9).map (fun i => i.size) = some 1 := by kernel_rfl
theorem run_ix0 (W : World) (x y : ByteArray) : (Instr.index 77 (.agg #[.string x, .string y]) (.int .i64 0)).run Try.prog W = .ok (.string x) W := by
  have h := str_info
  cases hi : Try.prog.info? 9 with
  | none => rw [hi] at h; cases h
  | some i =>
    rw [hi] at h
    have hs : i.size = 1 := by simpa using h
    simp [Instr.index, run_underlying Try.underlying77, run_underlying Try.underlying9, asIntOf, part, isAgg, sizeOf, typeInfo, go_sem, hi, hs]
theorem run_ix1 (W : World) (x y : ByteArray) : (Instr.index 77 (.agg #[.string x, .string y]) (.int .i64 1)).run Try.prog W = .ok (.string y) W := by
  have h := str_info
  cases hi : Try.prog.info? 9 with
  | none => rw [hi] at h; cases h
  | some i =>
    rw [hi] at h
    have hs : i.size = 1 := by simpa using h
    simp [Instr.index, run_underlying Try.underlying77, run_underlying Try.underlying9, asIntOf, part, isAgg, sizeOf, typeInfo, go_sem, hi, hs]
section
variable {w : World}
end
end Go.Proofs.Ytdoddpigiencjaa

/-
  The law StaticFinds.
-/
namespace Go.Proofs.Ytdoddpigiencjaa
set_option maxRecDepth 100000
set_option linter.unusedVariables false
open Go.RowKit

def prN (nm : ByteArray) (p : Fld) : Bool := p.1.toList == nm.toList
theorem FstIx.uniq {pr : Fld → Bool} {z z' : Int} (h : FstIx pr z) (h' : FstIx pr z') : z = z' := by
  rcases h' with ⟨rfl, hn⟩ | ⟨k, hk, rfl, hy, hn⟩
  · rcases h with ⟨h, _⟩ | ⟨k, hk, rfl, hy, _⟩
    · exact h
    · rw [hn k hk] at hy; cases hy
  · exact h.at k hk hy hn
/-- Where a field is, or its name: the place; is it whole? -/
def FdIx (q : Fld) (z : Int) (ex : Bool) : Prop := (∃ k : Nat, k < 61 ∧ z = (k : Int) + 1 ∧ ex = true ∧ prF q (fldAt k) = true ∧ ∀ j, j < k → prF q (fldAt j) = false) ∨ (ex = false ∧ (∀ j, j < 61 → prF q (fldAt j) = false) ∧ FstIx (prN q.1) z)
theorem FdIx.uniq {q : Fld} {z z' : Int} {ex ex' : Bool} (h : FdIx q z ex) (h' : FdIx q z' ex') : z = z' ∧ ex = ex' := by
  rcases h with ⟨k, hk, rfl, rfl, hy, hn⟩ | ⟨rfl, hn, hz⟩
  · rcases h' with ⟨k', hk', rfl, rfl, hy', hn'⟩ | ⟨rfl, hn', hz'⟩
    · refine ⟨?_, rfl⟩
      rcases Nat.lt_trichotomy k k' with h | h | h
      · rw [hn' k h] at hy; cases hy
      · rw [h]
      · rw [hn k' h] at hy'; cases hy'
    · rw [hn' k hk] at hy; cases hy
  · rcases h' with ⟨k', hk', rfl, rfl, hy', hn'⟩ | ⟨rfl, hn', hz'⟩
    · rw [hn k' hk'] at hy'; cases hy'
    · exact ⟨hz.uniq hz', rfl⟩
def FR (pr : Fld → Bool) (m : Nat) (f : Int) : Prop := (f = 0 ∧ ∀ j, m ≤ j → j < 61 → pr (fldAt j) = false) ∨ (∃ k : Nat, k < 61 ∧ f = (k : Int) + 1 ∧ pr (fldAt k) = true ∧ ∀ j, m ≤ j → j < k → pr (fldAt j) = false)
theorem FR.yes {pr : Fld → Bool} {m : Nat} (hm : m < 61) (h : pr (fldAt m) = true) : FR pr m ((m : Int) + 1) := .inr ⟨m, hm, rfl, h, fun j h1 h2 => by omega⟩
theorem FR.no {pr : Fld → Bool} {m : Nat} {f : Int} (hf : FR pr (m + 1) f) (h : pr (fldAt m) = false) : FR pr m f := by
  rcases hf with ⟨rfl, hn⟩ | ⟨k, hk, rfl, hy, hn⟩
  · exact .inl ⟨rfl, fun j h1 h2 => by
      rcases Nat.lt_or_ge m j with h3 | h3
      · exact hn j h3 h2
      · obtain rfl : j = m := by omega
        exact h⟩
  · exact .inr ⟨k, hk, rfl, hy, fun j h1 h2 => by
      rcases Nat.lt_or_ge m j with h3 | h3
      · exact hn j h3 h2
      · obtain rfl : j = m := by omega
        exact h⟩
theorem FR.ix {pr : Fld → Bool} {f : Int} (h : FR pr 0 f) : FstIx pr f := by
  rcases h with ⟨rfl, hn⟩ | ⟨k, hk, rfl, hy, hn⟩
  · exact .inl ⟨rfl, fun j hj => hn j (by omega) hj⟩
  · exact .inr ⟨k, hk, rfl, hy, fun j hj => hn j (by omega) hj⟩
def RfP (q : Fld) (w : World) (e : Ending) (w' : World) : Prop := ∃ z ex, e = .returned (.tuple #[.int .i64 z, .int .i64 (if ex then 1 else 0)]) ∧ FdIx q z ex ∧ Fresh w w'
set_option maxRecDepth 100000 in
set_option maxHeartbeats 3200000 in
theorem rf_find (q : Fld) (w : World) : Calls Try.prog 27 #[.string q.1, .string q.2] w (RfP q w) := by
  have HE : Hid (∀ j : Nat, j < 61 → ∀ w, Calls Try.prog 47 #[.int .i64 ((j : Int) + 1)] w (EntP j w)) := Lib.hid (fun j hj w => st_entry j ((j : Int) + 1) w rfl hj)
  have ix0 := run_ix0
  have ix1 := run_ix1
  obtain ⟨nm, vl⟩ := q
  go_enter Try.func27, Try.ntmps27
  go_wp2_with fail
  go_loopw [6, 7] (fun f i wr => ∃ (m : Nat) (z : Int), m ≤ 61 ∧ f = .int .i64 z ∧ i = .int .i64 (m : Int) ∧ FR (prN nm) m z ∧ Fresh w wr) (fun _ i _ => (intOf i).toNat)
  case atStart => exact ⟨61, 0, by omega, rfl, rfl, .inl ⟨rfl, fun j h1 h2 => by omega⟩, Fresh.refl _⟩
  case round =>
    obtain ⟨m, z, hm, rfl, rfl, hR, hf⟩ := hrel
    have HF := Lib.hid hf
    have HR := Lib.hid hR
    by_cases hlt : 1 ≤ m
    · obtain ⟨j, rfl⟩ : ∃ j, m = j + 1 := ⟨m - 1, by omega⟩
      have hcast : ((j + 1 : Nat) : Int) = (j : Int) + 1 := by omega
      rw [hcast]
      have d0 : decide ((1 : Int) ≤ (j : Int) + 1) = true := decide_eq_true (by omega)
      have hw : IntKind.i64.wrap ((j : Int) + 1 - 1) = (j : Int) := by rw [IntKind.wrap_i64]; omega
      have HEJ := Lib.hid (HE.out j (by omega))
      obtain ⟨b, hb⟩ : ∃ b, prN nm (fldAt j) = b := ⟨_, rfl⟩
      have HB := Lib.hid hb
      have hbb : ((fldAt j).1.toList == nm.toList) = b := hb
      unfold EntP at HEJ
      generalize fldAt j = fj at hbb HEJ
      clear hb hR hf
      cases b
      · go_wp2_with fail
        with_reducible refine (HEJ.out _).mono ?_
        rintro e w2 ⟨rfl, hf2⟩
        have HF2 := Lib.hid (HF.out.trans hf2)
        clear hf2
        go_wp2_with fail
        go_roundw
        case rel => exact ⟨j, z, by omega, rfl, by go_num, HR.out.no HB.out, HF2.out⟩
        case measure => simp [intOf]
      · go_wp2_with fail
        with_reducible refine (HEJ.out _).mono ?_
        rintro e w2 ⟨rfl, hf2⟩
        have HF2 := Lib.hid (HF.out.trans hf2)
        clear hf2
        go_wp2_with fail
        go_roundw
        case rel => exact ⟨j, (j : Int) + 1, by omega, rfl, by go_num, FR.yes (by omega) HB.out, HF2.out⟩
        case measure => simp [intOf]
    · obtain rfl : m = 0 := by omega
      have HZ := Lib.hid hR.ix
      rw [show ((0 : Nat) : Int) = 0 from rfl]
      clear hR hf HR
      go_wp2_with fail
      go_loopw [8] (fun i wr => ∃ (j : Nat), j ≤ 61 ∧ i = .int .i64 ((j : Int) + 1) ∧ (∀ i, i < j → prF (nm, vl) (fldAt i) = false) ∧ Fresh w wr) (fun i _ => 62 - (intOf i).toNat)
      case atStart => exact ⟨0, by omega, rfl, fun i hi => by omega, HF.out⟩
      case round =>
      obtain ⟨j, hj, rfl, hn, hf⟩ := hrel
      have HF2 := Lib.hid hf
      have HN := Lib.hid hn
      by_cases hlt2 : j < 61
      · have d0 : decide ((j : Int) + 1 ≤ 61) = true := decide_eq_true (by omega)
        have d0' : (j : Int) + 1 ≤ 61 := by omega
        have hw : IntKind.i64.wrap ((j : Int) + 1 + 1) = (j : Int) + 1 + 1 := by rw [IntKind.wrap_i64]; omega
        have HEJ := Lib.hid (HE.out j hlt2)
        obtain ⟨b1, hb1⟩ : ∃ b, ((fldAt j).1.toList == nm.toList) = b := ⟨_, rfl⟩
        obtain ⟨b2, hb2⟩ : ∃ b, ((fldAt j).2.toList == vl.toList) = b := ⟨_, rfl⟩
        have HB : Hid (prF (nm, vl) (fldAt j) = (b1 && b2)) := Lib.hid (by unfold prF; rw [hb1, hb2])
        unfold EntP at HEJ
        generalize fldAt j = fj at hb1 hb2 HEJ
        clear hn hf
        cases b1
        · go_wp2_with fail
          with_reducible refine (HEJ.out _).mono ?_
          rintro e w2 ⟨rfl, hf2⟩
          have HF3 := Lib.hid (HF2.out.trans hf2)
          clear hf2
          go_wp2_with fail
          go_roundw
          case rel => exact ⟨j + 1, by omega, by go_num, fun i hi => by
            rcases Nat.lt_or_ge i j with h | h
            · exact HN.out i h
            · obtain rfl : i = j := by omega
              exact HB.out, HF3.out⟩
          case measure => simp [intOf]; omega
        · cases b2
          · go_wp2_with fail
            with_reducible refine (HEJ.out _).mono ?_
            rintro e w2 ⟨rfl, hf2⟩
            have HF3 := Lib.hid (HF2.out.trans hf2)
            clear hf2
            go_wp2_with fail
            with_reducible refine (HEJ.out _).mono ?_
            rintro e w3 ⟨rfl, hf3⟩
            have HF4 := Lib.hid (HF3.out.trans hf3)
            clear hf3
            go_wp2_with fail
            go_roundw
            case rel => exact ⟨j + 1, by omega, by go_num, fun i hi => by
              rcases Nat.lt_or_ge i j with h | h
              · exact HN.out i h
              · obtain rfl : i = j := by omega
                exact HB.out, HF4.out⟩
            case measure => simp [intOf]; omega
          · go_wp2_with fail
            with_reducible refine (HEJ.out _).mono ?_
            rintro e w2 ⟨rfl, hf2⟩
            have HF3 := Lib.hid (HF2.out.trans hf2)
            clear hf2
            go_wp2_with fail
            with_reducible refine (HEJ.out _).mono ?_
            rintro e w3 ⟨rfl, hf3⟩
            have HF4 := Lib.hid (HF3.out.trans hf3)
            clear hf3
            go_wp2_with fail
            go_ret2
            exact ⟨(j : Int) + 1, true, rfl, .inl ⟨j, hlt2, rfl, rfl, HB.out, HN.out⟩, HF4.out⟩
      · obtain rfl : j = 61 := by omega
        clear hn hf
        go_wp2_with fail
        go_ret2
        exact ⟨z, false, rfl, .inr ⟨rfl, HN.out, HZ.out⟩, HF2.out⟩
end Go.Proofs.Ytdoddpigiencjaa

