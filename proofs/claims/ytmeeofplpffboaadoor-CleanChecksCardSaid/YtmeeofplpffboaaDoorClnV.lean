/-
  strings.IndexRune of a rune beyond ASCII within ASCII bytes.
-/
import Derived.Test.YtmeeofplpffboaaDoorClnU
import Derived.Handy
import Derived.Deep.Cut
import Derived.WalkMore
namespace Go.Proofs.YtmeeofplpffboaaDoor
set_option maxRecDepth 100000
set_option linter.unusedVariables false
set_option linter.unusedSimpArgs false
open Go.RowKit
set_option maxHeartbeats 3200000 in
theorem ir_other (s : ByteArray) (hA : ∀ (j : Nat) b, s.data.toList[j]? = some b → b.toNat < 128) (c : Nat) (h : Rn c) (hne : c ≠ 65533) (w : World) :
    Calls Tryd.prog 36 #[.string s, .int .i32 (c : Int)] w fun e w' => e = .returned (.int .i64 (-1)) ∧ Fresh w w' := by
  have HA := Lib.hid hA
  clear hA
  have a0 : decide ((0 : Int) ≤ (c : Int)) = true := decide_eq_true (by omega)
  have a1 : decide ((c : Int) < 128) = false := decide_eq_false (by have := h.1; omega)
  have a2 : ((c : Int) == 65533) = false := beq_eq_false_iff_ne.2 (by omega)
  have HV := Lib.hid (fun w => ut_valid c h w)
  obtain ⟨k, k1, k3, ksz, kb⟩ := enc_big (c : Int) (by have := h.1; omega)
  obtain ⟨S, hS⟩ : ∃ S, Utf8.encode (c : Int) = S := ⟨_, rfl⟩
  rw [hS] at ksz kb
  have HSZ := Lib.hid ksz
  have hcv : ∀ W, (convert 21 9 (.int .i32 (c : Int))).run Tryd.prog W = .ok (.string S) W := fun W => by rw [← hS]; exact run_convert_int_string W _ _ _ _ (by rw [Tryd.underlying21]; rfl) Tryd.underlying9
  clear hS
  have hkS : k < S.size := by omega
  obtain ⟨y, hy⟩ : ∃ y : UInt8, S[k]'hkS = y := ⟨_, rfl⟩
  have hy128 : 128 ≤ y.toNat := by rw [← hy]; exact kb hkS
  have hsz : S.size = k + 1 := ksz
  have hkk : ((k + 1 : Nat) : Int) - 1 = (k : Int) := by omega
  have hIB := Lib.hid (fun (t : ByteArray) (ht : ∀ (j : Nat) b, t.data.toList[j]? = some b → b.toNat < 128) (w : World) => (show Calls Tryd.prog 22 #[.string t, .int .u8 (y.toNat : Int)] w (fun e w' => e = .returned (.int .i64 (-1)) ∧ w' = w) from (st_indexByte t (y.toNat : Int) w).mono (fun e w' hh => by
    refine ⟨?_, hh.2⟩
    rw [hh.1, show ((y.toNat : Int)).toNat.toUInt8 = y by simp, no_big ht hy128])))
  clear h hne kb ksz
  by_cases hks : k < s.size
  · have hks' : (k : Int) < (s.size : Int) := by omega
    obtain ⟨x, hx⟩ : ∃ x : UInt8, s[k]'hks = x := ⟨_, rfl⟩
    have hx128 : x.toNat < 128 := HA.out k x (by rw [← hx]; exact Lib.data_getElem? s k hks)
    have hxy : ((x.toNat : Int) != (y.toNat : Int)) = true := by
      simp only [bne_iff_ne, ne_eq]
      omega
    go_enter Tryd.func36, Tryd.ntmps36
    go_wp2_with (first | (go_at_call 42; with_reducible refine (HV.out _).mono ?_; rintro e w1 ⟨rfl, hw⟩; subst hw) | fail)
    go_step3
    have HX : Hid (∀ (j : Nat) b, (s.extract (k + 1) s.size).data.toList[j]? = some b → b.toNat < 128) := Lib.hid (fun j b hb => by
      rw [Lib.extract_to_end, List.getElem?_drop] at hb
      exact HA.out _ b hb)
    have hk1 : ((k : Int) + 1).toNat = k + 1 := by omega
    have hk2 : IntKind.i64.wrap ((k : Int) + 1) = (k : Int) + 1 := by rcases (show k = 1 ∨ k = 2 ∨ k = 3 by omega) with h | h | h <;> (rw [h]; rfl)
    have hk3 : (0 : Int) ≤ (k : Int) + 1 ∧ (k : Int) + 1 ≤ (s.size : Int) := by omega
    go_wp2_with fail
    go_rounds 1
    go_step3
    go_wp2_with fail
    go_region
    go_wp2_with fail
    first | go_region_with (go_at_call 22; with_reducible refine (hIB.out _ HX.out _).mono ?_; rintro e w2 ⟨rfl, hw⟩; subst hw) | fail
    go_wp2_with fail
    rw [Exit.noGoto_ret]
    go_wp2
    rw [Exit.noGoto_ret]
    go_ret
    exact ⟨rfl, (Fresh.drew _).trans (Fresh.drew _)⟩
  · have hks' : ¬ (k : Int) < (s.size : Int) := by omega
    go_enter Tryd.func36, Tryd.ntmps36
    go_wp2_with (first | (go_at_call 42; with_reducible refine (HV.out _).mono ?_; rintro e w1 ⟨rfl, hw⟩; subst hw) | fail)
    go_step3
    go_wp2
    go_rounds 2
    rw [Exit.noGoto_ret]
    go_ret
    exact ⟨rfl, Fresh.refl _⟩
end Go.Proofs.YtmeeofplpffboaaDoor

