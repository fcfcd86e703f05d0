/-
  Contracts of package frame: its methods.
-/
import Derived.Test.YtcdghmidpaeloaaFrameM
import Derived.Test.YtcdghmidpaeloaaOctet
import Derived.Test.YtcdghmidpaeloaaMore
import Derived.Test.YtcdghmidpaeloaaEq
import Derived.Lib.SmallJoins
import Derived.Deep.RegionHeld3
namespace Go.Proofs.Ytcdghmidpaeloaa
set_option linter.unusedVariables false
open Go.RowKit

set_option maxHeartbeats 400000 in
theorem fhas (ty fl st : Int) (A : Option Addr) (n c : Nat) (flag : Int) (w : World) :
    Calls Try.prog 39 #[.agg #[.int .i64 ty, .int .i64 fl, .int .i64 st, .slice A n c], .int .i64 flag] w fun e w' => e = .returned (.bool (oneP flag && !(bits .and .i64 fl flag == 0))) ∧ Fresh w w' := by
  by_cases h0 : flag < 1
  · have ho := Lib.hid (oneP_out (z := flag) (.inl h0))
    go_enter Try.func39, Try.ntmps39
    go_wp2
    go_ret
    exact ⟨by rw [ho.out]; rfl, Fresh.alloc _ _⟩
  · by_cases h1 : 255 < flag
    · have ho := Lib.hid (oneP_out (z := flag) (.inr h1))
      go_enter Try.func39, Try.ntmps39
      go_wp2
      go_ret
      exact ⟨by rw [ho.out]; rfl, Fresh.alloc _ _⟩
    · obtain ⟨k, rfl⟩ : ∃ k : Nat, flag = k := ⟨flag.toNat, by omega⟩
      have hk := one_nat k (by omega) (by omega)
      have ha : bits .and .i64 (k : Int) ((k : Int) - 1) = ((k &&& (k - 1) : Nat) : Int) := by
        have := i64_and_nat k (k - 1) (by omega) (by omega)
        rwa [show ((k - 1 : Nat) : Int) = (k : Int) - 1 by omega] at this
      have hb : (((k &&& (k - 1) : Nat) : Int) == 0) = oneP (k : Int) := by
        rw [← hk, Bool.eq_iff_iff]
        simp
      rw [← ha] at hb
      clear ha hk
      cases ho : oneP (k : Int) with
      | false =>
        rw [ho] at hb
        have HO := Lib.hid ho
        clear ho
        go_enter Try.func39, Try.ntmps39
        go_wp2
        all_goals (go_ret; exact ⟨rfl, Fresh.alloc _ _⟩)
      | true =>
        rw [ho] at hb
        have HO := Lib.hid ho
        clear ho
        go_enter Try.func39, Try.ntmps39
        go_wp2
        go_ret
        exact ⟨by simp [bne], Fresh.alloc _ _⟩
theorem bequal (A B : Option Addr) (l m : List UInt8) (c d : Nat) (w : World) (hA : BS w A l) (hB : BS w B m) :
    Calls Try.prog 23 #[.slice A l.length c, .slice B m.length d] w fun e w' => e = .returned (.bool (l == m)) ∧ w = w' := by
  have h1 := run_str (P := Try.prog) hA 22 9 5 Try.underlying22 Try.underlying5 Try.underlying9 c
  have h2 := run_str (P := Try.prog) hB 22 9 5 Try.underlying22 Try.underlying5 Try.underlying9 d
  go_enter Try.func23, Try.ntmps23
  go_wp2
  go_ret
  exact ⟨by simp [strB], rfl⟩
end Go.Proofs.Ytcdghmidpaeloaa

