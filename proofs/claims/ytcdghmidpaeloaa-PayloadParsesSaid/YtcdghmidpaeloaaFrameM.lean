/-
  Frames as values; plain facts on them.
-/
import Derived.Test.YtcdghmidpaeloaaShape
import Derived.Test.YtcdghmidpaeloaaOctetM
import Derived.Laws.BitsAllLaws
import Derived.Laws.BitsLemmas
namespace Go.Proofs.Ytcdghmidpaeloaa
set_option linter.unusedVariables false
open Go.RowKit Go.ChangeShapes Go.WideShapes Go.Deep

theorem ofInt_i64 (a : Nat) (ha : a < 9223372036854775808) : (BitVec.ofInt 64 (a : Int)).toNat = a := by
  rw [BitVec.ofInt_natCast, BitVec.toNat_ofNat]; exact Nat.mod_eq_of_lt (by omega)
theorem i64_and_nat (a b : Nat) (ha : a < 9223372036854775808) (hb : b < 9223372036854775808) : bits .and .i64 (a : Int) (b : Int) = ((a &&& b : Nat) : Int) := by
  have hx : a &&& b < 2 ^ 63 := Nat.and_lt_two_pow _ (by omega)
  show IntKind.i64.wrap ((BitVec.ofInt 64 (a : Int) &&& BitVec.ofInt 64 (b : Int)).toNat : Int) = _
  rw [BitVec.toNat_and, ofInt_i64 a ha, ofInt_i64 b hb, IntKind.wrap_i64]
  omega
theorem ofInt_u64 (a : Nat) (ha : a < 18446744073709551616) : (BitVec.ofInt 64 (a : Int)).toNat = a := by
  rw [BitVec.ofInt_natCast, BitVec.toNat_ofNat]; exact Nat.mod_eq_of_lt (by omega)
/-- The lowest 31 bits. -/
theorem u64_low31 (a : Nat) (ha : a < 18446744073709551616) : bits .and .u64 (a : Int) 2147483647 = ((a % 2147483648 : Nat) : Int) := by
  show IntKind.u64.wrap ((BitVec.ofInt 64 (a : Int) &&& BitVec.ofInt 64 ((2147483647 : Nat) : Int)).toNat : Int) = _
  rw [BitVec.toNat_and, ofInt_u64 a ha, ofInt_u64 2147483647 (by omega), IntKind.wrap_u64]
  have : a &&& 2147483647 = a % 2147483648 := Nat.and_two_pow_sub_one_eq_mod a 31
  rw [this]
  omega

/-- One bit of the lowest eight. -/
def oneP (z : Int) : Bool := decide (z = 1 ∨ z = 2 ∨ z = 4 ∨ z = 8 ∨ z = 16 ∨ z = 32 ∨ z = 64 ∨ z = 128)
theorem one_nat : ∀ n : Nat, n < 256 → 0 < n → ((n &&& (n - 1)) == 0) = oneP (n : Int) := by decide +kernel
theorem oneP_out {z : Int} (h : z < 1 ∨ 255 < z) : oneP z = false := by
  unfold oneP
  exact decide_eq_false (by omega)

/-- A frame's fields; its payload is l, in the slice at A of capacity c. -/
structure FrV where
  (ty fl st : Int) (A : Option Addr) (c : Nat) (l : List UInt8)
def FrV.cells (f : FrV) : List Value := [.int .i64 f.ty, .int .i64 f.fl, .int .i64 f.st, .slice f.A f.l.length f.c]
structure FrV.Ok (w : World) (f : FrV) : Prop where
  ty : -9223372036854775808 ≤ f.ty ∧ f.ty ≤ 9223372036854775807
  fl : -9223372036854775808 ≤ f.fl ∧ f.fl ≤ 9223372036854775807
  st : -9223372036854775808 ≤ f.st ∧ f.st ≤ 9223372036854775807
  le : f.l.length ≤ f.c
  max : f.c ≤ maxLen
  bs : BS w f.A f.l
theorem FrV.Ok.fresh {w w' : World} {f : FrV} (h : f.Ok w) (hf : Fresh w w') : f.Ok w' := ⟨h.ty, h.fl, h.st, h.le, h.max, h.bs.fresh hf⟩

def frR (ty fl st : Int) (n : Nat) : Bool := decide (0 ≤ ty ∧ ty ≤ 255 ∧ 0 ≤ fl ∧ fl ≤ 255 ∧ 0 ≤ st ∧ st ≤ 2147483647 ∧ n ≤ 16777215)
/-- A right frame's bytes. -/
def frB (ty fl st : Nat) (l : List UInt8) : List UInt8 := bigL l.length 3 ++ ([UInt8.ofNat ty, UInt8.ofNat fl] ++ (bigL st 4 ++ l))
theorem frB_length (ty fl st : Nat) (l : List UInt8) : (frB ty fl st l).length = 9 + l.length := by
  simp [frB, bigL_length]; omega

end Go.Proofs.Ytcdghmidpaeloaa

