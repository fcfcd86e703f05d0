/-
  Plain arithmetic of numbers in bytes.
-/
import Derived.Test.YtcdghmidpaeloaaBytes
import Derived.Laws.Bits64
namespace Go.Proofs.Ytcdghmidpaeloaa
set_option linter.unusedVariables false
open Go.RowKit

/-- The number of bytes, the highest one first. -/
def numL (l : List UInt8) : Nat := l.foldl (fun x c => x * 256 + c.toNat) 0
theorem numL_snoc (l : List UInt8) (c : UInt8) : numL (l ++ [c]) = numL l * 256 + c.toNat := by simp [numL]
theorem numL_take (l : List UInt8) (k : Nat) (h : k < l.length) : numL (l.take (k + 1)) = numL (l.take k) * 256 + l[k].toNat := by
  rw [List.take_succ_eq_append_getElem h, numL_snoc]
theorem numL_lt (l : List UInt8) : numL l < 256 ^ l.length := by
  have key : ∀ (n : Nat) (l : List UInt8), l.length = n → numL l < 256 ^ n := by
    intro n
    induction n with
    | zero => intro l h; simp [List.length_eq_zero_iff.1 h, numL]
    | succ n ih =>
      intro l h
      have hne : l ≠ [] := by intro e; simp [e] at h
      rw [← List.dropLast_concat_getLast hne, numL_snoc]
      have := ih l.dropLast (by simp [h])
      have hc := UInt8.toNat_lt (l.getLast hne)
      rw [Nat.pow_succ]
      omega
  exact key _ l rfl
theorem numL_take_lt (l : List UInt8) (k m : Nat) (hk : k ≤ m) : numL (l.take k) < 256 ^ m :=
  Nat.lt_of_lt_of_le (numL_lt _) (Nat.pow_le_pow_right (by omega) (by simp; omega))

theorem or_byte (z c : Nat) (hz : z < 72057594037927936) (hc : c < 256) : bits .or .u64 ((z : Int) * 256) (c : Int) = ((z * 256 + c : Nat) : Int) := by
  show IntKind.u64.wrap ((BitVec.ofInt 64 ((z : Int) * 256) ||| BitVec.ofInt 64 (c : Int)).toNat : Int) = _
  have e2 : BitVec.ofInt 64 ((z : Int) * 256) = BitVec.ofNat 64 (z * 256) := by
    rw [show ((z : Int) * 256) = ((z * 256 : Nat) : Int) by omega, BitVec.ofInt_natCast]
  rw [e2, BitVec.ofInt_natCast, BitVec.toNat_or, BitVec.toNat_ofNat, BitVec.toNat_ofNat, Nat.mod_eq_of_lt (by omega), Nat.mod_eq_of_lt (by omega)]
  have e3 : z * 256 ||| c = z * 256 + c := by
    have := Nat.shiftLeft_add_eq_or_of_lt (i := 8) (show c < 2 ^ 8 by omega) z
    rw [Nat.shiftLeft_eq] at this
    exact this.symm
  rw [e3, IntKind.wrap_u64]
  omega

/-- The last n bytes of x. -/
def bigL (x n : Nat) : List UInt8 := (List.range n).map fun i => UInt8.ofNat (x / 256 ^ (n - 1 - i))
theorem bigL_length (x n : Nat) : (bigL x n).length = n := by simp [bigL]
theorem bigL_get (x n i : Nat) (h : i < n) : (bigL x n)[i]? = some (UInt8.ofNat (x / 256 ^ (n - 1 - i))) := by simp [bigL, h]
theorem bigL_succ (x n : Nat) : bigL x (n + 1) = bigL (x / 256) n ++ [UInt8.ofNat x] := by
  apply List.ext_getElem?
  intro i
  by_cases h : i < n
  · rw [bigL_get x (n + 1) i (by omega), List.getElem?_append_left (by rw [bigL_length]; exact h), bigL_get _ n i h]
    congr 2
    rw [Nat.div_div_eq_div_mul, ← Nat.pow_succ']
    congr 2
    omega
  · by_cases h2 : i = n
    · subst h2
      rw [bigL_get x (i + 1) i (by omega), List.getElem?_append_right (by rw [bigL_length]; omega), bigL_length]
      simp
    · rw [List.getElem?_eq_none (by rw [bigL_length]; omega), List.getElem?_eq_none (by simp [bigL_length]; omega)]
theorem numL_bigL (n : Nat) : ∀ x, numL (bigL x n) = x % 256 ^ n := by
  induction n with
  | zero => intro x; simp [bigL, numL, Nat.mod_one]
  | succ n ih =>
    intro x
    rw [bigL_succ, numL_snoc, ih]
    have h1 : (UInt8.ofNat x).toNat = x % 256 := by simp
    rw [h1, Nat.pow_succ, Nat.mul_comm (256 ^ n) 256, Nat.mod_mul]
    omega
theorem bigL_numL (n : Nat) : ∀ l : List UInt8, l.length = n → bigL (numL l) n = l := by
  induction n with
  | zero => intro l h; rw [List.length_eq_zero_iff.1 h]; rfl
  | succ n ih =>
    intro l h
    have hne : l ≠ [] := by intro e; simp [e] at h
    have hd : l.dropLast.length = n := by simp [h]
    conv => lhs; rw [← List.dropLast_concat_getLast hne]
    rw [bigL_succ, numL_snoc]
    have hc := UInt8.toNat_lt (l.getLast hne)
    have e1 : (numL l.dropLast * 256 + (l.getLast hne).toNat) / 256 = numL l.dropLast := by omega
    rw [e1, ih _ hd]
    have e2 : UInt8.ofNat (numL l.dropLast * 256 + (l.getLast hne).toNat) = l.getLast hne := by
      apply UInt8.toNat_inj.1
      simp
    rw [e2]
    exact List.dropLast_concat_getLast hne
theorem numL_lt64 (l : List UInt8) (h : l.length ≤ 8) : numL l < 18446744073709551616 := by
  have h1 := numL_lt l
  have h2 : 256 ^ l.length ≤ 256 ^ 8 := Nat.pow_le_pow_right (by omega) h
  rw [show (256 : Nat) ^ 8 = 18446744073709551616 from rfl] at h2
  omega
end Go.Proofs.Ytcdghmidpaeloaa

