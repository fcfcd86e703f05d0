/-
  A row and the document's list say the same.
-/
import Derived.Test.YthfifeclmikbgaaQueL
namespace Go.Proofs.Ythfifeclmikbgaa
set_option linter.unusedVariables false
set_option linter.unusedSimpArgs false
open Go.RowKit
def saidL (l : List QI) : List SI := l.map QI.said
theorem saidL_sz (l : List QI) : sz (saidL l) = qz l := by
  induction l with
  | nil => rfl
  | cons x r ih =>
    have h1 : sz (saidL (x :: r)) = siz x.said + sz (saidL r) := by simp [saidL, sz]
    rw [h1, ih, qz_cons]
    rfl
theorem saidL_len (l : List QI) : (saidL l).length = l.length := by simp [saidL]
theorem saidL_push (l : List QI) (x : QI) (g1 g2 : Nat) : saidL (l ++ [clI x g1 g2]) = saidL l ++ [x.said] := by simp [saidL, clI, QI.said]
theorem saidL_drop (num : Int) (l : List QI) : dropS num (saidL l) = saidL (l.eraseIdx (idxQ num l)) := by
  induction l with
  | nil => rfl
  | cons x r ih =>
    simp only [saidL, List.map_cons, dropS, idxQ]
    by_cases h : x.num = num
    · simp [h, QI.said]
    · have h2 : ¬ (QI.said x).1 = num := h
      rw [if_neg h2, if_neg h, List.eraseIdx_cons_succ, List.map_cons]
      have ih' : dropS num (r.map QI.said) = (r.eraseIdx (idxQ num r)).map QI.said := ih
      rw [ih']
theorem saidL_dropLen (num : Int) (l : List QI) : (dropS num (saidL l)).length < (saidL l).length ↔ idxQ num l < l.length := by
  rw [saidL_drop, saidL_len, saidL_len]
  have h := idxQ_le num l
  by_cases h1 : idxQ num l < l.length
  · rw [List.length_eraseIdx_of_lt h1]
    omega
  · rw [List.eraseIdx_of_length_le (by omega)]
    omega
theorem saidL_cut (x : QI) (d : Nat) (r : List QI) : saidL (cutI x d :: r) = cutS x.said d :: saidL r := rfl
theorem saidL_pop (l : List QI) : saidL (l.eraseIdx 0) = (saidL l).tail := by cases l <;> rfl
end Go.Proofs.Ythfifeclmikbgaa
