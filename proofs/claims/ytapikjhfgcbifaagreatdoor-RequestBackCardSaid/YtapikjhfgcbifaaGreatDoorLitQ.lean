/-
  Texts laid together: LitE LitF.
-/
import Derived.Test.YtapikjhfgcbifaaGreatDoorLitP
import Derived.Test.YtapikjhfgcbifaaGreatDoorOwn
import Derived.Test.YtapikjhfgcbifaaGreatDoorMore
import Derived.Test.YtapikjhfgcbifaaGreatDoorHufP4
import Derived.Test.YtapikjhfgcbifaaGreatDoorPrefP
/-
  The document's answers for layer 4: bytes; that every text has a code.
-/
namespace Go.Proofs.YtapikjhfgcbifaaGreatDoor
set_option linter.unusedVariables false
set_option linter.unusedSimpArgs false
open Go.RowKit
theorem bits_ex : ∀ D : List Bool, ∃ v, v < 2 ^ D.length ∧ bitsOf v D.length = D
  | [] => ⟨0, by simp, rfl⟩
  | x :: r => by
    obtain ⟨u, hu, he⟩ := bits_ex r
    have hc := bitsOf_cat x.toNat u 1 r.length hu
    refine ⟨x.toNat * 2 ^ r.length + u, ?_, ?_⟩
    · rw [List.length_cons, Nat.pow_succ]
      cases x
      · simp; omega
      · simp; omega
    · rw [List.length_cons, Nat.add_comm r.length 1, hc, he]
      cases x <;> rfl
theorem byte_ex {D : List Bool} (h : D.length = 8) : ∃ c : UInt8, bb c = D := by
  obtain ⟨v, hv, he⟩ := bits_ex D
  rw [h] at hv he
  refine ⟨UInt8.ofNat v, ?_⟩
  unfold bb
  rw [show (UInt8.ofNat v).toNat = v by simp; omega]
  exact he
theorem bits_pack : ∀ (k : Nat) (D : List Bool), D.length = 8 * k → ∃ O, bitsL O = D
  | 0, D, h => ⟨[], by rw [List.length_eq_zero_iff.1 (by omega : D.length = 0)]; rfl⟩
  | k + 1, D, h => by
    obtain ⟨c, hc⟩ := byte_ex (D := D.take 8) (by rw [List.length_take]; omega)
    obtain ⟨O, hO⟩ := bits_pack k (D.drop 8) (by rw [List.length_drop]; omega)
    exact ⟨c :: O, by rw [bitsL_cons, hc, hO, List.take_append_drop]⟩
theorem enc_ex (l : List UInt8) : ∃ O, IsEnc l O := by
  obtain ⟨p, hp, h8, _⟩ := pads (szB l)
  obtain ⟨O, hO⟩ := bits_pack ((szB l + p) / 8) (encB l ++ ones p) (by rw [List.length_append, ones, List.length_replicate]; unfold szB at *; omega)
  exact ⟨O, p, hp, hO⟩
theorem lit_ex (l : List UInt8) (cd : Bool) : ∃ P, IsLit l cd P := by
  cases cd with
  | true =>
    obtain ⟨O, hO⟩ := enc_ex l
    exact ⟨_, O, hO, rfl⟩
  | false => exact ⟨_, l, rfl, rfl⟩
theorem bitsL_at {O : List UInt8} {k j : Nat} (hk : k < O.length) (hj : j < 8) (h : 8 * k + j < (bitsL O).length) : (bitsL O)[8 * k + j] = O[k].toNat.testBit (7 - j) := by
  have e : bitsL O = bitsL (O.take k) ++ (bb O[k] ++ bitsL (O.drop (k + 1))) := by
    rw [← bitsL_cons, ← bitsL_append, ← List.drop_eq_getElem_cons hk, List.take_append_drop]
  have hl : (bitsL (O.take k)).length = 8 * k := by rw [bitsL_length, List.length_take]; omega
  have hb := bb_length O[k]
  have h2 : 8 * k + j < (bitsL (O.take k) ++ (bb O[k] ++ bitsL (O.drop (k + 1)))).length := by rw [← e]; exact h
  have e2 : (bitsL O)[8 * k + j] = (bitsL (O.take k) ++ (bb O[k] ++ bitsL (O.drop (k + 1))))[8 * k + j] := by congr 1
  rw [e2, List.getElem_append_right (by omega), List.getElem_append_left (by omega)]
  rw [bb_get]
  congr 1
  omega
end Go.Proofs.YtapikjhfgcbifaaGreatDoor

/-
  The document's answers for layer 4: Encode, Decode.
-/
namespace Go.Proofs.YtapikjhfgcbifaaGreatDoor
set_option linter.unusedVariables false
set_option linter.unusedSimpArgs false
open Go.RowKit
theorem mark_cast (cd : Bool) : (if cd then (1 : Int) else 0) = ((if cd then 1 else 0 : Nat) : Int) := by cases cd <;> rfl
theorem strB_cut (l : List UInt8) (a m : Nat) (h : a + m ≤ l.length) : (strB l).extract a (a + m) = strB ((l.drop a).take m) := by
  apply ByteArray.ext
  apply Array.ext'
  simp only [ByteArray.data_extract, Array.toList_extract, strB_data, List.extract_eq_take_drop]
  congr 1
  omega
theorem textR_coded {b O : List UInt8} {er : Nat} (lim : Int) (hde : decE (bitsL b) = (er, O)) : textR b true lim = if er = 0 then (if lim < (O.length : Int) then (22, []) else (0, O)) else (er, []) := by
  unfold textR
  simp only [if_true, hde]
  by_cases h : er = 0
  · subst h; simp
  · simp [h]
def Lit4P (l : List UInt8) (lim : Int) (w : World) (e : Ending) (w' : World) : Prop := e = .returned (.tuple #[.string (strB (litR l lim).1), .int .i64 ((litR l lim).2.1 : Int), .int .i64 ((litR l lim).2.2 : Int)]) ∧ Fresh w w'
theorem Lit4P.mk {l : List UInt8} {lim : Int} {w w' : World} {O : List UInt8} {u er : Nat} (h : litR l lim = (O, u, er)) (hf : Fresh w w') : Lit4P l lim w (.returned (.tuple #[.string (strB O), .int .i64 (u : Int), .int .i64 (er : Int)])) w' := ⟨by rw [h], hf⟩
end Go.Proofs.YtapikjhfgcbifaaGreatDoor

