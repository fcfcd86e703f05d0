/-
  '==' between arrays of strings.
-/
import Derived.Test.YtffdhegflnhfjaaEq
namespace Go.Proofs.Ytffdhegflnhfjaa
set_option linter.unusedVariables false
open Go.RowKit
section
variable {P : Program} {t e : TypeId}
theorem run_eqItems_strs (he : P.underlying e = some .string) (d : Nat) (xs ys : List ByteArray) (w : World) : ∀ (is : List Nat), (∀ i ∈ is, i < xs.length ∧ i < ys.length) →
    (Op.eqItems (d + 1) e 1 (xs.map Value.string).toArray (ys.map Value.string).toArray is).run P w = .ok (is.all fun i => (xs.getD i ByteArray.empty).toList == (ys.getD i ByteArray.empty).toList) w
  | [], _ => by simp [Op.eqItems]
  | i :: is, h => by
    have hi := h i (by simp)
    have hk : P.plainKey e = true := by simp [Program.plainKey, he]
    have p1 := run_part_plain (P := P) w (e := e) hk (xs := (xs.map Value.string).toArray) (off := i * 1) (v := .string (xs.getD i ByteArray.empty)) (by simp [hi.1])
    have p2 := run_part_plain (P := P) w (e := e) hk (xs := (ys.map Value.string).toArray) (off := i * 1) (v := .string (ys.getD i ByteArray.empty)) (by simp [hi.2])
    have ih := run_eqItems_strs he d xs ys w is (fun j hj => h j (by simp [hj]))
    simp only [Op.eqItems, Sem.run_bind, p1, p2, Result.andThen_ok, run_equalIn_string w d e _ _ he, List.all_cons]
    cases hxy : ((xs.getD i ByteArray.empty).toList == (ys.getD i ByteArray.empty).toList) with
    | false => simp
    | true => simpa using ih
theorem run_equalIn_strs {n : Nat} (ht : P.underlying t = some (.array n e)) (he : P.underlying e = some .string) (hinfo : (P.info? e).map (·.size) = some 1) (d : Nat) (xs ys : List ByteArray) (hx : xs.length = n) (hy : ys.length = n) (w : World) :
    (Op.equalIn (d + 2) t (.agg (xs.map Value.string).toArray) (.agg (ys.map Value.string).toArray)).run P w = .ok ((List.range n).all fun i => (xs.getD i ByteArray.empty).toList == (ys.getD i ByteArray.empty).toList) w := by
  obtain ⟨i, hi, hs⟩ : ∃ i, P.info? e = some i ∧ i.size = 1 := by
    cases h : P.info? e with
    | none => rw [h] at hinfo; simp at hinfo
    | some i => rw [h] at hinfo; exact ⟨i, rfl, by simpa using hinfo⟩
  rw [run_equalIn_array w (d + 1) _ _ ht hi]
  have hc : P.cellsOf e = 1 := by simp [Program.cellsOf, hi, hs]
  rw [hc, run_eqItems_strs he d xs ys w _ (fun j hj => by have := List.mem_range.1 hj; omega)]
end
theorem toList_inj {a b : ByteArray} : a.toList = b.toList ↔ a = b := by
  constructor
  · intro h
    rw [ByteArray.toList_eq, ByteArray.toList_eq] at h
    obtain ⟨⟨x⟩⟩ := a
    obtain ⟨⟨y⟩⟩ := b
    have h' : x = y := h
    rw [h']
  · rintro rfl; rfl
theorem run_eq_pair (a b a' b' : ByteArray) (w : World) (r : Bool) (hr : decide (a = a' ∧ b = b') = r) : (Op.equalIn 10000 64 (.agg #[.string a, .string b]) (.agg #[.string a', .string b'])).run Try.prog w = .ok r w := by
  have h := run_equalIn_strs (P := Try.prog) Try.underlying64 Try.underlying9 (by kernel_rfl) 9998 [a, b] [a', b'] rfl rfl w
  have e : ((List.range 2).all fun i => (([a, b] : List ByteArray).getD i ByteArray.empty).toList == (([a', b'] : List ByteArray).getD i ByteArray.empty).toList) = r := by
    rw [← hr, Bool.eq_iff_iff]
    simp [List.range, List.range.loop, toList_inj]
  rw [e] at h
  exact h
end Go.Proofs.Ytffdhegflnhfjaa

