/-
  Texts laid together: Eq EqS LnEq.
-/
import Derived.Test.YtapikjhfgcbifaaGreatDoorOwn
import Derived.ChangeKeysEq
import Derived.Laws.StructEq
/-
  '==' between arrays of whole numbers.
-/
namespace Go.Proofs.YtapikjhfgcbifaaGreatDoor
set_option linter.unusedVariables false
open Go.RowKit

section
variable {P : Program} {t e : TypeId} {k : IntKind}
theorem run_eqItems_ints (he : P.underlying e = some (.int k)) (d : Nat) (xs ys : List Int) (w : World) : ∀ (is : List Nat), (∀ i ∈ is, i < xs.length ∧ i < ys.length) →
    (Op.eqItems (d + 1) e 1 (xs.map (Value.int k)).toArray (ys.map (Value.int k)).toArray is).run P w = .ok (is.all fun i => xs.getD i 0 == ys.getD i 0) w
  | [], _ => by simp [Op.eqItems]
  | i :: is, h => by
    have hi := h i (by simp)
    have hk : P.plainKey e = true := by simp [Program.plainKey, he]
    have p1 := run_part_plain (P := P) w (e := e) hk (xs := (xs.map (Value.int k)).toArray) (off := i * 1) (v := .int k (xs.getD i 0)) (by simp [hi.1])
    have p2 := run_part_plain (P := P) w (e := e) hk (xs := (ys.map (Value.int k)).toArray) (off := i * 1) (v := .int k (ys.getD i 0)) (by simp [hi.2])
    have ih := run_eqItems_ints he d xs ys w is (fun j hj => h j (by simp [hj]))
    simp only [Op.eqItems, Sem.run_bind, p1, p2, Result.andThen_ok, run_equalIn_int w d e k k _ _ he, List.all_cons]
    cases hxy : (xs.getD i 0 == ys.getD i 0) with
    | false => simp
    | true => simpa using ih
theorem list_eq_all (xs ys : List Int) (n : Nat) (hx : xs.length = n) (hy : ys.length = n) : ((List.range n).all fun i => xs.getD i 0 == ys.getD i 0) = decide (xs = ys) := by
  rw [Bool.eq_iff_iff]
  simp only [List.all_eq_true, List.mem_range, beq_iff_eq, decide_eq_true_eq]
  constructor
  · intro h
    apply List.ext_getElem (by omega)
    intro i h1 h2
    have := h i (by omega)
    rw [List.getD_eq_getElem?_getD, List.getD_eq_getElem?_getD, List.getElem?_eq_getElem h1, List.getElem?_eq_getElem h2] at this
    simpa using this
  · rintro rfl i _
    rfl
theorem run_equalIn_ints {n : Nat} (ht : P.underlying t = some (.array n e)) (he : P.underlying e = some (.int k)) (hinfo : (P.info? e).map (·.size) = some 1) (d : Nat) (xs ys : List Int) (hx : xs.length = n) (hy : ys.length = n) (w : World) :
    (Op.equalIn (d + 2) t (.agg (xs.map (Value.int k)).toArray) (.agg (ys.map (Value.int k)).toArray)).run P w = .ok (decide (xs = ys)) w := by
  obtain ⟨i, hi, hs⟩ : ∃ i, P.info? e = some i ∧ i.size = 1 := by
    cases h : P.info? e with
    | none => rw [h] at hinfo; simp at hinfo
    | some i => rw [h] at hinfo; exact ⟨i, rfl, by simpa using hinfo⟩
  rw [run_equalIn_array w (d + 1) _ _ ht hi]
  have hc : P.cellsOf e = 1 := by simp [Program.cellsOf, hi, hs]
  rw [hc, run_eqItems_ints he d xs ys w _ (fun j hj => by have := List.mem_range.1 hj; omega), list_eq_all xs ys n hx hy]
end
end Go.Proofs.YtapikjhfgcbifaaGreatDoor

/-
  '==' between arrays of strings.
-/
namespace Go.Proofs.YtapikjhfgcbifaaGreatDoor
set_option linter.unusedVariables false
open Go.RowKit
section
variable {P : Program} {t e : TypeId}
theorem run_eqItems_strs (he : P.underlying e = some .string) (d : Nat) (xs ys : List ByteArray) (w : World) : ∀ (is : List Nat), (∀ i ∈ is, i < xs.length ∧ i < ys.length) →
    (Op.eqItems (d + 1) e 1 (xs.map Value.string).toArray (ys.map Value.string).toArray is).run P w = .ok (is.all fun i => (xs.getD i ByteArray.empty).toList == (ys.getD i ByteArray.empty).toList) w
  | [], _ => by simp [Op.eqItems]
  | i :: is, h => by
    have hi := h i (by simp)
    have hk : P.plainKey e = true := by simp [Program.plainKey, he]
    have p1 := run_part_plain (P := P) w (e := e) hk (xs := (xs.map Value.string).toArray) (off := i * 1) (v := .string (xs.getD i ByteArray.empty)) (by simp [hi.1])
    have p2 := run_part_plain (P := P) w (e := e) hk (xs := (ys.map Value.string).toArray) (off := i * 1) (v := .string (ys.getD i ByteArray.empty)) (by simp [hi.2])
    have ih := run_eqItems_strs he d xs ys w is (fun j hj => h j (by simp [hj]))
    simp only [Op.eqItems, Sem.run_bind, p1, p2, Result.andThen_ok, run_equalIn_string w d e _ _ he, List.all_cons]
    cases hxy : ((xs.getD i ByteArray.empty).toList == (ys.getD i ByteArray.empty).toList) with
    | false => simp
    | true => simpa using ih
theorem run_equalIn_strs {n : Nat} (ht : P.underlying t = some (.array n e)) (he : P.underlying e = some .string) (hinfo : (P.info? e).map (·.size) = some 1) (d : Nat) (xs ys : List ByteArray) (hx : xs.length = n) (hy : ys.length = n) (w : World) :
    (Op.equalIn (d + 2) t (.agg (xs.map Value.string).toArray) (.agg (ys.map Value.string).toArray)).run P w = .ok ((List.range n).all fun i => (xs.getD i ByteArray.empty).toList == (ys.getD i ByteArray.empty).toList) w := by
  obtain ⟨i, hi, hs⟩ : ∃ i, P.info? e = some i ∧ i.size = 1 := by
    cases h : P.info? e with
    | none => rw [h] at hinfo; simp at hinfo
    | some i => rw [h] at hinfo; exact ⟨i, rfl, by simpa using hinfo⟩
  rw [run_equalIn_array w (d + 1) _ _ ht hi]
  have hc : P.cellsOf e = 1 := by simp [Program.cellsOf, hi, hs]
  rw [hc, run_eqItems_strs he d xs ys w _ (fun j hj => by have := List.mem_range.1 hj; omega)]
end
theorem toList_inj {a b : ByteArray} : a.toList = b.toList ↔ a = b := by
  constructor
  · intro h
    rw [ByteArray.toList_eq, ByteArray.toList_eq] at h
    obtain ⟨⟨x⟩⟩ := a
    obtain ⟨⟨y⟩⟩ := b
    have h' : x = y := h
    rw [h']
  · rintro rfl; rfl
end Go.Proofs.YtapikjhfgcbifaaGreatDoor

/-
  '==' between lines.
-/
namespace Go.Proofs.YtapikjhfgcbifaaGreatDoor
set_option maxRecDepth 100000
set_option linter.unusedVariables false
set_option linter.unusedSimpArgs false
open Go.RowKit
theorem ln_fields : (Tryz.prog.fieldsOf 38).toList.map (fun f => (f.type, f.offset, f.name == "_")) = [(29, 0, false), (4, 2, false)] := by kernel_rfl
theorem fd_fields : (Tryz.prog.fieldsOf 29).toList.map (fun f => (f.type, f.offset, f.name == "_")) = [(9, 0, false), (9, 1, false)] := by kernel_rfl
theorem two_fields {l : List Field} {a b : TypeId} {i j : Nat} (h : l.map (fun f => (f.type, f.offset, f.name == "_")) = [(a, i, false), (b, j, false)]) : ∃ f g, l = [f, g] ∧ f.type = a ∧ f.offset = i ∧ f.name ≠ "_" ∧ g.type = b ∧ g.offset = j ∧ g.name ≠ "_" := by
  rcases l with _ | ⟨f, _ | ⟨g, _ | ⟨k, l⟩⟩⟩
  · simp at h
  · simp at h
  · simp at h
    obtain ⟨⟨h1, h2, h3⟩, h4, h5, h6⟩ := h
    exact ⟨f, g, rfl, h1, h2, h3, h4, h5, h6⟩
  · simp at h
theorem run_eq_fld (d : Nat) (a b : ByteArray) (W : World) : (Op.equalIn (d + 2) 29 (.agg #[.string a, .string b]) (.agg #[.string a, .string b])).run Tryz.prog W = .ok true W := by
  rw [run_equalIn_struct W (d + 1) 29 _ _ (by kernel_rfl) (by kernel_rfl)]
  obtain ⟨f, g, hl, h1, h2, h3, h4, h5, h6⟩ := two_fields fd_fields
  rw [hl]
  have hk : Tryz.prog.plainKey 9 = true := by kernel_rfl
  have p1 := run_part_plain (P := Tryz.prog) W (e := 9) hk (xs := #[.string a, .string b]) (off := 0) (v := .string a) rfl
  have p2 := run_part_plain (P := Tryz.prog) W (e := 9) hk (xs := #[.string a, .string b]) (off := 1) (v := .string b) rfl
  simp only [Op.eqFields, h1, h2, h3, h4, h5, h6, ne_eq, not_false_eq_true, if_true, Sem.run_bind, p1, p2, Result.andThen_ok, run_equalIn_string W d 9 _ _ Tryz.underlying9]
  simp only [beq_self_eq_true, Bool.not_true, Bool.false_eq_true, if_false, Sem.run_bind, p2, Result.andThen_ok, run_equalIn_string W d 9 _ _ Tryz.underlying9, Sem.run_pure]
theorem run_eq_line (a b : ByteArray) (c : Bool) (W : World) : (Op.equalIn 10000 38 (.agg #[.string a, .string b, .bool c]) (.agg #[.string a, .string b, .bool c])).run Tryz.prog W = .ok true W := by
  rw [run_equalIn_struct W 9999 38 _ _ (by kernel_rfl) (by kernel_rfl)]
  obtain ⟨f, g, hl, h1, h2, h3, h4, h5, h6⟩ := two_fields ln_fields
  rw [hl]
  have hk : Tryz.prog.plainKey 4 = true := by kernel_rfl
  have p1 : (part 29 #[.string a, .string b, .bool c] 0).run Tryz.prog W = .ok (.agg #[.string a, .string b]) W := by
    simp [go_sem, part]
  have p2 := run_part_plain (P := Tryz.prog) W (e := 4) hk (xs := #[.string a, .string b, .bool c]) (off := 2) (v := .bool c) rfl
  have q1 := run_eq_fld 9997 a b W
  simp only [Op.eqFields, h1, h2, h3, h4, h5, h6, ne_eq, not_false_eq_true, if_true, Sem.run_bind, p1, p2, Result.andThen_ok, q1]
  simp only [beq_self_eq_true, Bool.not_true, Bool.false_eq_true, if_false, Sem.run_bind, p2, Result.andThen_ok, run_equalIn_bool' W 9998 4 c c Tryz.underlying4, Sem.run_pure]
end Go.Proofs.YtapikjhfgcbifaaGreatDoor

