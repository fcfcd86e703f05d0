/-
  '==' between lines.
-/
import Derived.Test.YtapikjhfgcbifaaGreatDoorOwn
import Derived.Laws.StructEq
import Derived.ChangeKeysEq
namespace Go.Proofs.YtapikjhfgcbifaaGreatDoor
set_option maxRecDepth 100000
set_option linter.unusedVariables false
set_option linter.unusedSimpArgs false
open Go.RowKit
theorem ln_fields : (Tryz.prog.fieldsOf 38).toList.map (fun f => (f.type, f.offset, f.name == "_")) = [(29, 0, false), (4, 2, false)] := by kernel_rfl
theorem fd_fields : (Tryz.prog.fieldsOf 29).toList.map (fun f => (f.type, f.offset, f.name == "_")) = [(9, 0, false), (9, 1, false)] := by kernel_rfl
theorem two_fields {l : List Field} {a b : TypeId} {i j : Nat} (h : l.map (fun f => (f.type, f.offset, f.name == "_")) = [(a, i, false), (b, j, false)]) : ∃ f g, l = [f, g] ∧ f.type = a ∧ f.offset = i ∧ f.name ≠ "_" ∧ g.type = b ∧ g.offset = j ∧ g.name ≠ "_" := by
  rcases l with _ | ⟨f, _ | ⟨g, _ | ⟨k, l⟩⟩⟩
  · simp at h
  · simp at h
  · simp at h
    obtain ⟨⟨h1, h2, h3⟩, h4, h5, h6⟩ := h
    exact ⟨f, g, rfl, h1, h2, h3, h4, h5, h6⟩
  · simp at h
theorem run_eq_fld (d : Nat) (a b : ByteArray) (W : World) : (Op.equalIn (d + 2) 29 (.agg #[.string a, .string b]) (.agg #[.string a, .string b])).run Tryz.prog W = .ok true W := by
  rw [run_equalIn_struct W (d + 1) 29 _ _ (by kernel_rfl) (by kernel_rfl)]
  obtain ⟨f, g, hl, h1, h2, h3, h4, h5, h6⟩ := two_fields fd_fields
  rw [hl]
  have hk : Tryz.prog.plainKey 9 = true := by kernel_rfl
  have p1 := run_part_plain (P := Tryz.prog) W (e := 9) hk (xs := #[.string a, .string b]) (off := 0) (v := .string a) rfl
  have p2 := run_part_plain (P := Tryz.prog) W (e := 9) hk (xs := #[.string a, .string b]) (off := 1) (v := .string b) rfl
  simp only [Op.eqFields, h1, h2, h3, h4, h5, h6, ne_eq, not_false_eq_true, if_true, Sem.run_bind, p1, p2, Result.andThen_ok, run_equalIn_string W d 9 _ _ Tryz.underlying9]
  simp only [beq_self_eq_true, Bool.not_true, Bool.false_eq_true, if_false, Sem.run_bind, p2, Result.andThen_ok, run_equalIn_string W d 9 _ _ Tryz.underlying9, Sem.run_pure]
theorem run_eq_line (a b : ByteArray) (c : Bool) (W : World) : (Op.equalIn 10000 38 (.agg #[.string a, .string b, .bool c]) (.agg #[.string a, .string b, .bool c])).run Tryz.prog W = .ok true W := by
  rw [run_equalIn_struct W 9999 38 _ _ (by kernel_rfl) (by kernel_rfl)]
  obtain ⟨f, g, hl, h1, h2, h3, h4, h5, h6⟩ := two_fields ln_fields
  rw [hl]
  have hk : Tryz.prog.plainKey 4 = true := by kernel_rfl
  have p1 : (part 29 #[.string a, .string b, .bool c] 0).run Tryz.prog W = .ok (.agg #[.string a, .string b]) W := by
    simp [go_sem, part]
  have p2 := run_part_plain (P := Tryz.prog) W (e := 4) hk (xs := #[.string a, .string b, .bool c]) (off := 2) (v := .bool c) rfl
  have q1 := run_eq_fld 9997 a b W
  simp only [Op.eqFields, h1, h2, h3, h4, h5, h6, ne_eq, not_false_eq_true, if_true, Sem.run_bind, p1, p2, Result.andThen_ok, q1]
  simp only [beq_self_eq_true, Bool.not_true, Bool.false_eq_true, if_false, Sem.run_bind, p2, Result.andThen_ok, run_equalIn_bool' W 9998 4 c c Tryz.underlying4, Sem.run_pure]
end Go.Proofs.YtapikjhfgcbifaaGreatDoor

