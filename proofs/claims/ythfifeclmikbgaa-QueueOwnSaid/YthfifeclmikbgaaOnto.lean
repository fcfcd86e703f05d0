/-
  append([]byte{}, b...): bytes of one's own.
-/
import Derived.Test.YthfifeclmikbgaaMake
import Derived.Test.YthfifeclmikbgaaRet
import Derived.Test.YthfifeclmikbgaaGen
import Derived.Laws.Append
import Derived.Laws.AppendOwn
namespace Go.Proofs.Ythfifeclmikbgaa
set_option linter.unusedVariables false
open Go.RowKit
section
variable {P : Program} {T E : TypeId} (hT : P.underlying T = some (.slice E)) (hinfo : (P.info? E).map (fun i => (i.zero, i.size, i.bytes)) = some (some (.int .u8 0), 1, 1))
include hT hinfo
theorem run_onto_empty (ty : TypeId) (b0 : Addr) (A : Option Addr) (c : Nat) (l : List UInt8) (m : Nat) (hm : l.length = m) (W : World) (hS : BS W A l) (hn : m ≤ 140737488355328) :
    ∃ A' c' W', (Builtin.append_ #[T, T] ty #[.slice (some b0) 0 0, .slice A m c]).run P W = .ok (.slice A' m c') W' ∧ Fresh W W' ∧ m ≤ c' ∧ c' ≤ maxLen ∧ (0 < m → ∃ zs, A' = some ⟨W.heap.size, 0, none⟩ ∧ Blk W' W.heap.size E (bytesA (l ++ zs))) := by
  subst hm
  obtain ⟨i, hi, hiz, his, hib⟩ := info_parts hinfo
  rcases Nat.eq_zero_or_pos l.length with h0 | h0
  · have hl : l = [] := List.length_eq_zero_iff.1 h0
    subst hl
    refine ⟨some b0, 0, W, ?_, Fresh.refl _, by simp, by simp [maxLen], fun h => absurd h (by simp)⟩
    cases A with
    | none => simp [Builtin.append_, run_underlying hT, sizeOf, typeInfo, hi, Builtin.lenOf, Builtin.firstCells, storeCells]
    | some a => 
      have hf := run_firstCells_some (P := P) W i.size 0 a 0 c [] (by simp) (by intro j v hj; simp at hj)
      simp [Builtin.append_, run_underlying hT, sizeOf, typeInfo, hi, Builtin.lenOf, hf, storeCells]
  · obtain ⟨b, o, rfl, hb, hcs⟩ := hS h0
    have hr := run_append_grow (P := P) W T ty E i (.int .u8 0) hT hi hiz b0 0 0 [] (by simp) (by intro j v hj; simp at hj) ⟨b, o, none⟩ l.length c (l.map byteV) (by simp [his])
      (fun j v hj => by
        have hj' : j < l.length := by
          have := (List.getElem?_eq_some_iff.1 hj).1
          simpa using this
        rw [add_eq _ _ rfl, hcs j hj']
        rw [List.getElem?_map, List.getElem?_eq_getElem hj'] at hj
        exact hj) (by omega) (by omega) (growslice_fits (by omega) (by rw [hib]; omega))
    simp only [Nat.zero_add] at hr
    have hge := grownCap_ge W l.length 0 E
    have hcm : grownCap W l.length 0 E ≤ maxLen := grownCap_le_maxLen W l.length 0 E (by unfold maxLen; omega)
    generalize grownCap W l.length 0 E = cap at hr hge hcm
    refine ⟨_, _, _, hr, Fresh.allocS (Fresh.drew W) _, hge, hcm, fun _ => ⟨List.replicate (cap - l.length) 0, rfl, ?_⟩⟩
    have he : ((([] : List Value).toArray ++ (l.map byteV).toArray ++ Builtin.zeroCells (Value.int IntKind.u8 0).cells (cap - l.length)) : Array Value) = bytesA (l ++ List.replicate (cap - l.length) 0) := by
      apply Array.toList_inj.1
      simp [bytesA, byteV, Builtin.zeroCells, Value.cells]
      apply List.ext_getElem
      · simp
      · intro j h1 h2
        simp [Nat.mod_one]
    rw [he]
    have := Blk.new W.drew E (bytesA (l ++ List.replicate (cap - l.length) 0))
    exact this
end
/-- Such an append, as one step of a region that draws its order. -/
theorem step_onto {P : Program} {ops : Array Oper} {o : Oper} {a : Act} {w : World} {K : Act → World → Prop} {Q : Exit → Act → World → Prop} {E : Prop} {Φ : Option Addr → Nat → World → Prop} {m : Nat} (hgd : o.guard = none) (s x : Operand) (t : TypeId)
    (ho : o.op = .call { callee := .builtin .append, args := #[s, x], argTypes := #[t, t] }) {vx : Value} {ty : TypeId} (hrun : ∀ b0 : Addr, ∃ A' c' w', (Builtin.append_ #[t, t] ty #[.slice (some b0) 0 0, vx]).run P w = .ok (.slice A' m c') w' ∧ Φ A' c' w')
    (hty : o.type = ty) (hs : ∃ b0, a.eval s = .slice (some b0) 0 0) (hx : a.eval x = vx) (h : ∀ A' c' w', Φ A' c' w' → K (a.put o.dst (.slice A' m c')) w') : if Region.wanted o (yielded ops a.tmps) = true then Oper.wp P o a w K Q else E := by
  obtain ⟨b0, hs⟩ := hs
  obtain ⟨A', c', w', hr, hp⟩ := hrun b0
  exact step_app hgd s x t ho hr hty hs hx (h A' c' w' hp)
end Go.Proofs.Ythfifeclmikbgaa
