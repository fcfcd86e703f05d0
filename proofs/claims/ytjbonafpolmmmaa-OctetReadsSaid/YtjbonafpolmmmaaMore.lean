/-
  An append of a slice of bytes to a row of the call's own.
-/
import Derived.Test.YtjbonafpolmmmaaOwn
import Derived.Laws.OwnMore
namespace Go.Proofs.Ytjbonafpolmmmaa
set_option linter.unusedVariables false
open Go.RowKit

section
variable {P : Program} {T E : TypeId} (hT : P.underlying T = some (.slice E)) (hinfo : (P.info? E).map (fun i => (i.zero, i.size, i.bytes)) = some (some (.int .u8 0), 1, 1))
include hT hinfo
theorem Own.more {w0 w : World} {base n : Nat} {v : Value} {xs : List Value} (ty : TypeId) (h : Own w base E 1 v n xs) (hb : Below base w0 w) (hbase : base ≤ w0.heap.size) (A : Option Addr) (c : Nat) (l : List UInt8) (hS : BS w A l) (hlc : l.length ≤ c)
    (hn : n + l.length ≤ maxLen) (hbytes : n + l.length ≤ 140737488355328) :
    ∃ v' w', (Builtin.append_ #[T, T] ty #[v, .slice A l.length c]).run P w = .ok v' w' ∧ Own w' base E 1 v' (n + l.length) (xs ++ l.map byteV) ∧ Below base w0 w' ∧ w.grownBy w' v.ownBlock := by
  obtain ⟨i, hi, hiz, his, hib⟩ := info_parts hinfo
  cases A with
  | none =>
    have hl : l = [] := by
      rcases l with _ | ⟨x, l⟩
      · rfl
      · obtain ⟨b, o, e, _⟩ := hS.addr (by simp)
        cases e
    subst hl
    refine ⟨v, w, ?_, by simpa using h, hb, World.grownBy.refl _ _⟩
    rcases h.2 with ⟨rfl, rfl⟩ | ⟨g, cap, cur, rfl, _, _, hnc, _⟩
    · simp [Builtin.append_, run_underlying hT, sizeOf, typeInfo, hi, Builtin.lenOf, Builtin.firstCells]
    · simp [Builtin.append_, run_underlying hT, sizeOf, typeInfo, hi, Builtin.lenOf, Builtin.firstCells, hnc, storeCells]
  | some a =>
    obtain ⟨v', w', hr, ho, hg, hnil⟩ := run_append_own (P := P) w base T ty E i (.int .u8 0) 1 1 hT hi hiz his hib rfl (by omega) v n xs h a l.length c (l.map byteV) (by simp)
      (fun j u hj => by
        have hjl : j < l.length := by
          rcases Nat.lt_or_ge j l.length with h | h
          · exact h
          · rw [List.getElem?_eq_none (by simpa using h)] at hj; cases hj
        obtain ⟨b, o, e, _, hc⟩ := hS.addr (by omega)
        injection e with e
        subst e
        rw [add_eq _ _ rfl, hc j hjl]
        rw [List.getElem?_map, List.getElem?_eq_getElem hjl] at hj
        exact hj) (by
        intro u hu
        rw [List.mem_map] at hu
        obtain ⟨x, _, rfl⟩ := hu
        rfl) hn (by omega) (by have := hb.size; omega)
    refine ⟨v', w', hr, ho, ?_, hg⟩
    have hlt := h.lt
    exact hb.grown hg (by have := hb.size; omega) (fun k hk => (hlt k hk).1)
end
end Go.Proofs.Ytjbonafpolmmmaa
