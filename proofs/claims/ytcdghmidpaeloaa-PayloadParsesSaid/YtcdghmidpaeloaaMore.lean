/-
  An append of a slice of bytes to a row of the call's own.
-/
import Derived.Test.YtcdghmidpaeloaaOwn
import Derived.Laws.OwnMore
import Derived.Laws.Append
namespace Go.Proofs.Ytcdghmidpaeloaa
set_option linter.unusedVariables false
open Go.RowKit

/-- An append leaves what was read by the old value. -/
theorem append_keeps {P : Program} (w : World) (base : Nat) (t ty e : TypeId) (i : TypeInfo) (z : Value) (size bytes : Nat) (ht : P.underlying t = some (.slice e)) (hi : P.info? e = some i) (hz : i.zero = some z)
    (hsize : i.size = size) (hby : i.bytes = bytes) (v : Value) (n : Nat) (xs : List Value) (hown : w.ownsRow base e size v n xs)
    (a : Addr) (m c : Nat) (news : List Value) (hl : news.length = m * size) (hnews : ∀ j u, news[j]? = some u → w.cell? (a.add j) = some u) (h1 : ∀ u ∈ news, u.oneCell' = true)
    (h63 : n + m ≤ maxLen) (hbytes : (n + m) * bytes ≤ 140737488355328) {v' : Value} {w' : World} (hrun : (Builtin.append_ #[t, t] ty #[v, .slice (some a) m c]).run P w = .ok v' w') :
    w'.ownsRow base e size v n xs := by
  have h63' := h63
  unfold maxLen at h63'
  rcases hown.2 with ⟨rfl, rfl⟩ | ⟨g, cap, cur, rfl, hbg, hg, hnc, hcm, hcs, htake⟩
  · have : xs = [] := List.eq_nil_of_length_eq_zero (by simpa using hown.1)
    subst this
    exact World.ownsRow_nil _ _ _ _
  · by_cases hroom : n + m ≤ cap
    · obtain ⟨w2, hr, ho, _⟩ := run_append_fits (P := P) w base t ty e i size ht hi hsize g n cap xs hown a m c news hl hnews h1 hroom
      rw [hr] at hrun
      cases hrun
      rcases ho.2 with ⟨hh, _⟩ | ⟨g', cap', cur', hh, hbg', hg', hnc', hcm', hcs', htake'⟩
      · cases hh
      · cases hh
        refine ⟨hown.1, .inr ⟨_, _, cur', rfl, hbg', hg', hnc, hcm', hcs', ?_⟩⟩
        have h2 := congrArg (List.take (n * size)) htake'
        rw [List.take_take, Nat.min_eq_left (Nat.mul_le_mul_right _ (by omega)), ← hown.1, List.take_left] at h2
        rw [← hown.1]
        exact h2
    · subst hsize hby
      have hr := run_append_grow (P := P) w t ty e i z ht hi hz ⟨g, 0, none⟩ n cap xs hown.1 (hown.cells (g := g) rfl) a m c news hl hnews (by omega) (by omega) (growslice_fits (by omega) hbytes)
      rw [hr] at hrun
      cases hrun
      exact Own.fresh (show Own w base e _ _ n xs from hown) ((Fresh.drew w).trans (Fresh.alloc _ _))

section
variable {P : Program} {T E : TypeId} (hT : P.underlying T = some (.slice E)) (hinfo : (P.info? E).map (fun i => (i.zero, i.size, i.bytes)) = some (some (.int .u8 0), 1, 1))
include hT hinfo
theorem Own.more {w0 w : World} {base n : Nat} {v : Value} {xs : List Value} (ty : TypeId) (h : Own w base E 1 v n xs) (hb : Below base w0 w) (hbase : base ≤ w0.heap.size) (A : Option Addr) (c : Nat) (l : List UInt8) (hS : BS w A l) (hlc : l.length ≤ c)
    (hn : n + l.length ≤ maxLen) (hbytes : n + l.length ≤ 140737488355328) :
    ∃ v' w', (Builtin.append_ #[T, T] ty #[v, .slice A l.length c]).run P w = .ok v' w' ∧ Own w' base E 1 v' (n + l.length) (xs ++ l.map byteV) ∧ Below base w0 w' ∧ w.grownBy w' v.ownBlock ∧ Own w' base E 1 v n xs := by
  obtain ⟨i, hi, hiz, his, hib⟩ := info_parts hinfo
  cases A with
  | none =>
    have hl : l = [] := by
      rcases l with _ | ⟨x, l⟩
      · rfl
      · obtain ⟨b, o, e, _⟩ := hS.addr (by simp)
        cases e
    subst hl
    refine ⟨v, w, ?_, by simpa using h, hb, World.grownBy.refl _ _, h⟩
    rcases h.2 with ⟨rfl, rfl⟩ | ⟨g, cap, cur, rfl, _, _, hnc, _⟩
    · simp [Builtin.append_, run_underlying hT, sizeOf, typeInfo, hi, Builtin.lenOf, Builtin.firstCells]
    · simp [Builtin.append_, run_underlying hT, sizeOf, typeInfo, hi, Builtin.lenOf, Builtin.firstCells, hnc, storeCells]
  | some a =>
    have hcs : ∀ j u, (l.map byteV)[j]? = some u → w.cell? (a.add j) = some u := fun j u hj => by
      have hjl : j < l.length := by
        rcases Nat.lt_or_ge j l.length with h | h
        · exact h
        · rw [List.getElem?_eq_none (by simpa using h)] at hj; cases hj
      obtain ⟨b, o, e, _, hc⟩ := hS.addr (by omega)
      injection e with e
      subst e
      rw [add_eq _ _ rfl, hc j hjl]
      rw [List.getElem?_map, List.getElem?_eq_getElem hjl] at hj
      exact hj
    have h1 : ∀ u ∈ l.map byteV, u.oneCell' = true := by
      intro u hu
      rw [List.mem_map] at hu
      obtain ⟨x, _, rfl⟩ := hu
      rfl
    obtain ⟨v', w', hr, ho, hg, hnil⟩ := run_append_own (P := P) w base T ty E i (.int .u8 0) 1 1 hT hi hiz his hib rfl (by omega) v n xs h a l.length c (l.map byteV) (by simp) hcs h1 hn (by omega) (by have := hb.size; omega)
    have hk := append_keeps (P := P) w base T ty E i (.int .u8 0) 1 1 hT hi hiz his hib v n xs h a l.length c (l.map byteV) (by simp) hcs h1 hn (by omega) hr
    refine ⟨v', w', hr, ho, ?_, hg, hk⟩
    have hlt := h.lt
    exact hb.grown hg (by have := hb.size; omega) (fun k hk => (hlt k hk).1)
end
end Go.Proofs.Ytcdghmidpaeloaa

