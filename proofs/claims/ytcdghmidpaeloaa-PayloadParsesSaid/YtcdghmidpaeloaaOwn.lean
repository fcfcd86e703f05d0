/-
  Words on slices that the call itself grows.
-/
import Derived.Test.YtcdghmidpaeloaaBytes
import Derived.Laws.AppendOwn
import Derived.Laws.OwnMore
import Derived.Deep.AppendLies
import Derived.OwnWalk
namespace Go.Proofs.Ytcdghmidpaeloaa
set_option linter.unusedVariables false
open Go.RowKit

/-- The value v is nil, or heads a row of the call's own from block base on, whose elements (sz cells each) are xs. -/
def Own (w : World) (base : Nat) (E : TypeId) (sz : Nat) (v : Value) (n : Nat) (xs : List Value) : Prop := w.ownsRow base E sz v n xs
section
variable {w w' : World} {base sz n : Nat} {E : TypeId} {v : Value} {xs : List Value}
theorem Own.nil (w : World) (base : Nat) (E : TypeId) (sz : Nat) : Own w base E sz (.slice none 0 0) 0 [] := World.ownsRow_nil _ _ _ _
theorem Own.lit {cs : Array Value} (hb : base ≤ w.heap.size) (hm : n ≤ maxLen) (hs : cs.size = n * sz) : Own (w.alloc (.cells cs E)) base E sz (.slice (some ⟨w.heap.size, 0, none⟩) n n) n cs.toList :=
  World.ownsRow_lit w cs n hb hm hs
theorem Own.form (h : Own w base E sz v n xs) : (v = .slice none 0 0 ∧ n = 0 ∧ xs = []) ∨ ∃ g cap, v = .slice (some ⟨g, 0, none⟩) n cap ∧ base ≤ g ∧ g < w.heap.size ∧ n ≤ cap ∧ cap ≤ maxLen ∧ ∀ j, j < xs.length → w.cell? ⟨g, j, none⟩ = xs[j]? ∧ w.frozen? ⟨g, j, none⟩ = false := by
  obtain ⟨hl, h⟩ := h
  rcases h with ⟨rfl, rfl⟩ | ⟨g, cap, cur, rfl, hb, hh, hn, hc, hs, hx⟩
  · left
    exact ⟨rfl, rfl, List.eq_nil_of_length_eq_zero (by simpa using hl)⟩
  · right
    refine ⟨g, cap, rfl, hb, (Array.getElem?_eq_some_iff.1 hh).1, hn, hc, fun j hj => ⟨?_, ?_⟩⟩
    · rw [cell_of_row w g j cur E (0, 0) hh, ← hx]
      rw [List.getElem?_take_of_lt (by omega)]
      simp
    · simp [World.frozen?, hh]
theorem Own.slice (h : Own w base E sz v n xs) : ∃ A c, v = .slice A n c ∧ n ≤ c ∧ c ≤ maxLen ∧ ∀ b o, A = some ⟨b, o, none⟩ → base ≤ b ∧ b < w.heap.size := by
  rcases h.form with ⟨rfl, rfl, _⟩ | ⟨g, cap, rfl, hb, hlt, hn, hc, _⟩
  · exact ⟨none, 0, rfl, by omega, by simp [maxLen], fun b o e => by cases e⟩
  · exact ⟨_, cap, rfl, hn, hc, fun b o e => by simp at e; rw [← e.1]; exact ⟨hb, hlt⟩⟩
theorem Own.pos {A : Option Addr} {c : Nat} (h : Own w base E sz (.slice A n c) n xs) (hn : 0 < n) : ∃ g, A = some ⟨g, 0, none⟩ ∧ base ≤ g ∧ g < w.heap.size ∧ n ≤ c ∧ c ≤ maxLen ∧ ∃ cur, Blk w g E cur := by
  rcases h.2 with ⟨e, h0⟩ | ⟨g, cap, cur, e, hb, hh, hn, hc, _⟩
  · omega
  · injection e with e1 e2 e3
    subst e1 e3
    exact ⟨g, rfl, hb, (Array.getElem?_eq_some_iff.1 hh).1, hn, hc, cur, hh⟩
theorem Own.fresh (h : Own w base E sz v n xs) (hf : Fresh w w') : Own w' base E sz v n xs := by
  obtain ⟨hl, h⟩ := h
  refine ⟨hl, ?_⟩
  rcases h with h | ⟨g, cap, cur, hv, hb, hh, r⟩
  · exact .inl h
  · exact .inr ⟨g, cap, cur, hv, hb, (Below.block hf g (Array.getElem?_eq_some_iff.1 hh).1).trans hh, r⟩
theorem Own.only {S : Nat → Prop} (h : Own w base E sz v n xs) (hf : Only S w w') (hs : ∀ k, v.ownBlock = some k → ¬ S k) : Own w' base E sz v n xs := by
  obtain ⟨hl, h⟩ := h
  refine ⟨hl, ?_⟩
  rcases h with h | ⟨g, cap, cur, hv, hb, hh, r⟩
  · exact .inl h
  · exact .inr ⟨g, cap, cur, hv, hb, (hf.block g (Array.getElem?_eq_some_iff.1 hh).1 (hs g (by rw [hv]; rfl))).trans hh, r⟩
theorem Own.lt (h : Own w base E sz v n xs) : ∀ k, v.ownBlock = some k → base ≤ k ∧ k < w.heap.size := World.ownsRow.lt h
theorem Own.length (h : Own w base E sz v n xs) : xs.length = n * sz := h.1
theorem Own.base_le {base' : Nat} (h : Own w base E sz v n xs) (hb : base' ≤ base) : Own w base' E sz v n xs := by
  obtain ⟨hl, h⟩ := h
  refine ⟨hl, ?_⟩
  rcases h with h | ⟨g, cap, cur, hv, hb', r⟩
  · exact .inl h
  · exact .inr ⟨g, cap, cur, hv, by omega, r⟩
end
theorem Own.bytes {w : World} {base : Nat} {E : TypeId} {A : Option Addr} {c n : Nat} {l : List UInt8} (h : Own w base E 1 (.slice A n c) n (l.map byteV)) : BS w A l ∧ n = l.length := by
  have hl : n = l.length := by have := h.length; simp at this; omega
  refine ⟨fun hn => ?_, hl⟩
  rcases h.form with ⟨e, h0, _⟩ | ⟨g, cap, e, hb, hlt, _, _, hc⟩
  · omega
  · injection e with e1
    refine ⟨g, 0, e1, hlt, fun j hj => ?_⟩
    rw [Nat.zero_add, (hc j (by simpa using hj)).1]
    simp [hj]

section
variable {P : Program} {T E : TypeId} {z : Value} {sz bytes : Nat} (hT : P.underlying T = some (.slice E)) (hinfo : (P.info? E).map (fun i => (i.zero, i.size, i.bytes)) = some (some z, sz, bytes)) (hz : z.cells.size = sz) (hsz : 0 < sz)
include hT hinfo hz hsz
/-- One more element, laid in a block of its own. -/
theorem Own.push {w0 w : World} {base n : Nat} {v : Value} {xs : List Value} (ty : TypeId) (h : Own w base E sz v n xs) (hb : Below base w0 w) (hbase : base ≤ w0.heap.size) (cs : Array Value) (hcs : cs.size = sz) (h1 : ∀ u ∈ cs.toList, u.oneCell' = true)
    (hn : n + 1 ≤ maxLen) (hbytes : (n + 1) * bytes ≤ 140737488355328) :
    ∃ v' w', (Builtin.append_ #[T, T] ty #[v, .slice (some ⟨w.heap.size, 0, none⟩) 1 1]).run P (w.alloc (.cells cs E)) = .ok v' w' ∧ Own w' base E sz v' (n + 1) (xs ++ cs.toList) ∧ Below base w0 w' ∧ v' ≠ .slice none 0 0 ∧ (w.alloc (.cells cs E)).grownBy w' v.ownBlock := by
  obtain ⟨i, hi, hiz, his, hib⟩ := info_parts hinfo
  obtain ⟨v', w', hr, ho, hg, hnil⟩ := run_append_own (P := P) (w.alloc (.cells cs E)) base T ty E i z sz bytes hT hi hiz his hib hz hsz v n xs (World.ownsRow.alloc h _) ⟨w.heap.size, 0, none⟩ 1 1 cs.toList (by simp [hcs])
    (fun j u hj => by
      rw [add_eq _ _ rfl]
      simp only [Nat.zero_add]
      rw [(Blk.new w E cs).cell]
      simpa using hj) h1 hn hbytes (by have := hb.size; simp; omega)
  refine ⟨v', w', hr, ho, ?_, ?_, hg⟩
  · have hlt := h.lt
    exact (hb.alloc (by have := hb.size; omega) _).grown hg (by have := hb.size; simp; omega) (fun k hk => (hlt k hk).1)
  · intro e
    have := hnil.1 e
    omega
end

/-- An append whose run is known: for the walk. -/
theorem wp_app {P : Program} {w : World} {ops : Array Oper} {rest : List Oper} {o : Oper} {a : Act} {Q : Exit → Act → World → Prop} (hgd : o.guard = none) (s x : Operand) (t : TypeId)
    (ho : o.op = .call { callee := .builtin .append, args := #[s, x], argTypes := #[t, t] }) {v vx v' : Value} {w' : World} {ty : TypeId} (hrun : (Builtin.append_ #[t, t] ty #[v, vx]).run P w = .ok v' w')
    (hty : o.type = ty) (hs : a.eval s = v) (hx : a.eval x = vx) (h : wpList P ops Q rest (a.put o.dst v') w') : wpList P ops Q (o :: rest) a w := by
  refine wpList_plain hgd fun K hK => ?_
  subst hty
  unfold Oper.wp
  simp [execOp, ho, resolve, invoke, builtin, hs, hx, hrun, Result.andThen]
  exact hK _ _ h
end Go.Proofs.Ytcdghmidpaeloaa

