/-
  Small words on what is returned.
-/
import Derived.Test.YtcdghmidpaeloaaMem
namespace Go.Proofs.Ytcdghmidpaeloaa
set_option linter.unusedVariables false
open Go.RowKit

theorem ret_two {a b a' b' : Value} (h : a = a') (k : b = b') : Ending.returned (.tuple #[a, b]) = .returned (.tuple #[a', b']) := by rw [h, k]
theorem ret_three {a b c a' b' c' : Value} (h : a = a') (k : b = b') (l : c = c') : Ending.returned (.tuple #[a, b, c]) = .returned (.tuple #[a', b', c']) := by rw [h, k, l]
theorem val_i {k : IntKind} {a b : Int} (h : b = a) : Value.int k a = .int k b := by rw [h]
theorem val_b {a b : Bool} (h : b = a) : Value.bool a = .bool b := by rw [h]
theorem agg_ib {k : IntKind} {a a' : Int} {b b' : Bool} (h : a' = a) (l : b' = b) : Value.agg #[.int k a, .bool b] = .agg #[.int k a', .bool b'] := by rw [h, l]
/-! What may have changed, step by step, from the last step back. -/
section
variable {S : Nat → Prop} {w w' : World}
theorem Only.step (h : Only S w w') (p : Addr) (v : Value) (hp : S p.block ∨ w.heap.size ≤ p.block) : Only S w (w'.setCell p v) :=
  h.trans' (Only.setCell w' p v) fun i hi e => by
    rcases hp with hp | hp
    · rw [e]; exact hp
    · omega
theorem Only.allocS (h : Only S w w') (o : Obj) : Only S w (w'.alloc o) := h.trans (Only.of_fresh (Fresh.alloc _ _))
theorem Only.drewS (h : Only S w w') : Only S w w'.drew := h.trans (Only.of_fresh (Fresh.drew _))
theorem Only.freshS {w2 : World} (h : Only S w w') (hf : Fresh w' w2) : Only S w w2 := h.trans (Only.of_fresh hf)
theorem Fresh.allocS (h : Fresh w w') (o : Obj) : Fresh w (w'.alloc o) := h.trans (Fresh.alloc _ _)
theorem Fresh.drewS (h : Fresh w w') : Fresh w w'.drew := h.trans (Fresh.drew _)
theorem Fresh.step (h : Fresh w w') (p : Addr) (v : Value) (hp : w.heap.size ≤ p.block) : Fresh w (w'.setCell p v) :=
  Only.fresh (S := fun _ => False) ((Only.of_fresh h).step p v (.inr hp)) (fun _ _ h => h)
end
/-! Cells that are held while blocks are made. -/
def Hold (w : World) : List (Addr × Value) → World → Prop
  | [], w' => Fresh w w'
  | (a, v) :: r, w' => w'.cell? a = some v ∧ Hold w r w'
theorem cell_lt {w : World} {a : Addr} {v : Value} (h : w.cell? a = some v) : a.block < w.heap.size := by
  unfold World.cell? at h
  by_cases hb : a.block < w.heap.size
  · exact hb
  · rw [Array.getElem?_eq_none (by omega)] at h
    simp at h
theorem Hold.fresh {w w' w'' : World} : ∀ {l : List (Addr × Value)}, Hold w l w' → Fresh w' w'' → Hold w l w''
  | [], h, hf => Below.trans h (hf.mono (Below.size h))
  | (a, v) :: r, h, hf => ⟨(hf.cell (cell_lt h.1)).trans h.1, Hold.fresh h.2 hf⟩
theorem Hold.end_ {w w' : World} : ∀ {l : List (Addr × Value)}, Hold w l w' → Fresh w w'
  | [], h => h
  | (a, v) :: r, h => Hold.end_ h.2
end Go.Proofs.Ytcdghmidpaeloaa

