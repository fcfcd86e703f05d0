/-
  Contracts of package payload: the row of looks.
-/
import Derived.Test.YtcdghmidpaeloaaPay3
import Derived.Test.YtcdghmidpaeloaaChain
namespace Go.Proofs.Ytcdghmidpaeloaa
set_option linter.unusedVariables false
open Go.RowKit

def fnV (k b : Nat) : Value := .func (Fn.func k) #[] #[.pointer (some ⟨b, 0, none⟩)]
def lkA (b : Nat) (s0 : Bool) : Array Value := #[.int .i64 101, .bool true, .func (Fn.func 25) #[] #[.pointer (some ⟨b, 0, none⟩)], .int .i64 106, .bool true, .func (Fn.func 27) #[] #[.pointer (some ⟨b, 0, none⟩)],
  .int .i64 101, .bool true, .func (Fn.func 30) #[] #[.pointer (some ⟨b, 0, none⟩)], .int .i64 106, .bool false, .func (Fn.func 32) #[] #[.pointer (some ⟨b, 0, none⟩)],
  .int .i64 101, .bool false, .func (Fn.func 33) #[] #[.pointer (some ⟨b, 0, none⟩)], .int .i64 101, .bool s0, .func (Fn.func 36) #[] #[.pointer (some ⟨b, 0, none⟩)]]
def LooksP (ty fl st : Int) (A : Option Addr) (n c : Nat) (w : World) (e : Ending) (w' : World) : Prop :=
  ∃ g b, e = .returned (.slice (some ⟨g, 0, none⟩) 6 6) ∧ w.heap.size ≤ g ∧ w.heap.size ≤ b ∧ Blk w' g 47 (lkA b (st == 0)) ∧ Blk w' b 24 #[.int .i64 ty, .int .i64 fl, .int .i64 st, .slice A n c] ∧ Fresh w w'
theorem plooks (ty fl st : Int) (A : Option Addr) (n c : Nat) (w : World) :
    Calls Try.prog 15 #[.agg #[.int .i64 ty, .int .i64 fl, .int .i64 st, .slice A n c]] w (LooksP ty fl st A n c w) := by
  go_enter Try.func15, Try.ntmps15
  go_wp2_with fail
  go_ret
  refine ⟨w.heap.size + 1, w.heap.size, rfl, by omega, Nat.le_refl _, ?_, (Blk.new w _ _).alloc _, (Fresh.alloc _ _).allocS _⟩
  exact Blk.mkAt (by simp)
/-- The first fault's number, from 1 on; 0: none. -/
def lookB (ty fl st : Int) (l : List UInt8) (k : Nat) : Bool :=
  match k with
  | 0 => !srB ty st || ty == 5
  | 1 => !szB ty fl l.length || decide ((l.length : Int) < (aheadN ty fl : Int))
  | 2 => decide ((l.length : Int) - (aheadN ty fl : Int) < (padN ty fl l : Int))
  | 3 => ty == 2 && ((l.length : Int) != 5)
  | 4 => wgB ty fl && ((depN ty fl l : Int) == st)
  | _ => ty == 8 && ((incN l : Int) == 0)
theorem pd_ahead {ty fl : Int} {l : List UInt8} (h : ¬ (l.length : Int) < (aheadN ty fl : Int)) (hp : pdB ty fl = true) : 0 < l.length := by
  unfold aheadN at h
  rw [hp] at h
  simp at h
  omega
theorem wg_ahead {ty fl : Int} {l : List UInt8} (h : ¬ (l.length : Int) < (aheadN ty fl : Int)) (h3 : ty = 2 → l.length = 5) (hg : wgB ty fl = true) : fromN ty fl + 5 ≤ l.length := by
  by_cases h2 : ty = 2
  · have hp : pdB ty fl = false := by simp [pdB, h2]
    unfold fromN
    rw [hp]
    have := h3 h2
    simp; omega
  · have h1 : ty = 1 := by
      unfold wgB at hg
      simp [h2] at hg
      exact hg.1
    unfold aheadN at h
    unfold fromN
    rw [hg] at h
    simp [h1] at h ⊢
    omega
/-- Look k of a row answers, if none ahead of it said yes. -/
theorem look_at {w : World} {b c : Nat} {ty fl st : Int} {A : Option Addr} {l : List UInt8} (h : FB w b ty fl st A c l) (k : Nat) (hk : k < 6) (hn : ∀ j, j < k → lookB ty fl st l j = false) :
    ∃ f, (lkA b (st == 0))[k * 3 + 2]? = some (.func (Fn.func f) #[] #[.pointer (some ⟨b, 0, none⟩)]) ∧ Calls Try.prog f #[.pointer (some ⟨b, 0, none⟩)] w fun e w' => e = .returned (.bool (lookB ty fl st l k)) ∧ Fresh w w' := by
  have n1 : 1 < k → ¬ (l.length : Int) < (aheadN ty fl : Int) := fun h => by
    have := hn 1 h
    simp [lookB] at this
    omega
  have n3 : 3 < k → ty = 2 → l.length = 5 := fun h e => by
    have := hn 3 h
    simp [lookB, e] at this
    omega
  have n8 : 1 < k → ty = 8 → 4 ≤ l.length := fun h e => by
    have := hn 1 h
    simp [lookB, szB, e] at this
    omega
  match k, hk with
  | 0, _ => exact ⟨_, rfl, look1 h⟩
  | 1, _ => exact ⟨_, rfl, look2 h⟩
  | 2, _ => exact ⟨_, rfl, look3 h (pd_ahead (n1 (by omega))) (by have := n1 (by omega); omega)⟩
  | 3, _ => exact ⟨_, rfl, (look4 h).mono fun e w' ⟨a, b⟩ => ⟨a, by rw [← b]; exact Fresh.refl _⟩⟩
  | 4, _ => exact ⟨_, rfl, look5 h (wg_ahead (n1 (by omega)) (n3 (by omega)))⟩
  | 5, _ => exact ⟨_, rfl, look6 h (n8 (by omega))⟩
end Go.Proofs.Ytcdghmidpaeloaa

