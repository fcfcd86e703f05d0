/-
  Contracts of package payload: what a frame without a fault says, by its type.
-/
import Derived.Test.YtcdghmidpaeloaaPay6
namespace Go.Proofs.Ytcdghmidpaeloaa
set_option linter.unusedVariables false
open Go.RowKit

def bareI (ty st f0 : Int) : ItV := ⟨ty, st, none, 0, [], false, false, false, f0, 0, 0, 0, 0, 0, false, false, none, 0, []⟩
/-- What is said: text, marks, numbers, pairs. -/
structure PR where
  (l : List UInt8) (en eh ak : Bool) (co la inc de we : Int) (wd ex : Bool) (ps : List (Int × Int))
def PR0 : PR := ⟨[], false, false, false, 0, 0, 0, 0, 0, false, false, []⟩
structure Says (x : ItV) (r : PR) : Prop where
  l : x.l = r.l
  m : x.en = r.en ∧ x.eh = r.eh ∧ x.ak = r.ak ∧ x.wd = r.wd ∧ x.ex = r.ex
  n : x.co = r.co ∧ x.la = r.la ∧ x.inc = r.inc ∧ x.de = r.de ∧ x.we = r.we
  ps : x.ps = r.ps
def ReadP (p : Nat) (ty st f0 : Int) (r : PR) (w : World) (e : Ending) (w' : World) : Prop :=
  ∃ x : ItV, e = .returned (.tuple #[]) ∧ Blk w' p 28 x.cells.toArray ∧ x.Ok w' ∧ Says x r ∧ (x.ty = ty ∧ x.st = st ∧ x.fl = f0) ∧ (∀ b o, x.A = some ⟨b, o, none⟩ → w.heap.size ≤ b) ∧ (∀ b o, x.PA = some ⟨b, o, none⟩ → w.heap.size ≤ b) ∧ Only (· = p) w w'
theorem Only.bsx {w w' : World} {p : Nat} {A : Option Addr} {l : List UInt8} (h : BS w A l) (ho : Only (· = p) w w') (hA : 0 < l.length → ∀ b o, A = some ⟨b, o, none⟩ → b ≠ p) : BS w' A l := by
  cases l with
  | nil => exact BS.nil _ _
  | cons x l => exact h.only ho (fun b o e hh => hA (by simp) b o e hh)
/-- The frame's box, and the item's block, behind the box's making. -/
structure RdS (w : World) (p b : Nat) (x : ItV) (ty fl st : Int) (A : Option Addr) (c : Nat) (l : List UInt8) (W : World) : Prop where
  box : Blk W b 24 #[.int .i64 ty, .int .i64 fl, .int .i64 st, .slice A l.length c]
  it : Blk W p 28 x.cells.toArray
  bs : BS W A l
  fr : Fresh w W
  hb : w.heap.size ≤ b
  hp : p < w.heap.size
  hA : 0 < l.length → ∀ b o, A = some ⟨b, o, none⟩ → b ≠ p
theorem RdS.only {w W W' : World} {p b c : Nat} {x : ItV} {ty fl st : Int} {A : Option Addr} {l : List UInt8} (h : RdS w p b x ty fl st A c l W) (ho : Only (· = p) W W') : Blk W' b 24 #[.int .i64 ty, .int .i64 fl, .int .i64 st, .slice A l.length c] ∧ BS W' A l :=
  ⟨h.box.only ho (by have := h.hb; have := h.hp; omega), Only.bsx h.bs ho h.hA⟩
theorem RdS.start {w : World} {p c : Nat} {x : ItV} {ty fl st : Int} {A : Option Addr} {l : List UInt8} (hb : Blk w p 28 x.cells.toArray) (hA : BS w A l) (hAp : 0 < l.length → ∀ b o, A = some ⟨b, o, none⟩ → b ≠ p) :
    RdS w p w.heap.size x ty fl st A c l (w.alloc (.cells #[.int .i64 ty, .int .i64 fl, .int .i64 st, .slice A l.length c] 24)) :=
  ⟨Blk.new _ _ _, hb.alloc _, hA.fresh (Fresh.alloc _ _), Fresh.alloc _ _, Nat.le_refl _, hb.lt, hAp⟩
theorem many_own {w : World} {base n c : Nat} {A : Option Addr} {ps : List (Int × Int)} (h : Own w base 52 2 (.slice A n c) n (ps.flatMap pairC)) (hn : ps.length = n) : Many pairC 2 w A ps ∧ ∀ b o, A = some ⟨b, o, none⟩ → base ≤ b := by
  refine ⟨fun hp => ?_, fun b o e => ?_⟩
  · rcases h.form with ⟨e, h0, _⟩ | ⟨g, cap, e, hb, hlt, _, _, hc⟩
    · omega
    · injection e with e1
      refine ⟨g, 0, e1, hlt, fun i hi j hj => ?_⟩
      have hlen : (ps.flatMap pairC).length = ps.length * 2 := by
        clear h hn hp hc hi
        induction ps with
        | nil => rfl
        | cons q ps ih => rw [List.flatMap_cons, List.length_append, ih, List.length_cons]; show 2 + _ = _; omega
      have hget : ∀ (ps : List (Int × Int)) (i : Nat) (h : i < ps.length), (ps.flatMap pairC)[i * 2 + j]? = (pairC ps[i])[j]? := by
        intro ps
        induction ps with
        | nil => intro i h; simp at h
        | cons q ps ih =>
          intro i h
          rw [List.flatMap_cons]
          cases i with
          | zero => rw [List.getElem?_append_left (by simp [pairC]; omega)]; simp
          | succ i =>
            rw [List.getElem?_append_right (by simp [pairC]; omega)]
            have := ih i (by simpa using h)
            rw [show (i + 1) * 2 + j - (pairC q).length = i * 2 + j by simp [pairC]; omega, this]
            simp
      rw [Nat.zero_add, (hc (i * 2 + j) (by rw [hlen]; omega)).1, hget ps i hi]
  · obtain ⟨A', c', e', _, _, hat⟩ := h.slice
    cases e'
    exact (hat b o e).1
theorem read_hide {pr : Program} {f : FuncId} {args : Array Value} {w w0 : World} {p : Nat} {ty st f0 : Int} {R : PR} (h : ∀ rr, R = rr → Calls pr f args w (ReadP p ty st f0 rr w0)) : Calls pr f args w (ReadP p ty st f0 R w0) := h R rfl
end Go.Proofs.Ytcdghmidpaeloaa

