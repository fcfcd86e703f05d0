/-
  Parse by its fault's number; OK (as XPayH has them, without what needs Equal).
-/
import Derived.Test.YtapnlkmofldmdaaPay90
namespace Go.Proofs.Ytapnlkmofldmdaa
set_option linter.unusedVariables false
open Go.RowKit

def ItV.agg (x : ItV) : Value := .agg #[.int .i64 x.ty, .int .i64 x.st, .slice x.A x.l.length x.c, .bool x.en, .bool x.eh, .bool x.ak, .int .i64 x.fl, .int .i64 x.co, .int .i64 x.la, .int .i64 x.inc, .int .i64 x.de, .int .i64 x.we, .bool x.wd, .bool x.ex, .slice x.PA x.ps.length x.pc]
theorem FirstB.eq {ty fl st : Int} {l : List UInt8} {k k' : Nat} (h : FirstB ty fl st l k) (h' : FirstB ty fl st l k') : k = k' := by
  obtain ⟨h1, h2, h3⟩ := h
  obtain ⟨g1, g2, g3⟩ := h'
  rcases Nat.lt_trichotomy k k' with h | h | h
  · have a := g2 k h
    have b := h3 (by omega)
    rw [a] at b
    cases b
  · exact h
  · have a := h2 k' h
    have b := g3 (by omega)
    rw [a] at b
    cases b
def ToldP (ty st f0 : Int) (q : PR × Int × Bool) (w : World) (e : Ending) (w' : World) : Prop :=
  ∃ x : ItV, e = .returned (.tuple #[x.agg, .agg #[.int .i64 q.2.1, .bool q.2.2]]) ∧ x.Ok w' ∧ Says x q.1 ∧ (x.ty = ty ∧ x.st = st ∧ x.fl = f0) ∧ (∀ b o, x.A = some ⟨b, o, none⟩ → w.heap.size ≤ b) ∧ (∀ b o, x.PA = some ⟨b, o, none⟩ → w.heap.size ≤ b) ∧ Fresh w w'
theorem pparse_at (k : Nat) (ty fl st : Int) (A : Option Addr) (c : Nat) (l : List UInt8) (w : World) (hA : BS w A l) (hlc : l.length ≤ c) (hcm : c ≤ maxLen) (hmx : l.length ≤ 1000000) (hk : FirstB ty fl st l k) (q : PR × Int × Bool) (hq : prsF ty fl st l k = q) :
    Calls Try.prog 13 #[.agg #[.int .i64 ty, .int .i64 fl, .int .i64 st, .slice A l.length c]] w (ToldP ty st (flowN ty l.length) q w) := by
  refine (pparse ty fl st A c l w hA hlc hcm hmx).mono ?_
  rintro e w' ⟨x, k', rfl, hk', hok, hs, hb, h1, h2, hf⟩
  obtain rfl := hk.eq hk'
  rw [hq] at hs ⊢
  exact ⟨x, rfl, hok, hs, hb, h1, h2, hf⟩
theorem pok (co : Int) (cn : Bool) (r : Bool) (hr : decide (co = 0 ∧ cn = false) = r) (w : World) : Calls Try.prog 15 #[.agg #[.int .i64 co, .bool cn]] w fun e w' => e = .returned (.bool r) ∧ Fresh w w' := by
  subst hr
  by_cases h : co = 0
  · subst h
    cases cn
    · go_enter Try.func15, Try.ntmps15
      go_wp2
      go_ret
      exact ⟨rfl, by repeat (first | with_reducible exact Fresh.refl _ | with_reducible apply Fresh.drewS | with_reducible apply Fresh.allocS)⟩
    · go_enter Try.func15, Try.ntmps15
      go_wp2
      go_ret
      exact ⟨rfl, by repeat (first | with_reducible exact Fresh.refl _ | with_reducible apply Fresh.drewS | with_reducible apply Fresh.allocS)⟩
  · have e : decide (co = 0 ∧ cn = false) = false := by simp [h]
    have a : (co == 0) = false := by simpa using h
    rw [e]
    clear e h
    go_enter Try.func15, Try.ntmps15
    go_wp2
    go_ret
    exact ⟨rfl, by repeat (first | with_reducible exact Fresh.refl _ | with_reducible apply Fresh.drewS | with_reducible apply Fresh.allocS)⟩
end Go.Proofs.Ytapnlkmofldmdaa
