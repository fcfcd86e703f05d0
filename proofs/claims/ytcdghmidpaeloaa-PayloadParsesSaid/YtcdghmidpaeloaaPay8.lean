/-
  Contracts of package payload: what a frame without a fault says.
-/
import Derived.Test.YtcdghmidpaeloaaPay70
import Derived.Test.YtcdghmidpaeloaaPay71
import Derived.Test.YtcdghmidpaeloaaPay74
import Derived.Test.YtcdghmidpaeloaaPay77
namespace Go.Proofs.Ytcdghmidpaeloaa
set_option linter.unusedVariables false
open Go.RowKit

def prOf (ty fl : Int) (l : List UInt8) : PR :=
  if ty = 0 then { PR0 with l := textL 0 fl l, en := hasB fl 1 }
  else if ty = 1 then { PR0 with l := textL 1 fl l, en := hasB fl 1, eh := hasB fl 4, wd := wgB 1 fl, ex := wgB 1 fl && exB 1 fl l, de := if wgB 1 fl then (depN 1 fl l : Int) else 0, we := if wgB 1 fl then weL 1 fl l else 0 }
  else if ty = 2 then { PR0 with wd := true, ex := exB 2 fl l, de := (depN 2 fl l : Int), we := weL 2 fl l }
  else if ty = 3 then { PR0 with co := (numL (l.take 4) : Int) }
  else if ty = 4 then { PR0 with ak := hasB fl 1, ps := prsL (l.length / 6) l }
  else if ty = 6 then { PR0 with l := l, ak := hasB fl 1 }
  else if ty = 7 then { PR0 with l := l.drop 8, la := ((numL (l.take 4) % 2147483648 : Nat) : Int), co := (numL ((l.drop 4).take 4) : Int) }
  else if ty = 8 then { PR0 with inc := (incN l : Int) }
  else if ty = 9 then { PR0 with l := l, eh := hasB fl 4 }
  else PR0
section
variable {p : Nat} {f0 fl st : Int} {A : Option Addr} {c : Nat} {l : List UInt8} {w : World}
theorem read_all (ty : Int) (hb : Blk w p 28 (bareI ty st f0).cells.toArray) (hA : BS w A l) (hAp : 0 < l.length → ∀ b o, A = some ⟨b, o, none⟩ → b ≠ p) (hlc : l.length ≤ c) (hmx : l.length ≤ 1000000) (hn : ∀ j, j < 6 → lookB ty fl st l j = false) :
    Calls Try.prog 16 #[.pointer (some ⟨p, 0, none⟩), .agg #[.int .i64 ty, .int .i64 fl, .int .i64 st, .slice A l.length c]] w (ReadP p ty st f0 (prOf ty fl l) w) := by
  have n1 : ¬ (l.length : Int) < (aheadN ty fl : Int) := fun h => by
    have := hn 1 (by omega)
    simp [lookB] at this
    omega
  have n2 : aheadN ty fl + padN ty fl l ≤ l.length := by
    have := hn 2 (by omega)
    simp [lookB] at this
    omega
  have n3 : ty = 2 → l.length = 5 := fun e => by
    have := hn 3 (by omega)
    simp [lookB, e] at this
    omega
  have n5 : szB ty fl l.length = true := by
    have := hn 1 (by omega)
    simp [lookB] at this
    exact this.1
  by_cases h0 : ty = 0
  · subst h0; exact read_0 hb hA hAp hlc hmx (pd_ahead n1) n2
  by_cases h1 : ty = 1
  · subst h1; exact read_1 hb hA hAp hlc hmx (pd_ahead n1) n2 (wg_ahead n1 n3)
  by_cases h2 : ty = 2
  · subst h2; exact read_2 hb hA hAp hlc hmx (wg_ahead n1 n3 (by simp [wgB]))
  by_cases h3 : ty = 3
  · subst h3; exact read_3 hb hA hAp hlc hmx (by simp [szB] at n5; omega)
  by_cases h4 : ty = 4
  · subst h4
    exact read_4 hb hA hAp hlc hmx (l.length / 6) (by
      simp [szB] at n5
      rcases n5 with h | ⟨h, _⟩
      · simp [h]
      · generalize l.length = m at *
        omega)
  by_cases h6 : ty = 6
  · subst h6; exact read_6 hb hA hAp hlc hmx
  by_cases h7 : ty = 7
  · subst h7; exact read_7 hb hA hAp hlc hmx (by simp [szB] at n5; omega)
  by_cases h8 : ty = 8
  · subst h8; exact read_8 hb hA hAp hlc hmx (by simp [szB] at n5; omega)
  by_cases h9 : ty = 9
  · subst h9; exact read_9 hb hA hAp hlc hmx
  have := read_else (fl := fl) (c := c) ty hb hA ⟨h0, h1, h2, h3, h4, h6, h7, h8, h9⟩
  unfold prOf
  simpa [h0, h1, h2, h3, h4, h6, h7, h8, h9] using this
end
end Go.Proofs.Ytcdghmidpaeloaa

