/-
  Contracts of package payload: Parse by its fault's number; what is told at some fixed frames; the laws' fixed answer.
-/
import Derived.Test.YtcdghmidpaeloaaPayG
import Derived.Test.YtcdghmidpaeloaaPay90
import Derived.Lib.SlBytesConst
namespace Go.Proofs.Ytcdghmidpaeloaa
set_option linter.unusedVariables false
open Go.RowKit

theorem FirstB.eq {ty fl st : Int} {l : List UInt8} {k k' : Nat} (h : FirstB ty fl st l k) (h' : FirstB ty fl st l k') : k = k' := by
  obtain ⟨h1, h2, h3⟩ := h
  obtain ⟨g1, g2, g3⟩ := h'
  rcases Nat.lt_trichotomy k k' with h | h | h
  · have a := g2 k h
    have b := h3 (by omega)
    rw [a] at b
    cases b
  · exact h
  · have a := h2 k' h
    have b := g3 (by omega)
    rw [a] at b
    cases b
def ToldP (ty st f0 : Int) (q : PR × Int × Bool) (w : World) (e : Ending) (w' : World) : Prop :=
  ∃ x : ItV, e = .returned (.tuple #[x.agg, .agg #[.int .i64 q.2.1, .bool q.2.2]]) ∧ x.Ok w' ∧ Says x q.1 ∧ (x.ty = ty ∧ x.st = st ∧ x.fl = f0) ∧ (∀ b o, x.A = some ⟨b, o, none⟩ → w.heap.size ≤ b) ∧ (∀ b o, x.PA = some ⟨b, o, none⟩ → w.heap.size ≤ b) ∧ Fresh w w'
theorem pparse_at (k : Nat) (ty fl st : Int) (A : Option Addr) (c : Nat) (l : List UInt8) (w : World) (hA : BS w A l) (hlc : l.length ≤ c) (hcm : c ≤ maxLen) (hmx : l.length ≤ 1000000) (hk : FirstB ty fl st l k) (q : PR × Int × Bool) (hq : prsF ty fl st l k = q) :
    Calls Try.prog 9 #[.agg #[.int .i64 ty, .int .i64 fl, .int .i64 st, .slice A l.length c]] w (ToldP ty st (flowN ty l.length) q w) := by
  refine (pparse ty fl st A c l w hA hlc hcm hmx).mono ?_
  rintro e w' ⟨x, k', rfl, hk', hok, hs, hb, h1, h2, hf⟩
  obtain rfl := hk.eq hk'
  rw [hq] at hs ⊢
  exact ⟨x, rfl, hok, hs, hb, h1, h2, hf⟩
def padS (p : Nat) (l : List UInt8) : List UInt8 := UInt8.ofNat p :: (l ++ List.replicate p 0)
theorem padS_len (p : Nat) (l : List UInt8) : (padS p l).length = l.length + p + 1 := by simp [padS]
theorem padS_flags (b : Bool) : hasB (if b then 9 else 8) 8 = true ∧ hasB (if b then 9 else 8) 1 = b := by cases b <;> exact ⟨by decide +kernel, by decide +kernel⟩
theorem padS_told (p : Nat) (l : List UInt8) (b : Bool) (st : Int) (hst : 1 ≤ st) (hp : p ≤ 255) :
    FirstB 0 (if b then 9 else 8) st (padS p l) 6 ∧ prsF 0 (if b then 9 else 8) st (padS p l) 6 = ({ PR0 with l := l, en := b }, 0, false) := by
  obtain ⟨h8, h1⟩ := padS_flags b
  generalize (if b then (9 : Int) else 8) = fl at *
  have hpd : pdB 0 fl = true := by simp [pdB, h8]
  have hwg : wgB 0 fl = false := by simp [wgB]
  have hah : aheadN 0 fl = 1 := by simp [aheadN, hpd, hwg]
  have hpn : padN 0 fl (padS p l) = p := by
    simp [padN, hpd, padS]
    omega
  have hlen := padS_len p l
  have hno : ∀ j, lookB 0 fl st (padS p l) j = false := fun j => by
    match j with
    | 0 => simp [lookB, srB]; omega
    | 1 => simp [lookB, szB, hah, hlen]; omega
    | 2 => simp [lookB, hah, hpn, hlen]; omega
    | 3 => simp [lookB]
    | 4 => simp [lookB, hwg]
    | (j + 5) => simp [lookB]
  refine ⟨⟨by omega, fun j _ => hno j, fun h => absurd h (by omega)⟩, ?_⟩
  rw [prsF, if_neg (by omega)]
  unfold prOf
  rw [if_pos rfl, h1]
  have : textL 0 fl (padS p l) = l := by
    unfold textL
    rw [hah, hpn, hlen, show l.length + p + 1 - p - 1 = l.length by omega]
    simp [padS]
  rw [this]
/-- A Data without padding. -/
theorem bare_told (l : List UInt8) (b : Bool) (st : Int) (hst : 1 ≤ st) :
    FirstB 0 (if b then 1 else 0) st l 6 ∧ prsF 0 (if b then 1 else 0) st l 6 = ({ PR0 with l := l, en := b }, 0, false) := by
  have h8 : hasB (if b then 1 else 0) 8 = false := by cases b <;> decide +kernel
  have h1 : hasB (if b then 1 else 0) 1 = b := by cases b <;> decide +kernel
  generalize (if b then (1 : Int) else 0) = fl at *
  have hpd : pdB 0 fl = false := by simp [pdB, h8]
  have hwg : wgB 0 fl = false := by simp [wgB]
  have hah : aheadN 0 fl = 0 := by simp [aheadN, hpd, hwg]
  have hpn : padN 0 fl l = 0 := by simp [padN, hpd]
  have hno : ∀ j, lookB 0 fl st l j = false := fun j => by
    match j with
    | 0 => simp [lookB, srB]; omega
    | 1 => simp [lookB, szB, hah]
    | 2 => simp [lookB, hah, hpn]
    | 3 => simp [lookB]
    | 4 => simp [lookB, hwg]
    | (j + 5) => simp [lookB]
  refine ⟨⟨by omega, fun j _ => hno j, fun h => absurd h (by omega)⟩, ?_⟩
  rw [prsF, if_neg (by omega)]
  unfold prOf
  rw [if_pos rfl, h1]
  have : textL 0 fl l = l := by
    unfold textL
    rw [hah, hpn]
    simp
  rw [this]
/-- What is told of a Data that is all right. -/
def DataTold (st : Int) (l : List UInt8) (b : Bool) (M : Nat) (w : World) (e : Ending) (w' : World) : Prop :=
  ∃ (A' : Option Addr) (c' : Nat) (PA : Option Addr) (pc : Nat), e = .returned (.tuple #[.agg #[.int .i64 0, .int .i64 st, .slice A' l.length c', .bool b, .bool false, .bool false, .int .i64 (M : Int), .int .i64 0, .int .i64 0, .int .i64 0, .int .i64 0, .int .i64 0, .bool false, .bool false, .slice PA 0 pc], .agg #[.int .i64 0, .bool false]]) ∧ BS w' A' l ∧ (∀ k o, A' = some ⟨k, o, none⟩ → w.heap.size ≤ k) ∧ Fresh w w'
theorem parse_data (fl st : Int) (A : Option Addr) (c : Nat) (L l : List UInt8) (b : Bool) (w : World) (hA : BS w A L) (hlc : L.length ≤ c) (hcm : c ≤ maxLen) (hmx : L.length ≤ 1000000)
    (hk : FirstB 0 fl st L 6) (hq : prsF 0 fl st L 6 = ({ PR0 with l := l, en := b }, 0, false)) :
    Calls Try.prog 9 #[.agg #[.int .i64 0, .int .i64 fl, .int .i64 st, .slice A L.length c]] w (DataTold st l b L.length w) := by
  refine (pparse_at 6 0 fl st A c L w hA hlc hcm hmx hk _ hq).mono ?_
  rintro e w' ⟨x, rfl, hok, hs, ⟨h1, h2, h3⟩, hn, _, hf⟩
  have hbs := hok.bs
  obtain ⟨ty, st', A', c', l', en, eh, ak, f0, co, la, inc, de, we, wd, ex, PA, pc, ps⟩ := x
  obtain ⟨e1, ⟨e2, e3, e4, e5, e6⟩, ⟨e7, e8, e9, e10, e11⟩, e12⟩ := hs
  simp only [PR0, flowN, if_pos] at e1 e2 e3 e4 e5 e6 e7 e8 e9 e10 e11 e12 h1 h2 h3 hbs
  subst e1 e2 e3 e4 e5 e6 e7 e8 e9 e10 e11 e12 h1 h2 h3
  exact ⟨A', c', PA, pc, rfl, hbs, hn, hf⟩
/-- What is told beside a fault. -/
def FaultTold (ty st f0 co : Int) (cn : Bool) (w : World) (e : Ending) (w' : World) : Prop :=
  ∃ (A' : Option Addr) (c' : Nat) (PA : Option Addr) (pc : Nat), e = .returned (.tuple #[.agg #[.int .i64 ty, .int .i64 st, .slice A' 0 c', .bool false, .bool false, .bool false, .int .i64 f0, .int .i64 0, .int .i64 0, .int .i64 0, .int .i64 0, .int .i64 0, .bool false, .bool false, .slice PA 0 pc], .agg #[.int .i64 co, .bool cn]]) ∧ c' ≤ maxLen ∧ pc ≤ maxLen ∧ Fresh w w'
theorem parse_fault (ty fl st : Int) (A : Option Addr) (c : Nat) (L : List UInt8) (co : Int) (cn : Bool) (k : Nat) (w : World) (hA : BS w A L) (hlc : L.length ≤ c) (hcm : c ≤ maxLen) (hmx : L.length ≤ 1000000)
    (hk : FirstB ty fl st L k) (hq : prsF ty fl st L k = (PR0, co, cn)) :
    Calls Try.prog 9 #[.agg #[.int .i64 ty, .int .i64 fl, .int .i64 st, .slice A L.length c]] w (FaultTold ty st (flowN ty L.length) co cn w) := by
  refine (pparse_at k ty fl st A c L w hA hlc hcm hmx hk _ hq).mono ?_
  rintro e w' ⟨x, rfl, hok, hs, ⟨h1, h2, h3⟩, hn, _, hf⟩
  have hm1 := hok.max
  have hm2 := hok.pmax
  obtain ⟨ty', st', A', c', l', en, eh, ak, f0, co', la, inc, de, we, wd, ex, PA, pc, ps⟩ := x
  obtain ⟨e1, ⟨e2, e3, e4, e5, e6⟩, ⟨e7, e8, e9, e10, e11⟩, e12⟩ := hs
  simp only [PR0] at e1 e2 e3 e4 e5 e6 e7 e8 e9 e10 e11 e12 h1 h2 h3 hm1 hm2
  subst e1 e2 e3 e4 e5 e6 e7 e8 e9 e10 e11 e12 h1 h2 h3
  exact ⟨A', c', PA, pc, rfl, hm1, hm2, hf⟩
theorem pok (co : Int) (cn : Bool) (r : Bool) (hr : decide (co = 0 ∧ cn = false) = r) (w : World) : Calls Try.prog 11 #[.agg #[.int .i64 co, .bool cn]] w fun e w' => e = .returned (.bool r) ∧ Fresh w w' := by
  subst hr
  by_cases h : co = 0
  · subst h
    cases cn
    · go_enter Try.func11, Try.ntmps11
      go_wp2
      go_ret
      exact ⟨rfl, by repeat (first | with_reducible exact Fresh.refl _ | with_reducible apply Fresh.drewS | with_reducible apply Fresh.allocS)⟩
    · go_enter Try.func11, Try.ntmps11
      go_wp2
      go_ret
      exact ⟨rfl, by repeat (first | with_reducible exact Fresh.refl _ | with_reducible apply Fresh.drewS | with_reducible apply Fresh.allocS)⟩
  · have e : decide (co = 0 ∧ cn = false) = false := by simp [h]
    have a : (co == 0) = false := by simpa using h
    rw [e]
    clear e h
    go_enter Try.func11, Try.ntmps11
    go_wp2
    go_ret
    exact ⟨rfl, by repeat (first | with_reducible exact Fresh.refl _ | with_reducible apply Fresh.drewS | with_reducible apply Fresh.allocS)⟩
theorem parse_a1 (H c : Nat) (w : World) (h : BS w (some ⟨H, 0, none⟩) [1, 97, 98, 0]) (hc : 4 ≤ c) (hcm : c ≤ maxLen) :
    Calls Try.prog 9 #[.agg #[.int .i64 0, .int .i64 8, .int .i64 1, .slice (some ⟨H, 0, none⟩) 4 c]] w (DataTold 1 [97, 98] false 4 w) :=
  parse_data 8 1 (some ⟨H, 0, none⟩) c [1, 97, 98, 0] [97, 98] false w h hc hcm (by simp) (padS_told 1 [97, 98] false 1 (by omega) (by omega)).1 (padS_told 1 [97, 98] false 1 (by omega) (by omega)).2
theorem parse_a2 (H : Nat) (w : World) (h : BS w (some ⟨H, 0, none⟩) [0, 0, 0, 0]) :
    Calls Try.prog 9 #[.agg #[.int .i64 8, .int .i64 0, .int .i64 3, .slice (some ⟨H, 0, none⟩) 4 4]] w (FaultTold 8 3 0 101 false w) :=
  parse_fault 8 0 3 (some ⟨H, 0, none⟩) 4 [0, 0, 0, 0] 101 false 5 w h (by simp) (by simp [maxLen]) (by simp) ⟨by omega, fun j hj => by
    match j, hj with
    | 0, _ => decide +kernel
    | 1, _ => decide +kernel
    | 2, _ => decide +kernel
    | 3, _ => decide +kernel
    | 4, _ => decide +kernel, fun _ => by decide +kernel⟩ (by simp [prsF, lkC, lkD])
theorem parse_a3 (H c : Nat) (w : World) (h : BS w (some ⟨H, 0, none⟩) [49]) (hc : 1 ≤ c) (hcm : c ≤ maxLen) :
    Calls Try.prog 9 #[.agg #[.int .i64 6, .int .i64 0, .int .i64 0, .slice (some ⟨H, 0, none⟩) 1 c]] w (FaultTold 6 0 0 106 true w) :=
  parse_fault 6 0 0 (some ⟨H, 0, none⟩) c [49] 106 true 1 w h hc hcm (by simp) ⟨by omega, fun j hj => by
    match j, hj with
    | 0, _ => decide +kernel, fun _ => by decide +kernel⟩ (by simp [prsF, lkC, lkD])
end Go.Proofs.Ytcdghmidpaeloaa

