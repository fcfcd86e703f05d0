/-
  The law BlockSplits: what each frame says; the assembler's part then.
-/
import Derived.Test.YtapnlkmofldmdaaBlock7
import Derived.Test.YtapnlkmofldmdaaPayT
namespace Go.Proofs.Ytapnlkmofldmdaa
set_option linter.unusedVariables false
open Go.RowKit

theorem hc_told (T fl st : Int) (l : List UInt8) (en eh : Bool) (h : (T = 1 ∧ hasB fl 1 = en ∧ hasB fl 8 = false ∧ hasB fl 32 = false) ∨ (T = 9 ∧ en = false)) (h4 : hasB fl 4 = eh) (hst : 1 ≤ st) :
    FirstB T fl st l 6 ∧ prsF T fl st l 6 = ({ PR0 with l := l, en := en, eh := eh }, 0, false) := by
  have hs0 : ¬ st = 0 := by omega
  rcases h with ⟨rfl, h1, h8, h32⟩ | ⟨rfl, rfl⟩
  · have hpd : pdB 1 fl = false := by simp [pdB, h8]
    have hwg : wgB 1 fl = false := by simp [wgB, h32]
    have hah : aheadN 1 fl = 0 := by simp [aheadN, hpd, hwg]
    have hpn : padN 1 fl l = 0 := by simp [padN, hpd]
    refine ⟨⟨by omega, fun j hj => ?_, fun h => absurd h (by omega)⟩, ?_⟩
    · match j, hj with
      | 0, _ => simp [lookB, srB, hs0]
      | 1, _ => simp [lookB, szB, hah]
      | 2, _ => simp [lookB, hah, hpn]
      | 3, _ => simp [lookB]
      | 4, _ => simp [lookB, hwg]
      | 5, _ => simp [lookB]
    · have ht : textL 1 fl l = l := by unfold textL; rw [hah, hpn]; simp
      rw [prsF, if_neg (by omega)]
      simp [prOf, ht, h1, h4, hwg, PR0]
  · have hpd : pdB 9 fl = false := by simp [pdB]
    have hwg : wgB 9 fl = false := by simp [wgB]
    have hah : aheadN 9 fl = 0 := by simp [aheadN, hpd, hwg]
    have hpn : padN 9 fl l = 0 := by simp [padN, hpd]
    refine ⟨⟨by omega, fun j hj => ?_, fun h => absurd h (by omega)⟩, ?_⟩
    · match j, hj with
      | 0, _ => simp [lookB, srB, hs0]
      | 1, _ => simp [lookB, szB, hah]
      | 2, _ => simp [lookB, hah, hpn]
      | 3, _ => simp [lookB]
      | 4, _ => simp [lookB, hwg]
      | 5, _ => simp [lookB]
    · rw [prsF, if_neg (by omega)]
      simp [prOf, h4, PR0]
def HcTold (T st : Int) (l : List UInt8) (L : Nat) (en eh : Bool) (w : World) (e : Ending) (w' : World) : Prop :=
  ∃ (A' : Option Addr) (c' : Nat) (PA : Option Addr) (pc : Nat), e = .returned (.tuple #[.agg #[.int .i64 T, .int .i64 st, .slice A' L c', .bool en, .bool eh, .bool false, .int .i64 0, .int .i64 0, .int .i64 0, .int .i64 0, .int .i64 0, .int .i64 0, .bool false, .bool false, .slice PA 0 pc], .agg #[.int .i64 0, .bool false]]) ∧
    (L ≤ c' ∧ c' ≤ maxLen ∧ pc ≤ maxLen) ∧ BS w' A' l ∧ (∀ b o, A' = some ⟨b, o, none⟩ → w.heap.size ≤ b) ∧ Fresh w w'
theorem parse_hc (T fl st : Int) (A : Option Addr) (c : Nat) (l : List UInt8) (L : Nat) (en eh : Bool) (w : World) (hA : BS w A l) (hL : l.length = L) (hlc : L ≤ c) (hcm : c ≤ maxLen) (hmx : L ≤ 1000000)
    (h : (T = 1 ∧ hasB fl 1 = en ∧ hasB fl 8 = false ∧ hasB fl 32 = false) ∨ (T = 9 ∧ en = false)) (h4 : hasB fl 4 = eh) (hst : 1 ≤ st) :
    Calls Try.prog 13 #[.agg #[.int .i64 T, .int .i64 fl, .int .i64 st, .slice A L c]] w (HcTold T st l L en eh w) := by
  subst hL
  obtain ⟨hk, hq⟩ := hc_told T fl st l en eh h h4 hst
  have hT : ¬ T = 0 := by rcases h with ⟨rfl, _⟩ | ⟨rfl, _⟩ <;> omega
  refine (pparse_at 6 T fl st A c l w hA hlc hcm hmx hk _ hq).mono ?_
  rintro e w' ⟨x, rfl, hok, hs, ⟨h1, h2, h3⟩, hn, _, hf⟩
  have hbs := hok.bs
  have hle := hok.le
  have hm1 := hok.max
  have hm2 := hok.pmax
  obtain ⟨ty, st', A', c', l', en', eh', ak, f0, co, la, inc, de, we, wd, ex, PA, pc, ps⟩ := x
  obtain ⟨e1, ⟨e2, e3, e4, e5, e6⟩, ⟨e7, e8, e9, e10, e11⟩, e12⟩ := hs
  simp only [PR0, flowN, if_neg hT] at e1 e2 e3 e4 e5 e6 e7 e8 e9 e10 e11 e12 h1 h2 h3 hbs hle hm1 hm2
  subst e1 e2 e3 e4 e5 e6 e7 e8 e9 e10 e11 e12 h1 h2 h3
  exact ⟨A', c', PA, pc, rfl, ⟨hle, hm1, hm2⟩, hbs, hn, hf⟩
/-- The part behind i frames. -/
def sT (st : Int) (t : List UInt8) (e : Bool) (most n i : Nat) : Option Part := if i = 0 then none else if i = n + 1 then none else some (st, t.take (i * most), e)
def spP (most : Nat) (t : List UInt8) (n i : Nat) : List UInt8 := if i = n then t.drop (n * most) else spL most t i
def spO (st : Int) (t : List UInt8) (e : Bool) (n i : Nat) : Option Part := if i = n then some (st, t, e) else none
def spE (e : Bool) (i : Nat) : Bool := e && decide (i = 0)
theorem sp_on (st : Int) (t : List UInt8) (e : Bool) (most n i : Nat) (hi : i ≤ n) (ht : t.length ≤ 300) (hn : n = 0 ∨ n * most < t.length) :
    onS 300 (sT st t e most n i) (spTy i) st (spP most t n i) (spE e i) (decide (i = n)) = (sT st t e most n (i + 1), spO st t e n i, false) := by
  have hlen : ∀ k : Nat, (t.take k).length ≤ 300 := fun k => by rw [List.length_take]; omega
  by_cases h0 : i = 0
  · subst h0
    have hl : ¬ (300 : Int) < ((spP most t n 0).length : Int) := by
      have : (spP most t n 0).length ≤ t.length := by unfold spP spL; split <;> simp <;> omega
      omega
    simp only [onS, sT, spTy, if_true, show ¬ ((1 : Int) = 9) by omega, if_false, ne_eq, not_true, hl]
    by_cases hn0 : n = 0
    · subst hn0
      simp [spO, spP, spE]
    · have : ¬ 0 = n := by omega
      simp [spO, spP, spE, spL, this, hn0, show ¬ (1 = n + 1) by omega]
  · have hne : ¬ i = n + 1 := by omega
    have h9 : spTy i = 9 := by simp [spTy, h0]
    have hcat : (t.take (i * most)).length + (spP most t n i).length ≤ 300 := by
      unfold spP spL
      split
      · rename_i hin
        subst hin
        simp
        omega
      · simp
        omega
    have hl : ¬ (300 : Int) - ((t.take (i * most)).length : Int) < ((spP most t n i).length : Int) := by omega
    have hse : spE e i = false := by simp [spE, h0]
    simp only [onS, sT, if_neg h0, if_neg hne, h9, ne_eq, not_true, if_false, hl, hse]
    by_cases hin : i = n
    · subst hin
      simp [spO, spP]
    · have : ¬ i + 1 = n + 1 := by omega
      simp only [decide_eq_false hin, Bool.false_eq_true, if_false, spO, spP, if_neg hin, if_neg this, Nat.succ_ne_zero, spL]
      rw [Nat.succ_mul, List.take_add]
theorem frO_flat_len (fs : List FrO) : (fs.flatMap FrO.cells).length = fs.length * 4 := by
  induction fs with
  | nil => rfl
  | cons p fs ih => rw [List.flatMap_cons, List.length_append, ih, List.length_cons]; show 4 + _ = _; omega
theorem frO_flat (fs : List FrO) (k j : Nat) (hj : j < 4) : (fs.flatMap FrO.cells)[k * 4 + j]? = (fs[k]?).bind fun p => p.cells[j]? := by
  induction fs generalizing k with
  | nil => simp
  | cons p fs ih =>
    rw [List.flatMap_cons]
    have h4 : p.cells.length = 4 := rfl
    cases k with
    | zero => rw [List.getElem?_append_left (by omega)]; simp
    | succ k =>
      rw [List.getElem?_append_right (by omega), h4, show (k + 1) * 4 + j - 4 = k * 4 + j by omega, ih k]
      simp
theorem FrsAt.cells {w : World} {base n c : Nat} {A : Option Addr} {fs : List FrO} (h : FrsAt w base (.slice A n c) fs) (k : Nat) (f : FrO) (hp : fs[k]? = some f) :
    ∃ g, A = some ⟨g, 0, none⟩ ∧ g < w.heap.size ∧ w.cell? ⟨g, k * 4, none⟩ = some (.int .i64 f.ty) ∧ w.cell? ⟨g, k * 4 + 1, none⟩ = some (.int .i64 f.fl) ∧ w.cell? ⟨g, k * 4 + 2, none⟩ = some (.int .i64 f.st) ∧ w.cell? ⟨g, k * 4 + 3, none⟩ = some (.slice f.A f.l.length f.c) ∧ BS w f.A f.l ∧ f.l.length ≤ f.c ∧ f.c ≤ maxLen := by
  have hk : k < fs.length := (List.getElem?_eq_some_iff.1 hp).1
  have hok := h.pay f (List.mem_of_getElem? hp)
  obtain ⟨A9, c9, e9, h1, h2, _⟩ := Own.slice hok
  cases e9
  rcases h.own.form with ⟨e, h0, _⟩ | ⟨g, cap, e, hb, hlt, _, _, hc⟩
  · have := h.own.length
    rw [frO_flat_len] at this
    omega
  · injection e with e1
    have key : ∀ j, j < 4 → w.cell? ⟨g, k * 4 + j, none⟩ = f.cells[j]? := fun j hj => by
      rw [(hc (k * 4 + j) (by rw [frO_flat_len]; omega)).1, frO_flat fs k j hj, hp]
      rfl
    exact ⟨g, e1, hlt, key 0 (by omega), key 1 (by omega), key 2 (by omega), key 3 (by omega), (Own.bytes hok).1, h1, h2⟩
/-- Frame i of all. -/
theorem SpAll.at {most n : Nat} {t : List UInt8} {st : Int} {e : Bool} {fs : List FrO} (h : SpAll most t st e n fs) (i : Nat) (hi : i ≤ n) :
    ∃ f, fs[i]? = some f ∧ f.ty = spTy i ∧ f.fl = spFl e i + (if i = n then 4 else 0) ∧ f.st = st ∧ f.l = spP most t n i := by
  obtain ⟨gs, f, rfl, hl, hk, h1, h2, h3, h4⟩ := h
  by_cases hin : i = n
  · subst hin
    refine ⟨f, ?_, h1, by rw [if_pos rfl]; exact h2, h3, by rw [h4, spP, if_pos rfl]⟩
    rw [List.getElem?_append_right (by omega), hl]
    simp
  · have hig : i < gs.length := by omega
    obtain ⟨a1, a2, a3, a4⟩ := hk i gs[i] (List.getElem?_eq_getElem hig)
    refine ⟨gs[i], ?_, a1, by rw [if_neg hin, Int.add_zero]; exact a2, a3, by rw [a4, spP, if_neg hin]⟩
    rw [List.getElem?_append_left hig, List.getElem?_eq_getElem hig]
theorem spFl_has (e : Bool) (i : Nat) (b : Bool) :
    (i = 0 → hasB (spFl e i + (if b then 4 else 0)) 1 = e ∧ hasB (spFl e i + (if b then 4 else 0)) 8 = false ∧ hasB (spFl e i + (if b then 4 else 0)) 32 = false) ∧ hasB (spFl e i + (if b then 4 else 0)) 4 = b := by
  by_cases hi : i = 0
  · subst hi
    cases e <;> cases b <;> (simp only [spFl]; decide +kernel)
  · have : spFl e i = 0 := by simp [spFl, hi]
    rw [this]
    refine ⟨fun h => absurd h hi, ?_⟩
    cases b <;> decide +kernel
end Go.Proofs.Ytapnlkmofldmdaa
