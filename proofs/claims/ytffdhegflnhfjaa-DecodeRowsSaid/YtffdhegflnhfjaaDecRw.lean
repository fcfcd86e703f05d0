/-
  The law DecodeRows.
-/
import Derived.Test.YtffdhegflnhfjaaDecY
import Derived.Test.YtffdhegflnhfjaaDecX
import Derived.Test.YtffdhegflnhfjaaBlkP
import Derived.Test.YtffdhegflnhfjaaMore
namespace Go.Proofs.Ytffdhegflnhfjaa
set_option maxRecDepth 100000
set_option linter.unusedVariables false
set_option linter.unusedSimpArgs false
open Go.RowKit
def Rw7P (w : World) (e : Ending) (w' : World) : Prop := e = .returned (.bool true) ∧ Fresh w w'
theorem ld_one (ys : List LnD) : ∀ u ∈ rowL ys, u.oneCell' = true := fun u hu => by
  simp only [rowL, List.mem_flatMap, lnD, List.mem_cons, List.not_mem_nil, or_false] at hu
  obtain ⟨x, _, rfl | rfl | rfl⟩ := hu <;> rfl
theorem moreLd {w0 w : World} {base n : Nat} {v : Value} {xs : List LnD} (h : Own w base 51 3 v n (rowL xs)) (hb : Below base w0 w) (hbase : base ≤ w0.heap.size) (A : Option Addr) (c : Nat) (ys : List LnD) (hm : Many lnD 3 w A ys) (hn : n + ys.length ≤ 3000) :
    ∃ A' c' w', (Builtin.append_ #[35, 35] 35 #[v, .slice A ys.length c]).run Try.prog w = .ok (.slice A' (n + ys.length) c') w' ∧ Own w' base 51 3 (.slice A' (n + ys.length) c') (n + ys.length) (rowL (xs ++ ys)) ∧ Below base w0 w' := by
  obtain ⟨i, hi, hiz, his, hib⟩ := info_parts3D lnd_info
  cases A with
  | none =>
    have hl : ys = [] := by
      rcases ys with _ | ⟨x, l⟩
      · rfl
      · obtain ⟨b, o, e, _⟩ := hm (by simp)
        cases e
    subst hl
    rcases h.2 with ⟨rfl, rfl⟩ | ⟨g, cap, cur, rfl, _, _, hnc, _⟩
    · refine ⟨none, 0, w, ?_, by simpa using h, hb⟩
      simp [Builtin.append_, run_underlying Try.underlying35, sizeOf, typeInfo, hi, Builtin.lenOf, Builtin.firstCells]
    · refine ⟨_, cap, w, ?_, by simpa using h, hb⟩
      simp [Builtin.append_, run_underlying Try.underlying35, sizeOf, typeInfo, hi, Builtin.lenOf, Builtin.firstCells, hnc, storeCells]
  | some a =>
    have hcs : ∀ j u, (rowL ys)[j]? = some u → w.cell? (a.add j) = some u := fun j u hj => by
      have hjl : j < (rowL ys).length := (List.getElem?_eq_some_iff.1 hj).1
      rw [rowL_length] at hjl
      obtain ⟨b, o, e, _, hc⟩ := hm (by omega)
      injection e with e
      subst e
      have hd : j = j / 3 * 3 + j % 3 := by omega
      rw [add_eq _ _ rfl]
      have h1 := hc (j / 3) (by omega) (j % 3) (by omega)
      have h2 := rowL_at (List.getElem?_eq_getElem (show j / 3 < ys.length by omega)) (j % 3) (by omega)
      rw [← hd] at h2
      rw [hj] at h2
      rw [← h2] at h1
      rw [← h1]
      simp only
      congr 2
      omega
    obtain ⟨v', w', hr, ho, hg, hnil⟩ := run_append_own (P := Try.prog) w base 35 35 51 i _ 3 40 Try.underlying35 hi hiz his hib rfl (by omega) v n _ h a ys.length c (rowL ys) (rowL_length ys) hcs (ld_one ys) (by unfold maxLen; omega) (by omega) (by have := hb.size; omega)
    obtain ⟨A', c', rfl, _⟩ := Own.slice (show Own w' base _ 3 v' _ _ from ho)
    have hlt := h.lt
    refine ⟨A', c', w', hr, ?_, hb.grown hg (by have := hb.size; omega) (fun k hk => (hlt k hk).1)⟩
    unfold rowL at ho ⊢
    rw [List.flatMap_append]
    exact ho
/-- Two decoders, the second one new. -/
structure E8 (w0 w : World) (d p f q : Nat) (v : Value) (fs : List FldT) (lm most : Int) (dead : Bool) : Prop where
  a : S7 w0 w d p v fs lm most 16384 dead
  b : S7 w0 w f q (.slice none 0 0) [] most most 16384 false
  df : d < f
  dq : d < q
  pf : p < f
  pq : p < q
  vf : ∀ k, v.ownBlock = some k → k ≠ f ∧ k ≠ q
theorem E8.fresh {w0 w w' : World} {d p f q : Nat} {v : Value} {fs : List FldT} {lm most : Int} {dead : Bool} (h : E8 w0 w d p f q v fs lm most dead) (hf : Fresh w w') : E8 w0 w' d p f q v fs lm most dead := { h with a := h.a.fresh hf, b := h.b.fresh hf }
def E8P (w0 w : World) (d p f q : Nat) (most : Int) (R : Nat × List LnD × List FldT × Int) (e : Ending) (W : World) : Prop :=
  ∃ A1 c1 v', e = .returned (.tuple #[.slice A1 R.2.1.length c1, .int .i64 (R.1 : Int)]) ∧ Lns W A1 c1 R.2.1 ∧ E8 w0 W d p f q v' R.2.2.1 R.2.2.2 most (decide (R.1 ≠ 0)) ∧ Far7 w W
theorem e8_decode {w0 w : World} {d p f q : Nat} {v : Value} {fs : List FldT} {lm most : Int} {dead : Bool} (h : E8 w0 w d p f q v fs lm most dead) (b : BSl) (hb : b.Ok w0) (hl : b.l.length ≤ 100000000) :
    Calls Try.prog 11 #[.pointer (some ⟨d, 0, none⟩), .slice b.A b.l.length b.c] w (E8P w0 w d p f q most (rd7 most 16384 dead fs lm b.l)) := by
  refine (s7_decodeQ h.a b.A b.c b.l hb.le (by have := hb.max; unfold maxLen; omega) (hb.bs.fresh h.a.fr) (h.a.notIn b hb) hl).mono ?_
  rintro e W ⟨A1, c1, v', h1, h2, h3, h4, ho, hg⟩
  have hf := h.b.dec.blk.lt
  have hq := h.b.dec.tab.blk.lt
  have hdf := h.df
  have hdq := h.dq
  have hpf := h.pf
  have hpq := h.pq
  refine ⟨A1, c1, v', h1, h2, ⟨h3, h.b.apart ho h.a.low ?_ ?_ (fun k hk => by cases hk), h.df, h.dq, h.pf, h.pq, fun k hk => ?_⟩, h4⟩
  · rintro (e | e | e)
    · omega
    · omega
    · exact (h.vf _ e).1 rfl
  · rintro (e | e | e)
    · omega
    · omega
    · exact (h.vf _ e).2 rfl
  · rcases hg k hk with e | e
    · exact h.vf k e
    · omega
/-- What is read of two blocks together. -/
theorem rd7_two {most : Int} {a b : List UInt8} {x y : List LnD} {fs1 fs2 : List FldT} {lm1 lm2 : Int} (h1 : rd7 most 16384 false [] most a = (0, x, fs1, lm1)) (h2 : rd7 most 16384 false fs1 lm1 b = (0, y, fs2, lm2)) (hb : ∀ c r, b = c :: r → kindR c.toNat ≠ 2) (hx : (tz (x.map (·.1)) : Int) ≤ 16384) :
    (((tz (x.map (·.1)) + tz (y.map (·.1)) : Nat) : Int) ≤ 16384 → rd7 most 16384 false [] most (a ++ b) = (0, x ++ y, fs2, lm2)) ∧ (16384 < ((tz (x.map (·.1)) + tz (y.map (·.1)) : Nat) : Int) → (rd7 most 16384 false [] most (a ++ b)).1 = 22) := by
  unfold rd7 at h1 h2 ⊢
  rw [if_neg (by simp)] at h1 h2 ⊢
  rw [blockR_app most 16384 b a.length [] most 0 [] a (Nat.le_refl _) rfl h1]
  have h := blockR_shift most 16384 (tz (x.map (·.1))) x rfl b.length fs1 lm1 [] b (Nat.le_refl _) (.inr hb) h2 (by simpa [tz] using hx)
  simpa [tz] using h
end Go.Proofs.Ytffdhegflnhfjaa

