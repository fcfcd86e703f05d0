/-
  Chunks: what is cut of bytes in parts; rows of frames put together.
-/
import Derived.Test.YtgmgnokmeocmjaaReasmL
import Derived.Test.YtgmgnokmeocmjaaReasmS
namespace Go.Proofs.Ytgmgnokmeocmjaa
set_option linter.unusedVariables false
open Go.RowKit

theorem allF_fuel {most : Int} : ∀ (n : Nat) (l : List UInt8), l.length ≤ n → ∀ m, l.length ≤ m → allF most n l = allF most m l := by
  intro n
  induction n with
  | zero =>
    intro l hl m hm
    have : l = [] := List.eq_nil_of_length_eq_zero (by omega)
    subst this
    rw [allF_16 rfl, allF_16 rfl]
  | succ n ih =>
    intro l hl m hm
    rcases parseK_cases l most with h | h | h
    · rw [allF_16 h, allF_16 h]
    · rw [allF_106 hl h, allF_106 hm h]
    · have h9 := parseK_long (l := l) (most := most) (by omega)
      obtain ⟨m', rfl⟩ : ∃ m', m = m' + 1 := ⟨m - 1, by omega⟩
      have hd : (l.drop (lenF l)).length ≤ n ∧ (l.drop (lenF l)).length ≤ m' := by simp [lenF]; omega
      have e := ih _ hd.1 m' hd.2
      conv => lhs; unfold allF
      conv => rhs; unfold allF
      rw [if_neg (by omega), if_pos h, if_neg (by omega), if_pos h, e]

theorem parse_more {l : List UInt8} {most : Int} (y : List UInt8) (h : parseK l most ≠ 16) : parseK (l ++ y) most = parseK l most ∧ (parseK l most = 0 → headF (l ++ y) = headF l ∧ lenF (l ++ y) = lenF l ∧ (l ++ y).drop (lenF l) = l.drop (lenF l) ++ y) := by
  have h9 := parseK_long h
  have ht : (l ++ y).take 3 = l.take 3 := List.take_append_of_le_length (by omega)
  have hlen : (l ++ y).length = l.length + y.length := List.length_append
  constructor
  · have h' := h
    unfold parseK at h' ⊢
    rw [if_neg (show ¬ l.length < 9 by omega)] at h' ⊢
    rw [if_neg (show ¬ (l ++ y).length < 9 by omega), ht]
    split
    · rfl
    · rename_i hm
      rw [if_neg hm] at h'
      split at h'
      · exact absurd rfl h'
      · rename_i h3
        rw [if_neg h3, if_neg (by omega)]
  · intro h0
    obtain ⟨_, _, h3⟩ := parseK_ok h0
    have hL : lenF (l ++ y) = lenF l := by unfold lenF; rw [ht]
    refine ⟨?_, hL, List.drop_append_of_le_length (by unfold lenF; omega)⟩
    unfold headF
    rw [ht]
    have g3 : (l ++ y).getD 3 0 = l.getD 3 0 := by simp [List.getD, List.getElem?_append_left (show 3 < l.length by omega)]
    have g4 : (l ++ y).getD 4 0 = l.getD 4 0 := by simp [List.getD, List.getElem?_append_left (show 4 < l.length by omega)]
    have g5 : ((l ++ y).drop 5).take 4 = (l.drop 5).take 4 := by
      rw [List.drop_append_of_le_length (by omega), List.take_append_of_le_length (by simp; omega)]
    have g6 : (l ++ y).take (9 + numL (l.take 3)) = l.take (9 + numL (l.take 3)) := List.take_append_of_le_length h3
    rw [g3, g4, g5, g6]

/-- What is cut of bytes in two parts. -/
theorem allF_chunk {most : Int} : ∀ (n : Nat) (l y : List UInt8), l.length ≤ n → allF most (l ++ y).length (l ++ y) = (allF most n l).bind fun P => (allF most (P.2 ++ y).length (P.2 ++ y)).map fun p => (P.1 ++ p.1, p.2) := by
  intro n
  induction n with
  | zero =>
    intro l y hl
    have : l = [] := List.eq_nil_of_length_eq_zero (by omega)
    subst this
    rw [allF_16 (r := []) (n := 0) rfl]
    simp only [List.nil_append, Option.bind_some]
    cases allF most y.length y <;> simp
  | succ n ih =>
    intro l y hl
    rcases parseK_cases l most with h | h | h
    · rw [allF_16 h]
      simp only [Option.bind_some]
      cases allF most (l ++ y).length (l ++ y) <;> simp
    · obtain ⟨h1, _⟩ := parse_more (l := l) (most := most) y (by omega)
      rw [allF_106 hl h, allF_106 (Nat.le_refl _) (h1.trans h)]
      try rfl
    · have h9 := parseK_long (l := l) (most := most) (by omega)
      obtain ⟨h1, h2⟩ := parse_more (l := l) (most := most) y (by omega)
      obtain ⟨e1, e2, e3⟩ := h2 h
      obtain ⟨m, hm, hA⟩ := allF_0 (Nat.le_refl _) (h1.trans h)
      rw [e1, e2, e3] at hA
      rw [e2, e3] at hm
      have hd : (l.drop (lenF l)).length ≤ n := by simp [lenF]; omega
      rw [hA, allF_fuel m _ hm _ (Nat.le_refl _), ih _ y hd]
      have e : allF most (n + 1) l = (allF most n (l.drop (lenF l))).map fun p => (headF l :: p.1, p.2) := by
        conv => lhs; unfold allF
        rw [if_neg (by omega), if_pos h]
      rw [e]
      cases allF most n (l.drop (lenF l)) with
      | none => rfl
      | some p =>
        simp only [Option.map_some, Option.bind_some]
        cases allF most (p.2 ++ y).length (p.2 ++ y) <;> simp

theorem OwnF.slice {w : World} {base : Nat} {v : Value} {fs : List (Fr × Option Addr)} (h : OwnF w base v fs) : ∃ A c, v = .slice A fs.length c := by
  obtain ⟨A, c, e, _⟩ := h.1.slice
  exact ⟨A, c, e⟩
/-- A row of frames is put behind another one. -/
theorem OwnF.appendF {w : World} {base base2 n2 c2 : Nat} {v : Value} {A2 : Option Addr} {fs fs2 : List (Fr × Option Addr)} (h : OwnF w base v fs) (hb : base ≤ w.heap.size) (h2 : OwnF w base2 (.slice A2 n2 c2) fs2) (hb2 : base ≤ base2) (hn : fs2.length = n2) (m : Nat) (hm : fs.length + n2 = m) (hlen : m * 48 ≤ 140737488355328) :
    ∃ A' c' w', (Builtin.append_ #[30, 30] 30 #[v, .slice A2 n2 c2]).run Try.prog w = .ok (.slice A' m c') w' ∧ OwnF w' base (.slice A' m c') (fs ++ fs2) ∧ Only (fun k => v.ownBlock = some k) w w' := by
  subst hn hm
  obtain ⟨i, hi, hiz, his, hib⟩ := info_parts fr_info
  have hFall : FsOk w base (fs ++ fs2) := fun q hq => by
    rcases List.mem_append.1 hq with hq | hq
    · exact h.2 q hq
    · exact ⟨(h2.2 q hq).1.base_le hb2, (h2.2 q hq).2⟩
  rcases h2.1.form with ⟨e, h0, _⟩ | ⟨g, cap, e, hbg, hlt, _, _, hc⟩
  · have hl : fs2 = [] := List.eq_nil_of_length_eq_zero h0
    subst hl
    obtain ⟨A', c', rfl, _⟩ := h.1.slice
    cases e
    refine ⟨A', c', w, ?_, by simpa using h, Only.refl _ _⟩
    rcases h.1.2 with ⟨h1, h2⟩ | ⟨g, cap, cur, h1, _, _, hnc, _⟩
    · injection h1 with h1 h3 h4
      subst h1 h4
      rw [h3]
      simp [Builtin.append_, run_underlying Try.underlying30, sizeOf, typeInfo, hi, Builtin.lenOf, Builtin.firstCells]
    · injection h1 with h1 h3 h4
      subst h1 h4
      simp [Builtin.append_, run_underlying Try.underlying30, sizeOf, typeInfo, hi, Builtin.lenOf, Builtin.firstCells, hnc, storeCells]
  · injection e with e1 e3 e4
    subst e1
    obtain ⟨v', w', hr, ho, hg, _⟩ := run_append_own (P := Try.prog) w base 30 30 39 i _ 4 48 Try.underlying30 hi hiz his hib rfl (by omega) v fs.length _ h.1 ⟨g, 0, none⟩ fs2.length c2 (fs2.flatMap cellsF) h2.1.1
      (fun j u hj => by
        rw [add_eq _ _ rfl]
        simp only [Nat.zero_add]
        have hjl := (List.getElem?_eq_some_iff.1 hj).1
        rw [(hc j hjl).1, hj])
      (fun u hu => by
        obtain ⟨q, _, hq⟩ := List.mem_flatMap.1 hu
        simp only [cellsF, List.mem_cons, List.not_mem_nil, or_false] at hq
        rcases hq with rfl | rfl | rfl | rfl <;> rfl) (by unfold maxLen; omega) (by omega) hb
    obtain ⟨A', c', rfl, _⟩ := Own.slice (show Own w' base _ 4 v' _ _ from ho)
    have hO : Only (fun k => v.ownBlock = some k) w w' := ⟨hg.os, hg.tape, hg.output, hg.size, fun k hk hne => hg.block k hk (fun e => hne e.symm)⟩
    refine ⟨A', c', w', hr, ⟨by rw [List.length_append, List.flatMap_append]; exact ho, hFall.only hO ?_⟩, hO⟩
    intro g' cs' hb' hS
    obtain ⟨cur, hcur⟩ := h.1.blk hS
    exact hb'.ne hcur (by decide) rfl
end Go.Proofs.Ytgmgnokmeocmjaa
