/-
  The document's lists of items: Put.
-/
import Derived.Test.YthfifeclmikbgaaQueD
namespace Go.Proofs.Ythfifeclmikbgaa
set_option linter.unusedVariables false
set_option linter.unusedSimpArgs false
open Go.RowKit
theorem si_info : (Try.prog.info? 45).map (fun i => (i.zero, i.size, i.bytes)) = some (some (.agg #[.int .i64 0, .string ByteArray.empty, .string ByteArray.empty]), 3, 40) := by kernel_rfl
theorem rowS_one (l : List SI) : ∀ u ∈ rowS l, u.oneCell' = true := by
  intro u hu
  simp only [rowS, List.mem_flatMap, siD, List.mem_cons, List.not_mem_nil, or_false] at hu
  obtain ⟨p, _, rfl | rfl | rfl⟩ := hu <;> rfl
theorem rowS_drop (l : List SI) (j : Nat) : (rowS l).drop (j * 3) = rowS (l.drop j) := by
  induction l generalizing j with
  | nil => simp [rowS]
  | cons f r ih =>
    cases j with
    | zero => simp
    | succ j =>
      have := ih j
      simp only [rowS, List.flatMap_cons, List.drop_succ_cons] at this ⊢
      rw [← this]
      simp [siD, Nat.succ_mul]
theorem rowS_get {l : List SI} {k : Nat} {x : SI} (h : l[k]? = some x) (j : Nat) (hj : j < 3) : (rowS l)[k * 3 + j]? = (siD x)[j]? := by
  obtain ⟨hk, rfl⟩ := List.getElem?_eq_some_iff.1 h
  have h := rowS_drop l k
  rw [List.drop_eq_getElem_cons hk] at h
  rw [← List.getElem?_drop, h]
  have h3 : j = 0 ∨ j = 1 ∨ j = 2 := by omega
  rcases h3 with rfl | rfl | rfl <;> rfl
theorem own_manyS {w : World} {base n c : Nat} {E : TypeId} {A : Option Addr} {xs : List SI} (h : Own w base E 3 (.slice A n c) n (rowS xs)) : Many siD 3 w A xs := by
  intro hn
  have hl := h.length
  rw [rowS_length] at hl
  rcases h.form with ⟨_, h0, _⟩ | ⟨g, cap, e, hb, hlt, _, _, hc⟩
  · omega
  · injection e with e1
    refine ⟨g, 0, e1, hlt, fun k hk j hj => ?_⟩
    rw [Nat.zero_add, (hc _ (by rw [rowS_length]; omega)).1, rowS_get (List.getElem?_eq_getElem hk) j hj]
/-- append(nil, l...) -/
theorem si_more {w : World} {A : Option Addr} {c n : Nat} {xs : List SI} (hm : Many siD 3 w A xs) (hn : xs.length = n) (hl : n ≤ 100000) (hc : n ≤ c) :
    ∃ A' c' w', (Builtin.append_ #[39, 39] 39 #[.slice none 0 0, .slice A n c]).run Try.prog w = .ok (.slice A' n c') w' ∧ Own w' w.heap.size 45 3 (.slice A' n c') n (rowS xs) ∧ Fresh w w' := by
  obtain ⟨i, hi, hiz, his, hib⟩ := info_parts si_info
  cases A with
  | none =>
    have hx : xs = [] := by
      cases xs with
      | nil => rfl
      | cons x r => obtain ⟨b, o, e, _⟩ := hm (by simp); cases e
    subst hx
    obtain rfl : n = 0 := by simpa using hn.symm
    refine ⟨none, 0, w, ?_, Own.nil _ _ _ _, Fresh.refl _⟩
    simp [Builtin.append_, run_underlying Try.underlying39, sizeOf, typeInfo, hi, Builtin.lenOf, Builtin.firstCells]
  | some a =>
    obtain ⟨v', w', hr, ho, hgr, _, hat⟩ := run_append_own_at (P := Try.prog) w w.heap.size 39 39 45 i _ 3 40 Try.underlying39 hi hiz his hib rfl (by omega) (.slice none 0 0) 0 [] (Own.nil _ _ _ _) a n c (rowS xs) (by rw [rowS_length, hn])
      (fun j u hj => by
        have hjl := (List.getElem?_eq_some_iff.1 hj).1
        rw [rowS_length] at hjl
        obtain ⟨b, o, e, hb, hcc⟩ := hm (by omega)
        injection e with e
        subst e
        have hk : j / 3 < xs.length := by omega
        have h1 := hcc (j / 3) hk (j % 3) (by omega)
        have h2 := rowS_get (List.getElem?_eq_getElem hk) (j % 3) (by omega)
        rw [show j / 3 * 3 + j % 3 = j by omega, hj] at h2
        rw [add_eq _ _ rfl, show o + j = o + j / 3 * 3 + j % 3 by omega, h1, ← h2]) (rowS_one xs) (by unfold maxLen; omega) (by omega) (Nat.le_refl _)
    obtain ⟨A', c', rfl, _⟩ := Own.slice (show Own w' w.heap.size _ 3 v' _ _ from ho)
    have ho' : Own w' w.heap.size 45 3 (.slice A' (0 + n) c') (0 + n) ([] ++ rowS xs) := ho
    rw [Nat.zero_add, List.nil_append] at ho'
    rw [Nat.zero_add] at hr
    exact ⟨A', c', w', hr, ho', hgr.os, hgr.tape, hgr.output, hgr.size, fun k hk => hgr.block k hk (fun e => by cases e)⟩
/-- append(out, x) -/
theorem si_push {w : World} {base : Nat} {v : Value} {l : List SI} (x : SI) (n : Nat) (h : Own w base 45 3 v n (rowS l)) (hb : base ≤ w.heap.size) (hn : n ≤ 100000) :
    ∃ A' c' w', (Builtin.append_ #[39, 39] 39 #[v, .slice (some ⟨w.heap.size, 0, none⟩) 1 1]).run Try.prog (w.alloc (.cells #[.int .i64 x.1, .string (strB x.2.1), .string (strB x.2.2)] 45)) = .ok (.slice A' (n + 1) c') w' ∧ Own w' base 45 3 (.slice A' (n + 1) c') (n + 1) (rowS (l ++ [x])) ∧ Only (fun k => v.ownBlock = some k) w w' := by
  obtain ⟨i, hi, hiz, his, hib⟩ := info_parts si_info
  obtain ⟨v', w', hr, ho, hgr, _, hat⟩ := run_append_own_at (P := Try.prog) (w.alloc (.cells #[.int .i64 x.1, .string (strB x.2.1), .string (strB x.2.2)] 45)) base 39 39 45 i _ 3 40 Try.underlying39 hi hiz his hib rfl (by omega) v n _ (h.fresh (Fresh.alloc _ _)) ⟨w.heap.size, 0, none⟩ 1 1 (siD x) rfl
    (fun j u hj => by
      rw [add_eq _ _ rfl]
      simp only [Nat.zero_add]
      rw [(Blk.new w 45 #[.int .i64 x.1, .string (strB x.2.1), .string (strB x.2.2)]).cell]
      simpa [siD] using hj) (by
    intro u hu
    simp only [siD, List.mem_cons, List.not_mem_nil, or_false] at hu
    rcases hu with rfl | rfl | rfl <;> rfl) (by unfold maxLen; omega) (by omega) (by simp; omega)
  obtain ⟨A', c', rfl, _⟩ := Own.slice (show Own w' base _ 3 v' _ _ from ho)
  have hO : Only (fun k => v.ownBlock = some k) (w.alloc (.cells #[.int .i64 x.1, .string (strB x.2.1), .string (strB x.2.2)] 45)) w' := ⟨hgr.os, hgr.tape, hgr.output, hgr.size, fun k hk hne => hgr.block k hk (fun e => hne e.symm)⟩
  refine ⟨A', c', w', hr, ?_, (Only.of_fresh (Fresh.alloc _ _)).trans hO⟩
  have : Own w' base 45 3 (.slice A' (n + 1) c') (n + 1) _ := ho
  simpa [rowS] using this
end Go.Proofs.Ythfifeclmikbgaa
