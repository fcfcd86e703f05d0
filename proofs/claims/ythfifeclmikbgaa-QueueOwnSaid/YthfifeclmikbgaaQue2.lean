/-
  Package queue: what a queue is; New, row, full, Len, Bytes.
-/
import Derived.Test.YthfifeclmikbgaaQue
namespace Go.Proofs.Ythfifeclmikbgaa
set_option linter.unusedVariables false
set_option linter.unusedSimpArgs false
open Go.RowKit
def rowQ (l : List QI) : List Value := l.flatMap QI.cells
def qz (l : List QI) : Nat := (l.map QI.z).sum
theorem rowQ_length (l : List QI) : (rowQ l).length = l.length * 3 := by
  induction l with
  | nil => rfl
  | cons f r ih => simp only [rowQ, List.flatMap_cons, List.length_append, List.length_cons] at ih ⊢; rw [ih]; simp [QI.cells]; omega
theorem rowQ_drop (l : List QI) (j : Nat) : (rowQ l).drop (j * 3) = rowQ (l.drop j) := by
  induction l generalizing j with
  | nil => simp [rowQ]
  | cons f r ih =>
    cases j with
    | zero => simp
    | succ j =>
      have := ih j
      simp only [rowQ, List.flatMap_cons, List.drop_succ_cons] at this ⊢
      rw [← this]
      simp [QI.cells, Nat.succ_mul]
theorem rowQ_at {l : List QI} {k : Nat} {x : QI} (h : l[k]? = some x) : (rowQ l)[k * 3]? = some (.int .i64 x.num) ∧ (rowQ l)[k * 3 + 1]? = some (.slice x.HA x.h.length x.hc) ∧ (rowQ l)[k * 3 + 2]? = some (.slice x.BA x.b.length x.bc) := by
  obtain ⟨hk, rfl⟩ := List.getElem?_eq_some_iff.1 h
  have h := rowQ_drop l k
  rw [List.drop_eq_getElem_cons hk] at h
  refine ⟨?_, ?_, ?_⟩
  · rw [← Nat.add_zero (k * 3), ← List.getElem?_drop, h]; rfl
  · rw [← List.getElem?_drop, h]; rfl
  · rw [← List.getElem?_drop, h]; rfl
theorem qz_cons (x : QI) (l : List QI) : qz (x :: l) = x.z + qz l := by simp [qz]
theorem qz_append (a b : List QI) : qz (a ++ b) = qz a + qz b := by simp [qz]
theorem rowQ_one (l : List QI) : ∀ u ∈ rowQ l, u.oneCell' = true := by
  intro u hu
  simp only [rowQ, List.mem_flatMap, QI.cells, List.mem_cons, List.not_mem_nil, or_false] at hu
  obtain ⟨p, _, rfl | rfl | rfl⟩ := hu <;> rfl
theorem qi_info : (Try.prog.info? 34).map (fun i => (i.zero, i.size, i.bytes)) = some (some (.agg #[.int .i64 0, .slice none 0 0, .slice none 0 0]), 3, 56) := by kernel_rfl
structure QAt (w : World) (base q R n : Nat) (by_ it : Int) (ro : Nat → Value × List QI) : Prop where
  blk : Blk w q 57 #[.slice (some ⟨R, 0, none⟩) n n, .int .i64 by_, .int .i64 it]
  rows : ∃ cs, Blk w R 63 cs ∧ cs.size = n * 2 ∧ ∀ t, t < n → cs[t * 2]? = some (ro t).1 ∧ cs[t * 2 + 1]? = some (.int .i64 (qz (ro t).2 : Int))
  own : ∀ t, t < n → Own w base 34 3 (ro t).1 (ro t).2.length (rowQ (ro t).2)
  ok : ∀ t, t < n → ∀ x ∈ (ro t).2, x.Ok w
  sep : ∀ t t' k, t < n → t' < n → t ≠ t' → (ro t).1.ownBlock = some k → (ro t').1.ownBlock ≠ some k
  quota : ∀ t, t < n → (qz (ro t).2 : Int) ≤ by_ ∧ ((ro t).2.length : Int) ≤ it
  n1 : 1 ≤ n
  n64 : n ≤ 64
  y0 : 0 ≤ by_
  y1 : by_ ≤ 1048576
  i0 : 1 ≤ it
  i1 : it ≤ 4096
theorem ownQ {w : World} {base sz n : Nat} {E : TypeId} {v : Value} {xs : List Value} (h : Own w base E sz v n xs) {g : Nat} (hg : v.ownBlock = some g) : ∃ cur, Blk w g E cur := by
  rcases h.2 with ⟨rfl, _⟩ | ⟨g', cap, cur, rfl, _, hh, _⟩
  · cases hg
  · simp [Value.ownBlock] at hg
    subst hg
    exact ⟨cur, hh⟩
theorem QAt.fresh {w w' : World} {base q R n : Nat} {by_ it : Int} {ro : Nat → Value × List QI} (h : QAt w base q R n by_ it ro) (hf : Fresh w w') : QAt w' base q R n by_ it ro := by
  obtain ⟨cs, h1, h2, h3⟩ := h.rows
  exact ⟨h.blk.fresh hf, ⟨cs, h1.fresh hf, h2, h3⟩, fun t ht => (h.own t ht).fresh hf, fun t ht x hx => (h.ok t ht x hx).fresh hf, h.sep, h.quota, h.n1, h.n64, h.y0, h.y1, h.i0, h.i1⟩
theorem QAt.len {w : World} {base q R n : Nat} {by_ it : Int} {ro : Nat → Value × List QI} (h : QAt w base q R n by_ it ro) {t : Nat} (ht : t < n) : (ro t).2.length ≤ 4096 ∧ qz (ro t).2 ≤ 1048576 := by
  have := h.quota t ht
  have := h.y1
  have := h.i1
  omega
def qrow (R t : Nat) : Value := .pointer (some ⟨R, t * 2, none⟩)
section
variable {base q R n : Nat} {by_ it : Int} {ro : Nat → Value × List QI} {w : World}
theorem qu_row_no (i : Int) (h : QAt w base q R n by_ it ro) (hi : i < 0 ∨ (n : Int) ≤ i) : Calls Try.prog 23 #[.pointer (some ⟨q, 0, none⟩), .int .i64 i] w fun e w' => e = .returned (.pointer none) ∧ w = w' := by
  obtain ⟨c0, c1, c2⟩ := h.blk.c3
  clear h
  by_cases h0 : i < 0
  · go_enter Try.func23, Try.ntmps23
    go_wp2
    go_ret
    exact ⟨rfl, rfl⟩
  · have h1 : (n : Int) ≤ i := by omega
    clear hi
    go_enter Try.func23, Try.ntmps23
    go_wp2
    go_ret
    exact ⟨rfl, rfl⟩
theorem qu_row (t : Nat) (h : QAt w base q R n by_ it ro) (ht : t < n) : Calls Try.prog 23 #[.pointer (some ⟨q, 0, none⟩), .int .i64 (t : Int)] w fun e w' => e = .returned (qrow R t) ∧ w = w' := by
  obtain ⟨c0, c1, c2⟩ := h.blk.c3
  have h64 := h.n64
  clear h
  have h0 : ¬ (t : Int) < 0 := by omega
  have h1 : ¬ (n : Int) ≤ (t : Int) := by omega
  unfold qrow
  go_enter Try.func23, Try.ntmps23
  go_wp2
  go_ret
  exact ⟨by simp, rfl⟩
theorem QAt.cells {t : Nat} (h : QAt w base q R n by_ it ro) (ht : t < n) : w.cell? ⟨R, t * 2, none⟩ = some (ro t).1 ∧ w.cell? ⟨R, t * 2 + 1, none⟩ = some (.int .i64 (qz (ro t).2 : Int)) ∧ w.frozen? ⟨R, t * 2, none⟩ = false ∧ w.frozen? ⟨R, t * 2 + 1, none⟩ = false := by
  obtain ⟨cs, h1, h2, h3⟩ := h.rows
  exact ⟨(h1.cell _).trans (h3 t ht).1, (h1.cell _).trans (h3 t ht).2, h1.frozen _, h1.frozen _⟩
theorem qu_len_no (i : Int) (h : QAt w base q R n by_ it ro) (hi : i < 0 ∨ (n : Int) ≤ i) : Calls Try.prog 11 #[.pointer (some ⟨q, 0, none⟩), .int .i64 i] w fun e w' => e = .returned (.int .i64 0) ∧ w = w' := by
  have H := Lib.hid (qu_row_no i h hi)
  clear h
  go_enter Try.func11, Try.ntmps11
  go_wp2_with fail
  with_reducible refine H.out.mono ?_
  rintro e w1 ⟨rfl, rfl⟩
  go_wp2
  go_ret
  exact ⟨rfl, rfl⟩
theorem qu_len (t : Nat) (h : QAt w base q R n by_ it ro) (ht : t < n) : Calls Try.prog 11 #[.pointer (some ⟨q, 0, none⟩), .int .i64 (t : Int)] w fun e w' => e = .returned (.int .i64 ((ro t).2.length : Int)) ∧ w = w' := by
  have H := Lib.hid (qu_row t h ht)
  obtain ⟨A, c, hv, _⟩ := (h.own t ht).slice
  obtain ⟨c0, c1, _, _⟩ := h.cells ht
  rw [hv] at c0
  clear h hv
  unfold qrow at H
  go_enter Try.func11, Try.ntmps11
  go_wp2_with fail
  with_reducible refine H.out.mono ?_
  rintro e w1 ⟨rfl, rfl⟩
  go_wp2
  go_ret
  exact ⟨rfl, rfl⟩
theorem qu_bytes_no (i : Int) (h : QAt w base q R n by_ it ro) (hi : i < 0 ∨ (n : Int) ≤ i) : Calls Try.prog 12 #[.pointer (some ⟨q, 0, none⟩), .int .i64 i] w fun e w' => e = .returned (.int .i64 0) ∧ w = w' := by
  have H := Lib.hid (qu_row_no i h hi)
  clear h
  go_enter Try.func12, Try.ntmps12
  go_wp2_with fail
  with_reducible refine H.out.mono ?_
  rintro e w1 ⟨rfl, rfl⟩
  go_wp2
  go_ret
  exact ⟨rfl, rfl⟩
theorem qu_bytes (t : Nat) (h : QAt w base q R n by_ it ro) (ht : t < n) : Calls Try.prog 12 #[.pointer (some ⟨q, 0, none⟩), .int .i64 (t : Int)] w fun e w' => e = .returned (.int .i64 (qz (ro t).2 : Int)) ∧ w = w' := by
  have H := Lib.hid (qu_row t h ht)
  obtain ⟨c0, c1, _, _⟩ := h.cells ht
  clear h
  unfold qrow at H
  go_enter Try.func12, Try.ntmps12
  go_wp2_with fail
  with_reducible refine H.out.mono ?_
  rintro e w1 ⟨rfl, rfl⟩
  go_wp2
  go_ret
  exact ⟨rfl, rfl⟩
end
end Go.Proofs.Ythfifeclmikbgaa
