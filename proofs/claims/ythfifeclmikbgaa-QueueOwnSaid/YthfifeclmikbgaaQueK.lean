/-
  Package queue: opening a case, and an item.
-/
import Derived.Test.YthfifeclmikbgaaQueJ
import Derived.Test.YthfifeclmikbgaaQueB
import Derived.Test.YthfifeclmikbgaaShapeW
namespace Go.Proofs.Ythfifeclmikbgaa
set_option linter.unusedVariables false
set_option linter.unusedSimpArgs false
open Go.RowKit Go.ChangeShapes Go.WideShapes Go.Deep
/-- An item that came in. -/
structure QI.In (w : World) (x : QI) : Prop where
  h1 : x.h.length ≤ x.hc
  h2 : x.hc ≤ 140737488351232
  h3 : BS w x.HA x.h
  b1 : x.b.length ≤ x.bc
  b2 : x.bc ≤ 140737488351232
  b3 : BS w x.BA x.b
theorem QI.In.fresh {w w' : World} {x : QI} (h : x.In w) (hf : Fresh w w') : x.In w' := ⟨h.h1, h.h2, h.h3.fresh hf, h.b1, h.b2, h.b3.fresh hf⟩
theorem opens_item : OpensW Try.prog 34 (fun w cs => ∃ x : QI, cs = x.cells ∧ x.In w) :=
  (opensW_struct (sz := 3) [(0, 1, QInt .i64), (1, 1, QBytesW), (2, 1, QBytesW)] Try.underlying34 (by kernel_rfl) (by
    intro p hp
    simp only [List.mem_cons, List.not_mem_nil, or_false] at hp
    rcases hp with rfl | rfl | rfl
    · exact ⟨0, _, rfl, rfl, by kernel_rfl, (opens_int Try.underlying3).w⟩
    · exact ⟨1, _, rfl, rfl, by kernel_rfl, opensW_bytes Try.underlying32 Try.underlying5 (by kernel_rfl) (by kernel_rfl)⟩
    · exact ⟨2, _, rfl, rfl, by kernel_rfl, opensW_bytes Try.underlying32 Try.underlying5 (by kernel_rfl) (by kernel_rfl)⟩)).mono (by
    intro w cs ⟨hl, h⟩
    match cs, hl with
    | [c0, c1, c2], _ =>
      obtain ⟨k, e0, l0⟩ := h _ (List.mem_cons_self ..)
      obtain ⟨A1, s1, d1, e1, l1, l2, l3⟩ := h _ (List.mem_cons_of_mem _ (List.mem_cons_self ..))
      obtain ⟨A2, s2, d2, e2, m1, m2, m3⟩ := h _ (List.mem_cons_of_mem _ (List.mem_cons_of_mem _ (List.mem_cons_self ..)))
      simp at e0 e1 e2
      subst e0 e1 e2
      exact ⟨⟨k, A1, d1, s1, A2, d2, s2⟩, rfl, l1, l2, l3, m1, m2, m3⟩)
/-- A call. -/
structure OpQ where
  (k t n : Int) (x : QI)
def OpQ.cells (o : OpQ) : List Value := [.int .i64 o.k, .int .i64 o.t, .int .i64 o.n] ++ o.x.cells
theorem opens_opq : OpensW Try.prog 36 (fun w cs => ∃ o : OpQ, cs = o.cells ∧ o.x.In w) :=
  (opensW_struct (sz := 6) [(0, 1, QInt .i64), (1, 1, QInt .i64), (2, 1, QInt .i64), (3, 3, fun w cs => ∃ x : QI, cs = x.cells ∧ x.In w)] Try.underlying36 (by kernel_rfl) (by
    intro p hp
    simp only [List.mem_cons, List.not_mem_nil, or_false] at hp
    rcases hp with rfl | rfl | rfl | rfl
    · exact ⟨0, _, rfl, rfl, by kernel_rfl, (opens_int Try.underlying3).w⟩
    · exact ⟨1, _, rfl, rfl, by kernel_rfl, (opens_int Try.underlying3).w⟩
    · exact ⟨2, _, rfl, rfl, by kernel_rfl, (opens_int Try.underlying3).w⟩
    · exact ⟨3, _, rfl, rfl, by kernel_rfl, opens_item⟩)).mono (by
    intro w cs ⟨hl, h⟩
    match cs, hl with
    | [c0, c1, c2, c3, c4, c5], _ =>
      obtain ⟨k, e0, l0⟩ := h _ (List.mem_cons_self ..)
      obtain ⟨t, e1, l1⟩ := h _ (List.mem_cons_of_mem _ (List.mem_cons_self ..))
      obtain ⟨n, e2, l2⟩ := h _ (List.mem_cons_of_mem _ (List.mem_cons_of_mem _ (List.mem_cons_self ..)))
      obtain ⟨x, e3, l3⟩ := h _ (List.mem_cons_of_mem _ (List.mem_cons_of_mem _ (List.mem_cons_of_mem _ (List.mem_cons_self ..))))
      simp [QI.cells] at e0 e1 e2 e3
      obtain ⟨rfl, rfl, rfl⟩ := e3
      subst e0 e1 e2
      exact ⟨⟨k, t, n, x⟩, rfl, l3⟩)
structure OpsQ where
  (A : Option Addr) (c : Nat) (xs : List OpQ)
def OpsQ.v (s : OpsQ) : Value := .slice s.A s.xs.length s.c
structure OpsQ.Ok (w : World) (s : OpsQ) : Prop where
  le : s.xs.length ≤ s.c
  max : s.c ≤ maxLen
  rows : Many OpQ.cells 6 w s.A s.xs
  ok : ∀ o ∈ s.xs, o.x.In w
theorem OpsQ.Ok.fresh {w w' : World} {s : OpsQ} (h : s.Ok w) (hf : Fresh w w') : s.Ok w' := ⟨h.le, h.max, h.rows.fresh hf, fun o ho => (h.ok o ho).fresh hf⟩
structure CaseQ where
  (a b c : Int) (ops : OpsQ)
def CaseQ.v (z : CaseQ) : Value := .agg #[.int .i64 z.a, .int .i64 z.b, .int .i64 z.c, z.ops.v]
theorem opens_case : OpensW Try.prog 24 (fun w cs => ∃ z : CaseQ, cs = [.int .i64 z.a, .int .i64 z.b, .int .i64 z.c, z.ops.v] ∧ z.ops.Ok w) :=
  (opensW_struct (sz := 4) [(0, 1, QInt .i64), (1, 1, QInt .i64), (2, 1, QInt .i64), (3, 1, fun w cs => ∃ s : OpsQ, cs = [s.v] ∧ s.Ok w)] Try.underlying24 (by kernel_rfl) (by
    intro p hp
    simp only [List.mem_cons, List.not_mem_nil, or_false] at hp
    rcases hp with rfl | rfl | rfl | rfl
    · exact ⟨0, _, rfl, rfl, by kernel_rfl, (opens_int Try.underlying3).w⟩
    · exact ⟨1, _, rfl, rfl, by kernel_rfl, (opens_int Try.underlying3).w⟩
    · exact ⟨2, _, rfl, rfl, by kernel_rfl, (opens_int Try.underlying3).w⟩
    · exact ⟨3, _, rfl, rfl, by kernel_rfl, (opensW_slice (sz := 6) (bytes := 80) Try.underlying22 opens_opq (by kernel_rfl) (by omega) (by kernel_rfl)).mono (fun w cs h => by
        obtain ⟨A, xs, c, e, h1, h2, _, h3, h4⟩ := h.many (R := fun w (o : OpQ) => o.x.In w) (f := OpQ.cells) (fun _ hq => hq)
        exact ⟨⟨A, c, xs⟩, e, h1, h2, h3, h4⟩)⟩)).mono (by
    intro w cs ⟨hl, h⟩
    match cs, hl with
    | [c0, c1, c2, c3], _ =>
      obtain ⟨a, e0, _⟩ := h _ (List.mem_cons_self ..)
      obtain ⟨b, e1, _⟩ := h _ (List.mem_cons_of_mem _ (List.mem_cons_self ..))
      obtain ⟨c, e2, _⟩ := h _ (List.mem_cons_of_mem _ (List.mem_cons_of_mem _ (List.mem_cons_self ..)))
      obtain ⟨s, e3, l3⟩ := h _ (List.mem_cons_of_mem _ (List.mem_cons_of_mem _ (List.mem_cons_of_mem _ (List.mem_cons_self ..))))
      simp at e0 e1 e2 e3
      subst e0 e1 e2 e3
      exact ⟨⟨a, b, c, s⟩, rfl, l3⟩)
section
variable {H : Type} {enc : TypeId × Value → H} {w : World} {base : Nat} {held : Bool} {v : Value} {d : DataW H} {p : List MemPlace} {r : Reach} {b0 : Nat}
theorem open_item (hv : Value.okWide Try.prog w r b0 34 v) (hd : DataW.Trod enc Try.prog w base (fun _ => true) held 34 v d p) (hw : ∀ m ∈ d.weights Try.prog 34, m ≤ reachBytes) : ∃ x : QI, v = x.agg ∧ x.In w := by
  obtain ⟨cs, rfl, x, hc, hx⟩ := opens_item.agg Try.underlying34 hv hd hw
  refine ⟨x, ?_, hx⟩
  unfold QI.agg
  congr 1
  apply Array.toList_inj.1
  rw [hc]
  rfl
theorem open_case (hv : Value.okWide Try.prog w r b0 24 v) (hd : DataW.Trod enc Try.prog w base (fun _ => true) held 24 v d p) (hw : ∀ m ∈ d.weights Try.prog 24, m ≤ reachBytes) : ∃ z : CaseQ, v = z.v ∧ z.ops.Ok w := by
  obtain ⟨cs, rfl, z, hc, hz⟩ := opens_case.agg Try.underlying24 hv hd hw
  refine ⟨z, ?_, hz⟩
  unfold CaseQ.v
  congr 1
  apply Array.toList_inj.1
  rw [hc]
end
end Go.Proofs.Ythfifeclmikbgaa
