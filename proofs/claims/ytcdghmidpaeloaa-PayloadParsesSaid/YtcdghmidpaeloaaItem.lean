/-
  Items as values; faults.
-/
import Derived.Test.YtcdghmidpaeloaaShape
import Derived.Test.YtcdghmidpaeloaaRet
namespace Go.Proofs.Ytcdghmidpaeloaa
set_option linter.unusedVariables false
open Go.RowKit Go.ChangeShapes Go.WideShapes Go.Deep

/-- What a frame says: its text is l, in the slice at A of capacity c; its pairs are ps. -/
structure ItV where
  (ty st : Int) (A : Option Addr) (c : Nat) (l : List UInt8) (en eh ak : Bool) (fl co la inc de we : Int) (wd ex : Bool) (PA : Option Addr) (pc : Nat) (ps : List (Int × Int))
def ItV.cells (x : ItV) : List Value :=
  [.int .i64 x.ty, .int .i64 x.st, .slice x.A x.l.length x.c, .bool x.en, .bool x.eh, .bool x.ak, .int .i64 x.fl, .int .i64 x.co, .int .i64 x.la, .int .i64 x.inc, .int .i64 x.de, .int .i64 x.we, .bool x.wd, .bool x.ex, .slice x.PA x.ps.length x.pc]
def pairC (p : Int × Int) : List Value := [.int .i64 p.1, .int .i64 p.2]
structure ItV.Ok (w : World) (x : ItV) : Prop where
  le : x.l.length ≤ x.c
  max : x.c ≤ maxLen
  bs : BS w x.A x.l
  ple : x.ps.length ≤ x.pc
  pmax : x.pc ≤ maxLen
  prs : Many pairC 2 w x.PA x.ps
theorem ItV.Ok.fresh {w w' : World} {x : ItV} (h : x.Ok w) (hf : Fresh w w') : x.Ok w' := ⟨h.le, h.max, h.bs.fresh hf, h.ple, h.pmax, h.prs.fresh hf⟩
theorem ItV.Ok.only {S : Nat → Prop} {w w' : World} {x : ItV} (h : x.Ok w) (hf : Only S w w') (h1 : ∀ b o, x.A = some ⟨b, o, none⟩ → ¬ S b) (h2 : ∀ b o, x.PA = some ⟨b, o, none⟩ → ¬ S b) : x.Ok w' := ⟨h.le, h.max, h.bs.only hf h1, h.ple, h.pmax, h.prs.only hf h2⟩
theorem opens_item : Opens Try.prog 28 (fun w cs => ∃ x : ItV, cs = x.cells ∧ x.Ok w) :=
  (opens_struct (sz := 15) [(0, 1, QInt .i64), (1, 1, QInt .i64), (2, 1, QBytes), (3, 1, QBool), (4, 1, QBool), (5, 1, QBool), (6, 1, QInt .i64), (7, 1, QInt .i64), (8, 1, QInt .i64), (9, 1, QInt .i64), (10, 1, QInt .i64), (11, 1, QInt .i64), (12, 1, QBool), (13, 1, QBool),
      (14, 1, QSl 2 (fun w cs => cs.length = 2 * 1 ∧ ∀ i, i < 2 → QInt .i64 w ((cs.drop (i * 1)).take 1)))] Try.underlying28 (by kernel_rfl) (by
    intro p hp
    simp only [List.mem_cons, List.not_mem_nil, or_false] at hp
    rcases hp with rfl | rfl | rfl | rfl | rfl | rfl | rfl | rfl | rfl | rfl | rfl | rfl | rfl | rfl | rfl
    · exact ⟨0, _, rfl, rfl, by kernel_rfl, opens_int Try.underlying3⟩
    · exact ⟨1, _, rfl, rfl, by kernel_rfl, opens_int Try.underlying3⟩
    · exact ⟨2, _, rfl, rfl, by kernel_rfl, opens_bytes Try.underlying22 Try.underlying5 (by kernel_rfl)⟩
    · exact ⟨3, _, rfl, rfl, by kernel_rfl, opens_bool Try.underlying4⟩
    · exact ⟨4, _, rfl, rfl, by kernel_rfl, opens_bool Try.underlying4⟩
    · exact ⟨5, _, rfl, rfl, by kernel_rfl, opens_bool Try.underlying4⟩
    · exact ⟨6, _, rfl, rfl, by kernel_rfl, opens_int Try.underlying3⟩
    · exact ⟨7, _, rfl, rfl, by kernel_rfl, opens_int Try.underlying3⟩
    · exact ⟨8, _, rfl, rfl, by kernel_rfl, opens_int Try.underlying3⟩
    · exact ⟨9, _, rfl, rfl, by kernel_rfl, opens_int Try.underlying3⟩
    · exact ⟨10, _, rfl, rfl, by kernel_rfl, opens_int Try.underlying3⟩
    · exact ⟨11, _, rfl, rfl, by kernel_rfl, opens_int Try.underlying3⟩
    · exact ⟨12, _, rfl, rfl, by kernel_rfl, opens_bool Try.underlying4⟩
    · exact ⟨13, _, rfl, rfl, by kernel_rfl, opens_bool Try.underlying4⟩
    · exact ⟨14, _, rfl, rfl, by kernel_rfl, opens_slice Try.underlying26 (opens_array Try.underlying52 (by kernel_rfl) (by kernel_rfl) (opens_int Try.underlying3)) (by kernel_rfl) (by omega)⟩)).mono (by
    intro w cs ⟨hl, h⟩
    match cs, hl with
    | [c0, c1, c2, c3, c4, c5, c6, c7, c8, c9, c10, c11, c12, c13, c14], _ =>
      simp only [List.forall_mem_cons, List.drop_zero, List.drop_succ_cons, List.take_succ_cons, List.take_zero] at h
      obtain ⟨⟨z0, e0, _⟩, ⟨z1, e1, _⟩, ⟨A, l, c, e2, h1, h2, h3⟩, ⟨b3, e3⟩, ⟨b4, e4⟩, ⟨b5, e5⟩, ⟨z6, e6, _⟩, ⟨z7, e7, _⟩, ⟨z8, e8, _⟩, ⟨z9, e9, _⟩, ⟨z10, e10, _⟩, ⟨z11, e11, _⟩, ⟨b12, e12⟩, ⟨b13, e13⟩, h14, _⟩ := h
      obtain ⟨PA, ps, pc, e14, p1, p2, p3, _⟩ := h14.rows (R := fun _ (_ : Int × Int) => True) (f := pairC) (fun cs ⟨hl, hq⟩ => by
        match cs, hl with
        | [a, b], _ =>
          obtain ⟨x, ex, _⟩ := hq 0 (by omega)
          obtain ⟨y, ey, _⟩ := hq 1 (by omega)
          simp at ex ey
          subst ex ey
          exact ⟨(x, y), rfl, trivial⟩)
      simp only [List.cons.injEq, and_true] at e0 e1 e2 e3 e4 e5 e6 e7 e8 e9 e10 e11 e12 e13 e14
      subst e0 e1 e2 e3 e4 e5 e6 e7 e8 e9 e10 e11 e12 e13 e14
      exact ⟨⟨z0, z1, A, c, l, b3, b4, b5, z6, z7, z8, z9, z10, z11, b12, b13, PA, pc, ps⟩, rfl, h1, h2, h3, p1, p2, p3⟩)
section
variable {H : Type} {enc : TypeId × Value → H} {w : World} {base : Nat} {spare : Nat → Bool} {held : Bool} {v : Value} {d : DataW H} {p : List MemPlace} {r : Reach} {b0 : Nat}
theorem open_item (hv : Value.okWide Try.prog w r b0 28 v) (hd : DataW.Trod enc Try.prog w base spare held 28 v d p) :
    ∃ x : ItV, v = .agg x.cells.toArray ∧ x.Ok w := by
  obtain ⟨cs, rfl, x, hc, hx⟩ := opens_item.agg Try.underlying28 hv hd
  refine ⟨x, ?_, hx⟩
  congr 1
  apply Array.toList_inj.1
  rw [hc]
end
/-- A slice of items that came in. -/
structure ItsV where
  (A : Option Addr) (c : Nat) (xs : List ItV)
structure ItsV.Ok (w : World) (s : ItsV) : Prop where
  le : s.xs.length ≤ s.c
  max : s.c ≤ maxLen
  rows : Many ItV.cells 15 w s.A s.xs
  ok : ∀ x ∈ s.xs, x.Ok w
/-- The cells of one of many. -/
theorem Many.at {α : Type} {f : α → List Value} {sz : Nat} {w : World} {A : Option Addr} {xs : List α} (h : Many f sz w A xs) (k : Nat) (x : α) (hx : xs[k]? = some x) :
    ∃ b o, A = some ⟨b, o, none⟩ ∧ b < w.heap.size ∧ ∀ j, j < sz → w.cell? ⟨b, o + k * sz + j, none⟩ = (f x)[j]? := by
  obtain ⟨hk, rfl⟩ := List.getElem?_eq_some_iff.1 hx
  obtain ⟨b, o, e, hb, hc⟩ := h (by omega)
  exact ⟨b, o, e, hb, fun j hj => hc k hk j hj⟩
end Go.Proofs.Ytcdghmidpaeloaa

