/-
  The law StaticSizes.
-/
import Derived.Test.YtdoddpigiencjaaStat4
import Derived.Test.YtdoddpigiencjaaShapeW
import Derived.Deep.RegionHeld3
namespace Go.Proofs.Ytdoddpigiencjaa
set_option maxRecDepth 100000
set_option linter.unusedVariables false
open Go.RowKit Go.ChangeShapes Go.WideShapes Go.Deep

theorem opens_field : Opens Try.prog 26 (fun w cs => ∃ p : Fld, cs = fldC p ∧ p.1.size ≤ maxLen ∧ p.2.size ≤ maxLen) :=
  (opens_struct (sz := 2) [(0, 1, QStr), (1, 1, QStr)] Try.underlying26 (by kernel_rfl) (by
    intro p hp
    simp only [List.mem_cons, List.not_mem_nil, or_false] at hp
    rcases hp with rfl | rfl
    · exact ⟨0, _, rfl, rfl, by kernel_rfl, opens_str Try.underlying9⟩
    · exact ⟨1, _, rfl, rfl, by kernel_rfl, opens_str Try.underlying9⟩)).mono (by
    intro w cs ⟨hl, h⟩
    match cs, hl with
    | [c0, c1], _ =>
      obtain ⟨s0, e0, l0⟩ := h _ (List.mem_cons_self ..)
      obtain ⟨s1, e1, l1⟩ := h _ (List.mem_cons_of_mem _ (List.mem_cons_self ..))
      simp at e0 e1
      subst e0 e1
      exact ⟨(s0, s1), rfl, l0, l1⟩)
structure FldsV where
  (A : Option Addr) (c : Nat) (xs : List Fld)
structure FldsV.Ok (w : World) (s : FldsV) : Prop where
  le : s.xs.length ≤ s.c
  max : s.c ≤ maxLen
  rows : Many fldC 2 w s.A s.xs
section
variable {H : Type} {enc : TypeId × Value → H} {w : World} {base : Nat} {spare : Nat → Bool} {held : Bool} {v : Value} {d : DataW H} {p : List MemPlace} {r : Reach} {b0 : Nat}
theorem open_field (hv : Value.okWide Try.prog w r b0 26 v) (hd : DataW.Trod enc Try.prog w base spare held 26 v d p) :
    ∃ q : Fld, v = .agg #[.string q.1, .string q.2] ∧ q.1.size ≤ maxLen ∧ q.2.size ≤ maxLen := by
  obtain ⟨cs, rfl, f, hc, hf⟩ := opens_field.agg Try.underlying26 hv hd
  refine ⟨f, ?_, hf⟩
  congr 1
  apply Array.toList_inj.1
  rw [hc]
  rfl
theorem open_fields (hv : Value.okWide Try.prog w r b0 69 v) (hd : DataW.Trod enc Try.prog w base spare held 69 v d p) :
    ∃ s : FldsV, v = .slice s.A s.xs.length s.c ∧ s.Ok w := by
  have h := (opens_slice (sz := 2) Try.underlying69 opens_field (by kernel_rfl) (by omega)).sl Try.underlying69 hv hd
  obtain ⟨A, xs, c, e, h1, h2, h3, _⟩ := h.rows (R := fun _ _ => True) (f := fldC) (fun _ ⟨q, e, _⟩ => ⟨q, e, trivial⟩)
  simp at e
  exact ⟨⟨A, c, xs⟩, e, h1, h2, h3⟩
end
theorem Many.at2 {w : World} {A : Option Addr} {xs : List Fld} (h : Many fldC 2 w A xs) (k : Nat) (x : Fld) (hx : xs[k]? = some x) :
    ∃ b o, A = some ⟨b, o, none⟩ ∧ b < w.heap.size ∧ w.cell? ⟨b, o + k * 2, none⟩ = some (.string x.1) ∧ w.cell? ⟨b, o + k * 2 + 1, none⟩ = some (.string x.2) := by
  obtain ⟨hk, rfl⟩ := List.getElem?_eq_some_iff.1 hx
  obtain ⟨b, o, e, hb, hc⟩ := h (by omega)
  exact ⟨b, o, e, hb, hc k hk 0 (by omega), hc k hk 1 (by omega)⟩
theorem wrap_eq64 (n : Int) : IntKind.i64.wrap n = wrap64 n := by
  unfold wrap64
  exact IntKind.wrap_i64 n
def szF (p : Fld) : Int := wrap64 (wrap64 ((p.1.size : Int) + (p.2.size : Int)) + 32)
theorem st_sizeW (p : Fld) (z : Int) (hz : szF p = z) (w : World) :
    Calls Try.prog 55 #[.agg #[.string p.1, .string p.2]] w fun e w' => e = .returned (.int .i64 z) ∧ Fresh w w' := by
  subst hz
  unfold szF
  go_enter Try.func55, Try.ntmps55
  go_wp2
  go_ret
  exact ⟨rfl, Fresh.alloc _ _⟩
def sumF (xs : List Fld) : Int := xs.foldl (fun n p => wrap64 (n + szF p)) 0
theorem sumF_succ (xs : List Fld) (k : Nat) (p : Fld) (h : xs[k]? = some p) : sumF (xs.take (k + 1)) = wrap64 (sumF (xs.take k) + szF p) := by
  obtain ⟨hk, rfl⟩ := List.getElem?_eq_some_iff.1 h
  rw [List.take_succ_eq_append_getElem hk, sumF, List.foldl_append]
  rfl
def LwP (w : World) (e : Ending) (w' : World) : Prop := e = .returned (.bool true) ∧ Fresh w w'
end Go.Proofs.Ytdoddpigiencjaa

