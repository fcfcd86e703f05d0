/-
  Texts laid together: ClnO ClnJ.
-/
import Derived.Test.YtapikjhfgcbifaaGreatDoorLnd
import Derived.Test.YtapikjhfgcbifaaGreatDoorShapeW
import Derived.Test.YtapikjhfgcbifaaGreatDoorClnM3
/-
  Fields and lines that come in.
-/
namespace Go.Proofs.YtapikjhfgcbifaaGreatDoor
set_option maxRecDepth 100000
set_option linter.unusedVariables false
set_option linter.unusedSimpArgs false
open Go.RowKit Go.ChangeShapes Go.WideShapes Go.Deep
def FldT.Ok (w : World) (f : FldT) : Prop := f.1.size ≤ 140737488351232 ∧ f.2.size ≤ 140737488351232
theorem opens_fdW : OpensW Tryz.prog 29 (fun w cs => ∃ f : FldT, cs = fldD f ∧ f.Ok w) :=
  (opensW_struct (sz := 2) [(0, 1, QStrW), (1, 1, QStrW)] Tryz.underlying29 (by kernel_rfl) (by
    intro p hp
    simp only [List.mem_cons, List.not_mem_nil, or_false] at hp
    rcases hp with rfl | rfl
    · exact ⟨0, _, rfl, rfl, by kernel_rfl, opensW_str Tryz.underlying9⟩
    · exact ⟨1, _, rfl, rfl, by kernel_rfl, opensW_str Tryz.underlying9⟩)).mono (by
    intro w cs ⟨hl, h⟩
    match cs, hl with
    | [c0, c1], _ =>
      obtain ⟨s0, e0, l0⟩ := h _ (List.mem_cons_self ..)
      obtain ⟨s1, e1, l1⟩ := h _ (List.mem_cons_of_mem _ (List.mem_cons_self ..))
      simp at e0 e1
      subst e0 e1
      exact ⟨(s0, s1), rfl, l0, l1⟩)
structure FdsV where
  (A : Option Addr) (c : Nat) (xs : List FldT)
structure FdsV.Ok (w : World) (s : FdsV) : Prop where
  le : s.xs.length ≤ s.c
  max : s.c * 32 ≤ 140737488351232
  rows : Many fldD 2 w s.A s.xs
  ok : ∀ x ∈ s.xs, FldT.Ok w x
def LnD.Ok (w : World) (x : LnD) : Prop := x.1.1.size ≤ 140737488351232 ∧ x.1.2.size ≤ 140737488351232
theorem opens_lnW : OpensW Tryz.prog 38 (fun w cs => ∃ x : LnD, cs = lnD x ∧ LnD.Ok w x) :=
  (opensW_struct (sz := 3) [(0, 2, fun w cs => ∃ f : FldT, cs = fldD f ∧ f.Ok w), (2, 1, QBool)] Tryz.underlying38 (by kernel_rfl) (by
    intro p hp
    simp only [List.mem_cons, List.not_mem_nil, or_false] at hp
    rcases hp with rfl | rfl
    · exact ⟨0, _, rfl, rfl, by kernel_rfl, opens_fdW⟩
    · exact ⟨1, _, rfl, rfl, by kernel_rfl, (opens_bool Tryz.underlying4).w⟩)).mono (by
    intro w cs ⟨hl, h⟩
    match cs, hl with
    | [c0, c1, c2], _ =>
      obtain ⟨f, e0, l0⟩ := h _ (List.mem_cons_self ..)
      obtain ⟨b, e1⟩ := h _ (List.mem_cons_of_mem _ (List.mem_cons_self ..))
      simp [fldD] at e0 e1
      obtain ⟨rfl, rfl⟩ := e0
      subst e1
      exact ⟨(f, b), rfl, l0⟩)
structure LdsV where
  (A : Option Addr) (c : Nat) (xs : List LnD)
structure LdsV.Ok (w : World) (s : LdsV) : Prop where
  le : s.xs.length ≤ s.c
  max : s.c * 40 ≤ 140737488351232
  rows : Many lnD 3 w s.A s.xs
  ok : ∀ x ∈ s.xs, LnD.Ok w x
section
variable {H : Type} {enc : TypeId × Value → H} {w : World} {base : Nat} {held : Bool} {v : Value} {d : DataW H} {p : List MemPlace} {r : Reach} {b0 : Nat}
theorem open_fd1 (hv : Value.okWide Tryz.prog w r b0 29 v) (hd : DataW.Trod enc Tryz.prog w base (fun _ => true) held 29 v d p) (hw : ∀ m ∈ d.weights Tryz.prog 29, m ≤ reachBytes) :
    ∃ q : FldT, v = .agg #[.string q.1, .string q.2] ∧ q.Ok w := by
  obtain ⟨cs, rfl, f, hc, hf⟩ := opens_fdW.agg Tryz.underlying29 hv hd hw
  refine ⟨f, ?_, hf⟩
  congr 1
  apply Array.toList_inj.1
  rw [hc]
  rfl
theorem open_fds (hv : Value.okWide Tryz.prog w r b0 22 v) (hd : DataW.Trod enc Tryz.prog w base (fun _ => true) held 22 v d p) (hw : ∀ m ∈ d.weights Tryz.prog 22, m ≤ reachBytes) :
    ∃ s : FdsV, v = .slice s.A s.xs.length s.c ∧ s.Ok w := by
  have h := (opensW_slice (sz := 2) (bytes := 32) Tryz.underlying22 opens_fdW (by kernel_rfl) (by omega) (by kernel_rfl)).sl Tryz.underlying22 hv hd hw
  obtain ⟨A, xs, c, e, h1, _, h2, h3, h4⟩ := h.many (R := FldT.Ok) (f := fldD) (fun _ hq => hq)
  simp at e
  exact ⟨⟨A, c, xs⟩, e, h1, h2, h3, h4⟩
theorem open_lds (hv : Value.okWide Tryz.prog w r b0 30 v) (hd : DataW.Trod enc Tryz.prog w base (fun _ => true) held 30 v d p) (hw : ∀ m ∈ d.weights Tryz.prog 30, m ≤ reachBytes) :
    ∃ s : LdsV, v = .slice s.A s.xs.length s.c ∧ s.Ok w := by
  have h := (opensW_slice (sz := 3) (bytes := 40) Tryz.underlying30 opens_lnW (by kernel_rfl) (by omega) (by kernel_rfl)).sl Tryz.underlying30 hv hd hw
  obtain ⟨A, xs, c, e, h1, _, h2, h3, h4⟩ := h.many (R := LnD.Ok) (f := lnD) (fun _ hq => hq)
  simp at e
  exact ⟨⟨A, c, xs⟩, e, h1, h2, h3, h4⟩
end
end Go.Proofs.YtapikjhfgcbifaaGreatDoor

/-
  The laws' small.
-/
namespace Go.Proofs.YtapikjhfgcbifaaGreatDoor
set_option maxRecDepth 100000
set_option linter.unusedVariables false
set_option linter.unusedSimpArgs false
open Go.RowKit
def sz5 (f : FldT) : Nat := 5 + f.1.size + f.2.size
def sum21 (l : List FldT) : Nat := (l.map sz5).sum
theorem sum21_take {l : List FldT} {k : Nat} {f : FldT} (h : l[k]? = some f) : sum21 (l.take (k + 1)) = sum21 (l.take k) + sz5 f := by
  obtain ⟨hk, rfl⟩ := List.getElem?_eq_some_iff.1 h
  unfold sum21
  rw [List.take_succ_eq_append_getElem hk, List.map_append, List.sum_append]
  rfl
theorem sum21_mem {l : List FldT} {f : FldT} (h : f ∈ l) : sz5 f ≤ sum21 l := by
  induction l with
  | nil => cases h
  | cons g r ih =>
    unfold sum21 at *
    simp only [List.map_cons, List.sum_cons]
    rcases List.mem_cons.1 h with rfl | h
    · omega
    · have := ih h; omega
theorem sum21_len (l : List FldT) : 5 * l.length ≤ sum21 l := by
  induction l with
  | nil => simp [sum21]
  | cons g r ih =>
    unfold sum21 at *
    simp only [List.map_cons, List.sum_cons, List.length_cons]
    have : 5 ≤ sz5 g := by unfold sz5; omega
    omega
/-- Fields that are gone through. -/
def Small21 (l : List FldT) : Prop := l.length ≤ 400 ∧ ∀ f ∈ l, f.1.size ≤ 2000 ∧ f.2.size ≤ 2000
theorem small21_of {l : List FldT} (h : sum21 l ≤ 2000) : Small21 l := ⟨by have := sum21_len l; omega, fun f hf => by
  have := sum21_mem hf
  unfold sz5 at this
  omega⟩
def SmlP (l : List FldT) (w : World) (e : Ending) (w' : World) : Prop := ∃ r : Bool, e = .returned (.bool r) ∧ (r = true → Small21 l) ∧ Fresh w w'
theorem sm_nums {s a b k n : Nat} (h : s ≤ 2000) (ha : a ≤ 140737488351232) (hb : b ≤ 140737488351232) (hk : k < n) (hn : n ≤ 140737488351232) : IntKind.i64.wrap (5 + (a : Int)) = 5 + (a : Int) ∧ IntKind.i64.wrap (5 + (a : Int) + (b : Int)) = 5 + (a : Int) + (b : Int) ∧ IntKind.i64.wrap ((s : Int) + (5 + (a : Int) + (b : Int))) = (s : Int) + (5 + (a : Int) + (b : Int)) ∧ ((s + (5 + a + b) : Nat) : Int) = (s : Int) + (5 + (a : Int) + (b : Int)) ∧ (k : Int) < (n : Int) ∧ IntKind.i64.wrap ((k : Int) + 1) = (k : Int) + 1 := ⟨IntWalk.i64_in _ (by omega), IntWalk.i64_in _ (by omega), IntWalk.i64_in _ (by omega), by omega, by omega, IntWalk.i64_in _ (by omega)⟩
end Go.Proofs.YtapikjhfgcbifaaGreatDoor

