/-
  The law CellPads: its argument; what is told of a padded cell.
-/
import Derived.Test.YtpokpkijhakpjaaCell4
import Derived.Test.YtpokpkijhakpjaaPay8
namespace Go.Proofs.Ytpokpkijhakpjaa
set_option linter.unusedVariables false
open Go.RowKit Go.ChangeShapes Go.WideShapes Go.Deep

structure PdV where
  (st : Int) (A : Option Addr) (c : Nat) (l : List UInt8) (e : Bool) (n : Int)
structure PdV.Ok (w : World) (f : PdV) : Prop where
  st : -9223372036854775808 ≤ f.st ∧ f.st ≤ 9223372036854775807
  n : -9223372036854775808 ≤ f.n ∧ f.n ≤ 9223372036854775807
  le : f.l.length ≤ f.c
  max : f.c ≤ maxLen
  bs : BS w f.A f.l
def PdV.cells (f : PdV) : List Value := [.int .i64 f.st, .slice f.A f.l.length f.c, .bool f.e, .int .i64 f.n]
theorem opens_padded : Opens Try.prog 43 (fun w cs => ∃ f : PdV, cs = f.cells ∧ f.Ok w) :=
  (opens_struct (sz := 4) [(0, 1, QInt .i64), (1, 1, QBytes), (2, 1, QBool), (3, 1, QInt .i64)] Try.underlying43 (by kernel_rfl) (by
    intro p hp
    simp only [List.mem_cons, List.not_mem_nil, or_false] at hp
    rcases hp with rfl | rfl | rfl | rfl
    · exact ⟨0, _, rfl, rfl, by kernel_rfl, opens_int Try.underlying3⟩
    · exact ⟨1, _, rfl, rfl, by kernel_rfl, opens_bytes Try.underlying22 Try.underlying5 (by kernel_rfl)⟩
    · exact ⟨2, _, rfl, rfl, by kernel_rfl, opens_bool Try.underlying4⟩
    · exact ⟨3, _, rfl, rfl, by kernel_rfl, opens_int Try.underlying3⟩)).mono (by
    intro w cs ⟨hl, h⟩
    match cs, hl with
    | [c0, c1, c2, c3], _ =>
      obtain ⟨z0, e0, w0⟩ := h _ (List.mem_cons_self ..)
      obtain ⟨A, l, c, e1, h1, h2, h3⟩ := h _ (List.mem_cons_of_mem _ (List.mem_cons_self ..))
      obtain ⟨z2, e2⟩ := h _ (List.mem_cons_of_mem _ (List.mem_cons_of_mem _ (List.mem_cons_self ..)))
      obtain ⟨z3, e3, w3⟩ := h _ (List.mem_cons_of_mem _ (List.mem_cons_of_mem _ (List.mem_cons_of_mem _ (List.mem_cons_self ..))))
      simp at e0 e1 e2 e3
      subst e0 e1 e2 e3
      exact ⟨⟨z0, A, c, l, z2, z3⟩, rfl, wf_i64_bd w0, wf_i64_bd w3, h1, h2, h3⟩)
section
variable {H : Type} {enc : TypeId × Value → H} {w : World} {base : Nat} {spare : Nat → Bool} {held : Bool} {v : Value} {d : DataW H} {p : List MemPlace} {r : Reach} {b0 : Nat}
theorem open_padded (hv : Value.okWide Try.prog w r b0 43 v) (hd : DataW.Trod enc Try.prog w base spare held 43 v d p) :
    ∃ f : PdV, v = .agg #[.int .i64 f.st, .slice f.A f.l.length f.c, .bool f.e, .int .i64 f.n] ∧ f.Ok w := by
  obtain ⟨cs, rfl, f, hc, hf⟩ := opens_padded.agg Try.underlying43 hv hd
  refine ⟨f, ?_, hf⟩
  congr 1
  apply Array.toList_inj.1
  rw [hc]
  rfl
end
theorem padL_len (p : Nat) (l : List UInt8) : (padL p l).length = l.length + p + 1 := by simp [padL]
theorem pad_flags (b : Bool) : hasB (if b then 9 else 8) 8 = true ∧ hasB (if b then 9 else 8) 1 = b := by cases b <;> exact ⟨by decide +kernel, by decide +kernel⟩
theorem pad_told (p : Nat) (l : List UInt8) (b : Bool) (st : Int) (hst : 1 ≤ st) (hp : p ≤ 255) :
    (∀ j, lookB 0 (if b then 9 else 8) st (padL p l) j = false) ∧ prOf 0 (if b then 9 else 8) (padL p l) = { PR0 with l := l, en := b } := by
  obtain ⟨h8, h1⟩ := pad_flags b
  generalize (if b then (9 : Int) else 8) = fl at *
  have hpd : pdB 0 fl = true := by simp [pdB, h8]
  have hwg : wgB 0 fl = false := by simp [wgB]
  have hah : aheadN 0 fl = 1 := by simp [aheadN, hpd, hwg]
  have hpn : padN 0 fl (padL p l) = p := by
    simp [padN, hpd, padL]
    omega
  have hlen := padL_len p l
  refine ⟨fun j => ?_, ?_⟩
  · match j with
    | 0 => simp [lookB, srB]; omega
    | 1 => simp [lookB, szB, hah, hlen]; omega
    | 2 => simp [lookB, hah, hpn, hlen]; omega
    | 3 => simp [lookB]
    | 4 => simp [lookB, hwg]
    | (j + 5) => simp [lookB]
  · unfold prOf
    rw [if_pos rfl, h1]
    have : textL 0 fl (padL p l) = l := by
      unfold textL
      rw [hah, hpn, hlen, show l.length + p + 1 - p - 1 = l.length by omega]
      simp [padL]
    rw [this]
end Go.Proofs.Ytpokpkijhakpjaa
