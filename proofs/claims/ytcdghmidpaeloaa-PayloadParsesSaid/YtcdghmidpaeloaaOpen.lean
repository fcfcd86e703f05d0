/-
  Opening arguments: slices of structs of whole numbers; slices of bytes.
-/
import Derived.Test.YtcdghmidpaeloaaMem
import Derived.Deep.Slices
import Derived.Deep.Fields
import Derived.ChangeSame
namespace Go.Proofs.Ytcdghmidpaeloaa
set_option linter.unusedVariables false
open Go.RowKit Go.ChangeShapes Go.WideShapes Go.Deep

theorem cell_block_lt {w : World} {a : Addr} {v : Value} (h : w.cell? a = some v) : a.block < w.heap.size := by
  unfold World.cell? at h
  by_cases hb : a.block < w.heap.size
  · exact hb
  · rw [Array.getElem?_eq_none (by omega)] at h
    simp at h

/-- A slice whose elements are structs of m whole numbers. -/
def IntRows (w : World) (m : Nat) (A : Option Addr) (n : Nat) (R : Nat → Nat → Int) : Prop :=
  (0 < n → ∃ b o, A = some ⟨b, o, none⟩ ∧ b < w.heap.size ∧ ∀ i j, i < n → j < m → w.cell? ⟨b, o + i * m + j, none⟩ = some (.int .i64 (R i j))) ∧
  ∀ i j, i < n → j < m → -9223372036854775808 ≤ R i j ∧ R i j ≤ 9223372036854775807

theorem IntRows.fresh {w w' : World} {m n : Nat} {A : Option Addr} {R : Nat → Nat → Int} (h : IntRows w m A n R) (hf : Fresh w w') : IntRows w' m A n R := by
  refine ⟨fun hn => ?_, h.2⟩
  obtain ⟨b, o, e, hb, hc⟩ := h.1 hn
  exact ⟨b, o, e, by have := hf.size; omega, fun i j hi hj => (hf.cell (p := ⟨b, _, none⟩) hb).trans (hc i j hi hj)⟩

theorem add_eq (a : Addr) (k : Nat) (h : a.spot = none) : a.add k = ⟨a.block, a.off + k, none⟩ := by
  obtain ⟨b, o, s⟩ := a
  simp only at h
  subst h
  unfold Addr.add
  split
  · rename_i h0
    simp_all
  · rfl

section
variable {H : Type} {enc : TypeId × Value → H} {P : Program} {w : World} {base : Nat} {spare : Nat → Bool} {held : Bool}

theorem choose_rows {n : Nat} {p : Nat → (Nat → Int) → Prop} (h : ∀ i, i < n → ∃ f, p i f) : ∃ R : Nat → Nat → Int, ∀ i, i < n → p i (R i) :=
  ⟨fun i => if hi : i < n then Classical.choose (h i hi) else fun _ => 0, fun i hi => by
    have := Classical.choose_spec (h i hi)
    simpa [hi] using this⟩

theorem wf_i64_bd {n : Int} (h : (Lit.int .i64 n).wf = true) : -9223372036854775808 ≤ n ∧ n ≤ 9223372036854775807 := by
  have := bounds_i64 h
  exact this

theorem open_int_rows {t e : TypeId} {fs : Array Field} {m : Nat} {v : Value} {d : DataW H} {p : List MemPlace} {r : Reach} {b0 : Nat} (ht : P.underlying t = some (.slice e)) (he : P.underlying e = some (.struct fs))
    (hone : oneCellFields P fs = true) (hC : P.cellsOf e = m) (hm : fs.size = m) (hm0 : 0 < m) (hint : ∀ (j : Nat) (f : Field), fs[j]? = some f → P.underlying f.type = some (.int .i64))
    (hv : Value.okWide P w r b0 t v) (h : DataW.Trod enc P w base spare held t v d p) :
    ∃ A n c R, v = .slice A n c ∧ n ≤ maxLen ∧ IntRows w m A n R := by
  obtain ⟨A, n, c, rfl⟩ := okWide_slice ht hv
  obtain ⟨fuel, hf⟩ := h
  rcases open_slice ht hf with ⟨hcs, _⟩ | ⟨a, len, cap, mm, nn, D, Pl, hcs, hb, hl, hmx, hmm, hx, hi⟩
  · simp [Value.cells] at hcs
    obtain ⟨rfl, rfl, rfl⟩ := hcs
    exact ⟨none, 0, 0, fun _ _ => 0, rfl, by simp [maxLen], fun h => absurd h (by omega), fun i j hi => absurd hi (by omega)⟩
  · simp [Value.cells] at hcs
    obtain ⟨rfl, rfl, rfl⟩ := hcs
    have hle : n ≤ mm := by rw [hmm]; split <;> omega
    have key : ∀ i, i < n → ∃ f : Nat → Int, ∀ j, j < m → w.cell? (a.add (i * m + j)) = some (.int .i64 (f j)) ∧ (Lit.int .i64 (f j)).wf = true := by
      intro i hin
      obtain ⟨cs', hc, htr⟩ := hi i (by omega)
      rw [hC] at hc
      obtain ⟨ys, n', hn', hy, hlen, hyl, hfld⟩ := DataW.trod_struct he htr
      obtain ⟨_, hcl, hat⟩ := World.cells?_some hc
      have each : ∀ j, j < m → ∃ z : Int, w.cell? (a.add (i * m + j)) = some (.int .i64 z) ∧ (Lit.int .i64 z).wf = true := by
        intro j hj
        have hjs : j < fs.size := by omega
        have hfj : fs[j]? = some fs[j] := Array.getElem?_eq_getElem hjs
        obtain ⟨ho, hk⟩ := hone_of hone j _ hfj
        have h1 := hfld j _ hfj
        rw [ho, hk] at h1
        have hd : (cs'.drop j).take 1 = [cs'[j]'(by omega)] := by
          rw [List.drop_eq_getElem_cons (by omega)]; rfl
        rw [hd] at h1
        have hys : ys[j]? = some (ys[j]'(by omega)) := List.getElem?_eq_getElem (by omega)
        rw [hys] at h1
        obtain ⟨z, hz, _, hw⟩ := DataW.trod_int (hint j _ hfj) h1
        refine ⟨z, ?_, hw⟩
        have hj2 := hat j hj
        rw [List.getElem?_eq_getElem (by omega)] at hj2
        have hz' : cs'[j]'(by omega) = .int .i64 z := by simpa using hz
        rw [← Go.Deep.add_add, hj2, hz']
      exact ⟨fun j => if hj : j < m then Classical.choose (each j hj) else 0, fun j hj => by simpa [hj] using Classical.choose_spec (each j hj)⟩
    obtain ⟨R, hR⟩ := choose_rows key
    refine ⟨some a, n, c, R, rfl, by omega, fun hn => ?_, fun i j hin hj => wf_i64_bd (hR i hin j hj).2⟩
    have h0 := (hR 0 hn 0 hm0).1
    have hsp : a.spot = none := by
      have := World.cell?_spot h0
      unfold Addr.add at this
      split at this <;> simp_all
    rw [add_eq a _ hsp] at h0
    refine ⟨a.block, a.off, ?_, cell_block_lt (a := ⟨a.block, _, none⟩) h0, fun i j hin hj => ?_⟩
    · obtain ⟨b, o, s⟩ := a
      simp only at hsp
      subst hsp
      rfl
    · rw [Nat.add_assoc, ← add_eq a _ hsp]; exact (hR i hin j hj).1
end
end Go.Proofs.Ytcdghmidpaeloaa

