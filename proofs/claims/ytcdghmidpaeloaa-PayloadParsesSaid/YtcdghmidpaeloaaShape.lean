/-
  Opening arguments of any shape: what the cells of a type are, put together from the parts.
-/
import Derived.Test.YtcdghmidpaeloaaOwn
namespace Go.Proofs.Ytcdghmidpaeloaa
set_option maxRecDepth 100000
set_option linter.unusedVariables false
open Go.RowKit Go.ChangeShapes Go.WideShapes Go.Deep

/-- Whatever reads as a datum of type t is Q. -/
def Opens (P : Program) (t : TypeId) (Q : World → List Value → Prop) : Prop :=
  ∀ (H : Type) (enc : TypeId × Value → H) (w : World) (base : Nat) (spare : Nat → Bool) (held : Bool) (fuel : Nat) (cs : List Value) (x : DataW H × List MemPlace),
    DataW.trod enc P w base spare held fuel t cs = some x → Q w cs

def QInt (k : IntKind) (w : World) (cs : List Value) : Prop := ∃ z, cs = [.int k z] ∧ (Lit.int k z).wf = true
def QBool (w : World) (cs : List Value) : Prop := ∃ b, cs = [.bool b]
def QStr (w : World) (cs : List Value) : Prop := ∃ s : ByteArray, cs = [.string s] ∧ s.size ≤ maxLen
def QSl (sz : Nat) (Q : World → List Value → Prop) (w : World) (cs : List Value) : Prop :=
  ∃ A n c, cs = [.slice A n c] ∧ n ≤ c ∧ c ≤ maxLen ∧
    (0 < n → ∃ b o, A = some ⟨b, o, none⟩ ∧ b < w.heap.size ∧ ∀ i, i < n → ∃ cs', cs'.length = sz ∧ (∀ j, j < sz → w.cell? ⟨b, o + i * sz + j, none⟩ = cs'[j]?) ∧ Q w cs')
def QFs (sz : Nat) (l : List (Nat × Nat × (World → List Value → Prop))) (w : World) (cs : List Value) : Prop :=
  cs.length = sz ∧ ∀ p ∈ l, p.2.2 w ((cs.drop p.1).take p.2.1)

section
variable {P : Program} {t e : TypeId}
theorem opens_int {k : IntKind} (ht : P.underlying t = some (.int k)) : Opens P t (QInt k) := fun _ _ _ _ _ _ _ _ _ h => by
  obtain ⟨n, rfl, _, hw⟩ := DataW.trod_int ht h
  exact ⟨n, rfl, hw⟩
theorem opens_bool (ht : P.underlying t = some .bool) : Opens P t QBool := fun _ _ _ _ _ _ _ _ _ h => by
  obtain ⟨n, rfl, _⟩ := DataW.trod_bool ht h
  exact ⟨n, rfl⟩
theorem opens_str (ht : P.underlying t = some .string) : Opens P t QStr := fun _ _ _ _ _ _ _ _ _ h => by
  obtain ⟨n, rfl, _, hs⟩ := DataW.trod_string ht h
  exact ⟨n, rfl, hs⟩
theorem opens_slice {sz : Nat} {Q : World → List Value → Prop} (ht : P.underlying t = some (.slice e)) (he : Opens P e Q) (hC : P.cellsOf e = sz) (hsz : 0 < sz) : Opens P t (QSl sz Q) := fun H enc w base spare held fuel cs x h => by
  rcases open_slice ht h with ⟨rfl, _⟩ | ⟨a, len, cap, m, n, D, Pl, rfl, hb, hl, hmx, hm, _, hi⟩
  · exact ⟨none, 0, 0, rfl, by omega, by simp [maxLen], fun h => absurd h (by omega)⟩
  · refine ⟨some a, len, cap, rfl, hl, hmx, fun hn => ?_⟩
    have hle : len ≤ m := by rw [hm]; split <;> omega
    rw [hC] at hi
    have key : ∀ i, i < len → ∃ cs', cs'.length = sz ∧ (∀ j, j < sz → w.cell? (a.add (i * sz + j)) = cs'[j]?) ∧ Q w cs' := by
      intro i hil
      obtain ⟨cs', hc, htr⟩ := hi i (by omega)
      obtain ⟨_, hcl, hat⟩ := World.cells?_some hc
      exact ⟨cs', hcl, fun j hj => by rw [← Go.Deep.add_add]; exact hat j hj, he _ _ _ _ _ _ _ _ _ htr⟩
    obtain ⟨cs0, hl0, h0, _⟩ := key 0 hn
    have h00 := h0 0 hsz
    rw [List.getElem?_eq_getElem (by omega)] at h00
    have hsp : a.spot = none := by
      have := World.cell?_spot h00
      unfold Addr.add at this
      split at this <;> simp_all
    have hlt := cell_block_lt h00
    rw [add_eq a _ hsp] at hlt
    refine ⟨a.block, a.off, ?_, hlt, fun i hil => ?_⟩
    · obtain ⟨b, o, s⟩ := a
      simp only at hsp
      subst hsp
      rfl
    · obtain ⟨cs', h1, h2, h3⟩ := key i hil
      exact ⟨cs', h1, fun j hj => by rw [Nat.add_assoc, ← add_eq a _ hsp]; exact h2 j hj, h3⟩
theorem opens_struct {fs : Array Field} {sz : Nat} (l : List (Nat × Nat × (World → List Value → Prop))) (ht : P.underlying t = some (.struct fs)) (hC : P.cellsOf t = sz)
    (hl : ∀ p ∈ l, ∃ (i : Nat) (f : Field), fs[i]? = some f ∧ f.offset = p.1 ∧ P.cellsOf f.type = p.2.1 ∧ Opens P f.type p.2.2) : Opens P t (QFs sz l) := fun H enc w base spare held fuel cs x h => by
  obtain ⟨xs, n, _, _, hlen, hxl, hf⟩ := DataW.trod_struct ht h
  refine ⟨by rw [hlen, hC], fun p hp => ?_⟩
  obtain ⟨i, f, hi, ho, hc, hO⟩ := hl p hp
  have := hf i f hi
  have hil : i < xs.length := by
    rw [hxl]
    exact (Array.getElem?_eq_some_iff.1 hi).1
  rw [List.getElem?_eq_getElem hil, ho, hc] at this
  exact hO _ _ _ _ _ _ _ _ _ this
theorem opens_array {n sz : Nat} {Q : World → List Value → Prop} (ht : P.underlying t = some (.array n e)) (hC : P.cellsOf t = n * sz) (hE : P.cellsOf e = sz) (he : Opens P e Q) :
    Opens P t (fun w cs => cs.length = n * sz ∧ ∀ i, i < n → Q w ((cs.drop (i * sz)).take sz)) := fun H enc w base spare held fuel cs x h => by
  obtain ⟨xs, m, _, _, hlen, hxl, hf⟩ := DataW.trod_array ht h
  refine ⟨by rw [hlen, hC], fun i hi => ?_⟩
  have := hf i hi
  rw [List.getElem?_eq_getElem (by omega), hE] at this
  exact he _ _ _ _ _ _ _ _ _ this
theorem Opens.mono {Q R : World → List Value → Prop} (h : Opens P t Q) (hm : ∀ w cs, Q w cs → R w cs) : Opens P t R := fun H enc w base spare held fuel cs x hx => hm _ _ (h H enc w base spare held fuel cs x hx)
end

section
variable {H : Type} {enc : TypeId × Value → H} {P : Program} {w : World} {base : Nat} {spare : Nat → Bool} {held : Bool} {t e : TypeId} {v : Value} {d : DataW H} {p : List MemPlace} {r : Reach} {b0 : Nat} {Q : World → List Value → Prop}
/-- An argument that is a struct. -/
theorem Opens.agg {fs : Array Field} (h : Opens P t Q) (ht : P.underlying t = some (.struct fs)) (hv : Value.okWide P w r b0 t v) (hd : DataW.Trod enc P w base spare held t v d p) : ∃ cs : Array Value, v = .agg cs ∧ Q w cs.toList := by
  obtain ⟨cs, rfl, _⟩ := okWide_struct ht hv
  obtain ⟨fuel, hf⟩ := hd
  exact ⟨cs, rfl, h _ _ _ _ _ _ _ _ _ hf⟩
theorem Opens.arr {n : Nat} (h : Opens P t Q) (ht : P.underlying t = some (.array n e)) (hv : Value.okWide P w r b0 t v) (hd : DataW.Trod enc P w base spare held t v d p) : ∃ cs : Array Value, v = .agg cs ∧ Q w cs.toList := by
  have hv' := hv
  simp only [Value.okWide, ht] at hv'
  obtain ⟨cs, rfl, _⟩ := hv'
  obtain ⟨fuel, hf⟩ := hd
  exact ⟨cs, rfl, h _ _ _ _ _ _ _ _ _ hf⟩
/-- An argument that is a slice. -/
theorem Opens.sl (h : Opens P t Q) (ht : P.underlying t = some (.slice e)) (hv : Value.okWide P w r b0 t v) (hd : DataW.Trod enc P w base spare held t v d p) : Q w [v] := by
  obtain ⟨A, n, c, rfl⟩ := okWide_slice ht hv
  obtain ⟨fuel, hf⟩ := hd
  exact h _ _ _ _ _ _ _ _ _ hf
end

/-- A slice of bytes. -/
def QBytes (w : World) (cs : List Value) : Prop := ∃ A l c, cs = [.slice A l.length c] ∧ l.length ≤ c ∧ c ≤ maxLen ∧ BS w A l
theorem QSl.bytes {w : World} {cs : List Value} (h : QSl 1 (QInt .u8) w cs) : QBytes w cs := by
  obtain ⟨A, n, c, rfl, hn, hc, hcs⟩ := h
  by_cases h0 : n = 0
  · subst h0
    exact ⟨A, [], c, rfl, by simp, hc, BS.nil _ _⟩
  · obtain ⟨b, o, rfl, hb, hi⟩ := hcs (by omega)
    have key : ∀ i, i < n → ∃ z : UInt8, w.cell? ⟨b, o + i, none⟩ = some (byteV z) := by
      intro i hin
      obtain ⟨cs', hl, hcell, z, rfl, hz⟩ := hi i hin
      have h1 := hcell 0 (by omega)
      have hzb := wf_u8_bd hz
      refine ⟨UInt8.ofNat z.toNat, ?_⟩
      rw [← byte_mk z hzb.1 (by omega)]
      simpa using h1
    let f : Nat → UInt8 := fun i => if hi : i < n then Classical.choose (key i hi) else 0
    have hf : ∀ i, i < n → w.cell? ⟨b, o + i, none⟩ = some (byteV (f i)) := fun i hin => by
      have := Classical.choose_spec (key i hin)
      simpa [f, hin] using this
    refine ⟨_, (List.range n).map f, c, by simp, by simpa using hn, hc, fun _ => ⟨b, o, rfl, hb, fun j hj => ?_⟩⟩
    have hjn : j < n := by simpa using hj
    rw [hf j hjn]
    simp
theorem opens_bytes {P : Program} {t e : TypeId} (ht : P.underlying t = some (.slice e)) (he : P.underlying e = some (.int .u8)) (hC : P.cellsOf e = 1) : Opens P t QBytes :=
  (opens_slice ht (opens_int he) hC (by omega)).mono fun _ _ h => h.bytes

/-- The cells at place o of block b read as cs. -/
def CellsAt (w : World) (b o : Nat) (cs : List Value) : Prop := ∀ j, j < cs.length → w.cell? ⟨b, o + j, none⟩ = cs[j]?

/-- A slice of things: each of them has sz cells, f x. -/
def Many {α : Type} (f : α → List Value) (sz : Nat) (w : World) (A : Option Addr) (xs : List α) : Prop :=
  0 < xs.length → ∃ b o, A = some ⟨b, o, none⟩ ∧ b < w.heap.size ∧ ∀ i (h : i < xs.length), ∀ j, j < sz → w.cell? ⟨b, o + i * sz + j, none⟩ = (f xs[i])[j]?
section
variable {α : Type} {f : α → List Value} {sz : Nat} {w w' : World} {A : Option Addr} {xs : List α}
theorem Many.fresh (h : Many f sz w A xs) (hf : Fresh w w') : Many f sz w' A xs := fun hn => by
  obtain ⟨b, o, e, hb, hc⟩ := h hn
  exact ⟨b, o, e, by have := hf.size; omega, fun i hi j hj => (hf.cell (p := ⟨b, _, none⟩) hb).trans (hc i hi j hj)⟩
theorem Many.only {S : Nat → Prop} (h : Many f sz w A xs) (hf : Only S w w') (hs : ∀ b o, A = some ⟨b, o, none⟩ → ¬ S b) : Many f sz w' A xs := fun hn => by
  obtain ⟨b, o, e, hb, hc⟩ := h hn
  exact ⟨b, o, e, by have := hf.size; omega, fun i hi j hj => (hf.cell (p := ⟨b, _, none⟩) hb (hs b o e)).trans (hc i hi j hj)⟩
theorem Many.nil (f : α → List Value) (sz : Nat) (w : World) (A : Option Addr) : Many f sz w A [] := fun h => absurd h (by simp)
theorem QSl.rows {Q : World → List Value → Prop} {cs : List Value} {R : World → α → Prop} (h : QSl sz Q w cs) (hQ : ∀ cs, Q w cs → ∃ x : α, cs = f x ∧ R w x) :
    ∃ A xs c, cs = [.slice A xs.length c] ∧ xs.length ≤ c ∧ c ≤ maxLen ∧ Many f sz w A xs ∧ ∀ x ∈ xs, R w x := by
  obtain ⟨A, n, c, rfl, hn, hc, hcs⟩ := h
  by_cases h0 : n = 0
  · subst h0
    exact ⟨A, [], c, rfl, by simp, hc, Many.nil _ _ _ _, by simp⟩
  · obtain ⟨b, o, rfl, hb, hi⟩ := hcs (by omega)
    have key : ∀ i, i < n → ∃ x : α, (∀ j, j < sz → w.cell? ⟨b, o + i * sz + j, none⟩ = (f x)[j]?) ∧ R w x := by
      intro i hin
      obtain ⟨cs', hl, hcell, hq⟩ := hi i hin
      obtain ⟨x, rfl, hr⟩ := hQ _ hq
      exact ⟨x, hcell, hr⟩
    obtain ⟨x0, _⟩ := key 0 (by omega)
    let g : Nat → α := fun i => if hi : i < n then Classical.choose (key i hi) else x0
    have hg : ∀ i, i < n → (∀ j, j < sz → w.cell? ⟨b, o + i * sz + j, none⟩ = (f (g i))[j]?) ∧ R w (g i) := fun i hin => by
      have := Classical.choose_spec (key i hin)
      simpa [g, hin] using this
    refine ⟨_, (List.range n).map g, c, by simp, by simpa using hn, hc, fun _ => ⟨b, o, rfl, hb, fun i hi j hj => ?_⟩, fun x hx => ?_⟩
    · have hin : i < n := by simpa using hi
      rw [(hg i hin).1 j hj]
      simp
    · obtain ⟨i, hi, rfl⟩ := List.mem_map.1 hx
      exact (hg i (List.mem_range.1 hi)).2
end
end Go.Proofs.Ytcdghmidpaeloaa

