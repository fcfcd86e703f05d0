/-
  Opening arguments of any shape, with what they weigh.
-/
import Derived.Test.YtcdghmidpaeloaaShape
import Derived.SizedLaws
namespace Go.Proofs.Ytcdghmidpaeloaa
set_option maxRecDepth 100000
set_option linter.unusedVariables false
open Go.RowKit Go.ChangeShapes Go.WideShapes Go.Deep

/-- Whatever reads as a datum of type t within the reach is Q. -/
def OpensW (P : Program) (t : TypeId) (Q : World → List Value → Prop) : Prop :=
  ∀ (H : Type) (enc : TypeId × Value → H) (w : World) (base : Nat) (held : Bool) (fuel : Nat) (cs : List Value) (x : DataW H × List MemPlace),
    DataW.trod enc P w base (fun _ => true) held fuel t cs = some x → (∀ m ∈ x.1.weights P t, m ≤ reachBytes) → Q w cs

def QStrW (w : World) (cs : List Value) : Prop := ∃ s : ByteArray, cs = [.string s] ∧ s.size ≤ 140737488351232
def QSlW (sz bytes : Nat) (Q : World → List Value → Prop) (w : World) (cs : List Value) : Prop :=
  ∃ A n c, cs = [.slice A n c] ∧ n ≤ c ∧ c ≤ maxLen ∧ c * bytes ≤ 140737488351232 ∧
    (0 < n → ∃ b o, A = some ⟨b, o, none⟩ ∧ b < w.heap.size ∧ ∀ i, i < n → ∃ cs', cs'.length = sz ∧ (∀ j, j < sz → w.cell? ⟨b, o + i * sz + j, none⟩ = cs'[j]?) ∧ Q w cs')

theorem reach_eq : reachBytes = 140737488351232 := by decide
theorem weightsAll_mem {H : Type} {P : Program} {e : TypeId} : ∀ {ds : List (DataW H)} {d : DataW H}, d ∈ ds → ∀ m ∈ d.weights P e, m ∈ DataW.weightsAll P e ds
  | d :: r, d', h, m, hm => by
    simp only [DataW.weightsAll, List.mem_append]
    rcases List.mem_cons.1 h with rfl | h
    · exact .inl hm
    · exact .inr (weightsAll_mem h m hm)
section
variable {P : Program} {t e : TypeId}
theorem Opens.w {Q : World → List Value → Prop} (h : Opens P t Q) : OpensW P t Q := fun _ _ _ _ _ _ _ _ hx _ => h _ _ _ _ _ _ _ _ _ hx
theorem OpensW.mono {Q R : World → List Value → Prop} (h : OpensW P t Q) (hm : ∀ w cs, Q w cs → R w cs) : OpensW P t R := fun H enc w base held fuel cs x hx hw => hm _ _ (h H enc w base held fuel cs x hx hw)
theorem opensW_str (ht : P.underlying t = some .string) : OpensW P t QStrW := fun _ _ _ _ _ _ _ _ h hw => by
  obtain ⟨n, rfl, rfl, hs⟩ := DataW.trod_string ht h
  have := hw n.data.toList.length (by simp [DataW.weights])
  rw [reach_eq] at this
  exact ⟨n, rfl, by simpa using this⟩
theorem opensW_slice {sz bytes : Nat} {Q : World → List Value → Prop} (ht : P.underlying t = some (.slice e)) (he : OpensW P e Q) (hC : P.cellsOf e = sz) (hsz : 0 < sz) (hB : P.bytesOf e = bytes) : OpensW P t (QSlW sz bytes Q) := fun H enc w base held fuel cs x h hw => by
  rcases open_slice ht h with ⟨rfl, _⟩ | ⟨a, len, cap, m, n, D, Pl, rfl, hb, hl, hmx, hm, hx, hi⟩
  · exact ⟨none, 0, 0, rfl, by omega, by simp [maxLen], by omega, fun h => absurd h (by omega)⟩
  · rw [if_pos rfl] at hm
    subst hm
    have hwt : x.1.weights P t = (len + (m - len)) * P.bytesOf e :: (DataW.weightsAll P e ((List.range len).map D) ++ DataW.weightsAll P e ((List.range (m - len)).map fun j => D (len + j))) := by
      rw [hx]
      simp [DataW.weights, ht]
    rw [hwt] at hw
    have h1 := hw _ (List.mem_cons_self ..)
    rw [hB, reach_eq, show len + (m - len) = m by omega] at h1
    refine ⟨some a, len, m, rfl, hl, hmx, h1, fun hn => ?_⟩
    rw [hC] at hi
    have key : ∀ i, i < len → ∃ cs', cs'.length = sz ∧ (∀ j, j < sz → w.cell? (a.add (i * sz + j)) = cs'[j]?) ∧ Q w cs' := by
      intro i hil
      obtain ⟨cs', hc, htr⟩ := hi i (by omega)
      obtain ⟨_, hcl, hat⟩ := World.cells?_some hc
      refine ⟨cs', hcl, fun j hj => by rw [← Go.Deep.add_add]; exact hat j hj, he _ _ _ _ _ _ _ _ htr (fun k hk => hw k ?_)⟩
      refine List.mem_cons_of_mem _ (List.mem_append_left _ (weightsAll_mem (d := D i) ?_ k hk))
      exact List.mem_map.2 ⟨i, List.mem_range.2 hil, rfl⟩
    obtain ⟨cs0, hl0, h0, _⟩ := key 0 hn
    have h00 := h0 0 hsz
    rw [List.getElem?_eq_getElem (by omega)] at h00
    have hsp : a.spot = none := by
      have := World.cell?_spot h00
      unfold Addr.add at this
      split at this <;> simp_all
    have hlt := cell_block_lt h00
    rw [add_eq a _ hsp] at hlt
    refine ⟨a.block, a.off, ?_, hlt, fun i hil => ?_⟩
    · obtain ⟨b, o, s⟩ := a
      simp only at hsp
      subst hsp
      rfl
    · obtain ⟨cs', h1, h2, h3⟩ := key i hil
      exact ⟨cs', h1, fun j hj => by rw [Nat.add_assoc, ← add_eq a _ hsp]; exact h2 j hj, h3⟩
theorem opensW_struct {fs : Array Field} {sz : Nat} (l : List (Nat × Nat × (World → List Value → Prop))) (ht : P.underlying t = some (.struct fs)) (hC : P.cellsOf t = sz)
    (hl : ∀ p ∈ l, ∃ (i : Nat) (f : Field), fs[i]? = some f ∧ f.offset = p.1 ∧ P.cellsOf f.type = p.2.1 ∧ OpensW P f.type p.2.2) : OpensW P t (QFs sz l) := fun H enc w base held fuel cs x h hw => by
  obtain ⟨xs, n, _, hx, hlen, hxl, hf⟩ := DataW.trod_struct ht h
  refine ⟨by rw [hlen, hC], fun p hp => ?_⟩
  obtain ⟨i, f, hi, ho, hc, hO⟩ := hl p hp
  have := hf i f hi
  have hil : i < xs.length := by
    rw [hxl]
    exact (Array.getElem?_eq_some_iff.1 hi).1
  rw [List.getElem?_eq_getElem hil, ho, hc] at this
  refine hO _ _ _ _ _ _ _ _ this (fun k hk => hw k ?_)
  rw [hx]
  simp only [DataW.weights, ht]
  refine DataW.weights_mem_each (j := i) (t := f.type) (d := xs[i].1) ?_ ?_ k hk
  · simp [hi]
  · simp [List.getElem?_eq_getElem hil]
theorem opensW_array {n sz : Nat} {Q : World → List Value → Prop} (ht : P.underlying t = some (.array n e)) (hC : P.cellsOf t = n * sz) (hE : P.cellsOf e = sz) (he : OpensW P e Q) :
    OpensW P t (fun w cs => cs.length = n * sz ∧ ∀ i, i < n → Q w ((cs.drop (i * sz)).take sz)) := fun H enc w base held fuel cs x h hw => by
  obtain ⟨xs, m, _, hx, hlen, hxl, hf⟩ := DataW.trod_array ht h
  refine ⟨by rw [hlen, hC], fun i hi => ?_⟩
  have := hf i hi
  rw [List.getElem?_eq_getElem (by omega), hE] at this
  refine he _ _ _ _ _ _ _ _ this (fun k hk => hw k ?_)
  rw [hx]
  simp only [DataW.weights, ht]
  exact weightsAll_mem (d := xs[i].1) (List.mem_map.2 ⟨xs[i], List.getElem_mem _, rfl⟩) k hk
end
theorem QSlW.sl {sz bytes : Nat} {Q : World → List Value → Prop} {w : World} {cs : List Value} (h : QSlW sz bytes Q w cs) : QSl sz Q w cs := by
  obtain ⟨A, n, c, h1, h2, h3, _, h4⟩ := h
  exact ⟨A, n, c, h1, h2, h3, h4⟩
/-- A slice of bytes within the reach. -/
def QBytesW (w : World) (cs : List Value) : Prop := ∃ A l c, cs = [.slice A l.length c] ∧ l.length ≤ c ∧ c ≤ 140737488351232 ∧ BS w A l
theorem opensW_bytes {P : Program} {t e : TypeId} (ht : P.underlying t = some (.slice e)) (he : P.underlying e = some (.int .u8)) (hC : P.cellsOf e = 1) (hB : P.bytesOf e = 1) : OpensW P t QBytesW :=
  (opensW_slice ht (opens_int he).w hC (by omega) hB).mono fun _ _ h => by
    have h0 := h
    obtain ⟨A, n, c, e1, _, _, hb, _⟩ := h0
    obtain ⟨A', l, c', e2, h1, h2, h3⟩ := h.sl.bytes
    rw [e1] at e2
    simp at e2
    obtain ⟨rfl, rfl, rfl⟩ := e2
    exact ⟨A, l, c, e1, h1, by omega, h3⟩
theorem QSlW.many {α : Type} {f : α → List Value} {sz bytes : Nat} {w : World} {Q : World → List Value → Prop} {cs : List Value} {R : World → α → Prop} (h : QSlW sz bytes Q w cs) (hQ : ∀ cs, Q w cs → ∃ x : α, cs = f x ∧ R w x) :
    ∃ A xs c, cs = [.slice A xs.length c] ∧ xs.length ≤ c ∧ c ≤ maxLen ∧ c * bytes ≤ 140737488351232 ∧ Many f sz w A xs ∧ ∀ x ∈ xs, R w x := by
  have h0 := h
  obtain ⟨A, n, c, e1, _, _, hb, _⟩ := h0
  obtain ⟨A', xs, c', e2, h1, h2, h3, h4⟩ := h.sl.rows (R := R) (f := f) hQ
  rw [e1] at e2
  simp at e2
  obtain ⟨rfl, rfl, rfl⟩ := e2
  exact ⟨A, xs, c, e1, h1, h2, hb, h3, h4⟩

theorem sized_mem {H : Type} {P : Program} {ts : List TypeId} {ds : List (DataW H)} (h : (DataW.weightsEach P ts ds).all (· ≤ reachBytes) = true) {j : Nat} {t : TypeId} {d : DataW H} (ht : ts[j]? = some t) (hd : ds[j]? = some d) : ∀ m ∈ d.weights P t, m ≤ reachBytes := fun m hm => by
  have := List.all_eq_true.1 h _ (DataW.weights_mem_each ht hd m hm)
  simpa using this
section
variable {H : Type} {enc : TypeId × Value → H} {P : Program} {w : World} {base : Nat} {held : Bool} {t e : TypeId} {v : Value} {d : DataW H} {p : List MemPlace} {r : Reach} {b0 : Nat} {Q : World → List Value → Prop}
theorem OpensW.agg {fs : Array Field} (h : OpensW P t Q) (ht : P.underlying t = some (.struct fs)) (hv : Value.okWide P w r b0 t v) (hd : DataW.Trod enc P w base (fun _ => true) held t v d p) (hw : ∀ m ∈ d.weights P t, m ≤ reachBytes) : ∃ cs : Array Value, v = .agg cs ∧ Q w cs.toList := by
  obtain ⟨cs, rfl, _⟩ := okWide_struct ht hv
  obtain ⟨fuel, hf⟩ := hd
  exact ⟨cs, rfl, h _ _ _ _ _ _ _ _ hf hw⟩
theorem OpensW.sl {Q : World → List Value → Prop} (h : OpensW P t Q) (ht : P.underlying t = some (.slice e)) (hv : Value.okWide P w r b0 t v) (hd : DataW.Trod enc P w base (fun _ => true) held t v d p) (hw : ∀ m ∈ d.weights P t, m ≤ reachBytes) : Q w [v] := by
  obtain ⟨A, n, c, rfl⟩ := okWide_slice ht hv
  obtain ⟨fuel, hf⟩ := hd
  exact h _ _ _ _ _ _ _ _ hf hw
theorem OpensW.str {Q : World → List Value → Prop} (h : OpensW P t Q) (ht : P.underlying t = some .string) (hv : Value.okWide P w r b0 t v) (hd : DataW.Trod enc P w base (fun _ => true) held t v d p) (hw : ∀ m ∈ d.weights P t, m ≤ reachBytes) : Q w [v] := by
  obtain ⟨s, rfl⟩ := okWide_string ht hv
  obtain ⟨fuel, hf⟩ := hd
  exact h _ _ _ _ _ _ _ _ hf hw
end

/-- A slice of bytes that came in, as an element. -/
structure BSl where
  (A : Option Addr) (c : Nat) (l : List UInt8)
def BSl.cells (x : BSl) : List Value := [.slice x.A x.l.length x.c]
structure BSl.Ok (w : World) (x : BSl) : Prop where
  le : x.l.length ≤ x.c
  max : x.c ≤ 140737488351232
  bs : BS w x.A x.l
theorem BSl.Ok.fresh {w w' : World} {x : BSl} (h : x.Ok w) (hf : Fresh w w') : x.Ok w' := ⟨h.le, h.max, h.bs.fresh hf⟩
/-- A slice of slices of bytes that came in. -/
structure BSls where
  (A : Option Addr) (c : Nat) (xs : List BSl)
structure BSls.Ok (w : World) (s : BSls) : Prop where
  le : s.xs.length ≤ s.c
  max : s.c * 24 ≤ 140737488351232
  rows : Many BSl.cells 1 w s.A s.xs
  ok : ∀ x ∈ s.xs, x.Ok w
theorem QBytesW.bsl {w : World} {cs : List Value} (h : QBytesW w cs) : ∃ x : BSl, cs = x.cells ∧ x.Ok w := by
  obtain ⟨A, l, c, rfl, h1, h2, h3⟩ := h
  exact ⟨⟨A, c, l⟩, rfl, h1, h2, h3⟩
theorem Many.one {α : Type} {f : α → List Value} {w : World} {A : Option Addr} {xs : List α} (h : Many f 1 w A xs) (k : Nat) (x : α) (hx : xs[k]? = some x) :
    ∃ b o, A = some ⟨b, o, none⟩ ∧ b < w.heap.size ∧ w.cell? ⟨b, o + k, none⟩ = (f x)[0]? := by
  obtain ⟨hk, rfl⟩ := List.getElem?_eq_some_iff.1 hx
  obtain ⟨b, o, e, hb, hc⟩ := h (by omega)
  exact ⟨b, o, e, hb, by simpa using hc k hk 0 (by omega)⟩
/-- A slice of whole numbers that came in. -/
structure IntsV where
  (A : Option Addr) (c : Nat) (zs : List Int)
def cellI (z : Int) : List Value := [.int .i64 z]
structure IntsV.Ok (w : World) (s : IntsV) : Prop where
  le : s.zs.length ≤ s.c
  max : s.c ≤ maxLen
  rows : Many cellI 1 w s.A s.zs
  ok : ∀ z ∈ s.zs, -9223372036854775808 ≤ z ∧ z ≤ 9223372036854775807
end Go.Proofs.Ytcdghmidpaeloaa

