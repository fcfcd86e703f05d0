/-
  Texts laid together: ShapeW Block4.
-/
import Derived.Test.YtginhebfjbhmnaaGreatG01
import Derived.SizedLaws
import Derived.Test.YtginhebfjbhmnaaGreatG16
/-
  Opening arguments of any shape, with what they weigh.
-/
namespace Go.Proofs.YtginhebfjbhmnaaGreat
set_option maxRecDepth 100000
set_option maxRecDepth 100000
set_option linter.unusedVariables false
open Go.RowKit Go.ChangeShapes Go.WideShapes Go.Deep

/-- Whatever reads as a datum of type t within the reach is Q. -/
def OpensW (P : Program) (t : TypeId) (Q : World → List Value → Prop) : Prop :=
  ∀ (H : Type) (enc : TypeId × Value → H) (w : World) (base : Nat) (held : Bool) (fuel : Nat) (cs : List Value) (x : DataW H × List MemPlace),
    DataW.trod enc P w base (fun _ => true) held fuel t cs = some x → (∀ m ∈ x.1.weights P t, m ≤ reachBytes) → Q w cs

def QStrW (w : World) (cs : List Value) : Prop := ∃ s : ByteArray, cs = [.string s] ∧ s.size ≤ 140737488351232
def QSlW (sz bytes : Nat) (Q : World → List Value → Prop) (w : World) (cs : List Value) : Prop :=
  ∃ A n c, cs = [.slice A n c] ∧ n ≤ c ∧ c ≤ maxLen ∧ c * bytes ≤ 140737488351232 ∧
    (0 < n → ∃ b o, A = some ⟨b, o, none⟩ ∧ b < w.heap.size ∧ ∀ i, i < n → ∃ cs', cs'.length = sz ∧ (∀ j, j < sz → w.cell? ⟨b, o + i * sz + j, none⟩ = cs'[j]?) ∧ Q w cs')

theorem reach_eq : reachBytes = 140737488351232 := by decide
theorem weightsAll_mem {H : Type} {P : Program} {e : TypeId} : ∀ {ds : List (DataW H)} {d : DataW H}, d ∈ ds → ∀ m ∈ d.weights P e, m ∈ DataW.weightsAll P e ds
  | d :: r, d', h, m, hm => by
    simp only [DataW.weightsAll, List.mem_append]
    rcases List.mem_cons.1 h with rfl | h
    · exact .inl hm
    · exact .inr (weightsAll_mem h m hm)
section
variable {P : Program} {t e : TypeId}
theorem Opens.w {Q : World → List Value → Prop} (h : Opens P t Q) : OpensW P t Q := fun _ _ _ _ _ _ _ _ hx _ => h _ _ _ _ _ _ _ _ _ hx
theorem OpensW.mono {Q R : World → List Value → Prop} (h : OpensW P t Q) (hm : ∀ w cs, Q w cs → R w cs) : OpensW P t R := fun H enc w base held fuel cs x hx hw => hm _ _ (h H enc w base held fuel cs x hx hw)
theorem opensW_str (ht : P.underlying t = some .string) : OpensW P t QStrW := fun _ _ _ _ _ _ _ _ h hw => by
  obtain ⟨n, rfl, rfl, hs⟩ := DataW.trod_string ht h
  have := hw n.data.toList.length (by simp [DataW.weights])
  rw [reach_eq] at this
  exact ⟨n, rfl, by simpa using this⟩
theorem opensW_slice {sz bytes : Nat} {Q : World → List Value → Prop} (ht : P.underlying t = some (.slice e)) (he : OpensW P e Q) (hC : P.cellsOf e = sz) (hsz : 0 < sz) (hB : P.bytesOf e = bytes) : OpensW P t (QSlW sz bytes Q) := fun H enc w base held fuel cs x h hw => by
  rcases open_slice ht h with ⟨rfl, _⟩ | ⟨a, len, cap, m, n, D, Pl, rfl, hb, hl, hmx, hm, hx, hi⟩
  · exact ⟨none, 0, 0, rfl, by omega, by simp [maxLen], by omega, fun h => absurd h (by omega)⟩
  · rw [if_pos rfl] at hm
    subst hm
    have hwt : x.1.weights P t = (len + (m - len)) * P.bytesOf e :: (DataW.weightsAll P e ((List.range len).map D) ++ DataW.weightsAll P e ((List.range (m - len)).map fun j => D (len + j))) := by
      rw [hx]
      simp [DataW.weights, ht]
    rw [hwt] at hw
    have h1 := hw _ (List.mem_cons_self ..)
    rw [hB, reach_eq, show len + (m - len) = m by omega] at h1
    refine ⟨some a, len, m, rfl, hl, hmx, h1, fun hn => ?_⟩
    rw [hC] at hi
    have key : ∀ i, i < len → ∃ cs', cs'.length = sz ∧ (∀ j, j < sz → w.cell? (a.add (i * sz + j)) = cs'[j]?) ∧ Q w cs' := by
      intro i hil
      obtain ⟨cs', hc, htr⟩ := hi i (by omega)
      obtain ⟨_, hcl, hat⟩ := World.cells?_some hc
      refine ⟨cs', hcl, fun j hj => by rw [← Go.Deep.add_add]; exact hat j hj, he _ _ _ _ _ _ _ _ htr (fun k hk => hw k ?_)⟩
      refine List.mem_cons_of_mem _ (List.mem_append_left _ (weightsAll_mem (d := D i) ?_ k hk))
      exact List.mem_map.2 ⟨i, List.mem_range.2 hil, rfl⟩
    obtain ⟨cs0, hl0, h0, _⟩ := key 0 hn
    have h00 := h0 0 hsz
    rw [List.getElem?_eq_getElem (by omega)] at h00
    have hsp : a.spot = none := by
      have := World.cell?_spot h00
      unfold Addr.add at this
      split at this <;> simp_all
    have hlt := cell_block_lt h00
    rw [add_eq a _ hsp] at hlt
    refine ⟨a.block, a.off, ?_, hlt, fun i hil => ?_⟩
    · obtain ⟨b, o, s⟩ := a
      simp only at hsp
      subst hsp
      rfl
    · obtain ⟨cs', h1, h2, h3⟩ := key i hil
      exact ⟨cs', h1, fun j hj => by rw [Nat.add_assoc, ← add_eq a _ hsp]; exact h2 j hj, h3⟩
theorem opensW_struct {fs : Array Field} {sz : Nat} (l : List (Nat × Nat × (World → List Value → Prop))) (ht : P.underlying t = some (.struct fs)) (hC : P.cellsOf t = sz)
    (hl : ∀ p ∈ l, ∃ (i : Nat) (f : Field), fs[i]? = some f ∧ f.offset = p.1 ∧ P.cellsOf f.type = p.2.1 ∧ OpensW P f.type p.2.2) : OpensW P t (QFs sz l) := fun H enc w base held fuel cs x h hw => by
  obtain ⟨xs, n, _, hx, hlen, hxl, hf⟩ := DataW.trod_struct ht h
  refine ⟨by rw [hlen, hC], fun p hp => ?_⟩
  obtain ⟨i, f, hi, ho, hc, hO⟩ := hl p hp
  have := hf i f hi
  have hil : i < xs.length := by
    rw [hxl]
    exact (Array.getElem?_eq_some_iff.1 hi).1
  rw [List.getElem?_eq_getElem hil, ho, hc] at this
  refine hO _ _ _ _ _ _ _ _ this (fun k hk => hw k ?_)
  rw [hx]
  simp only [DataW.weights, ht]
  refine DataW.weights_mem_each (j := i) (t := f.type) (d := xs[i].1) ?_ ?_ k hk
  · simp [hi]
  · simp [List.getElem?_eq_getElem hil]
theorem opensW_array {n sz : Nat} {Q : World → List Value → Prop} (ht : P.underlying t = some (.array n e)) (hC : P.cellsOf t = n * sz) (hE : P.cellsOf e = sz) (he : OpensW P e Q) :
    OpensW P t (fun w cs => cs.length = n * sz ∧ ∀ i, i < n → Q w ((cs.drop (i * sz)).take sz)) := fun H enc w base held fuel cs x h hw => by
  obtain ⟨xs, m, _, hx, hlen, hxl, hf⟩ := DataW.trod_array ht h
  refine ⟨by rw [hlen, hC], fun i hi => ?_⟩
  have := hf i hi
  rw [List.getElem?_eq_getElem (by omega), hE] at this
  refine he _ _ _ _ _ _ _ _ this (fun k hk => hw k ?_)
  rw [hx]
  simp only [DataW.weights, ht]
  exact weightsAll_mem (d := xs[i].1) (List.mem_map.2 ⟨xs[i], List.getElem_mem _, rfl⟩) k hk
end
theorem QSlW.sl {sz bytes : Nat} {Q : World → List Value → Prop} {w : World} {cs : List Value} (h : QSlW sz bytes Q w cs) : QSl sz Q w cs := by
  obtain ⟨A, n, c, h1, h2, h3, _, h4⟩ := h
  exact ⟨A, n, c, h1, h2, h3, h4⟩
/-- A slice of bytes within the reach. -/
def QBytesW (w : World) (cs : List Value) : Prop := ∃ A l c, cs = [.slice A l.length c] ∧ l.length ≤ c ∧ c ≤ 140737488351232 ∧ BS w A l
theorem opensW_bytes {P : Program} {t e : TypeId} (ht : P.underlying t = some (.slice e)) (he : P.underlying e = some (.int .u8)) (hC : P.cellsOf e = 1) (hB : P.bytesOf e = 1) : OpensW P t QBytesW :=
  (opensW_slice ht (opens_int he).w hC (by omega) hB).mono fun _ _ h => by
    have h0 := h
    obtain ⟨A, n, c, e1, _, _, hb, _⟩ := h0
    obtain ⟨A', l, c', e2, h1, h2, h3⟩ := h.sl.bytes
    rw [e1] at e2
    simp at e2
    obtain ⟨rfl, rfl, rfl⟩ := e2
    exact ⟨A, l, c, e1, h1, by omega, h3⟩
theorem QSlW.many {α : Type} {f : α → List Value} {sz bytes : Nat} {w : World} {Q : World → List Value → Prop} {cs : List Value} {R : World → α → Prop} (h : QSlW sz bytes Q w cs) (hQ : ∀ cs, Q w cs → ∃ x : α, cs = f x ∧ R w x) :
    ∃ A xs c, cs = [.slice A xs.length c] ∧ xs.length ≤ c ∧ c ≤ maxLen ∧ c * bytes ≤ 140737488351232 ∧ Many f sz w A xs ∧ ∀ x ∈ xs, R w x := by
  have h0 := h
  obtain ⟨A, n, c, e1, _, _, hb, _⟩ := h0
  obtain ⟨A', xs, c', e2, h1, h2, h3, h4⟩ := h.sl.rows (R := R) (f := f) hQ
  rw [e1] at e2
  simp at e2
  obtain ⟨rfl, rfl, rfl⟩ := e2
  exact ⟨A, xs, c, e1, h1, h2, hb, h3, h4⟩

theorem sized_mem {H : Type} {P : Program} {ts : List TypeId} {ds : List (DataW H)} (h : (DataW.weightsEach P ts ds).all (· ≤ reachBytes) = true) {j : Nat} {t : TypeId} {d : DataW H} (ht : ts[j]? = some t) (hd : ds[j]? = some d) : ∀ m ∈ d.weights P t, m ≤ reachBytes := fun m hm => by
  have := List.all_eq_true.1 h _ (DataW.weights_mem_each ht hd m hm)
  simpa using this
section
variable {H : Type} {enc : TypeId × Value → H} {P : Program} {w : World} {base : Nat} {held : Bool} {t e : TypeId} {v : Value} {d : DataW H} {p : List MemPlace} {r : Reach} {b0 : Nat} {Q : World → List Value → Prop}
theorem OpensW.agg {fs : Array Field} (h : OpensW P t Q) (ht : P.underlying t = some (.struct fs)) (hv : Value.okWide P w r b0 t v) (hd : DataW.Trod enc P w base (fun _ => true) held t v d p) (hw : ∀ m ∈ d.weights P t, m ≤ reachBytes) : ∃ cs : Array Value, v = .agg cs ∧ Q w cs.toList := by
  obtain ⟨cs, rfl, _⟩ := okWide_struct ht hv
  obtain ⟨fuel, hf⟩ := hd
  exact ⟨cs, rfl, h _ _ _ _ _ _ _ _ hf hw⟩
theorem OpensW.sl {Q : World → List Value → Prop} (h : OpensW P t Q) (ht : P.underlying t = some (.slice e)) (hv : Value.okWide P w r b0 t v) (hd : DataW.Trod enc P w base (fun _ => true) held t v d p) (hw : ∀ m ∈ d.weights P t, m ≤ reachBytes) : Q w [v] := by
  obtain ⟨A, n, c, rfl⟩ := okWide_slice ht hv
  obtain ⟨fuel, hf⟩ := hd
  exact h _ _ _ _ _ _ _ _ hf hw
theorem OpensW.str {Q : World → List Value → Prop} (h : OpensW P t Q) (ht : P.underlying t = some .string) (hv : Value.okWide P w r b0 t v) (hd : DataW.Trod enc P w base (fun _ => true) held t v d p) (hw : ∀ m ∈ d.weights P t, m ≤ reachBytes) : Q w [v] := by
  obtain ⟨s, rfl⟩ := okWide_string ht hv
  obtain ⟨fuel, hf⟩ := hd
  exact h _ _ _ _ _ _ _ _ hf hw
end

/-- A slice of bytes that came in, as an element. -/
structure BSl where
  (A : Option Addr) (c : Nat) (l : List UInt8)
def BSl.cells (x : BSl) : List Value := [.slice x.A x.l.length x.c]
structure BSl.Ok (w : World) (x : BSl) : Prop where
  le : x.l.length ≤ x.c
  max : x.c ≤ 140737488351232
  bs : BS w x.A x.l
theorem BSl.Ok.fresh {w w' : World} {x : BSl} (h : x.Ok w) (hf : Fresh w w') : x.Ok w' := ⟨h.le, h.max, h.bs.fresh hf⟩
/-- A slice of slices of bytes that came in. -/
structure BSls where
  (A : Option Addr) (c : Nat) (xs : List BSl)
structure BSls.Ok (w : World) (s : BSls) : Prop where
  le : s.xs.length ≤ s.c
  max : s.c * 24 ≤ 140737488351232
  rows : Many BSl.cells 1 w s.A s.xs
  ok : ∀ x ∈ s.xs, x.Ok w
theorem QBytesW.bsl {w : World} {cs : List Value} (h : QBytesW w cs) : ∃ x : BSl, cs = x.cells ∧ x.Ok w := by
  obtain ⟨A, l, c, rfl, h1, h2, h3⟩ := h
  exact ⟨⟨A, c, l⟩, rfl, h1, h2, h3⟩
theorem Many.one {α : Type} {f : α → List Value} {w : World} {A : Option Addr} {xs : List α} (h : Many f 1 w A xs) (k : Nat) (x : α) (hx : xs[k]? = some x) :
    ∃ b o, A = some ⟨b, o, none⟩ ∧ b < w.heap.size ∧ w.cell? ⟨b, o + k, none⟩ = (f x)[0]? := by
  obtain ⟨hk, rfl⟩ := List.getElem?_eq_some_iff.1 hx
  obtain ⟨b, o, e, hb, hc⟩ := h (by omega)
  exact ⟨b, o, e, hb, by simpa using hc k hk 0 (by omega)⟩
section
variable {H : Type} {enc : TypeId × Value → H} {w : World} {base : Nat} {held : Bool} {v : Value} {d : DataW H} {p : List MemPlace} {r : Reach} {b0 : Nat}
theorem open_bsls (hv : Value.okWide Tryz.prog w r b0 45 v) (hd : DataW.Trod enc Tryz.prog w base (fun _ => true) held 45 v d p) (hw : ∀ m ∈ d.weights Tryz.prog 45, m ≤ reachBytes) :
    ∃ s : BSls, v = .slice s.A s.xs.length s.c ∧ s.Ok w := by
  have h := (opensW_slice (sz := 1) (bytes := 24) Tryz.underlying45 (opensW_bytes Tryz.underlying28 Tryz.underlying5 (by kernel_rfl) (by kernel_rfl)) (by kernel_rfl) (by omega) (by kernel_rfl)).sl Tryz.underlying45 hv hd hw
  obtain ⟨A, xs, c, e, h1, _, h2, h3, h4⟩ := h.many (R := fun w (x : BSl) => x.Ok w) (f := BSl.cells) (fun _ hq => hq.bsl)
  simp at e
  exact ⟨⟨A, c, xs⟩, e, h1, h2, h3, h4⟩
end
/-- A slice of whole numbers that came in. -/
structure IntsV where
  (A : Option Addr) (c : Nat) (zs : List Int)
def cellI (z : Int) : List Value := [.int .i64 z]
structure IntsV.Ok (w : World) (s : IntsV) : Prop where
  le : s.zs.length ≤ s.c
  max : s.c ≤ maxLen
  rows : Many cellI 1 w s.A s.zs
  ok : ∀ z ∈ s.zs, -9223372036854775808 ≤ z ∧ z ≤ 9223372036854775807
section
variable {H : Type} {enc : TypeId × Value → H} {w : World} {base : Nat} {spare : Nat → Bool} {held : Bool} {v : Value} {d : DataW H} {p : List MemPlace} {r : Reach} {b0 : Nat}
theorem open_intsV (hv : Value.okWide Tryz.prog w r b0 23 v) (hd : DataW.Trod enc Tryz.prog w base spare held 23 v d p) :
    ∃ s : IntsV, v = .slice s.A s.zs.length s.c ∧ s.Ok w := by
  have h := (opens_slice (sz := 1) Tryz.underlying23 (opens_int Tryz.underlying3) (by kernel_rfl) (by omega)).sl Tryz.underlying23 hv hd
  obtain ⟨A, xs, c, e, h1, h2, h3, h4⟩ := h.rows (R := fun _ (z : Int) => -9223372036854775808 ≤ z ∧ z ≤ 9223372036854775807) (f := cellI) (fun _ ⟨z, e, hz⟩ => ⟨z, e, wf_i64_bd hz⟩)
  simp at e
  exact ⟨⟨A, c, xs⟩, e, h1, h2, h3, h4⟩
end
end Go.Proofs.YtginhebfjbhmnaaGreat

/-
  Layer 12: an assembler's other calls; items out of memory.
-/
namespace Go.Proofs.YtginhebfjbhmnaaGreat
set_option maxRecDepth 100000
set_option linter.unusedVariables false
open Go.RowKit Go.ChangeShapes Go.WideShapes Go.Deep
/-- One item's cells in memory. -/
structure ItC (w : World) (b o : Nat) (x : ItV) : Prop where
  c0 : w.cell? ⟨b, o, none⟩ = some (.int .i64 x.ty)
  c1 : w.cell? ⟨b, o + 1, none⟩ = some (.int .i64 x.st)
  c2 : w.cell? ⟨b, o + 2, none⟩ = some (.slice x.A x.l.length x.c)
  c3 : w.cell? ⟨b, o + 3, none⟩ = some (.bool x.en)
  c4 : w.cell? ⟨b, o + 4, none⟩ = some (.bool x.eh)
  c5 : w.cell? ⟨b, o + 5, none⟩ = some (.bool x.ak)
  c6 : w.cell? ⟨b, o + 6, none⟩ = some (.int .i64 x.fl)
  c7 : w.cell? ⟨b, o + 7, none⟩ = some (.int .i64 x.co)
  c8 : w.cell? ⟨b, o + 8, none⟩ = some (.int .i64 x.la)
  c9 : w.cell? ⟨b, o + 9, none⟩ = some (.int .i64 x.inc)
  c10 : w.cell? ⟨b, o + 10, none⟩ = some (.int .i64 x.de)
  c11 : w.cell? ⟨b, o + 11, none⟩ = some (.int .i64 x.we)
  c12 : w.cell? ⟨b, o + 12, none⟩ = some (.bool x.wd)
  c13 : w.cell? ⟨b, o + 13, none⟩ = some (.bool x.ex)
  c14 : w.cell? ⟨b, o + 14, none⟩ = some (.slice x.PA x.ps.length x.pc)
theorem ItC.mk' {w : World} {b o : Nat} {x : ItV} (h : ∀ j, j < 15 → w.cell? ⟨b, o + j, none⟩ = x.cells[j]?) : ItC w b o x :=
  ⟨h 0 (by omega), h 1 (by omega), h 2 (by omega), h 3 (by omega), h 4 (by omega), h 5 (by omega), h 6 (by omega), h 7 (by omega), h 8 (by omega), h 9 (by omega), h 10 (by omega), h 11 (by omega), h 12 (by omega), h 13 (by omega), h 14 (by omega)⟩
theorem ItC.only {S : Nat → Prop} {w w' : World} {b o : Nat} {x : ItV} (h : ItC w b o x) (ho : Only S w w') (hb : b < w.heap.size) (hS : ¬ S b) : ItC w' b o x := by
  have k : ∀ j, w'.cell? ⟨b, j, none⟩ = w.cell? ⟨b, j, none⟩ := fun j => ho.cell (p := ⟨b, j, none⟩) hb hS
  obtain ⟨h0, h1, h2, h3, h4, h5, h6, h7, h8, h9, h10, h11, h12, h13, h14⟩ := h
  constructor <;> rw [k] <;> assumption
theorem Many.item {w : World} {A : Option Addr} {xs : List ItV} (h : Many ItV.cells 15 w A xs) (k : Nat) (x : ItV) (hx : xs[k]? = some x) : ∃ b o, A = some ⟨b, o, none⟩ ∧ b < w.heap.size ∧ ItC w b (o + k * 15) x := by
  obtain ⟨b, o, e, hb, hc⟩ := h.at k x hx
  exact ⟨b, o, e, hb, ItC.mk' hc⟩
/-- What there is of a part. -/
def atS (s : Option Part) : Int := match s with
  | none => 0
  | some (a, _, _) => a
def lenS (s : Option Part) : Nat := match s with
  | none => 0
  | some (_, l, _) => l.length
theorem asNew_no (lim : Int) (w : World) (h : lim < 0 ∨ 1048576 < lim) :
    Calls Tryz.prog 18 #[.int .i64 lim] w fun e w' => e = .returned (.tuple #[.pointer none, .int .i64 11]) ∧ w = w' := by
  rcases h with h | h
  · go_enter Tryz.func18, Tryz.ntmps18
    go_wp2
    go_ret2
    exact ⟨rfl, rfl⟩
  · have h' : ¬ lim < 0 := by omega
    go_enter Tryz.func18, Tryz.ntmps18
    go_wp2
    go_ret2
    exact ⟨rfl, rfl⟩
theorem asNew (lim : Int) (w : World) (h0 : 0 ≤ lim) (h1 : lim ≤ 1048576) :
    Calls Tryz.prog 18 #[.int .i64 lim] w fun e w' => ∃ p, e = .returned (.tuple #[.pointer (some ⟨p, 0, none⟩), .int .i64 0]) ∧ w.heap.size ≤ p ∧ AsAt w' p lim none (.slice none 0 0) ∧ Fresh w w' := by
  have h0' : ¬ lim < 0 := by omega
  have h1' : ¬ 1048576 < lim := by omega
  go_enter Tryz.func18, Tryz.ntmps18
  go_wp2
  go_ret2
  exact ⟨w.heap.size, rfl, Nat.le_refl _, ⟨h0, h1, fun _ => ⟨Blk.new _ _ _, rfl⟩, fun st l b e => by cases e⟩, Fresh.alloc _ _⟩
theorem asWithin (p : Nat) (lim : Int) (s : Option Part) (v : Value) (w : World) (h : AsAt w p lim s v) :
    Calls Tryz.prog 39 #[.pointer (some ⟨p, 0, none⟩)] w fun e w' => e = .returned (.tuple #[.int .i64 (atS s), .bool s.isSome]) ∧ Fresh w w' := by
  cases s with
  | none =>
    obtain ⟨c0, c1, c2, c3, c4⟩ := (h.idle rfl).1.c5
    clear h
    go_enter Tryz.func39, Tryz.ntmps39
    go_wp2
    go_region
    go_wp2
    go_ret2
    exact ⟨rfl, Fresh.drew _⟩
  | some y =>
    obtain ⟨a, l, b⟩ := y
    obtain ⟨c0, c1, c2, c3, c4⟩ := (h.part a l b rfl).1.c5
    clear h
    go_enter Tryz.func39, Tryz.ntmps39
    go_wp2
    go_region
    go_wp2
    go_ret2
    exact ⟨rfl, Fresh.drew _⟩
theorem asWaiting (p : Nat) (lim : Int) (s : Option Part) (v : Value) (w : World) (h : AsAt w p lim s v) :
    Calls Tryz.prog 31 #[.pointer (some ⟨p, 0, none⟩)] w fun e w' => e = .returned (.int .i64 (lenS s : Int)) ∧ w = w' := by
  cases s with
  | none =>
    obtain ⟨c0, c1, c2, c3, c4⟩ := (h.idle rfl).1.c5
    clear h
    go_enter Tryz.func31, Tryz.ntmps31
    go_wp2
    go_ret
    exact ⟨rfl, rfl⟩
  | some y =>
    obtain ⟨a, l, b⟩ := y
    obtain ⟨A, c, rfl, _⟩ := (h.part a l b rfl).2.1.slice
    obtain ⟨c0, c1, c2, c3, c4⟩ := (h.part a l b rfl).1.c5
    clear h
    go_enter Tryz.func31, Tryz.ntmps31
    go_wp2
    go_ret
    exact ⟨rfl, rfl⟩
theorem run_app_nil (w : World) : (Builtin.append_ #[28, 28] 28 #[.slice none 0 0, .slice none 0 0]).run Tryz.prog w = .ok (.slice none 0 0) w := by
  obtain ⟨i, hi, hiz, his, hib⟩ := info_parts u8_info
  simp [Builtin.append_, run_underlying Tryz.underlying28, sizeOf, typeInfo, hi, Builtin.lenOf, Builtin.firstCells]
def CopyR (lim : Int) (s : Option Part) (w : World) (e : Ending) (w' : World) : Prop :=
  ∃ q v, e = .returned (.pointer (some ⟨q, 0, none⟩)) ∧ w.heap.size ≤ q ∧ AsAt w' q lim s v ∧ (∀ k, v.ownBlock = some k → w.heap.size ≤ k) ∧ Fresh w w'
set_option maxRecDepth 100000 in
set_option maxHeartbeats 1600000 in
theorem asCopy (p : Nat) (lim : Int) (s : Option Part) (v : Value) (w : World) (h : AsAt w p lim s v) :
    Calls Tryz.prog 33 #[.pointer (some ⟨p, 0, none⟩)] w (CopyR lim s w) := by
  have hpl := h.lt.1
  have hl0 := h.l0
  have hl1 := h.l1
  cases s with
  | none =>
    obtain ⟨c0, c1, c2, c3, c4⟩ := (h.idle rfl).1.c5
    have hap := run_app_nil (w.alloc (.cells #[.int .i64 lim, .bool false, .int .i64 0, .slice none 0 0, .bool false] 85))
    clear h
    go_enter Tryz.func33, Tryz.ntmps33
    go_wp2_with (at_builtin; with_reducible refine wp_app rfl (.const (.slice none 0 0)) (.tmp 11) _ rfl hap rfl rfl rfl ?_)
    clear hap
    go_wp2
    go_ret
    have hb := (Blk.new w 85 #[.int .i64 lim, .bool false, .int .i64 0, .slice none 0 0, .bool false])
    refine ⟨w.heap.size, .slice none 0 0, rfl, Nat.le_refl _, ⟨hl0, hl1, fun _ => ⟨?_, rfl⟩, fun st l b e => by cases e⟩, (fun k hk => by cases hk), ?_⟩
    · first | exact hb | (have h1 := hb.set 3 (.slice none 0 0); simpa using h1)
    · first | exact Fresh.alloc _ _ | exact Fresh.step2 (Nat.le_refl _) (Fresh.alloc _ _)
  | some y =>
    obtain ⟨a, l, b⟩ := y
    obtain ⟨hb, hown, hll⟩ := h.part a l b rfl
    obtain ⟨A, c, rfl, hlc, hcm, _⟩ := hown.slice
    obtain ⟨c0, c1, c2, c3, c4⟩ := hb.c5
    have hbs : BS (w.alloc (.cells #[.int .i64 lim, .bool true, .int .i64 a, .slice A l.length c, .bool b] 85)) A l := hown.bytes.1.fresh (Fresh.alloc _ _)
    obtain ⟨A2, c2', w4, hap, ho4, hO4, hat⟩ := Own.moreX (P := Tryz.prog) (X := []) Tryz.underlying28 u8_info 28 (Own.nil (w.alloc (.cells #[.int .i64 lim, .bool true, .int .i64 a, .slice A l.length c, .bool b] 85)) 0 5 1) (Nat.zero_le _) A c l l.length l.length rfl (by omega) hbs (by omega)
    rw [List.nil_append] at ho4
    have hF4 : Fresh (w.alloc (.cells #[.int .i64 lim, .bool true, .int .i64 a, .slice A l.length c, .bool b] 85)) w4 := hO4.fresh (fun k _ e => by cases e)
    have hb4 := (Blk.new w 85 #[.int .i64 lim, .bool true, .int .i64 a, .slice A l.length c, .bool b]).fresh hF4
    have k3 := hb4.cell 3
    have y3 := hb4.frozen 3
    have HB4 := Lib.hid hb4
    have HO4 := Lib.hid ho4
    have HF4 := Lib.hid hF4
    have HAT := Lib.hid hat
    clear h hb hown hbs ho4 hO4 hat hF4 hb4
    go_enter Tryz.func33, Tryz.ntmps33
    go_wp2_with (at_builtin; with_reducible refine wp_app rfl (.const (.slice none 0 0)) (.tmp 11) _ rfl hap rfl rfl rfl ?_)
    clear hap
    go_wp2
    go_ret
    have hv : ∀ k, (Value.slice A2 l.length c2').ownBlock = some k → w.heap.size < k := fun k hk => by
      rcases HAT.out with e | e
      · rw [e] at hk; cases hk
      · rw [e] at hk; simp at hk; omega
    refine ⟨w.heap.size, .slice A2 l.length c2', rfl, Nat.le_refl _, ⟨hl0, hl1, (fun e => by cases e), fun st l' b' e => ?_⟩, fun k hk => Nat.le_of_lt (hv k hk), ?_⟩
    · cases e
      refine ⟨?_, HO4.out.only (Only.setCell w4 ⟨w.heap.size, 3, none⟩ _) (fun k hk e => by have := hv k hk; simp at e; omega), hll⟩
      have h1 := HB4.out.set 3 (.slice A2 l.length c2')
      simpa using h1
    · exact Fresh.step2 (Nat.le_refl _) ((Fresh.alloc _ _).trans HF4.out)
end Go.Proofs.YtginhebfjbhmnaaGreat

