/-
  Texts laid together: Own Shape OctetM FrameM.
-/
import Derived.Test.YtginhebfjbhmnaaGreatG00
import Derived.Laws.AppendOwn
import Derived.Laws.OwnMore
import Derived.Deep.AppendLies
import Derived.OwnWalk
import Derived.Laws.Bits64
import Derived.Laws.BitsAllLaws
import Derived.Laws.BitsLemmas
/-
  Words on slices that the call itself grows.
-/
namespace Go.Proofs.YtginhebfjbhmnaaGreat
set_option maxRecDepth 100000
set_option linter.unusedVariables false
open Go.RowKit

/-- The value v is nil, or heads a row of the call's own from block base on, whose elements (sz cells each) are xs. -/
def Own (w : World) (base : Nat) (E : TypeId) (sz : Nat) (v : Value) (n : Nat) (xs : List Value) : Prop := w.ownsRow base E sz v n xs
section
variable {w w' : World} {base sz n : Nat} {E : TypeId} {v : Value} {xs : List Value}
theorem Own.nil (w : World) (base : Nat) (E : TypeId) (sz : Nat) : Own w base E sz (.slice none 0 0) 0 [] := World.ownsRow_nil _ _ _ _
theorem Own.lit {cs : Array Value} (hb : base ≤ w.heap.size) (hm : n ≤ maxLen) (hs : cs.size = n * sz) : Own (w.alloc (.cells cs E)) base E sz (.slice (some ⟨w.heap.size, 0, none⟩) n n) n cs.toList :=
  World.ownsRow_lit w cs n hb hm hs
theorem Own.form (h : Own w base E sz v n xs) : (v = .slice none 0 0 ∧ n = 0 ∧ xs = []) ∨ ∃ g cap, v = .slice (some ⟨g, 0, none⟩) n cap ∧ base ≤ g ∧ g < w.heap.size ∧ n ≤ cap ∧ cap ≤ maxLen ∧ ∀ j, j < xs.length → w.cell? ⟨g, j, none⟩ = xs[j]? ∧ w.frozen? ⟨g, j, none⟩ = false := by
  obtain ⟨hl, h⟩ := h
  rcases h with ⟨rfl, rfl⟩ | ⟨g, cap, cur, rfl, hb, hh, hn, hc, hs, hx⟩
  · left
    exact ⟨rfl, rfl, List.eq_nil_of_length_eq_zero (by simpa using hl)⟩
  · right
    refine ⟨g, cap, rfl, hb, (Array.getElem?_eq_some_iff.1 hh).1, hn, hc, fun j hj => ⟨?_, ?_⟩⟩
    · rw [cell_of_row w g j cur E (0, 0) hh, ← hx]
      rw [List.getElem?_take_of_lt (by omega)]
      simp
    · simp [World.frozen?, hh]
theorem Own.slice (h : Own w base E sz v n xs) : ∃ A c, v = .slice A n c ∧ n ≤ c ∧ c ≤ maxLen ∧ ∀ b o, A = some ⟨b, o, none⟩ → base ≤ b ∧ b < w.heap.size := by
  rcases h.form with ⟨rfl, rfl, _⟩ | ⟨g, cap, rfl, hb, hlt, hn, hc, _⟩
  · exact ⟨none, 0, rfl, by omega, by simp [maxLen], fun b o e => by cases e⟩
  · exact ⟨_, cap, rfl, hn, hc, fun b o e => by simp at e; rw [← e.1]; exact ⟨hb, hlt⟩⟩
theorem Own.pos {A : Option Addr} {c : Nat} (h : Own w base E sz (.slice A n c) n xs) (hn : 0 < n) : ∃ g, A = some ⟨g, 0, none⟩ ∧ base ≤ g ∧ g < w.heap.size ∧ n ≤ c ∧ c ≤ maxLen ∧ ∃ cur, Blk w g E cur := by
  rcases h.2 with ⟨e, h0⟩ | ⟨g, cap, cur, e, hb, hh, hn, hc, _⟩
  · omega
  · injection e with e1 e2 e3
    subst e1 e3
    exact ⟨g, rfl, hb, (Array.getElem?_eq_some_iff.1 hh).1, hn, hc, cur, hh⟩
theorem Own.fresh (h : Own w base E sz v n xs) (hf : Fresh w w') : Own w' base E sz v n xs := by
  obtain ⟨hl, h⟩ := h
  refine ⟨hl, ?_⟩
  rcases h with h | ⟨g, cap, cur, hv, hb, hh, r⟩
  · exact .inl h
  · exact .inr ⟨g, cap, cur, hv, hb, (Below.block hf g (Array.getElem?_eq_some_iff.1 hh).1).trans hh, r⟩
theorem Own.only {S : Nat → Prop} (h : Own w base E sz v n xs) (hf : Only S w w') (hs : ∀ k, v.ownBlock = some k → ¬ S k) : Own w' base E sz v n xs := by
  obtain ⟨hl, h⟩ := h
  refine ⟨hl, ?_⟩
  rcases h with h | ⟨g, cap, cur, hv, hb, hh, r⟩
  · exact .inl h
  · exact .inr ⟨g, cap, cur, hv, hb, (hf.block g (Array.getElem?_eq_some_iff.1 hh).1 (hs g (by rw [hv]; rfl))).trans hh, r⟩
theorem Own.lt (h : Own w base E sz v n xs) : ∀ k, v.ownBlock = some k → base ≤ k ∧ k < w.heap.size := World.ownsRow.lt h
theorem Own.length (h : Own w base E sz v n xs) : xs.length = n * sz := h.1
theorem Own.base_le {base' : Nat} (h : Own w base E sz v n xs) (hb : base' ≤ base) : Own w base' E sz v n xs := by
  obtain ⟨hl, h⟩ := h
  refine ⟨hl, ?_⟩
  rcases h with h | ⟨g, cap, cur, hv, hb', r⟩
  · exact .inl h
  · exact .inr ⟨g, cap, cur, hv, by omega, r⟩
end
theorem Own.bytes {w : World} {base : Nat} {E : TypeId} {A : Option Addr} {c n : Nat} {l : List UInt8} (h : Own w base E 1 (.slice A n c) n (l.map byteV)) : BS w A l ∧ n = l.length := by
  have hl : n = l.length := by have := h.length; simp at this; omega
  refine ⟨fun hn => ?_, hl⟩
  rcases h.form with ⟨e, h0, _⟩ | ⟨g, cap, e, hb, hlt, _, _, hc⟩
  · omega
  · injection e with e1
    refine ⟨g, 0, e1, hlt, fun j hj => ?_⟩
    rw [Nat.zero_add, (hc j (by simpa using hj)).1]
    simp [hj]

section
variable {P : Program} {T E : TypeId} {z : Value} {sz bytes : Nat} (hT : P.underlying T = some (.slice E)) (hinfo : (P.info? E).map (fun i => (i.zero, i.size, i.bytes)) = some (some z, sz, bytes)) (hz : z.cells.size = sz) (hsz : 0 < sz)
include hT hinfo hz hsz
/-- One more element, laid in a block of its own. -/
theorem Own.push {w0 w : World} {base n : Nat} {v : Value} {xs : List Value} (ty : TypeId) (h : Own w base E sz v n xs) (hb : Below base w0 w) (hbase : base ≤ w0.heap.size) (cs : Array Value) (hcs : cs.size = sz) (h1 : ∀ u ∈ cs.toList, u.oneCell' = true)
    (hn : n + 1 ≤ maxLen) (hbytes : (n + 1) * bytes ≤ 140737488355328) :
    ∃ v' w', (Builtin.append_ #[T, T] ty #[v, .slice (some ⟨w.heap.size, 0, none⟩) 1 1]).run P (w.alloc (.cells cs E)) = .ok v' w' ∧ Own w' base E sz v' (n + 1) (xs ++ cs.toList) ∧ Below base w0 w' ∧ v' ≠ .slice none 0 0 ∧ (w.alloc (.cells cs E)).grownBy w' v.ownBlock := by
  obtain ⟨i, hi, hiz, his, hib⟩ := info_parts hinfo
  obtain ⟨v', w', hr, ho, hg, hnil⟩ := run_append_own (P := P) (w.alloc (.cells cs E)) base T ty E i z sz bytes hT hi hiz his hib hz hsz v n xs (World.ownsRow.alloc h _) ⟨w.heap.size, 0, none⟩ 1 1 cs.toList (by simp [hcs])
    (fun j u hj => by
      rw [add_eq _ _ rfl]
      simp only [Nat.zero_add]
      rw [(Blk.new w E cs).cell]
      simpa using hj) h1 hn hbytes (by have := hb.size; simp; omega)
  refine ⟨v', w', hr, ho, ?_, ?_, hg⟩
  · have hlt := h.lt
    exact (hb.alloc (by have := hb.size; omega) _).grown hg (by have := hb.size; simp; omega) (fun k hk => (hlt k hk).1)
  · intro e
    have := hnil.1 e
    omega
end

/-- An append whose run is known: for the walk. -/
theorem wp_app {P : Program} {w : World} {ops : Array Oper} {rest : List Oper} {o : Oper} {a : Act} {Q : Exit → Act → World → Prop} (hgd : o.guard = none) (s x : Operand) (t : TypeId)
    (ho : o.op = .call { callee := .builtin .append, args := #[s, x], argTypes := #[t, t] }) {v vx v' : Value} {w' : World} {ty : TypeId} (hrun : (Builtin.append_ #[t, t] ty #[v, vx]).run P w = .ok v' w')
    (hty : o.type = ty) (hs : a.eval s = v) (hx : a.eval x = vx) (h : wpList P ops Q rest (a.put o.dst v') w') : wpList P ops Q (o :: rest) a w := by
  refine wpList_plain hgd fun K hK => ?_
  subst hty
  unfold Oper.wp
  simp [execOp, ho, resolve, invoke, builtin, hs, hx, hrun, Result.andThen]
  exact hK _ _ h
end Go.Proofs.YtginhebfjbhmnaaGreat

/-
  Opening arguments of any shape: what the cells of a type are, put together from the parts.
-/
namespace Go.Proofs.YtginhebfjbhmnaaGreat
set_option maxRecDepth 100000
set_option maxRecDepth 100000
set_option linter.unusedVariables false
open Go.RowKit Go.ChangeShapes Go.WideShapes Go.Deep

/-- Whatever reads as a datum of type t is Q. -/
def Opens (P : Program) (t : TypeId) (Q : World → List Value → Prop) : Prop :=
  ∀ (H : Type) (enc : TypeId × Value → H) (w : World) (base : Nat) (spare : Nat → Bool) (held : Bool) (fuel : Nat) (cs : List Value) (x : DataW H × List MemPlace),
    DataW.trod enc P w base spare held fuel t cs = some x → Q w cs

def QInt (k : IntKind) (w : World) (cs : List Value) : Prop := ∃ z, cs = [.int k z] ∧ (Lit.int k z).wf = true
def QBool (w : World) (cs : List Value) : Prop := ∃ b, cs = [.bool b]
def QStr (w : World) (cs : List Value) : Prop := ∃ s : ByteArray, cs = [.string s] ∧ s.size ≤ maxLen
def QSl (sz : Nat) (Q : World → List Value → Prop) (w : World) (cs : List Value) : Prop :=
  ∃ A n c, cs = [.slice A n c] ∧ n ≤ c ∧ c ≤ maxLen ∧
    (0 < n → ∃ b o, A = some ⟨b, o, none⟩ ∧ b < w.heap.size ∧ ∀ i, i < n → ∃ cs', cs'.length = sz ∧ (∀ j, j < sz → w.cell? ⟨b, o + i * sz + j, none⟩ = cs'[j]?) ∧ Q w cs')
def QFs (sz : Nat) (l : List (Nat × Nat × (World → List Value → Prop))) (w : World) (cs : List Value) : Prop :=
  cs.length = sz ∧ ∀ p ∈ l, p.2.2 w ((cs.drop p.1).take p.2.1)

section
variable {P : Program} {t e : TypeId}
theorem opens_int {k : IntKind} (ht : P.underlying t = some (.int k)) : Opens P t (QInt k) := fun _ _ _ _ _ _ _ _ _ h => by
  obtain ⟨n, rfl, _, hw⟩ := DataW.trod_int ht h
  exact ⟨n, rfl, hw⟩
theorem opens_bool (ht : P.underlying t = some .bool) : Opens P t QBool := fun _ _ _ _ _ _ _ _ _ h => by
  obtain ⟨n, rfl, _⟩ := DataW.trod_bool ht h
  exact ⟨n, rfl⟩
theorem opens_str (ht : P.underlying t = some .string) : Opens P t QStr := fun _ _ _ _ _ _ _ _ _ h => by
  obtain ⟨n, rfl, _, hs⟩ := DataW.trod_string ht h
  exact ⟨n, rfl, hs⟩
theorem opens_slice {sz : Nat} {Q : World → List Value → Prop} (ht : P.underlying t = some (.slice e)) (he : Opens P e Q) (hC : P.cellsOf e = sz) (hsz : 0 < sz) : Opens P t (QSl sz Q) := fun H enc w base spare held fuel cs x h => by
  rcases open_slice ht h with ⟨rfl, _⟩ | ⟨a, len, cap, m, n, D, Pl, rfl, hb, hl, hmx, hm, _, hi⟩
  · exact ⟨none, 0, 0, rfl, by omega, by simp [maxLen], fun h => absurd h (by omega)⟩
  · refine ⟨some a, len, cap, rfl, hl, hmx, fun hn => ?_⟩
    have hle : len ≤ m := by rw [hm]; split <;> omega
    rw [hC] at hi
    have key : ∀ i, i < len → ∃ cs', cs'.length = sz ∧ (∀ j, j < sz → w.cell? (a.add (i * sz + j)) = cs'[j]?) ∧ Q w cs' := by
      intro i hil
      obtain ⟨cs', hc, htr⟩ := hi i (by omega)
      obtain ⟨_, hcl, hat⟩ := World.cells?_some hc
      exact ⟨cs', hcl, fun j hj => by rw [← Go.Deep.add_add]; exact hat j hj, he _ _ _ _ _ _ _ _ _ htr⟩
    obtain ⟨cs0, hl0, h0, _⟩ := key 0 hn
    have h00 := h0 0 hsz
    rw [List.getElem?_eq_getElem (by omega)] at h00
    have hsp : a.spot = none := by
      have := World.cell?_spot h00
      unfold Addr.add at this
      split at this <;> simp_all
    have hlt := cell_block_lt h00
    rw [add_eq a _ hsp] at hlt
    refine ⟨a.block, a.off, ?_, hlt, fun i hil => ?_⟩
    · obtain ⟨b, o, s⟩ := a
      simp only at hsp
      subst hsp
      rfl
    · obtain ⟨cs', h1, h2, h3⟩ := key i hil
      exact ⟨cs', h1, fun j hj => by rw [Nat.add_assoc, ← add_eq a _ hsp]; exact h2 j hj, h3⟩
theorem opens_struct {fs : Array Field} {sz : Nat} (l : List (Nat × Nat × (World → List Value → Prop))) (ht : P.underlying t = some (.struct fs)) (hC : P.cellsOf t = sz)
    (hl : ∀ p ∈ l, ∃ (i : Nat) (f : Field), fs[i]? = some f ∧ f.offset = p.1 ∧ P.cellsOf f.type = p.2.1 ∧ Opens P f.type p.2.2) : Opens P t (QFs sz l) := fun H enc w base spare held fuel cs x h => by
  obtain ⟨xs, n, _, _, hlen, hxl, hf⟩ := DataW.trod_struct ht h
  refine ⟨by rw [hlen, hC], fun p hp => ?_⟩
  obtain ⟨i, f, hi, ho, hc, hO⟩ := hl p hp
  have := hf i f hi
  have hil : i < xs.length := by
    rw [hxl]
    exact (Array.getElem?_eq_some_iff.1 hi).1
  rw [List.getElem?_eq_getElem hil, ho, hc] at this
  exact hO _ _ _ _ _ _ _ _ _ this
theorem opens_array {n sz : Nat} {Q : World → List Value → Prop} (ht : P.underlying t = some (.array n e)) (hC : P.cellsOf t = n * sz) (hE : P.cellsOf e = sz) (he : Opens P e Q) :
    Opens P t (fun w cs => cs.length = n * sz ∧ ∀ i, i < n → Q w ((cs.drop (i * sz)).take sz)) := fun H enc w base spare held fuel cs x h => by
  obtain ⟨xs, m, _, _, hlen, hxl, hf⟩ := DataW.trod_array ht h
  refine ⟨by rw [hlen, hC], fun i hi => ?_⟩
  have := hf i hi
  rw [List.getElem?_eq_getElem (by omega), hE] at this
  exact he _ _ _ _ _ _ _ _ _ this
theorem Opens.mono {Q R : World → List Value → Prop} (h : Opens P t Q) (hm : ∀ w cs, Q w cs → R w cs) : Opens P t R := fun H enc w base spare held fuel cs x hx => hm _ _ (h H enc w base spare held fuel cs x hx)
end

section
variable {H : Type} {enc : TypeId × Value → H} {P : Program} {w : World} {base : Nat} {spare : Nat → Bool} {held : Bool} {t e : TypeId} {v : Value} {d : DataW H} {p : List MemPlace} {r : Reach} {b0 : Nat} {Q : World → List Value → Prop}
/-- An argument that is a struct. -/
theorem Opens.agg {fs : Array Field} (h : Opens P t Q) (ht : P.underlying t = some (.struct fs)) (hv : Value.okWide P w r b0 t v) (hd : DataW.Trod enc P w base spare held t v d p) : ∃ cs : Array Value, v = .agg cs ∧ Q w cs.toList := by
  obtain ⟨cs, rfl, _⟩ := okWide_struct ht hv
  obtain ⟨fuel, hf⟩ := hd
  exact ⟨cs, rfl, h _ _ _ _ _ _ _ _ _ hf⟩
theorem Opens.arr {n : Nat} (h : Opens P t Q) (ht : P.underlying t = some (.array n e)) (hv : Value.okWide P w r b0 t v) (hd : DataW.Trod enc P w base spare held t v d p) : ∃ cs : Array Value, v = .agg cs ∧ Q w cs.toList := by
  have hv' := hv
  simp only [Value.okWide, ht] at hv'
  obtain ⟨cs, rfl, _⟩ := hv'
  obtain ⟨fuel, hf⟩ := hd
  exact ⟨cs, rfl, h _ _ _ _ _ _ _ _ _ hf⟩
/-- An argument that is a slice. -/
theorem Opens.sl (h : Opens P t Q) (ht : P.underlying t = some (.slice e)) (hv : Value.okWide P w r b0 t v) (hd : DataW.Trod enc P w base spare held t v d p) : Q w [v] := by
  obtain ⟨A, n, c, rfl⟩ := okWide_slice ht hv
  obtain ⟨fuel, hf⟩ := hd
  exact h _ _ _ _ _ _ _ _ _ hf
end

/-- A slice of bytes. -/
def QBytes (w : World) (cs : List Value) : Prop := ∃ A l c, cs = [.slice A l.length c] ∧ l.length ≤ c ∧ c ≤ maxLen ∧ BS w A l
theorem QSl.bytes {w : World} {cs : List Value} (h : QSl 1 (QInt .u8) w cs) : QBytes w cs := by
  obtain ⟨A, n, c, rfl, hn, hc, hcs⟩ := h
  by_cases h0 : n = 0
  · subst h0
    exact ⟨A, [], c, rfl, by simp, hc, BS.nil _ _⟩
  · obtain ⟨b, o, rfl, hb, hi⟩ := hcs (by omega)
    have key : ∀ i, i < n → ∃ z : UInt8, w.cell? ⟨b, o + i, none⟩ = some (byteV z) := by
      intro i hin
      obtain ⟨cs', hl, hcell, z, rfl, hz⟩ := hi i hin
      have h1 := hcell 0 (by omega)
      have hzb := wf_u8_bd hz
      refine ⟨UInt8.ofNat z.toNat, ?_⟩
      rw [← byte_mk z hzb.1 (by omega)]
      simpa using h1
    let f : Nat → UInt8 := fun i => if hi : i < n then Classical.choose (key i hi) else 0
    have hf : ∀ i, i < n → w.cell? ⟨b, o + i, none⟩ = some (byteV (f i)) := fun i hin => by
      have := Classical.choose_spec (key i hin)
      simpa [f, hin] using this
    refine ⟨_, (List.range n).map f, c, by simp, by simpa using hn, hc, fun _ => ⟨b, o, rfl, hb, fun j hj => ?_⟩⟩
    have hjn : j < n := by simpa using hj
    rw [hf j hjn]
    simp
theorem opens_bytes {P : Program} {t e : TypeId} (ht : P.underlying t = some (.slice e)) (he : P.underlying e = some (.int .u8)) (hC : P.cellsOf e = 1) : Opens P t QBytes :=
  (opens_slice ht (opens_int he) hC (by omega)).mono fun _ _ h => h.bytes

/-- The cells at place o of block b read as cs. -/
def CellsAt (w : World) (b o : Nat) (cs : List Value) : Prop := ∀ j, j < cs.length → w.cell? ⟨b, o + j, none⟩ = cs[j]?

/-- A slice of things: each of them has sz cells, f x. -/
def Many {α : Type} (f : α → List Value) (sz : Nat) (w : World) (A : Option Addr) (xs : List α) : Prop :=
  0 < xs.length → ∃ b o, A = some ⟨b, o, none⟩ ∧ b < w.heap.size ∧ ∀ i (h : i < xs.length), ∀ j, j < sz → w.cell? ⟨b, o + i * sz + j, none⟩ = (f xs[i])[j]?
section
variable {α : Type} {f : α → List Value} {sz : Nat} {w w' : World} {A : Option Addr} {xs : List α}
theorem Many.fresh (h : Many f sz w A xs) (hf : Fresh w w') : Many f sz w' A xs := fun hn => by
  obtain ⟨b, o, e, hb, hc⟩ := h hn
  exact ⟨b, o, e, by have := hf.size; omega, fun i hi j hj => (hf.cell (p := ⟨b, _, none⟩) hb).trans (hc i hi j hj)⟩
theorem Many.only {S : Nat → Prop} (h : Many f sz w A xs) (hf : Only S w w') (hs : ∀ b o, A = some ⟨b, o, none⟩ → ¬ S b) : Many f sz w' A xs := fun hn => by
  obtain ⟨b, o, e, hb, hc⟩ := h hn
  exact ⟨b, o, e, by have := hf.size; omega, fun i hi j hj => (hf.cell (p := ⟨b, _, none⟩) hb (hs b o e)).trans (hc i hi j hj)⟩
theorem Many.nil (f : α → List Value) (sz : Nat) (w : World) (A : Option Addr) : Many f sz w A [] := fun h => absurd h (by simp)
theorem QSl.rows {Q : World → List Value → Prop} {cs : List Value} {R : World → α → Prop} (h : QSl sz Q w cs) (hQ : ∀ cs, Q w cs → ∃ x : α, cs = f x ∧ R w x) :
    ∃ A xs c, cs = [.slice A xs.length c] ∧ xs.length ≤ c ∧ c ≤ maxLen ∧ Many f sz w A xs ∧ ∀ x ∈ xs, R w x := by
  obtain ⟨A, n, c, rfl, hn, hc, hcs⟩ := h
  by_cases h0 : n = 0
  · subst h0
    exact ⟨A, [], c, rfl, by simp, hc, Many.nil _ _ _ _, by simp⟩
  · obtain ⟨b, o, rfl, hb, hi⟩ := hcs (by omega)
    have key : ∀ i, i < n → ∃ x : α, (∀ j, j < sz → w.cell? ⟨b, o + i * sz + j, none⟩ = (f x)[j]?) ∧ R w x := by
      intro i hin
      obtain ⟨cs', hl, hcell, hq⟩ := hi i hin
      obtain ⟨x, rfl, hr⟩ := hQ _ hq
      exact ⟨x, hcell, hr⟩
    obtain ⟨x0, _⟩ := key 0 (by omega)
    let g : Nat → α := fun i => if hi : i < n then Classical.choose (key i hi) else x0
    have hg : ∀ i, i < n → (∀ j, j < sz → w.cell? ⟨b, o + i * sz + j, none⟩ = (f (g i))[j]?) ∧ R w (g i) := fun i hin => by
      have := Classical.choose_spec (key i hin)
      simpa [g, hin] using this
    refine ⟨_, (List.range n).map g, c, by simp, by simpa using hn, hc, fun _ => ⟨b, o, rfl, hb, fun i hi j hj => ?_⟩, fun x hx => ?_⟩
    · have hin : i < n := by simpa using hi
      rw [(hg i hin).1 j hj]
      simp
    · obtain ⟨i, hi, rfl⟩ := List.mem_map.1 hx
      exact (hg i (List.mem_range.1 hi)).2
end
end Go.Proofs.YtginhebfjbhmnaaGreat

/-
  Plain arithmetic of numbers in bytes.
-/
namespace Go.Proofs.YtginhebfjbhmnaaGreat
set_option maxRecDepth 100000
set_option linter.unusedVariables false
open Go.RowKit

/-- The number of bytes, the highest one first. -/
def numL (l : List UInt8) : Nat := l.foldl (fun x c => x * 256 + c.toNat) 0
theorem numL_snoc (l : List UInt8) (c : UInt8) : numL (l ++ [c]) = numL l * 256 + c.toNat := by simp [numL]
theorem numL_take (l : List UInt8) (k : Nat) (h : k < l.length) : numL (l.take (k + 1)) = numL (l.take k) * 256 + l[k].toNat := by
  rw [List.take_succ_eq_append_getElem h, numL_snoc]
theorem numL_lt (l : List UInt8) : numL l < 256 ^ l.length := by
  have key : ∀ (n : Nat) (l : List UInt8), l.length = n → numL l < 256 ^ n := by
    intro n
    induction n with
    | zero => intro l h; simp [List.length_eq_zero_iff.1 h, numL]
    | succ n ih =>
      intro l h
      have hne : l ≠ [] := by intro e; simp [e] at h
      rw [← List.dropLast_concat_getLast hne, numL_snoc]
      have := ih l.dropLast (by simp [h])
      have hc := UInt8.toNat_lt (l.getLast hne)
      rw [Nat.pow_succ]
      omega
  exact key _ l rfl
theorem numL_take_lt (l : List UInt8) (k m : Nat) (hk : k ≤ m) : numL (l.take k) < 256 ^ m :=
  Nat.lt_of_lt_of_le (numL_lt _) (Nat.pow_le_pow_right (by omega) (by simp; omega))

theorem or_byte (z c : Nat) (hz : z < 72057594037927936) (hc : c < 256) : bits .or .u64 ((z : Int) * 256) (c : Int) = ((z * 256 + c : Nat) : Int) := by
  show IntKind.u64.wrap ((BitVec.ofInt 64 ((z : Int) * 256) ||| BitVec.ofInt 64 (c : Int)).toNat : Int) = _
  have e2 : BitVec.ofInt 64 ((z : Int) * 256) = BitVec.ofNat 64 (z * 256) := by
    rw [show ((z : Int) * 256) = ((z * 256 : Nat) : Int) by omega, BitVec.ofInt_natCast]
  rw [e2, BitVec.ofInt_natCast, BitVec.toNat_or, BitVec.toNat_ofNat, BitVec.toNat_ofNat, Nat.mod_eq_of_lt (by omega), Nat.mod_eq_of_lt (by omega)]
  have e3 : z * 256 ||| c = z * 256 + c := by
    have := Nat.shiftLeft_add_eq_or_of_lt (i := 8) (show c < 2 ^ 8 by omega) z
    rw [Nat.shiftLeft_eq] at this
    exact this.symm
  rw [e3, IntKind.wrap_u64]
  omega

/-- The last n bytes of x. -/
def bigL (x n : Nat) : List UInt8 := (List.range n).map fun i => UInt8.ofNat (x / 256 ^ (n - 1 - i))
theorem bigL_length (x n : Nat) : (bigL x n).length = n := by simp [bigL]
theorem bigL_get (x n i : Nat) (h : i < n) : (bigL x n)[i]? = some (UInt8.ofNat (x / 256 ^ (n - 1 - i))) := by simp [bigL, h]
theorem bigL_succ (x n : Nat) : bigL x (n + 1) = bigL (x / 256) n ++ [UInt8.ofNat x] := by
  apply List.ext_getElem?
  intro i
  by_cases h : i < n
  · rw [bigL_get x (n + 1) i (by omega), List.getElem?_append_left (by rw [bigL_length]; exact h), bigL_get _ n i h]
    congr 2
    rw [Nat.div_div_eq_div_mul, ← Nat.pow_succ']
    congr 2
    omega
  · by_cases h2 : i = n
    · subst h2
      rw [bigL_get x (i + 1) i (by omega), List.getElem?_append_right (by rw [bigL_length]; omega), bigL_length]
      simp
    · rw [List.getElem?_eq_none (by rw [bigL_length]; omega), List.getElem?_eq_none (by simp [bigL_length]; omega)]
theorem numL_bigL (n : Nat) : ∀ x, numL (bigL x n) = x % 256 ^ n := by
  induction n with
  | zero => intro x; simp [bigL, numL, Nat.mod_one]
  | succ n ih =>
    intro x
    rw [bigL_succ, numL_snoc, ih]
    have h1 : (UInt8.ofNat x).toNat = x % 256 := by simp
    rw [h1, Nat.pow_succ, Nat.mul_comm (256 ^ n) 256, Nat.mod_mul]
    omega
theorem bigL_numL (n : Nat) : ∀ l : List UInt8, l.length = n → bigL (numL l) n = l := by
  induction n with
  | zero => intro l h; rw [List.length_eq_zero_iff.1 h]; rfl
  | succ n ih =>
    intro l h
    have hne : l ≠ [] := by intro e; simp [e] at h
    have hd : l.dropLast.length = n := by simp [h]
    conv => lhs; rw [← List.dropLast_concat_getLast hne]
    rw [bigL_succ, numL_snoc]
    have hc := UInt8.toNat_lt (l.getLast hne)
    have e1 : (numL l.dropLast * 256 + (l.getLast hne).toNat) / 256 = numL l.dropLast := by omega
    rw [e1, ih _ hd]
    have e2 : UInt8.ofNat (numL l.dropLast * 256 + (l.getLast hne).toNat) = l.getLast hne := by
      apply UInt8.toNat_inj.1
      simp
    rw [e2]
    exact List.dropLast_concat_getLast hne
theorem numL_lt64 (l : List UInt8) (h : l.length ≤ 8) : numL l < 18446744073709551616 := by
  have h1 := numL_lt l
  have h2 : 256 ^ l.length ≤ 256 ^ 8 := Nat.pow_le_pow_right (by omega) h
  rw [show (256 : Nat) ^ 8 = 18446744073709551616 from rfl] at h2
  omega
end Go.Proofs.YtginhebfjbhmnaaGreat

/-
  Frames as values; plain facts on them.
-/
namespace Go.Proofs.YtginhebfjbhmnaaGreat
set_option maxRecDepth 100000
set_option linter.unusedVariables false
open Go.RowKit Go.ChangeShapes Go.WideShapes Go.Deep

theorem ofInt_i64 (a : Nat) (ha : a < 9223372036854775808) : (BitVec.ofInt 64 (a : Int)).toNat = a := by
  rw [BitVec.ofInt_natCast, BitVec.toNat_ofNat]; exact Nat.mod_eq_of_lt (by omega)
theorem i64_and_nat (a b : Nat) (ha : a < 9223372036854775808) (hb : b < 9223372036854775808) : bits .and .i64 (a : Int) (b : Int) = ((a &&& b : Nat) : Int) := by
  have hx : a &&& b < 2 ^ 63 := Nat.and_lt_two_pow _ (by omega)
  show IntKind.i64.wrap ((BitVec.ofInt 64 (a : Int) &&& BitVec.ofInt 64 (b : Int)).toNat : Int) = _
  rw [BitVec.toNat_and, ofInt_i64 a ha, ofInt_i64 b hb, IntKind.wrap_i64]
  omega
theorem ofInt_u64 (a : Nat) (ha : a < 18446744073709551616) : (BitVec.ofInt 64 (a : Int)).toNat = a := by
  rw [BitVec.ofInt_natCast, BitVec.toNat_ofNat]; exact Nat.mod_eq_of_lt (by omega)
/-- The lowest 31 bits. -/
theorem u64_low31 (a : Nat) (ha : a < 18446744073709551616) : bits .and .u64 (a : Int) 2147483647 = ((a % 2147483648 : Nat) : Int) := by
  show IntKind.u64.wrap ((BitVec.ofInt 64 (a : Int) &&& BitVec.ofInt 64 ((2147483647 : Nat) : Int)).toNat : Int) = _
  rw [BitVec.toNat_and, ofInt_u64 a ha, ofInt_u64 2147483647 (by omega), IntKind.wrap_u64]
  have : a &&& 2147483647 = a % 2147483648 := Nat.and_two_pow_sub_one_eq_mod a 31
  rw [this]
  omega

/-- One bit of the lowest eight. -/
def oneP (z : Int) : Bool := decide (z = 1 ∨ z = 2 ∨ z = 4 ∨ z = 8 ∨ z = 16 ∨ z = 32 ∨ z = 64 ∨ z = 128)
theorem one_nat : ∀ n : Nat, n < 256 → 0 < n → ((n &&& (n - 1)) == 0) = oneP (n : Int) := by decide +kernel
theorem oneP_out {z : Int} (h : z < 1 ∨ 255 < z) : oneP z = false := by
  unfold oneP
  exact decide_eq_false (by omega)

/-- A frame's fields; its payload is l, in the slice at A of capacity c. -/
structure FrV where
  (ty fl st : Int) (A : Option Addr) (c : Nat) (l : List UInt8)
def FrV.cells (f : FrV) : List Value := [.int .i64 f.ty, .int .i64 f.fl, .int .i64 f.st, .slice f.A f.l.length f.c]
structure FrV.Ok (w : World) (f : FrV) : Prop where
  ty : -9223372036854775808 ≤ f.ty ∧ f.ty ≤ 9223372036854775807
  fl : -9223372036854775808 ≤ f.fl ∧ f.fl ≤ 9223372036854775807
  st : -9223372036854775808 ≤ f.st ∧ f.st ≤ 9223372036854775807
  le : f.l.length ≤ f.c
  max : f.c ≤ maxLen
  bs : BS w f.A f.l
theorem FrV.Ok.fresh {w w' : World} {f : FrV} (h : f.Ok w) (hf : Fresh w w') : f.Ok w' := ⟨h.ty, h.fl, h.st, h.le, h.max, h.bs.fresh hf⟩

def frR (ty fl st : Int) (n : Nat) : Bool := decide (0 ≤ ty ∧ ty ≤ 255 ∧ 0 ≤ fl ∧ fl ≤ 255 ∧ 0 ≤ st ∧ st ≤ 2147483647 ∧ n ≤ 16777215)
/-- A right frame's bytes. -/
def frB (ty fl st : Nat) (l : List UInt8) : List UInt8 := bigL l.length 3 ++ ([UInt8.ofNat ty, UInt8.ofNat fl] ++ (bigL st 4 ++ l))
theorem frB_length (ty fl st : Nat) (l : List UInt8) : (frB ty fl st l).length = 9 + l.length := by
  simp [frB, bigL_length]; omega

theorem opens_frame : Opens Tryz.prog 34 (fun w cs => ∃ f : FrV, cs = f.cells ∧ f.Ok w) :=
  (opens_struct (sz := 4) [(0, 1, QInt .i64), (1, 1, QInt .i64), (2, 1, QInt .i64), (3, 1, QBytes)] Tryz.underlying34 (by kernel_rfl) (by
    intro p hp
    simp only [List.mem_cons, List.not_mem_nil, or_false] at hp
    rcases hp with rfl | rfl | rfl | rfl
    · exact ⟨0, _, rfl, rfl, by kernel_rfl, opens_int Tryz.underlying3⟩
    · exact ⟨1, _, rfl, rfl, by kernel_rfl, opens_int Tryz.underlying3⟩
    · exact ⟨2, _, rfl, rfl, by kernel_rfl, opens_int Tryz.underlying3⟩
    · exact ⟨3, _, rfl, rfl, by kernel_rfl, opens_bytes Tryz.underlying28 Tryz.underlying5 (by kernel_rfl)⟩)).mono (by
    intro w cs ⟨hl, h⟩
    match cs, hl with
    | [c0, c1, c2, c3], _ =>
      obtain ⟨z0, e0, w0⟩ := h _ (List.mem_cons_self ..)
      obtain ⟨z1, e1, w1⟩ := h _ (List.mem_cons_of_mem _ (List.mem_cons_self ..))
      obtain ⟨z2, e2, w2⟩ := h _ (List.mem_cons_of_mem _ (List.mem_cons_of_mem _ (List.mem_cons_self ..)))
      obtain ⟨A, l, c, e3, h1, h2, h3⟩ := h _ (List.mem_cons_of_mem _ (List.mem_cons_of_mem _ (List.mem_cons_of_mem _ (List.mem_cons_self ..))))
      simp at e0 e1 e2 e3
      subst e0 e1 e2 e3
      exact ⟨⟨z0, z1, z2, A, c, l⟩, rfl, wf_i64_bd w0, wf_i64_bd w1, wf_i64_bd w2, h1, h2, h3⟩)
section
variable {H : Type} {enc : TypeId × Value → H} {w : World} {base : Nat} {spare : Nat → Bool} {held : Bool} {v : Value} {d : DataW H} {p : List MemPlace} {r : Reach} {b0 : Nat}
theorem open_frame (hv : Value.okWide Tryz.prog w r b0 34 v) (hd : DataW.Trod enc Tryz.prog w base spare held 34 v d p) :
    ∃ f : FrV, v = .agg #[.int .i64 f.ty, .int .i64 f.fl, .int .i64 f.st, .slice f.A f.l.length f.c] ∧ f.Ok w := by
  obtain ⟨cs, rfl, f, hc, hf⟩ := opens_frame.agg Tryz.underlying34 hv hd
  refine ⟨f, ?_, hf⟩
  congr 1
  apply Array.toList_inj.1
  rw [hc]
  rfl
end
end Go.Proofs.YtginhebfjbhmnaaGreat

