/-
  Texts laid together: DecS InbS.
-/
import Derived.Test.YtginhebfjbhmnaaGreatG35
import Derived.Test.YtginhebfjbhmnaaGreatG17
import Derived.Test.YtginhebfjbhmnaaGreatInb
import Derived.Test.YtginhebfjbhmnaaGreatG14
/-
  Layer 7: a decoder beside the document's state; the laws' own table; right.
-/
namespace Go.Proofs.YtginhebfjbhmnaaGreat
set_option maxRecDepth 100000
set_option maxRecDepth 100000
set_option linter.unusedVariables false
set_option linter.unusedSimpArgs false
open Go.RowKit Go.ChangeShapes Go.WideShapes Go.Deep
/-- A decoder made within a call that began at w0. -/
structure S7 (w0 w : World) (d p : Nat) (v : Value) (fs : List FldT) (lim most bound : Int) (dead : Bool) : Prop where
  dec : DecAt w w0.heap.size d p v fs lim most bound dead
  hd : w0.heap.size ≤ d
  hp : w0.heap.size ≤ p
  hv : ∀ k, v.ownBlock = some k → w0.heap.size ≤ k
  dp : d ≠ p
  dv : ∀ k, v.ownBlock = some k → k ≠ d
  fr : Fresh w0 w
  l0 : 0 ≤ lim
  l1 : lim ≤ most
  hm : most ≤ 65536
  tz : (tz fs : Int) ≤ lim
  b0 : 0 ≤ bound
  b1 : bound ≤ 16384
/-- What a decoder's call may change, by its types. -/
def Far7 (w w' : World) : Prop := Fresh w w' ∨ ∃ S : Nat → Prop, Only S w w' ∧ ∀ g t cs, Blk w g t cs → t ≠ 90 → t ≠ 111 → t ≠ 62 → ¬ S g
section
variable {w0 w w' : World} {d p c : Nat} {v : Value} {A : Option Addr} {xs : List LnD} {fs : List FldT} {lim most bound : Int} {dead : Bool}
theorem S7.fresh (h : S7 w0 w d p v fs lim most bound dead) (hf : Fresh w w') : S7 w0 w' d p v fs lim most bound dead := { h with dec := h.dec.fresh hf, fr := h.fr.trans hf }
theorem S7.len (h : S7 w0 w d p v fs lim most bound dead) : fs.length ≤ 1000000 := by
  have := tz_lenD fs
  have := h.tz
  have := h.l1
  have := h.hm
  omega
theorem S7.only {S : Nat → Prop} (h : S7 w0 w d p v fs lim most bound dead) (ho : Only S w w') (hs : ∀ k, S k → w0.heap.size ≤ k) (ht : ∀ g t cs, Blk w g t cs → S g → t ≠ 90 ∧ t ≠ 111 ∧ t ≠ 62) : S7 w0 w' d p v fs lim most bound dead :=
  { h with
    dec := h.dec.only ho (fun e => (ht _ _ _ h.dec.blk e).1 rfl) (fun e => (ht _ _ _ h.dec.tab.blk e).2.1 rfl) (fun k hk e => by
      obtain ⟨cs, hb⟩ := ownBlkD h.dec.tab.own hk
      exact (ht _ _ _ hb e).2.2 rfl)
    fr := Below.trans h.fr (Only.below ho h.fr.size hs) }
theorem Far7.blk (h : Far7 w w') {g : Nat} {t : TypeId} {cs : Array Value} (hb : Blk w g t cs) (h1 : t ≠ 90) (h2 : t ≠ 111) (h3 : t ≠ 62) : Blk w' g t cs := by
  rcases h with h | ⟨S, ho, hs⟩
  · exact hb.fresh h
  · exact hb.only ho (hs _ _ _ hb h1 h2 h3)
/-- What a decoder reads of a block. -/
def rd7 (most bound : Int) (dead : Bool) (fs : List FldT) (lim : Int) (l : List UInt8) : Nat × List LnD × List FldT × Int := if dead = true then (25, [], fs, lim) else blockR most bound l.length fs lim 0 [] l
theorem rd7_inv (h : S7 w0 w d p v fs lim most bound dead) (l : List UInt8) : Inv7 most bound (rd7 most bound dead fs lim l) := by
  unfold rd7
  split
  · exact ⟨h.l0, h.l1, h.tz, fun _ => rfl, by simpa [tz] using h.b0⟩
  · exact blockR_inv most bound h.b0 _ _ _ _ _ _ h.l0 h.l1 h.tz rfl h.b0
/-- Lines that a decoder told. -/
structure Lns (w : World) (A : Option Addr) (c : Nat) (xs : List LnD) : Prop where
  rows : Many lnD 3 w A xs
  row : 0 < xs.length → ∃ g cs, A = some ⟨g, 0, none⟩ ∧ Blk w g 64 cs
  le : xs.length ≤ c
  max : c ≤ maxLen
theorem Lns.nil (w : World) : Lns w none 0 [] := ⟨Many.nil _ _ _ _, fun h => by simp at h, by simp, by simp [maxLen]⟩
theorem Lns.fresh (h : Lns w A c xs) (hf : Fresh w w') : Lns w' A c xs := ⟨h.rows.fresh hf, fun hn => by
  obtain ⟨g, cs, e, hb⟩ := h.row hn
  exact ⟨g, cs, e, hb.fresh hf⟩, h.le, h.max⟩
theorem Lns.far (hf : Far7 w w') (h : Lns w A c xs) : Lns w' A c xs := by
  rcases hf with hf | ⟨S, ho, hs⟩
  · exact h.fresh hf
  · refine ⟨fun hn => ?_, fun hn => ?_, h.le, h.max⟩
    · obtain ⟨b, o, e, hb, hc⟩ := h.rows hn
      obtain ⟨g, cs, e', hg⟩ := h.row hn
      rw [e] at e'
      simp at e'
      obtain ⟨rfl, rfl⟩ := e'
      exact ⟨b, 0, e, by have := ho.size; omega, fun k hk j hj => (ho.cell (p := ⟨b, _, none⟩) hb (hs _ _ _ hg (by decide) (by decide) (by decide))).trans (hc k hk j hj)⟩
    · obtain ⟨g, cs, e, hg⟩ := h.row hn
      exact ⟨g, cs, e, hg.only ho (hs _ _ _ hg (by decide) (by decide) (by decide))⟩
theorem Lns.only {S : Nat → Prop} (ho : Only S w w') (hs : ∀ g cs, Blk w g 64 cs → ¬ S g) (h : Lns w A c xs) : Lns w' A c xs := by
  refine ⟨fun hn => ?_, fun hn => ?_, h.le, h.max⟩
  · obtain ⟨b, o, e, hb, hc⟩ := h.rows hn
    obtain ⟨g, cs, e', hg⟩ := h.row hn
    rw [e] at e'
    simp at e'
    obtain ⟨rfl, rfl⟩ := e'
    exact ⟨b, 0, e, by have := ho.size; omega, fun k hk j hj => (ho.cell (p := ⟨b, _, none⟩) hb (hs _ _ hg)).trans (hc k hk j hj)⟩
  · obtain ⟨g, cs, e, hg⟩ := h.row hn
    exact ⟨g, cs, e, hg.only ho (hs _ _ hg)⟩
theorem Lns.own {base n : Nat} (h : Own w base 64 3 (.slice A n c) n (rowL xs)) (hn : n = xs.length) : Lns w A c xs := by
  subst hn
  obtain ⟨A2, c2, e2, hle, hmx, _⟩ := h.slice
  injection e2 with e3 e4 e5
  subst e3 e5
  exact ⟨own_manyL h, fun h0 => by
    obtain ⟨g, e, _, _, _, _, cur, hb⟩ := h.pos h0
    exact ⟨g, cur, e, hb⟩, hle, hmx⟩
def Dec7P (w0 w : World) (d p : Nat) (v : Value) (most bound : Int) (R : Nat × List LnD × List FldT × Int) (e : Ending) (W : World) : Prop :=
  ∃ A1 c1 v', e = .returned (.tuple #[.slice A1 R.2.1.length c1, .int .i64 (R.1 : Int)]) ∧ Lns W A1 c1 R.2.1 ∧ S7 w0 W d p v' R.2.2.1 R.2.2.2 most bound (decide (R.1 ≠ 0)) ∧ Far7 w W
/-- The same, with what may have changed told by blocks. -/
def Dec7Q (w0 w : World) (d p : Nat) (v : Value) (most bound : Int) (R : Nat × List LnD × List FldT × Int) (e : Ending) (W : World) : Prop :=
  ∃ A1 c1 v', e = .returned (.tuple #[.slice A1 R.2.1.length c1, .int .i64 (R.1 : Int)]) ∧ Lns W A1 c1 R.2.1 ∧ S7 w0 W d p v' R.2.2.1 R.2.2.2 most bound (decide (R.1 ≠ 0)) ∧ Far7 w W ∧ Only (fun k => k = d ∨ k = p ∨ v.ownBlock = some k) w W ∧ ∀ k, v'.ownBlock = some k → v.ownBlock = some k ∨ w.heap.size ≤ k
theorem s7_decodeQ (h : S7 w0 w d p v fs lim most bound dead) (A : Option Addr) (c : Nat) (l : List UInt8) (hlc : l.length ≤ c) (hcm : c ≤ maxLen) (hB : BS w A l) (hni : NotIn p v A l) (hl : l.length ≤ 100000000) :
    Calls Tryz.prog 52 #[.pointer (some ⟨d, 0, none⟩), .slice A l.length c] w (Dec7Q w0 w d p v most bound (rd7 most bound dead fs lim l)) := by
  have hinv := rd7_inv h l
  have hsz := h.fr.size
  cases dead with
  | true =>
    refine (de_decode_dead w0.heap.size d p v fs lim most bound A l.length c w h.dec).mono ?_
    rintro e w' ⟨rfl, rfl⟩
    exact ⟨none, 0, v, rfl, Lns.nil _, by simpa [rd7] using h, .inl (Fresh.refl _), Only.refl _ _, fun k hk => .inl hk⟩
  | false =>
    have hR : rd7 most bound false fs lim l = blockR most bound l.length fs lim 0 [] l := by simp [rd7]
    rw [hR] at hinv ⊢
    refine (de_decode w0.heap.size d p v fs lim most bound A c l w h.dec hsz h.l0 h.l1 h.hm h.tz h.dp h.dv h.b0 h.b1 hl hlc hcm hB hni).mono ?_
    generalize blockR most bound l.length fs lim 0 [] l = R at *
    have hty : ∀ (S : Nat → Prop), (∀ k, S k → k = d ∨ k = p ∨ v.ownBlock = some k) → ∀ g t cs, Blk w g t cs → t ≠ 90 → t ≠ 111 → t ≠ 62 → ¬ S g := by
      intro S hS g t cs hb h1 h2 h3 hs
      rcases hS g hs with e | e | e
      · exact hb.ne h.dec.blk h1 e
      · exact hb.ne h.dec.tab.blk h2 e
      · obtain ⟨cs', hb'⟩ := ownBlkD h.dec.tab.own e
        exact hb.ne hb' h3 rfl
    have hlow : ∀ k, (k = d ∨ k = p ∨ v.ownBlock = some k) → w0.heap.size ≤ k := by
      rintro k (e | e | e)
      · rw [e]; exact h.hd
      · rw [e]; exact h.hp
      · exact h.hv k e
    rintro e W (⟨v', A', c', h0, rfl, hk⟩ | ⟨v', h0, rfl, hdec, hg, hdv, ho⟩)
    · have ho : Only (fun k => k = p ∨ v.ownBlock = some k) w W := hk.only
      refine ⟨A', c', v', by rw [h0]; rfl, Lns.own hk.own rfl, ⟨?_, h.hd, h.hp, fun k hk' => ?_, h.dp, hk.dv, Below.trans h.fr (Only.below ho hsz (fun k e => hlow k (.inr e))), hinv.l0, hinv.l1, h.hm, hinv.tz, h.b0, h.b1⟩, .inr ⟨_, ho, hty _ (fun k e => .inr e)⟩, ho.mono (fun k e => .inr e), hk.grow⟩
      · rw [h0]; exact hk.dec
      · rcases hk.grow k hk' with e | e
        · exact h.hv k e
        · omega
    · refine ⟨none, 0, v', by rw [hinv.no h0]; rfl, by rw [hinv.no h0]; exact Lns.nil _, ⟨?_, h.hd, h.hp, fun k hk' => ?_, h.dp, hdv, Below.trans h.fr (Only.below ho hsz hlow), hinv.l0, hinv.l1, h.hm, hinv.tz, h.b0, h.b1⟩, .inr ⟨_, ho, hty _ (fun k e => e)⟩, ho, hg⟩
      · simp only [h0, ne_eq, not_false_eq_true, decide_true]; exact hdec
      · rcases hg k hk' with e | e
        · exact h.hv k e
        · omega
theorem s7_decodeN (h : S7 w0 w d p v fs lim most bound dead) (A : Option Addr) (c : Nat) (l : List UInt8) (hlc : l.length ≤ c) (hcm : c ≤ maxLen) (hB : BS w A l) (hni : NotIn p v A l) (hl : l.length ≤ 100000000) :
    Calls Tryz.prog 52 #[.pointer (some ⟨d, 0, none⟩), .slice A l.length c] w (Dec7P w0 w d p v most bound (rd7 most bound dead fs lim l)) :=
  (s7_decodeQ h A c l hlc hcm hB hni hl).mono (fun e w' ⟨A1, c1, v', h1, h2, h3, h4, _, _⟩ => ⟨A1, c1, v', h1, h2, h3, h4⟩)
theorem S7.notIn (h : S7 w0 w d p v fs lim most bound dead) (b : BSl) (hb : b.Ok w0) : NotIn p v b.A b.l := fun hn b' o e hh => by
  obtain ⟨b2, o2, e2, hlt, _⟩ := hb.bs hn
  rw [e] at e2
  injection e2 with e2
  injection e2 with e3 _ _
  subst e3
  rcases hh with hh | hh
  · have := h.hp; omega
  · have := h.hv _ hh; omega
theorem S7.apart {S : Nat → Prop} (h : S7 w0 w d p v fs lim most bound dead) (ho : Only S w w') (hs : ∀ k, S k → w0.heap.size ≤ k) (h1 : ¬ S d) (h2 : ¬ S p) (h3 : ∀ k, v.ownBlock = some k → ¬ S k) : S7 w0 w' d p v fs lim most bound dead :=
  { h with dec := h.dec.only ho h1 h2 h3, fr := Below.trans h.fr (Only.below ho h.fr.size hs) }
theorem S7.low (h : S7 w0 w d p v fs lim most bound dead) : ∀ k, (k = d ∨ k = p ∨ v.ownBlock = some k) → w0.heap.size ≤ k := by
  rintro k (e | e | e)
  · rw [e]; exact h.hd
  · rw [e]; exact h.hp
  · exact h.hv k e
theorem s7_decode (h : S7 w0 w d p v fs lim most bound dead) (b : BSl) (hb : b.Ok w0) (hl : b.l.length ≤ 100000000) :
    Calls Tryz.prog 52 #[.pointer (some ⟨d, 0, none⟩), .slice b.A b.l.length b.c] w (Dec7P w0 w d p v most bound (rd7 most bound dead fs lim b.l)) := by
  have hni : NotIn p v b.A b.l := fun hn b' o e hh => by
    obtain ⟨b2, o2, e2, hlt, _⟩ := hb.bs hn
    rw [e] at e2
    injection e2 with e2
    injection e2 with e3 _ _
    subst e3
    rcases hh with hh | hh
    · have := h.hp; omega
    · have := h.hv _ hh; omega
  exact s7_decodeN h b.A b.c b.l hb.le (by have := hb.max; unfold maxLen; omega) (hb.bs.fresh h.fr) hni hl
end
theorem s7_new (most bound : Int) (h0 : 0 ≤ most) (h1 : most ≤ 65536) (hb0 : 0 ≤ bound) (hb1 : bound ≤ 16384) (w0 w : World) (hf : Fresh w0 w) :
    Calls Tryz.prog 19 #[.int .i64 most, .int .i64 bound] w fun e w' => ∃ d p, e = .returned (.tuple #[.pointer (some ⟨d, 0, none⟩), .int .i64 0]) ∧ S7 w0 w' d p (.slice none 0 0) [] most most bound false ∧ Fresh w w' := by
  refine (de_new most bound w h0 h1 hb0 hb1).mono ?_
  rintro e w' ⟨d, p, rfl, hp, hd, hdec, hf2⟩
  have := hf.size
  exact ⟨d, p, rfl, ⟨hdec _, by omega, by omega, (fun k hk => by cases hk), by omega, (fun k hk => by cases hk), hf.trans hf2, h0, Int.le_refl _, h1, by simpa [tz] using h0, hb0, hb1⟩, hf2⟩
/-- A case: a decoder's numbers, and blocks. -/
structure Case7 where
  (most bound : Int) (bs : BSls)
def Case7.cells (z : Case7) : List Value := [.int .i64 z.most, .int .i64 z.bound, .slice z.bs.A z.bs.xs.length z.bs.c]
def Case7.v (z : Case7) : Value := .agg #[.int .i64 z.most, .int .i64 z.bound, .slice z.bs.A z.bs.xs.length z.bs.c]
structure Case7.Ok (w : World) (z : Case7) : Prop where
  m0 : -9223372036854775808 ≤ z.most
  m1 : z.most ≤ 9223372036854775807
  b0 : -9223372036854775808 ≤ z.bound
  b1 : z.bound ≤ 9223372036854775807
  bs : z.bs.Ok w
/-- A case may be gone through. -/
structure Case7.Small (z : Case7) : Prop where
  m0 : 0 ≤ z.most
  m1 : z.most ≤ 65536
  b0 : 0 ≤ z.bound
  b1 : z.bound ≤ 16384
  n : z.bs.xs.length ≤ 120
  l : ∀ b ∈ z.bs.xs, b.l.length ≤ 600
def sum5 (xs : List BSl) : Nat := (xs.map (fun b => 5 + b.l.length)).sum
theorem sum5_take (xs : List BSl) (k : Nat) (b : BSl) (h : xs[k]? = some b) : sum5 (xs.take (k + 1)) = sum5 (xs.take k) + (5 + b.l.length) := by
  obtain ⟨hk, rfl⟩ := List.getElem?_eq_some_iff.1 h
  rw [List.take_succ_eq_append_getElem hk]
  unfold sum5
  rw [List.map_append, List.sum_append]
  simp
theorem sum5_mem {xs : List BSl} {b : BSl} (h : b ∈ xs) : 5 + b.l.length ≤ sum5 xs := by
  induction xs with
  | nil => cases h
  | cons y r ih =>
    unfold sum5 at *
    rw [List.map_cons, List.sum_cons]
    rcases List.mem_cons.1 h with rfl | h
    · omega
    · have := ih h; omega
theorem sum5_len (xs : List BSl) : 5 * xs.length ≤ sum5 xs := by
  induction xs with
  | nil => simp [sum5]
  | cons y r ih =>
    unfold sum5 at *
    rw [List.map_cons, List.sum_cons, List.length_cons]
    omega
theorem r7_nums {s k m n : Nat} (h : s ≤ 600) (hm : m ≤ 140737488351232) (hk : k < n) (hn : n ≤ 140737488351232) : IntKind.i64.wrap (5 + (m : Int)) = 5 + (m : Int) ∧ IntKind.i64.wrap ((s : Int) + (5 + (m : Int))) = (s : Int) + (5 + (m : Int)) ∧ ((s + (5 + m) : Nat) : Int) = (s : Int) + (5 + (m : Int)) ∧ (k : Int) < (n : Int) ∧ IntKind.i64.wrap ((k : Int) + 1) = (k : Int) + 1 := ⟨IntWalk.i64_in _ (by omega), IntWalk.i64_in _ (by omega), by omega, by omega, IntWalk.i64_in _ (by omega)⟩
def Right7P (z : Case7) (w : World) (e : Ending) (w' : World) : Prop := ∃ r : Bool, e = .returned (.bool r) ∧ (r = true → z.Small) ∧ Fresh w w'
end Go.Proofs.YtginhebfjbhmnaaGreat

/-
  Package inbound: a reader, as it lies; New.
-/
namespace Go.Proofs.YtginhebfjbhmnaaGreat
set_option maxRecDepth 100000
set_option linter.unusedVariables false
set_option linter.unusedSimpArgs false
open Go.RowKit
/-- A reader's blocks and rows. -/
structure InB where
  (p rp ap dp pp : Nat) (v1 v2 v3 : Value)
def InB.has (B : InB) (k : Nat) : Prop := k = B.p ∨ k = B.rp ∨ k = B.ap ∨ k = B.dp ∨ k = B.pp ∨ B.v1.ownBlock = some k ∨ B.v2.ownBlock = some k ∨ B.v3.ownBlock = some k
def InB.arr (B : InB) (bg : Bool) : Array Value := #[.pointer (some ⟨B.rp, 0, none⟩), .pointer (some ⟨B.ap, 0, none⟩), .pointer (some ⟨B.dp, 0, none⟩), .bool bg, .bool false]
/-- A living reader: the bytes l wait, of no whole frame, and the part s, of no whole block. -/
structure IbAt (w0 w : World) (B : InB) (l : List UInt8) (s : Option Part) (bg : Bool) : Prop where
  blk : Blk w B.p 54 (B.arr bg)
  rs : RsAt w B.rp 16384 l B.v1
  asm : AsAt w B.ap 16384 s B.v2
  de : S7 w0 w B.dp B.pp B.v3 [] 0 0 16384 false
  lp : w0.heap.size ≤ B.p ∧ w0.heap.size ≤ B.rp ∧ w0.heap.size ≤ B.ap
  lv : (∀ k, B.v1.ownBlock = some k → w0.heap.size ≤ k) ∧ ∀ k, B.v2.ownBlock = some k → w0.heap.size ≤ k
  dis : ∀ k, B.v1.ownBlock = some k → ¬ B.v2.ownBlock = some k
theorem AsAt.blk5 {w : World} {p : Nat} {lim : Int} {s : Option Part} {v : Value} (h : AsAt w p lim s v) : ∃ cs, Blk w p 85 cs := by
  cases s with
  | none => exact ⟨_, (h.idle rfl).1⟩
  | some x =>
    obtain ⟨st, l, b⟩ := x
    exact ⟨_, (h.part st l b rfl).1⟩
theorem AsAt.own8 {w : World} {p : Nat} {lim : Int} {s : Option Part} {v : Value} (h : AsAt w p lim s v) {k : Nat} (hk : v.ownBlock = some k) : ∃ cs, Blk w k 5 cs := by
  cases s with
  | none => obtain ⟨_, rfl⟩ := h.idle rfl; cases hk
  | some x =>
    obtain ⟨st, l, b⟩ := x
    exact own_blk (h.part st l b rfl).2.1 hk
theorem IbAt.lt {w0 w : World} {B : InB} {l : List UInt8} {s : Option Part} {bg : Bool} (h : IbAt w0 w B l s bg) {k : Nat} (hk : B.has k) : k < w.heap.size ∧ w0.heap.size ≤ k := by
  rcases hk with rfl | rfl | rfl | rfl | rfl | hk | hk | hk
  · exact ⟨h.blk.lt, h.lp.1⟩
  · exact ⟨h.rs.blk.lt, h.lp.2.1⟩
  · exact ⟨h.asm.lt.1, h.lp.2.2⟩
  · exact ⟨h.de.dec.blk.lt, h.de.hd⟩
  · exact ⟨h.de.dec.tab.blk.lt, h.de.hp⟩
  · exact ⟨(h.rs.ne _ hk).2, h.lv.1 _ hk⟩
  · exact ⟨(h.asm.lt.2 _ hk).2, h.lv.2 _ hk⟩
  · exact ⟨(h.de.dec.tab.ne _ hk).2, h.de.hv _ hk⟩
theorem IbAt.only {S : Nat → Prop} {w0 w w' : World} {B : InB} {l : List UInt8} {s : Option Part} {bg : Bool} (h : IbAt w0 w B l s bg) (ho : Only S w w') (hs : ∀ k, B.has k → ¬ S k) (hl : ∀ k, S k → w0.heap.size ≤ k) : IbAt w0 w' B l s bg :=
  ⟨h.blk.only ho (hs _ (.inl rfl)), h.rs.only ho (hs _ (.inr (.inl rfl))) (fun k hk => hs _ (.inr (.inr (.inr (.inr (.inr (.inl hk))))))), h.asm.only ho (hs _ (.inr (.inr (.inl rfl)))) (fun k hk => hs _ (.inr (.inr (.inr (.inr (.inr (.inr (.inl hk)))))))),
    h.de.apart ho hl (hs _ (.inr (.inr (.inr (.inl rfl))))) (hs _ (.inr (.inr (.inr (.inr (.inl rfl)))))) (fun k hk => hs _ (.inr (.inr (.inr (.inr (.inr (.inr (.inr hk)))))))), h.lp, h.lv, h.dis⟩
theorem IbAt.fresh {w0 w w' : World} {B : InB} {l : List UInt8} {s : Option Part} {bg : Bool} (h : IbAt w0 w B l s bg) (hf : Fresh w w') : IbAt w0 w' B l s bg :=
  ⟨h.blk.fresh hf, h.rs.fresh hf, h.asm.fresh hf, h.de.fresh hf, h.lp, h.lv, h.dis⟩
/-- A dead one. -/
def InDead (w : World) (p : Nat) : Prop := Blk w p 54 #[.pointer none, .pointer none, .pointer none, .bool false, .bool true]
/-- A decoder without room stays as it was. -/
theorem rd7_zero (l : List UInt8) {er : Nat} {xs : List LnD} {fs : List FldT} {lm : Int} (h : rd7 0 16384 false [] 0 l = (er, xs, fs, lm)) (hi : Inv7 0 16384 (rd7 0 16384 false [] 0 l)) : fs = [] ∧ lm = 0 := by
  rw [h] at hi
  have h0 := hi.l0
  have h1 := hi.l1
  have h2 := hi.tz
  simp only at h0 h1 h2
  obtain rfl : lm = 0 := by omega
  refine ⟨?_, rfl⟩
  have := tz_lenD fs
  cases fs with
  | nil => rfl
  | cons f r => simp at this h2; omega
theorem s7_newI (most bound : Int) (h0 : 0 ≤ most) (h1 : most ≤ 65536) (hb0 : 0 ≤ bound) (hb1 : bound ≤ 16384) (w0 w : World) (hf : Fresh w0 w) :
    Calls Tryz.prog 19 #[.int .i64 most, .int .i64 bound] w fun e w' => ∃ d p, e = .returned (.tuple #[.pointer (some ⟨d, 0, none⟩), .int .i64 0]) ∧ S7 w0 w' d p (.slice none 0 0) [] most most bound false ∧ Fresh w w' ∧ w.heap.size ≤ d ∧ w.heap.size ≤ p := by
  refine (de_new most bound w h0 h1 hb0 hb1).mono ?_
  rintro e w' ⟨d, p, rfl, hp, hd, hdec, hf2⟩
  have := hf.size
  exact ⟨d, p, rfl, ⟨hdec _, by omega, by omega, (fun k hk => by cases hk), by omega, (fun k hk => by cases hk), hf.trans hf2, h0, Int.le_refl _, h1, by simpa [tz] using h0, hb0, hb1⟩, hf2, by omega, hp⟩
def InNewP (w0 w : World) (e : Ending) (w' : World) : Prop := ∃ B : InB, e = .returned (.pointer (some ⟨B.p, 0, none⟩)) ∧ IbAt w0 w' B [] none false ∧ (∀ k, B.has k → w.heap.size ≤ k) ∧ Fresh w w'
set_option maxHeartbeats 3200000 in
theorem in_new (w0 w : World) (hf0 : Fresh w0 w) : Calls Tryz.prog 7 #[] w (InNewP w0 w) := by
  have HR := Lib.hid (fun W => rnew 16384 W (by decide) (by decide))
  have HA := Lib.hid (fun W => asNew 16384 W (by decide) (by decide))
  have HD := Lib.hid (fun W (h : Fresh w0 W) => s7_newI 0 16384 (by decide) (by decide) (by decide) (by decide) w0 W h)
  unfold RNew at HR
  have HF0 := Lib.hid hf0
  have HFIN : Hid (∀ B W, IbAt w0 W B [] none false → (∀ k, B.has k → w.heap.size ≤ k) → Fresh w W → InNewP w0 w (.returned (.pointer (some ⟨B.p, 0, none⟩))) W) := Lib.hid (fun B W h1 h2 h3 => ⟨B, rfl, h1, h2, h3⟩)
  clear hf0
  generalize InNewP w0 w = PP at *
  go_enter Tryz.func7, Tryz.ntmps7
  go_upto_region 2 with fail
  refine wp_gen (fun W => Blk W w.heap.size 54 #[.pointer none, .pointer none, .pointer none, .bool false, .bool false] ∧ Fresh w W) ⟨Blk.new _ _ _, Fresh.alloc _ _⟩ ?_
  rintro W1 ⟨hb1, hf1⟩
  obtain ⟨p, hp⟩ : ∃ p, w.heap.size = p := ⟨_, rfl⟩
  have HP := Lib.hid hp
  rw [hp] at hb1 ⊢
  have HB1 := Lib.hid hb1
  have HF1 := Lib.hid hf1
  clear hb1 hf1 hp
  go_wp2_with fail
  with_reducible refine (HR.out _).mono ?_
  rintro e W2 ⟨rp, rfl, hrp, hrs, hf2⟩
  have HB2 := Lib.hid (HB1.out.fresh hf2)
  have HRS := Lib.hid hrs
  have HF2 := Lib.hid (HF1.out.trans hf2)
  have HRP : Hid (p < rp) := Lib.hid (by have := HB1.out.lt; omega)
  clear hrs hf2 hrp HB1
  have x0 := HB2.out.cell 0
  have z0 := HB2.out.frozen 0
  simp at x0
  go_upto_region 3 with fail
  refine wp_gen (fun W => Blk W p 54 #[.pointer (some ⟨rp, 0, none⟩), .pointer none, .pointer none, .bool false, .bool false] ∧ RsAt W rp 16384 [] (.slice none 0 0) ∧ Fresh w W) ⟨HB2.out.set2 rfl, HRS.out.only (Only.setCell _ _ _) (by have := HRP.out; simp only; omega) (fun k hk => by cases hk), HF2.out.step _ _ (by have := HP.out; simp only; omega)⟩ ?_
  clear x0 z0 HB2 HRS HF2
  rintro W3 ⟨hb3, hrs, hf3⟩
  have HB3 := Lib.hid hb3
  have HRS := Lib.hid hrs
  have HF3 := Lib.hid hf3
  clear hb3 hrs hf3
  go_wp2_with fail
  with_reducible refine (HA.out _).mono ?_
  rintro e W4 ⟨ap, rfl, hap, has, hf4⟩
  have HB4 := Lib.hid (HB3.out.fresh hf4)
  have HAP : Hid (rp < ap) := Lib.hid (by have := HRS.out.blk.lt; omega)
  have HRS := Lib.hid (HRS.out.fresh hf4)
  have HAS := Lib.hid has
  have HF4 := Lib.hid (HF3.out.trans hf4)
  clear has hf4 hap HB3
  have x1 := HB4.out.cell 1
  have z1 := HB4.out.frozen 1
  simp at x1
  go_upto_region 4 with fail
  refine wp_gen (fun W => Blk W p 54 #[.pointer (some ⟨rp, 0, none⟩), .pointer (some ⟨ap, 0, none⟩), .pointer none, .bool false, .bool false] ∧ RsAt W rp 16384 [] (.slice none 0 0) ∧ AsAt W ap 16384 none (.slice none 0 0) ∧ Fresh w W) ⟨HB4.out.set2 rfl, HRS.out.only (Only.setCell _ _ _) (by have := HRP.out; simp only; omega) (fun k hk => by cases hk), HAS.out.only (Only.setCell _ _ _) (by have := HRP.out; have := HAP.out; simp only; omega) (fun k hk => by cases hk), HF4.out.step _ _ (by have := HP.out; simp only; omega)⟩ ?_
  clear x1 z1 HB4 HRS HAS HF4
  rintro W5 ⟨hb5, hrs, has, hf5⟩
  have HB5 := Lib.hid hb5
  have HRS := Lib.hid hrs
  have HAS := Lib.hid has
  have HF5 := Lib.hid hf5
  clear hb5 hrs has hf5
  go_wp2_with fail
  with_reducible refine (HD.out _ (HF0.out.trans HF5.out)).mono ?_
  rintro e W6 ⟨d, q, rfl, hs7, hf6, hdl, hql⟩
  have hdb := hs7.dec.blk
  have hqb := hs7.dec.tab.blk
  have hb6 := HB5.out.fresh hf6
  have HIN : Hid (IbAt w0 (W6.setCell ⟨p, 2, none⟩ (.pointer (some ⟨d, 0, none⟩))) ⟨p, rp, ap, d, q, .slice none 0 0, .slice none 0 0, .slice none 0 0⟩ [] none false) := Lib.hid (by
    have ho := Only.setCell W6 ⟨p, 2, none⟩ (.pointer (some ⟨d, 0, none⟩))
    have h1 := HRP.out
    have h2 := HAP.out
    have h3 := HP.out
    have h4 := HF0.out.size
    refine ⟨hb6.set2 rfl, (HRS.out.fresh hf6).only ho (by simp only; omega) (fun k hk => by cases hk), (HAS.out.fresh hf6).only ho (by simp only; omega) (fun k hk => by cases hk), hs7.apart ho (fun k e => by subst e; omega) (fun e => (hb6.ne hdb (by decide)) e.symm) (fun e => (hb6.ne hqb (by decide)) e.symm) (fun k hk => by cases hk), ⟨(by omega : w0.heap.size ≤ p), (by omega : w0.heap.size ≤ rp), (by omega : w0.heap.size ≤ ap)⟩, ⟨fun k hk => (by cases hk), fun k hk => (by cases hk)⟩, fun k hk => (by cases hk)⟩)
  have HLO : Hid (∀ k, (⟨p, rp, ap, d, q, .slice none 0 0, .slice none 0 0, .slice none 0 0⟩ : InB).has k → w.heap.size ≤ k) := Lib.hid (by
    have h1 := HRP.out
    have h2 := HAP.out
    have h3 := HP.out
    have h5 := HF5.out.size
    rintro k (rfl | rfl | rfl | rfl | rfl | hk | hk | hk)
    · omega
    · omega
    · omega
    · omega
    · omega
    · cases hk
    · cases hk
    · cases hk)
  have HF6 := Lib.hid (HF5.out.trans hf6)
  have HB6 := Lib.hid hb6
  clear hs7 hdb hqb hb6 hf6 hdl hql HB5 HRS HAS
  have x2 := HB6.out.cell 2
  have z2 := HB6.out.frozen 2
  simp at x2
  go_wp2_with fail
  exact HFIN.out _ _ HIN.out HLO.out (HF6.out.step _ _ (by have := HP.out; simp only; omega))
end Go.Proofs.YtginhebfjbhmnaaGreat

