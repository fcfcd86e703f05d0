/-
  Texts laid together: DecR DecS NotN.
-/
import Derived.Test.YtapikjhfgcbifaaGreatDoorDecK2
import Derived.Test.YtapikjhfgcbifaaGreatDoorEqM
import Derived.Test.YtapikjhfgcbifaaGreatDoorShapeW
/-
  Layer 7: what a block's reading keeps; the laws' own lines and table.
-/
namespace Go.Proofs.YtapikjhfgcbifaaGreatDoor
set_option maxRecDepth 100000
set_option linter.unusedVariables false
set_option linter.unusedSimpArgs false
open Go.RowKit
/-- What stands of a table and of lines while a block is read. -/
structure Inv7 (most bound : Int) (R : Nat × List LnD × List FldT × Int) : Prop where
  l0 : 0 ≤ R.2.2.2
  l1 : R.2.2.2 ≤ most
  tz : (tz R.2.2.1 : Int) ≤ R.2.2.2
  no : R.1 ≠ 0 → R.2.1 = []
  sum : (Go.Proofs.YtapikjhfgcbifaaGreatDoor.tz (R.2.1.map (·.1)) : Int) ≤ bound
theorem blockR_inv (most bound : Int) (hb : 0 ≤ bound) : ∀ (m : Nat) (fs : List FldT) (lim : Int) (size : Nat) (out : List LnD) (l : List UInt8), 0 ≤ lim → lim ≤ most → (tz fs : Int) ≤ lim → size = tz (out.map (·.1)) → (size : Int) ≤ bound → Inv7 most bound (blockR most bound m fs lim size out l)
  | 0, fs, lim, size, out, l, h0, h1, h2, h3, h4 => by
    rw [show blockR most bound 0 fs lim size out l = (0, out, fs, lim) from by cases l <;> rfl]
    exact ⟨h0, h1, h2, fun h => absurd rfl h, by simp only; rw [← h3]; exact h4⟩
  | m + 1, fs, lim, size, out, [], h0, h1, h2, h3, h4 => by
    rw [blockR_nil]
    exact ⟨h0, h1, h2, fun h => absurd rfl h, by simp only; rw [← h3]; exact h4⟩
  | m + 1, fs, lim, size, out, c :: r, h0, h1, h2, h3, h4 => by
    have hno : ∀ (e : Nat) (gs : List FldT), (tz gs : Int) ≤ lim → Inv7 most bound (e, [], gs, lim) := fun e gs hg => ⟨h0, h1, hg, fun _ => rfl, by simpa [tz] using hb⟩
    rcases decL_casesB (bitsR c.toNat) (by have := bitsR_bd c.toNat; omega) (c :: r) with he | he | ⟨N, u, he, hu1, hu2, _⟩
    · rw [blockR_num (e := 22) he (by omega)]; exact hno _ _ h2
    · rw [blockR_num (e := 16) he (by omega)]; exact hno _ _ h2
    · by_cases hk : kindR c.toNat = 2
      · by_cases hn : 0 < out.length ∨ most < (N : Int)
        · rw [blockR_lim_no he hk hn]; exact hno _ _ h2
        · rw [blockR_lim he hk hn]
          exact blockR_inv most bound hb m _ _ _ _ _ (by omega) (by omega) (tz_gone_nat fs N) h3 h4
      · rw [blockR_line he _ rfl hk _ rfl]
        have hz := tz_fsL fs lim (kindR c.toNat) N ((c :: r).drop u) h0 h2
        split
        · exact hno _ _ hz
        split
        · exact hno _ _ hz
        · rename_i hbd
          refine blockR_inv most bound hb m _ _ _ _ _ h0 h1 hz ?_ (by omega)
          rw [List.map_append, tz_append, ← h3]
          simp [tz]
theorem run_lines_eq (S : ByteArray) : (S.toList == S.toList) = true := beq_self_eq_true _
end Go.Proofs.YtapikjhfgcbifaaGreatDoor

/-
  Layer 7: a decoder beside the document's state; the laws' own table; right.
-/
namespace Go.Proofs.YtapikjhfgcbifaaGreatDoor
set_option maxRecDepth 100000
set_option linter.unusedVariables false
set_option linter.unusedSimpArgs false
open Go.RowKit Go.ChangeShapes Go.WideShapes Go.Deep
/-- A decoder made within a call that began at w0. -/
structure S7 (w0 w : World) (d p : Nat) (v : Value) (fs : List FldT) (lim most bound : Int) (dead : Bool) : Prop where
  dec : DecAt w w0.heap.size d p v fs lim most bound dead
  hd : w0.heap.size ≤ d
  hp : w0.heap.size ≤ p
  hv : ∀ k, v.ownBlock = some k → w0.heap.size ≤ k
  dp : d ≠ p
  dv : ∀ k, v.ownBlock = some k → k ≠ d
  fr : Fresh w0 w
  l0 : 0 ≤ lim
  l1 : lim ≤ most
  hm : most ≤ 65536
  tz : (tz fs : Int) ≤ lim
  b0 : 0 ≤ bound
  b1 : bound ≤ 16384
/-- What a decoder's call may change, by its types. -/
def Far7 (w w' : World) : Prop := Fresh w w' ∨ ∃ S : Nat → Prop, Only S w w' ∧ ∀ g t cs, Blk w g t cs → t ≠ 78 → t ≠ 92 → t ≠ 29 → ¬ S g
section
variable {w0 w w' : World} {d p c : Nat} {v : Value} {A : Option Addr} {xs : List LnD} {fs : List FldT} {lim most bound : Int} {dead : Bool}
theorem S7.fresh (h : S7 w0 w d p v fs lim most bound dead) (hf : Fresh w w') : S7 w0 w' d p v fs lim most bound dead := { h with dec := h.dec.fresh hf, fr := h.fr.trans hf }
theorem S7.len (h : S7 w0 w d p v fs lim most bound dead) : fs.length ≤ 1000000 := by
  have := tz_lenD fs
  have := h.tz
  have := h.l1
  have := h.hm
  omega
theorem S7.only {S : Nat → Prop} (h : S7 w0 w d p v fs lim most bound dead) (ho : Only S w w') (hs : ∀ k, S k → w0.heap.size ≤ k) (ht : ∀ g t cs, Blk w g t cs → S g → t ≠ 78 ∧ t ≠ 92 ∧ t ≠ 29) : S7 w0 w' d p v fs lim most bound dead :=
  { h with
    dec := h.dec.only ho (fun e => (ht _ _ _ h.dec.blk e).1 rfl) (fun e => (ht _ _ _ h.dec.tab.blk e).2.1 rfl) (fun k hk e => by
      obtain ⟨cs, hb⟩ := ownBlkD h.dec.tab.own hk
      exact (ht _ _ _ hb e).2.2 rfl)
    fr := Below.trans h.fr (Only.below ho h.fr.size hs) }
theorem Far7.blk (h : Far7 w w') {g : Nat} {t : TypeId} {cs : Array Value} (hb : Blk w g t cs) (h1 : t ≠ 78) (h2 : t ≠ 92) (h3 : t ≠ 29) : Blk w' g t cs := by
  rcases h with h | ⟨S, ho, hs⟩
  · exact hb.fresh h
  · exact hb.only ho (hs _ _ _ hb h1 h2 h3)
/-- What a decoder reads of a block. -/
def rd7 (most bound : Int) (dead : Bool) (fs : List FldT) (lim : Int) (l : List UInt8) : Nat × List LnD × List FldT × Int := if dead = true then (25, [], fs, lim) else blockR most bound l.length fs lim 0 [] l
theorem rd7_inv (h : S7 w0 w d p v fs lim most bound dead) (l : List UInt8) : Inv7 most bound (rd7 most bound dead fs lim l) := by
  unfold rd7
  split
  · exact ⟨h.l0, h.l1, h.tz, fun _ => rfl, by simpa [tz] using h.b0⟩
  · exact blockR_inv most bound h.b0 _ _ _ _ _ _ h.l0 h.l1 h.tz rfl h.b0
/-- Lines that a decoder told. -/
structure Lns (w : World) (A : Option Addr) (c : Nat) (xs : List LnD) : Prop where
  rows : Many lnD 3 w A xs
  row : 0 < xs.length → ∃ g cs, A = some ⟨g, 0, none⟩ ∧ Blk w g 38 cs
  le : xs.length ≤ c
  max : c ≤ maxLen
theorem Lns.nil (w : World) : Lns w none 0 [] := ⟨Many.nil _ _ _ _, fun h => by simp at h, by simp, by simp [maxLen]⟩
theorem Lns.fresh (h : Lns w A c xs) (hf : Fresh w w') : Lns w' A c xs := ⟨h.rows.fresh hf, fun hn => by
  obtain ⟨g, cs, e, hb⟩ := h.row hn
  exact ⟨g, cs, e, hb.fresh hf⟩, h.le, h.max⟩
theorem Lns.far (hf : Far7 w w') (h : Lns w A c xs) : Lns w' A c xs := by
  rcases hf with hf | ⟨S, ho, hs⟩
  · exact h.fresh hf
  · refine ⟨fun hn => ?_, fun hn => ?_, h.le, h.max⟩
    · obtain ⟨b, o, e, hb, hc⟩ := h.rows hn
      obtain ⟨g, cs, e', hg⟩ := h.row hn
      rw [e] at e'
      simp at e'
      obtain ⟨rfl, rfl⟩ := e'
      exact ⟨b, 0, e, by have := ho.size; omega, fun k hk j hj => (ho.cell (p := ⟨b, _, none⟩) hb (hs _ _ _ hg (by decide) (by decide) (by decide))).trans (hc k hk j hj)⟩
    · obtain ⟨g, cs, e, hg⟩ := h.row hn
      exact ⟨g, cs, e, hg.only ho (hs _ _ _ hg (by decide) (by decide) (by decide))⟩
theorem Lns.only {S : Nat → Prop} (ho : Only S w w') (hs : ∀ g cs, Blk w g 38 cs → ¬ S g) (h : Lns w A c xs) : Lns w' A c xs := by
  refine ⟨fun hn => ?_, fun hn => ?_, h.le, h.max⟩
  · obtain ⟨b, o, e, hb, hc⟩ := h.rows hn
    obtain ⟨g, cs, e', hg⟩ := h.row hn
    rw [e] at e'
    simp at e'
    obtain ⟨rfl, rfl⟩ := e'
    exact ⟨b, 0, e, by have := ho.size; omega, fun k hk j hj => (ho.cell (p := ⟨b, _, none⟩) hb (hs _ _ hg)).trans (hc k hk j hj)⟩
  · obtain ⟨g, cs, e, hg⟩ := h.row hn
    exact ⟨g, cs, e, hg.only ho (hs _ _ hg)⟩
theorem Lns.own {base n : Nat} (h : Own w base 38 3 (.slice A n c) n (rowL xs)) (hn : n = xs.length) : Lns w A c xs := by
  subst hn
  obtain ⟨A2, c2, e2, hle, hmx, _⟩ := h.slice
  injection e2 with e3 e4 e5
  subst e3 e5
  exact ⟨own_manyL h, fun h0 => by
    obtain ⟨g, e, _, _, _, _, cur, hb⟩ := h.pos h0
    exact ⟨g, cur, e, hb⟩, hle, hmx⟩
def Dec7P (w0 w : World) (d p : Nat) (v : Value) (most bound : Int) (R : Nat × List LnD × List FldT × Int) (e : Ending) (W : World) : Prop :=
  ∃ A1 c1 v', e = .returned (.tuple #[.slice A1 R.2.1.length c1, .int .i64 (R.1 : Int)]) ∧ Lns W A1 c1 R.2.1 ∧ S7 w0 W d p v' R.2.2.1 R.2.2.2 most bound (decide (R.1 ≠ 0)) ∧ Far7 w W
/-- The same, with what may have changed told by blocks. -/
def Dec7Q (w0 w : World) (d p : Nat) (v : Value) (most bound : Int) (R : Nat × List LnD × List FldT × Int) (e : Ending) (W : World) : Prop :=
  ∃ A1 c1 v', e = .returned (.tuple #[.slice A1 R.2.1.length c1, .int .i64 (R.1 : Int)]) ∧ Lns W A1 c1 R.2.1 ∧ S7 w0 W d p v' R.2.2.1 R.2.2.2 most bound (decide (R.1 ≠ 0)) ∧ Far7 w W ∧ Only (fun k => k = d ∨ k = p ∨ v.ownBlock = some k) w W ∧ ∀ k, v'.ownBlock = some k → v.ownBlock = some k ∨ w.heap.size ≤ k
theorem s7_decodeQ (h : S7 w0 w d p v fs lim most bound dead) (A : Option Addr) (c : Nat) (l : List UInt8) (hlc : l.length ≤ c) (hcm : c ≤ maxLen) (hB : BS w A l) (hni : NotIn p v A l) (hl : l.length ≤ 100000000) :
    Calls Tryz.prog 20 #[.pointer (some ⟨d, 0, none⟩), .slice A l.length c] w (Dec7Q w0 w d p v most bound (rd7 most bound dead fs lim l)) := by
  have hinv := rd7_inv h l
  have hsz := h.fr.size
  cases dead with
  | true =>
    refine (de_decode_dead w0.heap.size d p v fs lim most bound A l.length c w h.dec).mono ?_
    rintro e w' ⟨rfl, rfl⟩
    exact ⟨none, 0, v, rfl, Lns.nil _, by simpa [rd7] using h, .inl (Fresh.refl _), Only.refl _ _, fun k hk => .inl hk⟩
  | false =>
    have hR : rd7 most bound false fs lim l = blockR most bound l.length fs lim 0 [] l := by simp [rd7]
    rw [hR] at hinv ⊢
    refine (de_decode w0.heap.size d p v fs lim most bound A c l w h.dec hsz h.l0 h.l1 h.hm h.tz h.dp h.dv h.b0 h.b1 hl hlc hcm hB hni).mono ?_
    generalize blockR most bound l.length fs lim 0 [] l = R at *
    have hty : ∀ (S : Nat → Prop), (∀ k, S k → k = d ∨ k = p ∨ v.ownBlock = some k) → ∀ g t cs, Blk w g t cs → t ≠ 78 → t ≠ 92 → t ≠ 29 → ¬ S g := by
      intro S hS g t cs hb h1 h2 h3 hs
      rcases hS g hs with e | e | e
      · exact hb.ne h.dec.blk h1 e
      · exact hb.ne h.dec.tab.blk h2 e
      · obtain ⟨cs', hb'⟩ := ownBlkD h.dec.tab.own e
        exact hb.ne hb' h3 rfl
    have hlow : ∀ k, (k = d ∨ k = p ∨ v.ownBlock = some k) → w0.heap.size ≤ k := by
      rintro k (e | e | e)
      · rw [e]; exact h.hd
      · rw [e]; exact h.hp
      · exact h.hv k e
    rintro e W (⟨v', A', c', h0, rfl, hk⟩ | ⟨v', h0, rfl, hdec, hg, hdv, ho⟩)
    · have ho : Only (fun k => k = p ∨ v.ownBlock = some k) w W := hk.only
      refine ⟨A', c', v', by rw [h0]; rfl, Lns.own hk.own rfl, ⟨?_, h.hd, h.hp, fun k hk' => ?_, h.dp, hk.dv, Below.trans h.fr (Only.below ho hsz (fun k e => hlow k (.inr e))), hinv.l0, hinv.l1, h.hm, hinv.tz, h.b0, h.b1⟩, .inr ⟨_, ho, hty _ (fun k e => .inr e)⟩, ho.mono (fun k e => .inr e), hk.grow⟩
      · rw [h0]; exact hk.dec
      · rcases hk.grow k hk' with e | e
        · exact h.hv k e
        · omega
    · refine ⟨none, 0, v', by rw [hinv.no h0]; rfl, by rw [hinv.no h0]; exact Lns.nil _, ⟨?_, h.hd, h.hp, fun k hk' => ?_, h.dp, hdv, Below.trans h.fr (Only.below ho hsz hlow), hinv.l0, hinv.l1, h.hm, hinv.tz, h.b0, h.b1⟩, .inr ⟨_, ho, hty _ (fun k e => e)⟩, ho, hg⟩
      · simp only [h0, ne_eq, not_false_eq_true, decide_true]; exact hdec
      · rcases hg k hk' with e | e
        · exact h.hv k e
        · omega
theorem s7_decodeN (h : S7 w0 w d p v fs lim most bound dead) (A : Option Addr) (c : Nat) (l : List UInt8) (hlc : l.length ≤ c) (hcm : c ≤ maxLen) (hB : BS w A l) (hni : NotIn p v A l) (hl : l.length ≤ 100000000) :
    Calls Tryz.prog 20 #[.pointer (some ⟨d, 0, none⟩), .slice A l.length c] w (Dec7P w0 w d p v most bound (rd7 most bound dead fs lim l)) :=
  (s7_decodeQ h A c l hlc hcm hB hni hl).mono (fun e w' ⟨A1, c1, v', h1, h2, h3, h4, _, _⟩ => ⟨A1, c1, v', h1, h2, h3, h4⟩)
theorem S7.notIn (h : S7 w0 w d p v fs lim most bound dead) (b : BSl) (hb : b.Ok w0) : NotIn p v b.A b.l := fun hn b' o e hh => by
  obtain ⟨b2, o2, e2, hlt, _⟩ := hb.bs hn
  rw [e] at e2
  injection e2 with e2
  injection e2 with e3 _ _
  subst e3
  rcases hh with hh | hh
  · have := h.hp; omega
  · have := h.hv _ hh; omega
theorem S7.apart {S : Nat → Prop} (h : S7 w0 w d p v fs lim most bound dead) (ho : Only S w w') (hs : ∀ k, S k → w0.heap.size ≤ k) (h1 : ¬ S d) (h2 : ¬ S p) (h3 : ∀ k, v.ownBlock = some k → ¬ S k) : S7 w0 w' d p v fs lim most bound dead :=
  { h with dec := h.dec.only ho h1 h2 h3, fr := Below.trans h.fr (Only.below ho h.fr.size hs) }
theorem S7.low (h : S7 w0 w d p v fs lim most bound dead) : ∀ k, (k = d ∨ k = p ∨ v.ownBlock = some k) → w0.heap.size ≤ k := by
  rintro k (e | e | e)
  · rw [e]; exact h.hd
  · rw [e]; exact h.hp
  · exact h.hv k e
theorem s7_decode (h : S7 w0 w d p v fs lim most bound dead) (b : BSl) (hb : b.Ok w0) (hl : b.l.length ≤ 100000000) :
    Calls Tryz.prog 20 #[.pointer (some ⟨d, 0, none⟩), .slice b.A b.l.length b.c] w (Dec7P w0 w d p v most bound (rd7 most bound dead fs lim b.l)) := by
  have hni : NotIn p v b.A b.l := fun hn b' o e hh => by
    obtain ⟨b2, o2, e2, hlt, _⟩ := hb.bs hn
    rw [e] at e2
    injection e2 with e2
    injection e2 with e3 _ _
    subst e3
    rcases hh with hh | hh
    · have := h.hp; omega
    · have := h.hv _ hh; omega
  exact s7_decodeN h b.A b.c b.l hb.le (by have := hb.max; unfold maxLen; omega) (hb.bs.fresh h.fr) hni hl
end
theorem s7_new (most bound : Int) (h0 : 0 ≤ most) (h1 : most ≤ 65536) (hb0 : 0 ≤ bound) (hb1 : bound ≤ 16384) (w0 w : World) (hf : Fresh w0 w) :
    Calls Tryz.prog 18 #[.int .i64 most, .int .i64 bound] w fun e w' => ∃ d p, e = .returned (.tuple #[.pointer (some ⟨d, 0, none⟩), .int .i64 0]) ∧ S7 w0 w' d p (.slice none 0 0) [] most most bound false ∧ Fresh w w' := by
  refine (de_new most bound w h0 h1 hb0 hb1).mono ?_
  rintro e w' ⟨d, p, rfl, hp, hd, hdec, hf2⟩
  have := hf.size
  exact ⟨d, p, rfl, ⟨hdec _, by omega, by omega, (fun k hk => by cases hk), by omega, (fun k hk => by cases hk), hf.trans hf2, h0, Int.le_refl _, h1, by simpa [tz] using h0, hb0, hb1⟩, hf2⟩
/-- A case: a decoder's numbers, and blocks. -/
structure Case7 where
  (most bound : Int) (bs : BSls)
def Case7.cells (z : Case7) : List Value := [.int .i64 z.most, .int .i64 z.bound, .slice z.bs.A z.bs.xs.length z.bs.c]
def Case7.v (z : Case7) : Value := .agg #[.int .i64 z.most, .int .i64 z.bound, .slice z.bs.A z.bs.xs.length z.bs.c]
structure Case7.Ok (w : World) (z : Case7) : Prop where
  m0 : -9223372036854775808 ≤ z.most
  m1 : z.most ≤ 9223372036854775807
  b0 : -9223372036854775808 ≤ z.bound
  b1 : z.bound ≤ 9223372036854775807
  bs : z.bs.Ok w
/-- A case may be gone through. -/
structure Case7.Small (z : Case7) : Prop where
  m0 : 0 ≤ z.most
  m1 : z.most ≤ 65536
  b0 : 0 ≤ z.bound
  b1 : z.bound ≤ 16384
  n : z.bs.xs.length ≤ 120
  l : ∀ b ∈ z.bs.xs, b.l.length ≤ 600
def sum5 (xs : List BSl) : Nat := (xs.map (fun b => 5 + b.l.length)).sum
theorem sum5_take (xs : List BSl) (k : Nat) (b : BSl) (h : xs[k]? = some b) : sum5 (xs.take (k + 1)) = sum5 (xs.take k) + (5 + b.l.length) := by
  obtain ⟨hk, rfl⟩ := List.getElem?_eq_some_iff.1 h
  rw [List.take_succ_eq_append_getElem hk]
  unfold sum5
  rw [List.map_append, List.sum_append]
  simp
theorem sum5_mem {xs : List BSl} {b : BSl} (h : b ∈ xs) : 5 + b.l.length ≤ sum5 xs := by
  induction xs with
  | nil => cases h
  | cons y r ih =>
    unfold sum5 at *
    rw [List.map_cons, List.sum_cons]
    rcases List.mem_cons.1 h with rfl | h
    · omega
    · have := ih h; omega
theorem sum5_len (xs : List BSl) : 5 * xs.length ≤ sum5 xs := by
  induction xs with
  | nil => simp [sum5]
  | cons y r ih =>
    unfold sum5 at *
    rw [List.map_cons, List.sum_cons, List.length_cons]
    omega
theorem r7_nums {s k m n : Nat} (h : s ≤ 600) (hm : m ≤ 140737488351232) (hk : k < n) (hn : n ≤ 140737488351232) : IntKind.i64.wrap (5 + (m : Int)) = 5 + (m : Int) ∧ IntKind.i64.wrap ((s : Int) + (5 + (m : Int))) = (s : Int) + (5 + (m : Int)) ∧ ((s + (5 + m) : Nat) : Int) = (s : Int) + (5 + (m : Int)) ∧ (k : Int) < (n : Int) ∧ IntKind.i64.wrap ((k : Int) + 1) = (k : Int) + 1 := ⟨IntWalk.i64_in _ (by omega), IntWalk.i64_in _ (by omega), by omega, by omega, IntWalk.i64_in _ (by omega)⟩
def Right7P (z : Case7) (w : World) (e : Ending) (w' : World) : Prop := ∃ r : Bool, e = .returned (.bool r) ∧ (r = true → z.Small) ∧ Fresh w w'
end Go.Proofs.YtapikjhfgcbifaaGreatDoor

/-
  What is new is not a decoder's.
-/
namespace Go.Proofs.YtapikjhfgcbifaaGreatDoor
set_option linter.unusedVariables false
open Go.RowKit
theorem S7.notNewE {w0 w W : World} {d p g : Nat} {v : Value} {fs : List FldT} {lim most bound : Int} {dead : Bool} {l : List UInt8} {A : Option Addr} (h : S7 w0 w d p v fs lim most bound dead) (hg : ∀ b o, A = some ⟨b, o, none⟩ → w.heap.size ≤ b) : NotIn p v A l ∧ ∀ b o, A = some ⟨b, o, none⟩ → ¬ (b = d ∨ b = p ∨ v.ownBlock = some b) := by
  have key : ∀ b o, A = some ⟨b, o, none⟩ → ¬ (b = d ∨ b = p ∨ v.ownBlock = some b) := fun b o e hh => by
    have hb := hg b o e
    rcases hh with hh | hh | hh
    · have := h.dec.blk.lt; omega
    · have := h.dec.tab.blk.lt; omega
    · have := (h.dec.tab.ne _ hh).2; omega
  exact ⟨fun _ b o e hh => key b o e (.inr hh), key⟩
end Go.Proofs.YtapikjhfgcbifaaGreatDoor

