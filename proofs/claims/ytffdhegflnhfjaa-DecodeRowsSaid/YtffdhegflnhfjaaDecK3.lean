/-
  Texts laid together: DecR DecS DecT DecU DecW.
-/
import Derived.Test.YtffdhegflnhfjaaDecK2
import Derived.Test.YtffdhegflnhfjaaEqS
import Derived.Test.YtffdhegflnhfjaaShapeW
import Derived.Lib.SlBytesConst
/-
  Layer 7: what a block's reading keeps; the laws' own lines and table.
-/
namespace Go.Proofs.Ytffdhegflnhfjaa
set_option maxRecDepth 100000
set_option linter.unusedVariables false
set_option linter.unusedSimpArgs false
open Go.RowKit
/-- What stands of a table and of lines while a block is read. -/
structure Inv7 (most bound : Int) (R : Nat × List LnD × List FldT × Int) : Prop where
  l0 : 0 ≤ R.2.2.2
  l1 : R.2.2.2 ≤ most
  tz : (tz R.2.2.1 : Int) ≤ R.2.2.2
  no : R.1 ≠ 0 → R.2.1 = []
  sum : (Go.Proofs.Ytffdhegflnhfjaa.tz (R.2.1.map (·.1)) : Int) ≤ bound
theorem blockR_inv (most bound : Int) (hb : 0 ≤ bound) : ∀ (m : Nat) (fs : List FldT) (lim : Int) (size : Nat) (out : List LnD) (l : List UInt8), 0 ≤ lim → lim ≤ most → (tz fs : Int) ≤ lim → size = tz (out.map (·.1)) → (size : Int) ≤ bound → Inv7 most bound (blockR most bound m fs lim size out l)
  | 0, fs, lim, size, out, l, h0, h1, h2, h3, h4 => by
    rw [show blockR most bound 0 fs lim size out l = (0, out, fs, lim) from by cases l <;> rfl]
    exact ⟨h0, h1, h2, fun h => absurd rfl h, by simp only; rw [← h3]; exact h4⟩
  | m + 1, fs, lim, size, out, [], h0, h1, h2, h3, h4 => by
    rw [blockR_nil]
    exact ⟨h0, h1, h2, fun h => absurd rfl h, by simp only; rw [← h3]; exact h4⟩
  | m + 1, fs, lim, size, out, c :: r, h0, h1, h2, h3, h4 => by
    have hno : ∀ (e : Nat) (gs : List FldT), (tz gs : Int) ≤ lim → Inv7 most bound (e, [], gs, lim) := fun e gs hg => ⟨h0, h1, hg, fun _ => rfl, by simpa [tz] using hb⟩
    rcases decL_casesB (bitsR c.toNat) (by have := bitsR_bd c.toNat; omega) (c :: r) with he | he | ⟨N, u, he, hu1, hu2, _⟩
    · rw [blockR_num (e := 22) he (by omega)]; exact hno _ _ h2
    · rw [blockR_num (e := 16) he (by omega)]; exact hno _ _ h2
    · by_cases hk : kindR c.toNat = 2
      · by_cases hn : 0 < out.length ∨ most < (N : Int)
        · rw [blockR_lim_no he hk hn]; exact hno _ _ h2
        · rw [blockR_lim he hk hn]
          exact blockR_inv most bound hb m _ _ _ _ _ (by omega) (by omega) (tz_gone_nat fs N) h3 h4
      · rw [blockR_line he _ rfl hk _ rfl]
        have hz := tz_fsL fs lim (kindR c.toNat) N ((c :: r).drop u) h0 h2
        split
        · exact hno _ _ hz
        split
        · exact hno _ _ hz
        · rename_i hbd
          refine blockR_inv most bound hb m _ _ _ _ _ h0 h1 hz ?_ (by omega)
          rw [List.map_append, tz_append, ← h3]
          simp [tz]
theorem run_lines_eq (S : ByteArray) : (S.toList == S.toList) = true := beq_self_eq_true _
set_option maxHeartbeats 1600000 in
theorem l7_lines (A B : Option Addr) (c d : Nat) (xs : List LnD) (w : World) (hx : Many lnD 3 w A xs) (hy : Many lnR 3 w B xs) (hl : xs.length ≤ 1000000) :
    Calls Try.prog 13 #[.slice A xs.length c, .slice B xs.length d] w fun e w' => e = .returned (.bool true) ∧ Fresh w w' := by
  have HX := Lib.hid hx
  have HY := Lib.hid hy
  obtain ⟨n, hn⟩ : ∃ n, xs.length = n := ⟨_, rfl⟩
  have HN := Lib.hid hn
  rw [hn] at hl ⊢
  clear hx hy hn
  go_enter Try.func13, Try.ntmps13
  go_wp2
  go_loopw [13] (fun i wr => ∃ k : Nat, k ≤ n ∧ i = .int .i64 (k : Int) ∧ Fresh w wr) (fun i _ => n - (intOf i).toNat)
  case atStart => exact ⟨0, by omega, rfl, Fresh.refl _⟩
  case round =>
    obtain ⟨k, hk, rfl, hf⟩ := hrel
    by_cases hlt : k < n
    · have hlt' : (k : Int) < (n : Int) := by omega
      obtain ⟨x, hxk⟩ : ∃ x, xs[k]? = some x := ⟨_, List.getElem?_eq_getElem (by rw [HN.out]; exact hlt)⟩
      obtain ⟨b, o, rfl, hb, h0, h1, h2⟩ := HX.out.lnAt k x hxk
      have hkl : k < xs.length := (List.getElem?_eq_some_iff.1 hxk).1
      obtain ⟨b', o', rfl, hb', hc'⟩ := HY.out (by omega)
      have g0 := hc' k hkl 0 (by omega)
      have g1 := hc' k hkl 1 (by omega)
      have g2 := hc' k hkl 2 (by omega)
      rw [(List.getElem?_eq_some_iff.1 hxk).2] at g0 g1 g2
      obtain ⟨⟨F1, F2⟩, nv⟩ := x
      simp only [lnR, List.getElem?_cons_zero, List.getElem?_cons_succ, Nat.add_zero] at g0 g1 g2 h0 h1 h2
      have h0 := (hf.cell (p := ⟨b, o + k * 3, none⟩) hb).trans h0
      have h1 := (hf.cell (p := ⟨b, o + k * 3 + 1, none⟩) hb).trans h1
      have h2 := (hf.cell (p := ⟨b, o + k * 3 + 2, none⟩) hb).trans h2
      have g0 := (hf.cell (p := ⟨b', o' + k * 3, none⟩) hb').trans g0
      have g1 := (hf.cell (p := ⟨b', o' + k * 3 + 1, none⟩) hb').trans g1
      have g2 := (hf.cell (p := ⟨b', o' + k * 3 + 2, none⟩) hb').trans g2
      have e1 := run_lines_eq F1
      have e2 := run_lines_eq F2
      have HF := Lib.hid hf
      clear hxk hkl hc' hf
      cases nv
      all_goals
        simp only [nvI, if_true, if_false, Bool.false_eq_true] at g2
        go_upto_region 6 with fail
        go_quiet (fail)
        all_goals
          go_wp2
          go_roundw
          case rel => exact ⟨k + 1, by omega, by go_num, HF.out.trans (Fresh.drewN _ _)⟩
          case measure => simp [intOf]; omega
    · obtain rfl : k = n := by omega
      have HF := Lib.hid hf
      clear hf
      go_wp2
      go_ret
      exact ⟨rfl, HF.out⟩
end Go.Proofs.Ytffdhegflnhfjaa

/-
  Layer 7: a decoder beside the document's state; the laws' own table; right.
-/
namespace Go.Proofs.Ytffdhegflnhfjaa
set_option maxRecDepth 100000
set_option linter.unusedVariables false
set_option linter.unusedSimpArgs false
open Go.RowKit Go.ChangeShapes Go.WideShapes Go.Deep
/-- A decoder made within a call that began at w0. -/
structure S7 (w0 w : World) (d p : Nat) (v : Value) (fs : List FldT) (lim most bound : Int) (dead : Bool) : Prop where
  dec : DecAt w w0.heap.size d p v fs lim most bound dead
  hd : w0.heap.size ≤ d
  hp : w0.heap.size ≤ p
  hv : ∀ k, v.ownBlock = some k → w0.heap.size ≤ k
  dp : d ≠ p
  dv : ∀ k, v.ownBlock = some k → k ≠ d
  fr : Fresh w0 w
  l0 : 0 ≤ lim
  l1 : lim ≤ most
  hm : most ≤ 65536
  tz : (tz fs : Int) ≤ lim
  b0 : 0 ≤ bound
  b1 : bound ≤ 16384
/-- What a decoder's call may change, by its types. -/
def Far7 (w w' : World) : Prop := Fresh w w' ∨ ∃ S : Nat → Prop, Only S w w' ∧ ∀ g t cs, Blk w g t cs → t ≠ 59 → t ≠ 75 → t ≠ 46 → ¬ S g
section
variable {w0 w w' : World} {d p c : Nat} {v : Value} {A : Option Addr} {xs : List LnD} {fs : List FldT} {lim most bound : Int} {dead : Bool}
theorem S7.fresh (h : S7 w0 w d p v fs lim most bound dead) (hf : Fresh w w') : S7 w0 w' d p v fs lim most bound dead := { h with dec := h.dec.fresh hf, fr := h.fr.trans hf }
theorem S7.len (h : S7 w0 w d p v fs lim most bound dead) : fs.length ≤ 1000000 := by
  have := tz_lenD fs
  have := h.tz
  have := h.l1
  have := h.hm
  omega
theorem S7.only {S : Nat → Prop} (h : S7 w0 w d p v fs lim most bound dead) (ho : Only S w w') (hs : ∀ k, S k → w0.heap.size ≤ k) (ht : ∀ g t cs, Blk w g t cs → S g → t ≠ 59 ∧ t ≠ 75 ∧ t ≠ 46) : S7 w0 w' d p v fs lim most bound dead :=
  { h with
    dec := h.dec.only ho (fun e => (ht _ _ _ h.dec.blk e).1 rfl) (fun e => (ht _ _ _ h.dec.tab.blk e).2.1 rfl) (fun k hk e => by
      obtain ⟨cs, hb⟩ := ownBlkD h.dec.tab.own hk
      exact (ht _ _ _ hb e).2.2 rfl)
    fr := Below.trans h.fr (Only.below ho h.fr.size hs) }
theorem Far7.blk (h : Far7 w w') {g : Nat} {t : TypeId} {cs : Array Value} (hb : Blk w g t cs) (h1 : t ≠ 59) (h2 : t ≠ 75) (h3 : t ≠ 46) : Blk w' g t cs := by
  rcases h with h | ⟨S, ho, hs⟩
  · exact hb.fresh h
  · exact hb.only ho (hs _ _ _ hb h1 h2 h3)
theorem Far7.li (h : Far7 w w') {A : Option Addr} {c : Nat} {gs : List FldT} (hl : Li7 w A c gs) : Li7 w' A c gs := by
  rcases h with h | ⟨S, ho, hs⟩
  · exact hl.fresh h
  · exact hl.only ho (fun g cs hb => hs _ _ _ hb (by decide) (by decide) (by decide))
/-- What a decoder reads of a block. -/
def rd7 (most bound : Int) (dead : Bool) (fs : List FldT) (lim : Int) (l : List UInt8) : Nat × List LnD × List FldT × Int := if dead = true then (25, [], fs, lim) else blockR most bound l.length fs lim 0 [] l
theorem rd7_inv (h : S7 w0 w d p v fs lim most bound dead) (l : List UInt8) : Inv7 most bound (rd7 most bound dead fs lim l) := by
  unfold rd7
  split
  · exact ⟨h.l0, h.l1, h.tz, fun _ => rfl, by simpa [tz] using h.b0⟩
  · exact blockR_inv most bound h.b0 _ _ _ _ _ _ h.l0 h.l1 h.tz rfl h.b0
/-- Lines that a decoder told. -/
structure Lns (w : World) (A : Option Addr) (c : Nat) (xs : List LnD) : Prop where
  rows : Many lnD 3 w A xs
  row : 0 < xs.length → ∃ g cs, A = some ⟨g, 0, none⟩ ∧ Blk w g 51 cs
  le : xs.length ≤ c
  max : c ≤ maxLen
theorem Lns.nil (w : World) : Lns w none 0 [] := ⟨Many.nil _ _ _ _, fun h => by simp at h, by simp, by simp [maxLen]⟩
theorem Lns.fresh (h : Lns w A c xs) (hf : Fresh w w') : Lns w' A c xs := ⟨h.rows.fresh hf, fun hn => by
  obtain ⟨g, cs, e, hb⟩ := h.row hn
  exact ⟨g, cs, e, hb.fresh hf⟩, h.le, h.max⟩
theorem Lns.far (hf : Far7 w w') (h : Lns w A c xs) : Lns w' A c xs := by
  rcases hf with hf | ⟨S, ho, hs⟩
  · exact h.fresh hf
  · refine ⟨fun hn => ?_, fun hn => ?_, h.le, h.max⟩
    · obtain ⟨b, o, e, hb, hc⟩ := h.rows hn
      obtain ⟨g, cs, e', hg⟩ := h.row hn
      rw [e] at e'
      simp at e'
      obtain ⟨rfl, rfl⟩ := e'
      exact ⟨b, 0, e, by have := ho.size; omega, fun k hk j hj => (ho.cell (p := ⟨b, _, none⟩) hb (hs _ _ _ hg (by decide) (by decide) (by decide))).trans (hc k hk j hj)⟩
    · obtain ⟨g, cs, e, hg⟩ := h.row hn
      exact ⟨g, cs, e, hg.only ho (hs _ _ _ hg (by decide) (by decide) (by decide))⟩
theorem Lns.only {S : Nat → Prop} (ho : Only S w w') (hs : ∀ g cs, Blk w g 51 cs → ¬ S g) (h : Lns w A c xs) : Lns w' A c xs := by
  refine ⟨fun hn => ?_, fun hn => ?_, h.le, h.max⟩
  · obtain ⟨b, o, e, hb, hc⟩ := h.rows hn
    obtain ⟨g, cs, e', hg⟩ := h.row hn
    rw [e] at e'
    simp at e'
    obtain ⟨rfl, rfl⟩ := e'
    exact ⟨b, 0, e, by have := ho.size; omega, fun k hk j hj => (ho.cell (p := ⟨b, _, none⟩) hb (hs _ _ hg)).trans (hc k hk j hj)⟩
  · obtain ⟨g, cs, e, hg⟩ := h.row hn
    exact ⟨g, cs, e, hg.only ho (hs _ _ hg)⟩
theorem Lns.own {base n : Nat} (h : Own w base 51 3 (.slice A n c) n (rowL xs)) (hn : n = xs.length) : Lns w A c xs := by
  subst hn
  obtain ⟨A2, c2, e2, hle, hmx, _⟩ := h.slice
  injection e2 with e3 e4 e5
  subst e3 e5
  exact ⟨own_manyL h, fun h0 => by
    obtain ⟨g, e, _, _, _, _, cur, hb⟩ := h.pos h0
    exact ⟨g, cur, e, hb⟩, hle, hmx⟩
def Dec7P (w0 w : World) (d p : Nat) (v : Value) (most bound : Int) (R : Nat × List LnD × List FldT × Int) (e : Ending) (W : World) : Prop :=
  ∃ A1 c1 v', e = .returned (.tuple #[.slice A1 R.2.1.length c1, .int .i64 (R.1 : Int)]) ∧ Lns W A1 c1 R.2.1 ∧ S7 w0 W d p v' R.2.2.1 R.2.2.2 most bound (decide (R.1 ≠ 0)) ∧ Far7 w W
/-- The same, with what may have changed told by blocks. -/
def Dec7Q (w0 w : World) (d p : Nat) (v : Value) (most bound : Int) (R : Nat × List LnD × List FldT × Int) (e : Ending) (W : World) : Prop :=
  ∃ A1 c1 v', e = .returned (.tuple #[.slice A1 R.2.1.length c1, .int .i64 (R.1 : Int)]) ∧ Lns W A1 c1 R.2.1 ∧ S7 w0 W d p v' R.2.2.1 R.2.2.2 most bound (decide (R.1 ≠ 0)) ∧ Far7 w W ∧ Only (fun k => k = d ∨ k = p ∨ v.ownBlock = some k) w W ∧ ∀ k, v'.ownBlock = some k → v.ownBlock = some k ∨ w.heap.size ≤ k
theorem s7_decodeQ (h : S7 w0 w d p v fs lim most bound dead) (A : Option Addr) (c : Nat) (l : List UInt8) (hlc : l.length ≤ c) (hcm : c ≤ maxLen) (hB : BS w A l) (hni : NotIn p v A l) (hl : l.length ≤ 100000000) :
    Calls Try.prog 11 #[.pointer (some ⟨d, 0, none⟩), .slice A l.length c] w (Dec7Q w0 w d p v most bound (rd7 most bound dead fs lim l)) := by
  have hinv := rd7_inv h l
  have hsz := h.fr.size
  cases dead with
  | true =>
    refine (de_decode_dead w0.heap.size d p v fs lim most bound A l.length c w h.dec).mono ?_
    rintro e w' ⟨rfl, rfl⟩
    exact ⟨none, 0, v, rfl, Lns.nil _, by simpa [rd7] using h, .inl (Fresh.refl _), Only.refl _ _, fun k hk => .inl hk⟩
  | false =>
    have hR : rd7 most bound false fs lim l = blockR most bound l.length fs lim 0 [] l := by simp [rd7]
    rw [hR] at hinv ⊢
    refine (de_decode w0.heap.size d p v fs lim most bound A c l w h.dec hsz h.l0 h.l1 h.hm h.tz h.dp h.dv h.b0 h.b1 hl hlc hcm hB hni).mono ?_
    generalize blockR most bound l.length fs lim 0 [] l = R at *
    have hty : ∀ (S : Nat → Prop), (∀ k, S k → k = d ∨ k = p ∨ v.ownBlock = some k) → ∀ g t cs, Blk w g t cs → t ≠ 59 → t ≠ 75 → t ≠ 46 → ¬ S g := by
      intro S hS g t cs hb h1 h2 h3 hs
      rcases hS g hs with e | e | e
      · exact hb.ne h.dec.blk h1 e
      · exact hb.ne h.dec.tab.blk h2 e
      · obtain ⟨cs', hb'⟩ := ownBlkD h.dec.tab.own e
        exact hb.ne hb' h3 rfl
    have hlow : ∀ k, (k = d ∨ k = p ∨ v.ownBlock = some k) → w0.heap.size ≤ k := by
      rintro k (e | e | e)
      · rw [e]; exact h.hd
      · rw [e]; exact h.hp
      · exact h.hv k e
    rintro e W (⟨v', A', c', h0, rfl, hk⟩ | ⟨v', h0, rfl, hdec, hg, hdv, ho⟩)
    · have ho : Only (fun k => k = p ∨ v.ownBlock = some k) w W := hk.only
      refine ⟨A', c', v', by rw [h0]; rfl, Lns.own hk.own rfl, ⟨?_, h.hd, h.hp, fun k hk' => ?_, h.dp, hk.dv, Below.trans h.fr (Only.below ho hsz (fun k e => hlow k (.inr e))), hinv.l0, hinv.l1, h.hm, hinv.tz, h.b0, h.b1⟩, .inr ⟨_, ho, hty _ (fun k e => .inr e)⟩, ho.mono (fun k e => .inr e), hk.grow⟩
      · rw [h0]; exact hk.dec
      · rcases hk.grow k hk' with e | e
        · exact h.hv k e
        · omega
    · refine ⟨none, 0, v', by rw [hinv.no h0]; rfl, by rw [hinv.no h0]; exact Lns.nil _, ⟨?_, h.hd, h.hp, fun k hk' => ?_, h.dp, hdv, Below.trans h.fr (Only.below ho hsz hlow), hinv.l0, hinv.l1, h.hm, hinv.tz, h.b0, h.b1⟩, .inr ⟨_, ho, hty _ (fun k e => e)⟩, ho, hg⟩
      · simp only [h0, ne_eq, not_false_eq_true, decide_true]; exact hdec
      · rcases hg k hk' with e | e
        · exact h.hv k e
        · omega
theorem s7_decodeN (h : S7 w0 w d p v fs lim most bound dead) (A : Option Addr) (c : Nat) (l : List UInt8) (hlc : l.length ≤ c) (hcm : c ≤ maxLen) (hB : BS w A l) (hni : NotIn p v A l) (hl : l.length ≤ 100000000) :
    Calls Try.prog 11 #[.pointer (some ⟨d, 0, none⟩), .slice A l.length c] w (Dec7P w0 w d p v most bound (rd7 most bound dead fs lim l)) :=
  (s7_decodeQ h A c l hlc hcm hB hni hl).mono (fun e w' ⟨A1, c1, v', h1, h2, h3, h4, _, _⟩ => ⟨A1, c1, v', h1, h2, h3, h4⟩)
theorem S7.notIn (h : S7 w0 w d p v fs lim most bound dead) (b : BSl) (hb : b.Ok w0) : NotIn p v b.A b.l := fun hn b' o e hh => by
  obtain ⟨b2, o2, e2, hlt, _⟩ := hb.bs hn
  rw [e] at e2
  injection e2 with e2
  injection e2 with e3 _ _
  subst e3
  rcases hh with hh | hh
  · have := h.hp; omega
  · have := h.hv _ hh; omega
theorem S7.apart {S : Nat → Prop} (h : S7 w0 w d p v fs lim most bound dead) (ho : Only S w w') (hs : ∀ k, S k → w0.heap.size ≤ k) (h1 : ¬ S d) (h2 : ¬ S p) (h3 : ∀ k, v.ownBlock = some k → ¬ S k) : S7 w0 w' d p v fs lim most bound dead :=
  { h with dec := h.dec.only ho h1 h2 h3, fr := Below.trans h.fr (Only.below ho h.fr.size hs) }
theorem S7.low (h : S7 w0 w d p v fs lim most bound dead) : ∀ k, (k = d ∨ k = p ∨ v.ownBlock = some k) → w0.heap.size ≤ k := by
  rintro k (e | e | e)
  · rw [e]; exact h.hd
  · rw [e]; exact h.hp
  · exact h.hv k e
theorem s7_decode (h : S7 w0 w d p v fs lim most bound dead) (b : BSl) (hb : b.Ok w0) (hl : b.l.length ≤ 100000000) :
    Calls Try.prog 11 #[.pointer (some ⟨d, 0, none⟩), .slice b.A b.l.length b.c] w (Dec7P w0 w d p v most bound (rd7 most bound dead fs lim b.l)) := by
  have hni : NotIn p v b.A b.l := fun hn b' o e hh => by
    obtain ⟨b2, o2, e2, hlt, _⟩ := hb.bs hn
    rw [e] at e2
    injection e2 with e2
    injection e2 with e3 _ _
    subst e3
    rcases hh with hh | hh
    · have := h.hp; omega
    · have := h.hv _ hh; omega
  exact s7_decodeN h b.A b.c b.l hb.le (by have := hb.max; unfold maxLen; omega) (hb.bs.fresh h.fr) hni hl
end
theorem s7_new (most bound : Int) (h0 : 0 ≤ most) (h1 : most ≤ 65536) (hb0 : 0 ≤ bound) (hb1 : bound ≤ 16384) (w0 w : World) (hf : Fresh w0 w) :
    Calls Try.prog 10 #[.int .i64 most, .int .i64 bound] w fun e w' => ∃ d p, e = .returned (.tuple #[.pointer (some ⟨d, 0, none⟩), .int .i64 0]) ∧ S7 w0 w' d p (.slice none 0 0) [] most most bound false ∧ Fresh w w' := by
  refine (de_new most bound w h0 h1 hb0 hb1).mono ?_
  rintro e w' ⟨d, p, rfl, hp, hd, hdec, hf2⟩
  have := hf.size
  exact ⟨d, p, rfl, ⟨hdec _, by omega, by omega, (fun k hk => by cases hk), by omega, (fun k hk => by cases hk), hf.trans hf2, h0, Int.le_refl _, h1, by simpa [tz] using h0, hb0, hb1⟩, hf2⟩
/-- A case: a decoder's numbers, and blocks. -/
structure Case7 where
  (most bound : Int) (bs : BSls)
def Case7.cells (z : Case7) : List Value := [.int .i64 z.most, .int .i64 z.bound, .slice z.bs.A z.bs.xs.length z.bs.c]
def Case7.v (z : Case7) : Value := .agg #[.int .i64 z.most, .int .i64 z.bound, .slice z.bs.A z.bs.xs.length z.bs.c]
structure Case7.Ok (w : World) (z : Case7) : Prop where
  m0 : -9223372036854775808 ≤ z.most
  m1 : z.most ≤ 9223372036854775807
  b0 : -9223372036854775808 ≤ z.bound
  b1 : z.bound ≤ 9223372036854775807
  bs : z.bs.Ok w
/-- A case may be gone through. -/
structure Case7.Small (z : Case7) : Prop where
  m0 : 0 ≤ z.most
  m1 : z.most ≤ 65536
  b0 : 0 ≤ z.bound
  b1 : z.bound ≤ 16384
  n : z.bs.xs.length ≤ 120
  l : ∀ b ∈ z.bs.xs, b.l.length ≤ 600
def sum5 (xs : List BSl) : Nat := (xs.map (fun b => 5 + b.l.length)).sum
theorem sum5_take (xs : List BSl) (k : Nat) (b : BSl) (h : xs[k]? = some b) : sum5 (xs.take (k + 1)) = sum5 (xs.take k) + (5 + b.l.length) := by
  obtain ⟨hk, rfl⟩ := List.getElem?_eq_some_iff.1 h
  rw [List.take_succ_eq_append_getElem hk]
  unfold sum5
  rw [List.map_append, List.sum_append]
  simp
theorem sum5_mem {xs : List BSl} {b : BSl} (h : b ∈ xs) : 5 + b.l.length ≤ sum5 xs := by
  induction xs with
  | nil => cases h
  | cons y r ih =>
    unfold sum5 at *
    rw [List.map_cons, List.sum_cons]
    rcases List.mem_cons.1 h with rfl | h
    · omega
    · have := ih h; omega
theorem sum5_len (xs : List BSl) : 5 * xs.length ≤ sum5 xs := by
  induction xs with
  | nil => simp [sum5]
  | cons y r ih =>
    unfold sum5 at *
    rw [List.map_cons, List.sum_cons, List.length_cons]
    omega
theorem r7_nums {s k m n : Nat} (h : s ≤ 600) (hm : m ≤ 140737488351232) (hk : k < n) (hn : n ≤ 140737488351232) : IntKind.i64.wrap (5 + (m : Int)) = 5 + (m : Int) ∧ IntKind.i64.wrap ((s : Int) + (5 + (m : Int))) = (s : Int) + (5 + (m : Int)) ∧ ((s + (5 + m) : Nat) : Int) = (s : Int) + (5 + (m : Int)) ∧ (k : Int) < (n : Int) ∧ IntKind.i64.wrap ((k : Int) + 1) = (k : Int) + 1 := ⟨IntWalk.i64_in _ (by omega), IntWalk.i64_in _ (by omega), by omega, by omega, IntWalk.i64_in _ (by omega)⟩
def Right7P (z : Case7) (w : World) (e : Ending) (w' : World) : Prop := ∃ r : Bool, e = .returned (.bool r) ∧ (r = true → z.Small) ∧ Fresh w w'
set_option maxHeartbeats 3200000 in
theorem l7_right (z : Case7) (w : World) (hz : z.Ok w) : Calls Try.prog 8 #[z.v] w (Right7P z w) := by
  have HZ := Lib.hid hz
  obtain ⟨most, bound, A, c, xs⟩ := z
  simp only [Case7.v] at *
  have HR := Lib.hid hz.bs.rows
  have HOK := Lib.hid hz.bs.ok
  have hle := hz.bs.le
  have hmx := hz.bs.max
  simp only at HR HOK hle hmx
  obtain ⟨n, hn⟩ : ∃ n, xs.length = n := ⟨_, rfl⟩
  have HN := Lib.hid hn
  rw [hn] at hle ⊢
  have hn9 : n ≤ 140737488351232 := by omega
  have HFIN : Hid (∀ (W : World) (r : Bool), (r = true → 0 ≤ most ∧ most ≤ 65536 ∧ 0 ≤ bound ∧ bound ≤ 16384 ∧ sum5 xs ≤ 600) → Fresh w W → Right7P ⟨most, bound, ⟨A, c, xs⟩⟩ w (.returned (.bool r)) W) := Lib.hid (fun W r h hf => ⟨r, rfl, fun hr => by
    obtain ⟨h1, h2, h3, h4, h5⟩ := h hr
    exact ⟨h1, h2, h3, h4, by have := sum5_len xs; show xs.length ≤ 120; omega, fun b hb => by have h6 : 5 + b.l.length ≤ sum5 xs := sum5_mem hb; omega⟩, hf⟩)
  clear hz hn hle hmx
  generalize Right7P ⟨most, bound, ⟨A, c, xs⟩⟩ w = RP at *
  go_enter Try.func8, Try.ntmps8
  go_upto_region 1 with fail
  refine wp_gen (fun W => Blk W w.heap.size 24 #[.int .i64 most, .int .i64 bound, .slice A n c] ∧ Fresh w W) ⟨Blk.new _ _ _, Fresh.alloc _ _⟩ ?_
  rintro W1 ⟨hb1, hf1⟩
  have HB1 := Lib.hid hb1
  have HF1 := Lib.hid hf1
  obtain ⟨c0, c1, c2⟩ := hb1.c3
  clear hb1 hf1
  go_wp2
  clear c0 c1 c2
  go_loopw [3, 9] (fun s i wr => ∃ k : Nat, k ≤ n ∧ i = .int .i64 (k : Int) ∧ s = .int .i64 (sum5 (xs.take k) : Int) ∧ sum5 (xs.take k) ≤ 600 ∧ Fresh W1 wr) (fun s i _ => n - (intOf i).toNat)
  case atStart => exact ⟨0, by omega, rfl, rfl, by simp [sum5], Fresh.refl _⟩
  case round =>
    obtain ⟨k, hk, rfl, rfl, hs, hf⟩ := hrel
    have HF := Lib.hid hf
    have HS := Lib.hid hs
    have HBR := Lib.hid (HB1.out.fresh hf)
    by_cases hlt : k < n
    · obtain ⟨b, hbk⟩ : ∃ b, xs[k]? = some b := ⟨_, List.getElem?_eq_getElem (by rw [HN.out]; exact hlt)⟩
      have hok := HOK.out b (List.mem_of_getElem? hbk)
      obtain ⟨g, o, rfl, hgb, hgc⟩ := HR.out.one k b hbk
      have hgc := (HF1.out.trans HF.out).cell (p := ⟨g, o + k, none⟩) hgb ▸ hgc
      simp only [BSl.cells, List.getElem?_cons_zero] at hgc
      have ht := sum5_take xs k b hbk
      have hbl : b.l.length ≤ 140737488351232 := Nat.le_trans hok.le hok.max
      obtain ⟨q1, q2, q3, hlt', q5⟩ := r7_nums hs hbl hlt hn9
      have HT := Lib.hid ht
      have HQ3 := Lib.hid q3
      clear hok hbk hgb ht q3 hf hs
      generalize sum5 (xs.take k) = s at *
      generalize b.l.length = m at *
      by_cases hbig : s + (5 + m) ≤ 600
      · have hb2 : ¬ (600 : Int) < (s : Int) + (5 + (m : Int)) := by omega
        go_wp2
        exact ⟨⟨k + 1, by omega, by go_num, by rw [HT.out, HQ3.out], by rw [HT.out]; exact hbig, HF.out⟩, by simp [intOf]; omega⟩
      · have hb2 : (600 : Int) < (s : Int) + (5 + (m : Int)) := by omega
        go_wp2
        exact HFIN.out _ _ (fun h => by cases h) (HF1.out.trans HF.out)
    · obtain rfl : k = n := by omega
      have hnlt : ¬ (k : Int) < (k : Int) := by omega
      have hsum : sum5 xs ≤ 600 := by rw [List.take_of_length_le (by rw [HN.out]; exact Nat.le_refl _)] at hs; exact hs
      have HSUM := Lib.hid hsum
      obtain ⟨c0, c1, c2⟩ := HBR.out.c3
      clear hs hf hsum
      by_cases h1 : 0 ≤ most
      · by_cases h2 : most ≤ 65536
        · by_cases h3 : 0 ≤ bound
          · by_cases h4 : bound ≤ 16384
            · go_wp2
              exact HFIN.out _ _ (fun _ => ⟨h1, h2, h3, h4, HSUM.out⟩) (HF1.out.trans HF.out)
            · go_wp2
              exact HFIN.out _ _ (fun h => by cases h) (HF1.out.trans HF.out)
          · go_wp2
            exact HFIN.out _ _ (fun h => by cases h) (HF1.out.trans HF.out)
        · go_wp2
          exact HFIN.out _ _ (fun h => by cases h) (HF1.out.trans HF.out)
      · go_wp2
        exact HFIN.out _ _ (fun h => by cases h) (HF1.out.trans HF.out)
end Go.Proofs.Ytffdhegflnhfjaa

/-
  Layer 7: the laws' own table; the fixed answer.
-/
namespace Go.Proofs.Ytffdhegflnhfjaa
set_option maxRecDepth 100000
set_option linter.unusedVariables false
set_option linter.unusedSimpArgs false
open Go.RowKit Go.ChangeShapes Go.WideShapes Go.Deep
theorem tb_get {fs : List FldT} {k m : Nat} (hm : fs.length = m) (hlt : k < m) {f : FldT} (h : fs.reverse[k]? = some f) : fs[m - 1 - k]? = some f := by
  rw [List.getElem?_reverse (by omega), hm] at h
  exact h
theorem tb_nums {k m : Nat} (hlt : k < m) (hm : m ≤ 1000000) : (k : Int) < (m : Int) ∧ ((k : Int) + 1 = (m : Int) - ((m - 1 - k : Nat) : Int)) ∧ IntKind.i64.wrap ((k : Int) + 1) = (k : Int) + 1 := ⟨by omega, by omega, IntWalk.i64_in _ (by omega)⟩
set_option maxHeartbeats 6400000 in
theorem l7_table {w0 w : World} {d p : Nat} {v : Value} {fs : List FldT} {lim most bound : Int} {dead : Bool} (h : S7 w0 w d p v fs lim most bound dead) (A : Option Addr) (c : Nat) (hli : Li7 w A c fs) :
    Calls Try.prog 14 #[.pointer (some ⟨d, 0, none⟩), .agg #[.slice A fs.length c, .int .i64 lim, .int .i64 most, .int .i64 bound, .bool dead]] w fun e w' => e = .returned (.bool true) ∧ Fresh w w' := by
  have H := Lib.hid h
  have HLI := Lib.hid hli
  have HTB := Lib.hid (fun W (hf : Fresh w W) => de_table w0.heap.size d p v fs lim most bound dead W (h.dec.fresh hf) (Nat.le_trans h.fr.size hf.size) h.len)
  have HLN := Lib.hid h.len
  unfold CpyP at HTB
  obtain ⟨m, hm⟩ : ∃ m, fs.length = m := ⟨_, rfl⟩
  have HM := Lib.hid hm
  rw [hm]
  clear h hli hm
  go_enter Try.func14, Try.ntmps14
  go_upto_region 1 with fail
  refine wp_gen (fun W => Blk W w.heap.size 33 #[.slice A m c, .int .i64 lim, .int .i64 most, .int .i64 bound, .bool dead] ∧ Fresh w W) ⟨Blk.new _ _ _, Fresh.alloc _ _⟩ ?_
  rintro W1 ⟨hb1, hf1⟩
  generalize w.heap.size = s at *
  have HB1 := Lib.hid hb1
  have HF1 := Lib.hid hf1
  clear hb1 hf1
  go_wp2_with fail
  with_reducible refine (HTB.out _ HF1.out).mono ?_
  rintro e w2 ⟨p2, v2, rfl, ht2, hf2, _, _⟩
  have HT := Lib.hid ht2
  have HB2 := Lib.hid (HB1.out.fresh hf2)
  have HF2 := Lib.hid (HF1.out.trans hf2)
  generalize W1.heap.size = base at *
  clear ht2 hf2 HTB
  have HLE : Hid (∀ n, Calls Try.prog 21 #[.pointer (some ⟨p2, 0, none⟩)] (w2.drewN n) fun e w' => e = .returned (.int .i64 (m : Int)) ∧ w' = w2.drewN n) := Lib.hid (fun n => by rw [← HM.out]; exact dy_len (HT.out.fresh (Fresh.drewN _ _)))
  have HLM : Hid (∀ n, Calls Try.prog 18 #[.pointer (some ⟨p2, 0, none⟩)] (w2.drewN n) fun e w' => e = .returned (.int .i64 lim) ∧ w' = w2.drewN n) := Lib.hid (fun n => dy_limit (HT.out.fresh (Fresh.drewN _ _)))
  have HDE : Hid (∀ n, Calls Try.prog 20 #[.pointer (some ⟨d, 0, none⟩)] (w2.drewN n) fun e w' => e = .returned (.bool dead) ∧ w' = w2.drewN n) := Lib.hid (fun n => (de_dead w0.heap.size d p v fs lim most bound dead _ (H.out.dec.fresh (HF2.out.trans (Fresh.drewN _ _)))).mono (fun e w' hh => ⟨hh.1, hh.2.symm⟩))
  obtain ⟨c0, c1, c2, c3, c4⟩ := HB2.out.c5
  have e1 : ((m : Int) == (m : Int)) = true := beq_self_eq_true _
  have e2 : (lim == lim) = true := beq_self_eq_true _
  have e3 : (dead == dead) = true := beq_self_eq_true _
  go_upto_region 2 with fail
  go_quiet (first | (go_at_call 21; exact Calls.quiet_of_same (HLE.out _)) | (go_at_call 18; exact Calls.quiet_of_same (HLM.out _)) | (go_at_call 20; exact Calls.quiet_of_same (HDE.out _)))
  refine wx_gen (fun W => Fresh w2 W) (Fresh.drewN _ _) ?_
  intro W3 hf3
  have HT3 := Lib.hid (HT.out.fresh hf3)
  have HB3 := Lib.hid (HB2.out.fresh hf3)
  have HF3 := Lib.hid (HF2.out.trans hf3)
  clear hf3 c0 c1 c2 c3 c4 HLE HLM HDE e1 e2 e3
  obtain ⟨c0, c1, c2, c3, c4⟩ := HB3.out.c5
  go_wp2
  clear c0 c1 c2 c3 c4
  go_loopw [38] (fun i wr => ∃ k : Nat, k ≤ m ∧ i = .int .i64 (k : Int) ∧ Fresh W3 wr) (fun i _ => m - (intOf i).toNat)
  case atStart => exact ⟨0, Nat.zero_le _, rfl, Fresh.refl _⟩
  case round =>
    obtain ⟨k, hk, rfl, hf⟩ := hrel
    have HF := Lib.hid hf
    clear hf
    by_cases hlt : k < m
    · obtain ⟨hlt', hkm, hwk⟩ := tb_nums hlt (by rw [← HM.out]; exact HLN.out)
      obtain ⟨f, hfk⟩ : ∃ f, fs.reverse[k]? = some f := ⟨_, List.getElem?_eq_getElem (by rw [List.length_reverse, HM.out]; exact hlt)⟩
      have hfk2 := tb_get HM.out hlt hfk
      have HGET := Lib.hid (dy_get ((k : Int) + 1) (m - 1 - k) f (HT3.out.fresh HF.out) hfk2 (by rw [HM.out]; exact hkm) HLN.out)
      obtain ⟨bx, ox, hA, hbx, hy0, hy1⟩ := HLI.out.rows.atD2 k f hfk
      have HY := Lib.hid (And.intro hbx (And.intro hy0 hy1))
      subst hA
      have HBW := Lib.hid (HB3.out.fresh HF.out)
      obtain ⟨F1, F2⟩ := f
      simp only at HGET HY
      clear hfk hfk2 hbx hy0 hy1 hkm
      go_wp2_with fail
      with_reducible refine HGET.out.mono ?_
      rintro e w4 ⟨rfl, hf4⟩
      have HF4 := Lib.hid (HF.out.trans hf4)
      have HB4 := Lib.hid (HBW.out.fresh hf4)
      clear hf4
      go_upto_region 8 with fail
      refine wp_gen (fun W => Fresh w4 W ∧ Blk W w4.heap.size 46 #[.string F1, .string F2]) ⟨by repeat (first | with_reducible exact Fresh.refl _ | with_reducible apply Fresh.drewS | with_reducible apply Fresh.allocS | (with_reducible refine Fresh.step2 ?_ ?_; simp)), Blk.new _ _ _⟩ ?_
      rintro W5 ⟨hf5, hb5⟩
      have HF5 := Lib.hid (HF4.out.trans hf5)
      have HB6 := Lib.hid (HB4.out.fresh hf5)
      have HFW := Lib.hid (HF3.out.trans HF5.out)
      obtain ⟨hbx, hy0, hy1⟩ := HY.out
      have g0 := (HFW.out.cell (p := ⟨bx, ox + k * 2, none⟩) hbx).trans hy0
      have g1 := (HFW.out.cell (p := ⟨bx, ox + k * 2 + 1, none⟩) hbx).trans hy1
      obtain ⟨x0, x1⟩ := hb5.c2
      obtain ⟨c0, c1, c2, c3, c4⟩ := HB6.out.c5
      have hE : ∀ W, (Op.equalIn 10000 64 (.agg #[.string F1, .string F2]) (.agg #[.string F1, .string F2])).run Try.prog W = .ok true W := fun W => run_eq_pair _ _ _ _ W true (by simp)
      clear hbx hy0 hy1 hb5 hf5
      go_quiet (fail)
      all_goals
        go_wp2
        go_roundw
        case rel => exact ⟨k + 1, by omega, by go_num, HF5.out.trans (Fresh.drewN _ _)⟩
        case measure => simp [intOf]; omega
    · obtain rfl : k = m := by omega
      have hnlt : ¬ (k : Int) < (k : Int) := by omega
      go_wp2
      go_ret
      exact ⟨rfl, HF3.out.trans HF.out⟩
end Go.Proofs.Ytffdhegflnhfjaa

/-
  Layer 7: the fixed answer.
-/
namespace Go.Proofs.Ytffdhegflnhfjaa
set_option maxRecDepth 100000
set_option linter.unusedVariables false
set_option linter.unusedSimpArgs false
open Go.RowKit
def aw7L : List LnD := [((⟨#[58, 109, 101, 116, 104, 111, 100]⟩, ⟨#[71, 69, 84]⟩), false), ((⟨#[97]⟩, ⟨#[98]⟩), false), ((⟨#[97]⟩, ⟨#[98]⟩), false)]
theorem aw7_1 : rd7 100 1000 false [] 100 [130, 64, 1, 97, 1, 98, 190] = (0, aw7L, [(⟨#[97]⟩, ⟨#[98]⟩)], 100) := by kernel_rfl
theorem aw7_2 : rd7 100 1000 false [(⟨#[97]⟩, ⟨#[98]⟩)] 100 [191] = (23, [], [(⟨#[97]⟩, ⟨#[98]⟩)], 100) := by kernel_rfl
theorem aw7_3 : rd7 100 1000 true [(⟨#[97]⟩, ⟨#[98]⟩)] 100 [] = (25, [], [(⟨#[97]⟩, ⟨#[98]⟩)], 100) := by kernel_rfl
theorem S7.notNew {w0 w W : World} {d p g : Nat} {v : Value} {fs : List FldT} {lim most bound : Int} {dead : Bool} {l : List UInt8} (h : S7 w0 w d p v fs lim most bound dead) (hg : w.heap.size ≤ g) : NotIn p v (some ⟨g, 0, none⟩) l := fun _ b o e hh => by
  injection e with e
  injection e with e3 _ _
  subst e3
  rcases hh with hh | hh
  · have := h.dec.tab.blk.lt; omega
  · have := (h.dec.tab.ne _ hh).2; omega
theorem NotIn.nil {p : Nat} {v : Value} {A : Option Addr} : NotIn p v A [] := fun h => absurd h (by simp)
set_option maxHeartbeats 6400000 in
theorem de_awake (w : World) : Calls Try.prog 9 #[] w fun e w' => e = .returned (.bool true) ∧ Fresh w w' := by
  have HNW := Lib.hid (s7_new 100 1000 (by decide) (by decide) (by decide) (by decide) w w (Fresh.refl _))
  have HD1 : Hid (∀ W d p v fs dead A (l : List UInt8) (n : Nat), l.length = n → n ≤ 100 → S7 w W d p v fs 100 100 1000 dead → BS W A l → NotIn p v A l → Calls Try.prog 11 #[.pointer (some ⟨d, 0, none⟩), .slice A n n] W (Dec7P w W d p v 100 1000 (rd7 100 1000 dead fs 100 l))) := Lib.hid (fun W d p v fs dead A l n hn h100 hs hb hni => by
    subst hn
    exact s7_decodeN hs A l.length l (Nat.le_refl _) (by unfold maxLen; omega) hb hni (by omega))
  have kc : ∀ (w : World) (C : Array Value) (n c H : Nat), w.heap.size = H → (convert 34 34 (.slice (some ⟨H, 0, none⟩) n c)).run Try.prog (w.alloc (.cells C 5)) = .ok (.slice (some ⟨H, 0, none⟩) n c) (w.alloc (.cells C 5 (C.size, C.size + 1))) := fun w C n c H h => by
    subst h
    exact Lib.run_convert_bytes_const (P := Try.prog) w 34 5 C n c Try.underlying34 Try.underlying5
  go_enter Try.func9, Try.ntmps9
  go_wp2_with fail
  with_reducible refine HNW.out.mono ?_
  rintro e w1 ⟨d, p, rfl, hs1, _⟩
  have HS1 := Lib.hid hs1
  clear hs1
  go_wp2_with fail
  refine (HD1.out _ d p _ _ _ _ [130, 64, 1, 97, 1, 98, 190] 7 rfl (by decide) (HS1.out.fresh (Fresh.alloc w1 (.cells (bytesA [130, 64, 1, 97, 1, 98, 190]) 5 (7, 8)))) (BS.const w1 5 [130, 64, 1, 97, 1, 98, 190] (7, 8)) (HS1.out.notNew (W := w1) (Nat.le_refl _))).mono ?_
  rintro e w2 ⟨A1, k1, v1, rfl, hl2, hs2, hf2⟩
  rw [aw7_1] at hl2 hs2 ⊢
  rw [show decide ((0, aw7L, [((⟨#[97]⟩ : ByteArray), (⟨#[98]⟩ : ByteArray))], (100 : Int)).1 ≠ 0) = false from rfl] at hs2
  simp only at hl2 hs2
  rw [show aw7L.length = 3 from rfl]
  have HS2 := Lib.hid hs2
  have HL2 := Lib.hid hl2
  clear hs2 hl2 hf2 HS1 HNW
  go_wp2_with fail
  refine (HD1.out _ d p _ _ _ _ [191] 1 rfl (by decide) (HS2.out.fresh (Fresh.alloc w2 (.cells (bytesA [191]) 5 (1, 2)))) (BS.const w2 5 [191] (1, 2)) (HS2.out.notNew (W := w2) (Nat.le_refl _))).mono ?_
  rintro e w3 ⟨A2, k2, v2, rfl, hl3, hs3, hf3⟩
  rw [aw7_2] at hs3 hl3 ⊢
  rw [show decide ((23, ([] : List LnD), [((⟨#[97]⟩ : ByteArray), (⟨#[98]⟩ : ByteArray))], (100 : Int)).1 ≠ 0) = true from rfl] at hs3
  simp only at hs3
  have HS3 := Lib.hid hs3
  have HL3 := Lib.hid (Lns.far hf3 (HL2.out.fresh (Fresh.alloc w2 (.cells (bytesA [191]) 5 (1, 2)))))
  clear hs3 hl3 hf3 HS2 HL2
  go_wp2_with fail
  with_reducible refine (HD1.out _ d p _ _ _ none [] 0 rfl (by decide) HS3.out (BS.nil _ _) NotIn.nil).mono ?_
  rintro e w4 ⟨A3, k3, v3, rfl, hl4, hs4, hf4⟩
  rw [aw7_3] at hs4 ⊢
  rw [show decide ((25, ([] : List LnD), [((⟨#[97]⟩ : ByteArray), (⟨#[98]⟩ : ByteArray))], (100 : Int)).1 ≠ 0) = true from rfl] at hs4
  simp only at hs4
  have HS4 := Lib.hid hs4
  simp only [List.length_nil]
  rw [show ((25 : Nat) : Int) = 25 from rfl]
  have HL4 := Lib.hid (Lns.far hf4 HL3.out)
  clear hl4 hs4 hf4 HS3 HL3
  have HDE := Lib.hid (de_dead w.heap.size d p _ _ _ _ _ true _ HS4.out.dec)
  obtain ⟨b, o, hA, hb, h0, h1, h2⟩ := HL4.out.rows.lnAt 0 _ rfl
  obtain ⟨b', o', hA', hb', h0', h1', h2'⟩ := HL4.out.rows.lnAt 2 _ rfl
  rw [hA] at hA'
  injection hA' with hA'
  injection hA' with e1 e2
  subst e1 e2 hA
  simp only [Nat.zero_mul, Nat.add_zero] at h0 h1 h2 h0' h1' h2'
  clear hb hb' kc HD1
  go_wp2_with fail
  with_reducible refine HDE.out.mono ?_
  rintro e w5 ⟨rfl, rfl⟩
  go_wp2
  go_ret
  exact ⟨rfl, HS4.out.fr⟩
end Go.Proofs.Ytffdhegflnhfjaa

/-
  Layer 7: a case as an argument.
-/
namespace Go.Proofs.Ytffdhegflnhfjaa
set_option maxRecDepth 100000
set_option linter.unusedVariables false
set_option linter.unusedSimpArgs false
open Go.RowKit Go.ChangeShapes Go.WideShapes Go.Deep
theorem opens_bsls : OpensW Try.prog 22 (fun w cs => ∃ s : BSls, cs = [.slice s.A s.xs.length s.c] ∧ s.Ok w) :=
  (opensW_slice (sz := 1) (bytes := 24) Try.underlying22 (opensW_bytes Try.underlying34 Try.underlying5 (by kernel_rfl) (by kernel_rfl)) (by kernel_rfl) (by omega) (by kernel_rfl)).mono (fun w cs h => by
    obtain ⟨A, xs, c, e, h1, _, h2, h3, h4⟩ := h.many (R := fun w (x : BSl) => x.Ok w) (f := BSl.cells) (fun _ hq => hq.bsl)
    exact ⟨⟨A, c, xs⟩, e, h1, h2, h3, h4⟩)
theorem opens_case7 : OpensW Try.prog 24 (fun w cs => ∃ z : Case7, cs = z.cells ∧ z.Ok w) :=
  (opensW_struct (sz := 3) [(0, 1, QInt .i64), (1, 1, QInt .i64), (2, 1, fun w cs => ∃ s : BSls, cs = [.slice s.A s.xs.length s.c] ∧ s.Ok w)] Try.underlying24 (by kernel_rfl) (by
    intro p hp
    simp only [List.mem_cons, List.not_mem_nil, or_false] at hp
    rcases hp with rfl | rfl | rfl
    · exact ⟨0, _, rfl, rfl, by kernel_rfl, (opens_int Try.underlying3).w⟩
    · exact ⟨1, _, rfl, rfl, by kernel_rfl, (opens_int Try.underlying3).w⟩
    · exact ⟨2, _, rfl, rfl, by kernel_rfl, opens_bsls⟩)).mono (by
    intro w cs ⟨hl, h⟩
    match cs, hl with
    | [c0, c1, c2], _ =>
      obtain ⟨a, e0, l0⟩ := h _ (List.mem_cons_self ..)
      obtain ⟨b, e1, l1⟩ := h _ (List.mem_cons_of_mem _ (List.mem_cons_self ..))
      obtain ⟨s, e2, l2⟩ := h _ (List.mem_cons_of_mem _ (List.mem_cons_of_mem _ (List.mem_cons_self ..)))
      simp at e0 e1 e2
      subst e0 e1 e2
      have g0 := wf_i64_bd l0
      have g1 := wf_i64_bd l1
      exact ⟨⟨a, b, s⟩, rfl, g0.1, g0.2, g1.1, g1.2, l2⟩)
section
variable {H : Type} {enc : TypeId × Value → H} {w : World} {base : Nat} {held : Bool} {v : Value} {d : DataW H} {p : List MemPlace} {r : Reach} {b0 : Nat}
theorem open_case7 (hv : Value.okWide Try.prog w r b0 24 v) (hd : DataW.Trod enc Try.prog w base (fun _ => true) held 24 v d p) (hw : ∀ m ∈ d.weights Try.prog 24, m ≤ reachBytes) : ∃ z : Case7, v = z.v ∧ z.Ok w := by
  obtain ⟨cs, rfl, z, hc, hz⟩ := opens_case7.agg Try.underlying24 hv hd hw
  refine ⟨z, ?_, hz⟩
  unfold Case7.v
  congr 1
  apply Array.toList_inj.1
  rw [hc]
  rfl
theorem open_bslW (hv : Value.okWide Try.prog w r b0 34 v) (hd : DataW.Trod enc Try.prog w base (fun _ => true) held 34 v d p) (hw : ∀ m ∈ d.weights Try.prog 34, m ≤ reachBytes) : ∃ x : BSl, v = .slice x.A x.l.length x.c ∧ x.Ok w := by
  have h := (opensW_bytes Try.underlying34 Try.underlying5 (by kernel_rfl) (by kernel_rfl)).sl Try.underlying34 hv hd hw
  obtain ⟨x, e, ho⟩ := h.bsl
  simp [BSl.cells] at e
  exact ⟨x, e, ho⟩
end
end Go.Proofs.Ytffdhegflnhfjaa

