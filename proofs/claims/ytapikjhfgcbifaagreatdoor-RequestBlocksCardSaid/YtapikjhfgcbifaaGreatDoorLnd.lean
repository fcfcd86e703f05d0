/-
  Fields and lines: rows of them; package decode's Fields.
-/
import Derived.Test.YtapikjhfgcbifaaGreatDoorOwn
import Derived.Test.YtapikjhfgcbifaaGreatDoorMore
import Derived.Test.YtapikjhfgcbifaaGreatDoorMake
import Derived.Test.YtapikjhfgcbifaaGreatDoorRet
import Derived.Test.YtapikjhfgcbifaaGreatDoorGen
import Derived.Test.YtapikjhfgcbifaaGreatDoorChain
import Derived.Test.YtapikjhfgcbifaaGreatDoorShape
import Derived.Deep.RegionLaw
import Derived.Deep.Cut
namespace Go.Proofs.YtapikjhfgcbifaaGreatDoor
set_option maxRecDepth 100000
set_option linter.unusedVariables false
set_option linter.unusedSimpArgs false
open Go.RowKit

abbrev FldT := ByteArray × ByteArray
def fldD (p : FldT) : List Value := [.string p.1, .string p.2]
def rowD (l : List FldT) : List Value := l.flatMap fldD
theorem rowD_length (l : List FldT) : (rowD l).length = l.length * 2 := by
  induction l with
  | nil => rfl
  | cons f r ih => simp only [rowD, List.flatMap_cons, List.length_append, List.length_cons] at ih ⊢; rw [ih]; simp [fldD]; omega
theorem fld_info : (Tryz.prog.info? 29).map (fun i => (i.zero, i.size, i.bytes)) = some (some (.agg #[.string ByteArray.empty, .string ByteArray.empty]), 2, 32) := by kernel_rfl
/-- A line: its field, and whether it is never to be kept. -/
abbrev LnD := FldT × Bool
def lnD (x : LnD) : List Value := [.string x.1.1, .string x.1.2, .bool x.2]
def rowL (l : List LnD) : List Value := l.flatMap lnD
theorem rowL_length (l : List LnD) : (rowL l).length = l.length * 3 := by
  induction l with
  | nil => rfl
  | cons x r ih => unfold rowL at *; rw [List.flatMap_cons, List.length_append, ih, List.length_cons]; simp [lnD]; omega
theorem lnd_info : (Tryz.prog.info? 38).map (fun i => (i.zero, i.size, i.bytes)) = some (some (.agg #[.string ⟨#[]⟩, .string ⟨#[]⟩, .bool false]), 3, 40) := by kernel_rfl
theorem info_parts3D {P : Program} {E : TypeId} {z : Value} {sz by_ : Nat} (h : (P.info? E).map (fun i => (i.zero, i.size, i.bytes)) = some (some z, sz, by_)) : ∃ i, P.info? E = some i ∧ i.zero = some z ∧ i.size = sz ∧ i.bytes = by_ := by
  cases hi : P.info? E with
  | none => rw [hi] at h; cases h
  | some i =>
    rw [hi] at h
    simp at h
    exact ⟨i, rfl, h.1, h.2.1, h.2.2⟩
theorem ln_push {w : World} {base : Nat} {v : Value} {xs : List LnD} (h : Own w base 38 3 v xs.length (rowL xs)) (hb : base ≤ w.heap.size) (x : LnD) (hn : (xs.length + 1) * 40 ≤ 140737488355328) (g : Nat) (hg : w.heap.size = g) :
    ∃ A' c' w', (Builtin.append_ #[30, 30] 30 #[v, .slice (some ⟨g, 0, none⟩) 1 1]).run Tryz.prog (w.alloc (.cells #[.string x.1.1, .string x.1.2, .bool x.2] 38)) = .ok (.slice A' (xs.length + 1) c') w' ∧ Own w' base 38 3 (.slice A' (xs.length + 1) c') (xs ++ [x]).length (rowL (xs ++ [x])) ∧ Only (fun k => v.ownBlock = some k) w w' ∧
      (∀ k, (Value.slice A' (xs.length + 1) c').ownBlock = some k → v.ownBlock = some k ∨ w.heap.size < k) := by
  subst hg
  obtain ⟨i, hi, hiz, his, hib⟩ := info_parts3D lnd_info
  obtain ⟨v', w', hr, ho, hgr, _, hat⟩ := run_append_own_at (P := Tryz.prog) (w.alloc (.cells #[.string x.1.1, .string x.1.2, .bool x.2] 38)) base 30 30 38 i _ 3 40 Tryz.underlying30 hi hiz his hib rfl (by omega) v xs.length _ (h.fresh (Fresh.alloc _ _)) ⟨w.heap.size, 0, none⟩ 1 1 [.string x.1.1, .string x.1.2, .bool x.2] rfl
    (fun j u hj => by
      rw [add_eq _ _ rfl]
      simp only [Nat.zero_add]
      rw [(Blk.new w 38 #[.string x.1.1, .string x.1.2, .bool x.2]).cell]
      simpa using hj) (by
    intro u hu
    simp only [List.mem_cons, List.not_mem_nil, or_false] at hu
    rcases hu with rfl | rfl | rfl <;> rfl) (by unfold maxLen; omega) hn (by simp; omega)
  obtain ⟨A', c', rfl, _⟩ := Own.slice (show Own w' base _ 3 v' _ _ from ho)
  have hO : Only (fun k => v.ownBlock = some k) (w.alloc (.cells #[.string x.1.1, .string x.1.2, .bool x.2] 38)) w' := ⟨hgr.os, hgr.tape, hgr.output, hgr.size, fun k hk hne => hgr.block k hk (fun e => hne e.symm)⟩
  have hO2 : Only (fun k => v.ownBlock = some k) w w' := (Only.of_fresh (Fresh.alloc _ _)).trans hO
  refine ⟨A', c', w', hr, ?_, hO2, fun k hk => ?_⟩
  · have : Own w' base 38 3 (.slice A' (xs.length + 1) c') (xs.length + 1) _ := ho
    simpa [rowL, lnD] using this
  · rcases hat with e | e
    · rw [e] at hk; exact .inl hk
    · rw [e] at hk; simp at hk; right; omega
theorem Many.lnAt {w : World} {A : Option Addr} {xs : List LnD} (h : Many lnD 3 w A xs) (k : Nat) (x : LnD) (hx : xs[k]? = some x) :
    ∃ b o, A = some ⟨b, o, none⟩ ∧ b < w.heap.size ∧ w.cell? ⟨b, o + k * 3, none⟩ = some (.string x.1.1) ∧ w.cell? ⟨b, o + k * 3 + 1, none⟩ = some (.string x.1.2) ∧ w.cell? ⟨b, o + k * 3 + 2, none⟩ = some (.bool x.2) := by
  obtain ⟨hk, rfl⟩ := List.getElem?_eq_some_iff.1 hx
  obtain ⟨b, o, e, hb, hc⟩ := h (by omega)
  exact ⟨b, o, e, hb, by have := hc k hk 0 (by omega); simpa [lnD] using this, by have := hc k hk 1 (by omega); simpa [lnD] using this, by have := hc k hk 2 (by omega); simpa [lnD] using this⟩
theorem rowL_at {x : LnD} {k : Nat} {xs : List LnD} (hf : xs[k]? = some x) : ∀ j, j < 3 → (rowL xs)[k * 3 + j]? = (lnD x)[j]? := by
  intro j hj
  induction xs generalizing k with
  | nil => cases hf
  | cons y r ih =>
    unfold rowL at *
    cases k with
    | zero =>
      simp only [List.getElem?_cons_zero, Option.some.injEq] at hf
      subst hf
      rw [List.flatMap_cons, List.getElem?_append_left (by simp [lnD]; omega)]
      simp
    | succ k =>
      rw [List.flatMap_cons, List.getElem?_append_right (by simp [lnD]; omega)]
      have := ih (k := k) (by simpa using hf)
      rw [show (k + 1) * 3 + j - (lnD y).length = k * 3 + j by simp [lnD]; omega]
      exact this
theorem own_manyL {w : World} {base n c : Nat} {E : TypeId} {A : Option Addr} {xs : List LnD} (h : Own w base E 3 (.slice A n c) n (rowL xs)) : Many lnD 3 w A xs := by
  intro hn
  have hl := h.length
  rw [rowL_length] at hl
  rcases h.form with ⟨_, h0, _⟩ | ⟨g, cap, e, hb, hlt, _, _, hc⟩
  · omega
  · injection e with e1
    refine ⟨g, 0, e1, hlt, fun k hk j hj => ?_⟩
    have := rowL_at (List.getElem?_eq_getElem hk) j hj
    rw [Nat.zero_add, (hc _ (by rw [rowL_length]; omega)).1, this]
/-- A row of fields that is written field by field. -/
structure FdR (w : World) (p n : Nat) (xs : List FldT) (j : Nat) (wr : World) : Prop where
  row : ∃ cs : Array Value, cs.size = n * 2 ∧ Blk wr p 29 cs ∧ ∀ (i : Nat) (f : FldT), i < j → xs[i]? = some f → cs[i * 2]? = some (.string f.1) ∧ cs[i * 2 + 1]? = some (.string f.2)
  fr : Fresh w wr
  hp : w.heap.size ≤ p
theorem FdR.fresh {w wr wx : World} {p n j : Nat} {xs : List FldT} (h : FdR w p n xs j wr) (hf : Fresh wr wx) : FdR w p n xs j wx := by
  obtain ⟨⟨cs, h1, h2, h3⟩, h4, h5⟩ := h
  exact ⟨⟨cs, h1, h2.fresh hf, h3⟩, h4.trans hf, h5⟩
theorem FdR.step {w wr : World} {p n j : Nat} {xs : List FldT} (h : FdR w p n xs j wr) (hj : j < n) (f : FldT) (hv : xs[j]? = some f) : FdR w p n xs (j + 1) ((wr.setCell ⟨p, j * 2, none⟩ (.string f.1)).setCell ⟨p, j * 2 + 1, none⟩ (.string f.2)) := by
  obtain ⟨⟨cs, h1, h2, h3⟩, h4, h5⟩ := h
  refine ⟨⟨(cs.setIfInBounds (j * 2) (.string f.1)).setIfInBounds (j * 2 + 1) (.string f.2), by simpa using h1, (h2.set (j * 2) _).set (j * 2 + 1) _, fun i g hi hg => ?_⟩, (h4.step _ _ h5).step _ _ h5, h5⟩
  by_cases e : i = j
  · subst e
    rw [hv] at hg
    cases hg
    refine ⟨?_, ?_⟩
    · rw [Array.getElem?_setIfInBounds_ne (by omega)]
      simp [Array.getElem?_setIfInBounds, h1]
      omega
    · simp [Array.getElem?_setIfInBounds, h1]
      omega
  · have := h3 i g (by omega) hg
    refine ⟨?_, ?_⟩
    · rw [Array.getElem?_setIfInBounds_ne (by omega), Array.getElem?_setIfInBounds_ne (by omega)]
      exact this.1
    · rw [Array.getElem?_setIfInBounds_ne (by omega), Array.getElem?_setIfInBounds_ne (by omega)]
      exact this.2
/-- The fields of lines. -/
def FldsP (xs : List LnD) (w : World) (e : Ending) (w' : World) : Prop := ∃ p, e = .returned (.slice (some ⟨p, 0, none⟩) xs.length xs.length) ∧ w.heap.size ≤ p ∧ Many fldD 2 w' (some ⟨p, 0, none⟩) (xs.map (·.1)) ∧ Fresh w w'
theorem de_fieldsB (A : Option Addr) (c : Nat) (xs : List LnD) (w : World) (hm : Many lnD 3 w A xs) (hl : xs.length ≤ 8796093022208) :
    Calls Tryz.prog 22 #[.slice A xs.length c] w (FldsP xs w) := by
  obtain ⟨i, hi, hiz, his, hib⟩ := info_parts fld_info
  have HM := Lib.hid hm
  have hfin : ∀ wr p, FdR w p xs.length (xs.map (·.1)) xs.length wr → FldsP xs w (.returned (.slice (some ⟨p, 0, none⟩) xs.length xs.length)) wr := by
    intro wr p h
    obtain ⟨⟨cs, h1, h2, h3⟩, h4, h5⟩ := h
    refine ⟨p, rfl, h5, fun hn => ⟨p, 0, rfl, h2.lt, fun k hk j hj => ?_⟩, h4⟩
    rw [List.length_map] at hk
    have hk2 := h3 k ((xs.map (·.1))[k]'(by simpa using hk)) hk (List.getElem?_eq_getElem _)
    have hj' : j = 0 ∨ j = 1 := by omega
    rcases hj' with rfl | rfl
    · rw [Nat.zero_add, Nat.add_zero, h2.cell, hk2.1]; rfl
    · rw [Nat.zero_add, h2.cell, hk2.2]; rfl
  have HFIN := Lib.hid hfin
  obtain ⟨n, hn⟩ : ∃ n, xs.length = n := ⟨_, rfl⟩
  have HN := Lib.hid hn
  have hmk : ∀ W, (Instr.makeSlice 22 (.int .i64 (n : Int)) (.int .i64 (n : Int))).run Tryz.prog W = .ok (.slice (some ⟨W.heap.size, 0, none⟩) n n) (W.alloc (.cells (madeCells #[.string ⟨#[]⟩, .string ⟨#[]⟩] (n * 2)) 29)) := fun W => by
    have := run_make_rowN (P := Tryz.prog) 22 29 i _ Tryz.underlying22 hi hiz .i64 .i64 n n (Nat.le_refl _) (by rw [hib]; omega) (by omega) W
    rw [his] at this
    exact this
  have HST : Hid (FdR w w.heap.size n (xs.map (·.1)) 0 (w.alloc (.cells (madeCells #[.string ⟨#[]⟩, .string ⟨#[]⟩] (n * 2)) 29))) := Lib.hid ⟨⟨_, by rw [size_madeCells], Blk.new _ _ _, fun i f hi => by omega⟩, Fresh.alloc _ _, Nat.le_refl _⟩
  rw [hn] at hl HFIN ⊢
  clear hm hn hfin
  generalize FldsP xs w = FP at *
  go_enter Tryz.func22, Tryz.ntmps22
  go_wp2_with fail
  obtain ⟨p, hp⟩ : ∃ p, w.heap.size = p := ⟨_, rfl⟩
  have HP := Lib.hid hp
  rw [hp] at HST ⊢
  clear hp
  go_loopw [11] (fun i wr => ∃ j : Nat, j ≤ n ∧ i = .int .i64 j ∧ FdR w p n (xs.map (·.1)) j wr) (fun i _ => n - (intOf i).toNat)
  case atStart => exact ⟨0, by omega, rfl, HST.out⟩
  case round =>
    obtain ⟨j, hj, rfl, hR⟩ := hrel
    clear hmk HST
    have HR := Lib.hid hR
    by_cases hlt : j < n
    · have hlt' : (j : Int) < (n : Int) := by omega
      obtain ⟨x, hx⟩ : ∃ x, xs[j]? = some x := ⟨_, List.getElem?_eq_getElem (by rw [HN.out]; exact hlt)⟩
      obtain ⟨b, o, rfl, hb, h0, h1, h2⟩ := HM.out.lnAt j x hx
      have c0 := (hR.fr.cell (p := ⟨b, o + j * 3, none⟩) hb).trans h0
      have c1 := (hR.fr.cell (p := ⟨b, o + j * 3 + 1, none⟩) hb).trans h1
      have c2 := (hR.fr.cell (p := ⟨b, o + j * 3 + 2, none⟩) hb).trans h2
      have HX : Hid ((xs.map (·.1))[j]? = some x.1) := Lib.hid (by rw [List.getElem?_map, hx]; rfl)
      obtain ⟨⟨F1, F2⟩, nv⟩ := x
      simp only at c0 c1 c2 HX
      clear hx h0 h1 h2 hR
      go_upto_region 5 with fail
      refine wp_gen (fun W => Blk W wr.heap.size 38 #[.string F1, .string F2, .bool nv] ∧ Fresh wr W) ⟨Blk.new wr _ _, Fresh.alloc _ _⟩ ?_
      rintro W ⟨hbw, hfw⟩
      obtain ⟨y0, y1, y2⟩ := hbw.c3
      have HR2 := Lib.hid (HR.out.fresh hfw)
      obtain ⟨⟨cs, hcs, hbp, hi⟩, _, hpp⟩ := HR2.out
      obtain ⟨v0, hv0⟩ : ∃ v, cs[j * 2]? = some v := ⟨cs[j * 2]'(by omega), Array.getElem?_eq_getElem _⟩
      obtain ⟨v1, hv1⟩ : ∃ v, cs[j * 2 + 1]? = some v := ⟨cs[j * 2 + 1]'(by omega), Array.getElem?_eq_getElem _⟩
      have d0 := (hbp.cell (j * 2)).trans hv0
      have d1 := (hbp.cell (j * 2 + 1)).trans hv1
      have z0 := hbp.frozen (j * 2)
      have z1 := hbp.frozen (j * 2 + 1)
      clear hbw hfw hcs hbp hi hpp hv0 hv1 c0 c1 c2
      go_wp2_with fail
      go_roundw
      case rel => exact ⟨j + 1, by omega, by go_num, HR2.out.step hlt (F1, F2) HX.out⟩
      case measure => simp [intOf]; omega
    · obtain rfl : j = n := by omega
      clear hR
      have HF := Lib.hid (HFIN.out _ _ HR.out)
      go_wp2_with fail
      exact HF.out
theorem de_fields (A : Option Addr) (c : Nat) (xs : List LnD) (w : World) (hm : Many lnD 3 w A xs) (hl : xs.length ≤ 1000000) :
    Calls Tryz.prog 22 #[.slice A xs.length c] w (FldsP xs w) := de_fieldsB A c xs w hm (by omega)
end Go.Proofs.YtapikjhfgcbifaaGreatDoor

