/-
  Texts laid together: ClnL Inc ClnF ClnG.
-/
import Derived.Test.YtapikjhfgcbifaaGreatDoorClnG1
import Derived.Test.YtapikjhfgcbifaaGreatDoorMake
import Derived.Test.YtapikjhfgcbifaaGreatDoorBytes
import Derived.Laws.IdiomStrings
import Derived.Test.YtapikjhfgcbifaaGreatDoorOwn
import Derived.Test.YtapikjhfgcbifaaGreatDoorMore
import Derived.Test.YtapikjhfgcbifaaGreatDoorRet
import Derived.Test.YtapikjhfgcbifaaGreatDoorClnG2
import Derived.Test.YtapikjhfgcbifaaGreatDoorLnd
import Derived.Deep.RegionLaw
import Derived.Deep.Cut
/-
  Package clean: Lower.
-/
namespace Go.Proofs.YtapikjhfgcbifaaGreatDoor
set_option maxRecDepth 100000
set_option linter.unusedVariables false
set_option linter.unusedSimpArgs false
open Go.RowKit
def lowC (c : UInt8) : UInt8 := if 65 ≤ c.toNat ∧ c.toNat ≤ 90 then c + 32 else c
def lowL (l : List UInt8) : List UInt8 := l.map lowC
theorem lowC_all : ∀ n : Fin 256, 65 ≤ n.val → n.val ≤ 90 → ((((n.val : Int) - 65) % 256 + 97) % 256 : Int) = ((lowC n.val.toUInt8).toNat : Int) ∧ (lowC n.val.toUInt8).toNat = n.val + 32 := by decide +kernel
theorem lowC_up (c : UInt8) (h0 : 65 ≤ c.toNat) (h1 : c.toNat ≤ 90) : ((((c.toNat : Int) - 65) % 256 + 97) % 256 : Int) = ((lowC c).toNat : Int) ∧ (lowC c).toNat = c.toNat + 32 := by
  have h := lowC_all ⟨c.toNat, c.toNat_lt⟩ h0 h1
  simpa using h
theorem lowC_no (c : UInt8) (h : ¬ (65 ≤ c.toNat ∧ c.toNat ≤ 90)) : lowC c = c := by unfold lowC; rw [if_neg h]
theorem lowC_two (c : UInt8) : lowC (lowC c) = lowC c := by
  by_cases h : 65 ≤ c.toNat ∧ c.toNat ≤ 90
  · have := lowC_up c h.1 h.2
    rw [lowC_no (lowC c) (by omega)]
  · rw [lowC_no c h, lowC_no c h]
theorem lowL_two (l : List UInt8) : lowL (lowL l) = lowL l := by
  unfold lowL
  rw [List.map_map]
  congr 1
  funext c
  exact lowC_two c
theorem lowL_len (l : List UInt8) : (lowL l).length = l.length := by simp [lowL]
/-- A row of bytes that is made small in place: k of them so far. -/
structure LowS (w : World) (g c : Nat) (l : List UInt8) (k : Nat) (wr : World) : Prop where
  ge : w.heap.size ≤ g
  fr : Fresh w wr
  row : ∃ cs z, wr.heap[g]? = some (.cells cs 5 z) ∧ l.length ≤ cs.size ∧ cs.size ≤ z.1 ∧ ∀ (j : Nat) x, l[j]? = some x → cs[j]? = some (byteV (if j < k then lowC x else x))
theorem conv_low (w : World) (l : List UInt8) : ∃ (c : Nat) (W : World), (convert 9 23 (.string (strB l))).run Tryz.prog w = .ok (.slice (some ⟨w.heap.size, 0, none⟩) l.length c) W ∧ LowS w w.heap.size c l 0 W ∧ l.length ≤ c := by
  have h := run_bytes_of_string (P := Tryz.prog) w 9 23 5 (strB l) Tryz.underlying9 Tryz.underlying23 Tryz.underlying5
  rw [strB_size] at h
  have hge := grownCap_ge w l.length 0 5
  generalize grownCap w l.length 0 5 = cp at *
  refine ⟨_, _, h, ⟨Nat.le_refl _, (Fresh.drew w).trans (Fresh.alloc _ _), bytesRow (strB l) cp, ((bytesRow (strB l) cp).size, (bytesRow (strB l) cp).size + 1), ?_, ?_, Nat.le_refl _, fun j x hx => ?_⟩, hge⟩
  · show (w.heap.push _)[w.heap.size]? = _
    simp
  · simp [bytesRow, strB]
  · obtain ⟨hj, rfl⟩ := List.getElem?_eq_some_iff.1 hx
    simp [bytesRow, strB, byteV, Array.getElem?_append, hj]
theorem LowS.at {w wr : World} {g c k : Nat} {l : List UInt8} (h : LowS w g c l k wr) {x : UInt8} (hx : l[k]? = some x) : wr.cell? ⟨g, k, none⟩ = some (.int .u8 (x.toNat : Int)) ∧ wr.frozen? ⟨g, k, none⟩ = false := by
  obtain ⟨_, _, cs, z, h1, h2, h3, h4⟩ := h
  have hk := (List.getElem?_eq_some_iff.1 hx).1
  refine ⟨?_, ?_⟩
  · have := h4 k x hx
    rw [if_neg (Nat.lt_irrefl _)] at this
    simp [World.cell?, h1, this, byteV]
  · simp [World.frozen?, h1]
    omega
theorem LowS.same {w wr : World} {g c k : Nat} {l : List UInt8} (h : LowS w g c l k wr) {x : UInt8} (hx : l[k]? = some x) (hl : lowC x = x) : LowS w g c l (k + 1) wr := by
  obtain ⟨a, b, cs, z, h1, h2, h3, h4⟩ := h
  refine ⟨a, b, cs, z, h1, h2, h3, fun j y hy => ?_⟩
  rw [h4 j y hy]
  by_cases e : j = k
  · subst e
    rw [hx] at hy
    cases hy
    simp [hl]
  · by_cases e2 : j < k
    · rw [if_pos e2, if_pos (by omega)]
    · rw [if_neg e2, if_neg (by omega)]
theorem LowS.step {w wr : World} {g c k : Nat} {l : List UInt8} (h : LowS w g c l k wr) {x : UInt8} (hx : l[k]? = some x) (v : Value) (hv : v = .int .u8 ((lowC x).toNat : Int)) : LowS w g c l (k + 1) (wr.setCell ⟨g, k, none⟩ v) := by
  obtain ⟨a, b, cs, z, h1, h2, h3, h4⟩ := h
  subst hv
  have hk := (List.getElem?_eq_some_iff.1 hx).1
  refine ⟨a, b.step _ _ a, cs.setIfInBounds k (.int .u8 ((lowC x).toNat : Int)), z, ?_, by simpa using h2, by simpa using h3, fun j y hy => ?_⟩
  · simp [World.setCell, Array.getElem?_modify, h1]
  · by_cases e : j = k
    · subst e
      rw [hx] at hy
      cases hy
      rw [if_pos (by omega), Array.getElem?_setIfInBounds, if_pos rfl, if_pos (by omega)]
      rfl
    · rw [Array.getElem?_setIfInBounds_ne (fun h => e h.symm), h4 j y hy]
      by_cases e2 : j < k
      · rw [if_pos e2, if_pos (by omega)]
      · rw [if_neg e2, if_neg (by omega)]
theorem LowS.row_all {w wr : World} {g c k : Nat} {l : List UInt8} (h : LowS w g c l k wr) (hk : l.length ≤ k) : BS wr (some ⟨g, 0, none⟩) (lowL l) := by
  obtain ⟨a, b, cs, z, h1, h2, h3, h4⟩ := h
  intro hn
  refine ⟨g, 0, rfl, (Array.getElem?_eq_some_iff.1 h1).1, fun j hj => ?_⟩
  rw [lowL_len] at hj
  have := h4 j l[j] (List.getElem?_eq_getElem hj)
  rw [if_pos (by omega)] at this
  rw [Nat.zero_add]
  simp [World.cell?, h1, this, lowL]
end Go.Proofs.YtapikjhfgcbifaaGreatDoor

/-
  Bytes of one's own block that a loop changes in place.
-/
namespace Go.Proofs.YtapikjhfgcbifaaGreatDoor
set_option linter.unusedVariables false
open Go.RowKit
/-- Block g holds n bytes, and it alone may have changed. -/
def IncS (w : World) (g n : Nat) (wr : World) : Prop := Only (· = g) w wr ∧ ∃ l : List UInt8, l.length = n ∧ Blk wr g 5 (bytesA l)
theorem IncS.start {w : World} {g : Nat} {l : List UInt8} (h : Blk w g 5 (bytesA l)) : IncS w g l.length w := ⟨Only.refl _ _, l, rfl, h⟩
theorem bytesA_set (l : List UInt8) (k : Nat) (y : UInt8) : (bytesA l).setIfInBounds k (byteV y) = bytesA (l.set k y) := by
  apply Array.toList_inj.1
  simp [bytesA, List.map_set]
theorem IncS.step {w wr : World} {g n : Nat} (h : IncS w g n wr) (k : Nat) (hk : k < n) : ∃ x : UInt8, wr.cell? ⟨g, k, none⟩ = some (.int .u8 (x.toNat : Int)) ∧ wr.frozen? ⟨g, k, none⟩ = false ∧ ((x.toNat : Int) + 1) % 256 = ((x + 1).toNat : Int) ∧
    ∀ y : UInt8, IncS w g n (wr.setCell ⟨g, k, none⟩ (.int .u8 (y.toNat : Int))) := by
  obtain ⟨ho, l, hl, hb⟩ := h
  subst hl
  refine ⟨l[k], ?_, hb.frozen k, by simp, fun y => ⟨ho.trans (Only.setCell wr ⟨g, k, none⟩ _), l.set k y, by simp, ?_⟩⟩
  · rw [hb.cell, bytesA_get, List.getElem?_eq_getElem hk]; rfl
  · have := hb.set k (byteV y)
    rw [bytesA_set] at this
    exact this
theorem Fresh.only {S : Nat → Prop} {w w1 w2 : World} (hf : Fresh w w1) (ho : Only S w1 w2) (hS : ∀ k, S k → w.heap.size ≤ k) : Fresh w w2 :=
  Only.fresh (S := fun _ => False) ((Only.of_fresh hf).trans' ho (fun i hi e => by have := hS i e; omega)) (fun _ _ h => h)
/-- The first m bytes of the slice at A may have changed, nothing else. -/
def IncD (w : World) (A : Option Addr) (m : Nat) (wr : World) : Prop := Only (fun k => 0 < m ∧ A = some ⟨k, 0, none⟩) w wr ∧ ∀ g (l0 : List UInt8), Blk w g 5 (bytesA l0) → ∃ l : List UInt8, l.length = l0.length ∧ Blk wr g 5 (bytesA l)
theorem IncD.start (w : World) (A : Option Addr) (m : Nat) : IncD w A m w := ⟨Only.refl _ _, fun g l0 h => ⟨l0, rfl, h⟩⟩
theorem IncD.step {w wr : World} {A : Option Addr} {m : Nat} (h : IncD w A m wr) (h0 : 0 < m → ∃ g l, A = some ⟨g, 0, none⟩ ∧ m ≤ l.length ∧ Blk w g 5 (bytesA l)) (k : Nat) (hk : k < m) : ∃ (g : Nat) (x : UInt8), A = some ⟨g, 0, none⟩ ∧ wr.cell? ⟨g, k, none⟩ = some (.int .u8 (x.toNat : Int)) ∧ wr.frozen? ⟨g, k, none⟩ = false ∧ ((x.toNat : Int) + 1) % 256 = ((x + 1).toNat : Int) ∧
    ∀ y : UInt8, IncD w A m (wr.setCell ⟨g, k, none⟩ (.int .u8 (y.toNat : Int))) := by
  obtain ⟨ho, hb⟩ := h
  obtain ⟨g, l0, rfl, hl0, hb0⟩ := h0 (by omega)
  obtain ⟨l, hl, hbl⟩ := hb g l0 hb0
  have hkl : k < l.length := by omega
  refine ⟨g, l[k], rfl, ?_, hbl.frozen k, by simp, fun y => ⟨ho.step ⟨g, k, none⟩ _ (.inl ⟨by omega, rfl⟩), fun g' l' hb' => ?_⟩⟩
  · rw [hbl.cell, bytesA_get, List.getElem?_eq_getElem hkl]; rfl
  · by_cases e : g' = g
    · subst e
      obtain ⟨l2, hl2, hb2⟩ := hb _ l' hb'
      have := hb2.set k (byteV y)
      rw [bytesA_set] at this
      exact ⟨l2.set k y, by simp [hl2], this⟩
    · obtain ⟨l2, hl2, hb2⟩ := hb g' l' hb'
      exact ⟨l2, hl2, hb2.far (fun e' => e e') _⟩
end Go.Proofs.YtapikjhfgcbifaaGreatDoor

/-
  Package clean: Fields and Check.
-/
namespace Go.Proofs.YtapikjhfgcbifaaGreatDoor
set_option maxRecDepth 100000
set_option linter.unusedVariables false
set_option linter.unusedSimpArgs false
open Go.RowKit
/-! Plain words: what the document says of fields. -/
def wrongF (f : FldT) : Nat := if nameB f.1.data.toList = false then 30 else if valB f.2.data.toList = false then 31 else 0
def lnF (f : FldT) : LnD := (f, senB f.1)
/-- The lines of fields that may be sent on; the first error. -/
def clnR : List FldT → Nat × List LnD
  | [] => (0, [])
  | f :: r => if wrongF f ≠ 0 then (wrongF f, []) else if (clnR r).1 ≠ 0 then ((clnR r).1, []) else (0, if hopB f.1 f.2 then (clnR r).2 else lnF f :: (clnR r).2)
def keepR (l : List FldT) : List LnD := (l.filter (fun f => !hopB f.1 f.2)).map lnF
theorem clnR_ok : ∀ {l : List FldT}, (∀ f ∈ l, wrongF f = 0) → clnR l = (0, keepR l)
  | [], _ => rfl
  | f :: r, h => by
    have h1 := clnR_ok (fun g hg => h g (List.mem_cons_of_mem _ hg))
    unfold clnR
    rw [if_neg (by rw [h f (List.mem_cons_self ..)]; simp), h1]
    simp only [ne_eq, not_true, if_false]
    unfold keepR
    cases hh : hopB f.1 f.2 <;> simp [hh]
theorem clnR_bad : ∀ {l : List FldT} {k : Nat} {f : FldT}, l[k]? = some f → (∀ (j : Nat) g, j < k → l[j]? = some g → wrongF g = 0) → wrongF f ≠ 0 → clnR l = (wrongF f, [])
  | [], k, f, h, _, _ => by cases h
  | g :: r, 0, f, h, _, hf => by
    simp at h
    subst h
    unfold clnR
    rw [if_pos hf]
  | g :: r, k + 1, f, h, ha, hf => by
    have h1 := clnR_bad (l := r) (k := k) (by simpa using h) (fun j y hj hy => ha (j + 1) y (by omega) (by simpa using hy)) hf
    unfold clnR
    rw [if_neg (by rw [ha 0 g (by omega) rfl]; simp), h1]
    rw [if_pos hf]
theorem keepR_take {l : List FldT} {k : Nat} {f : FldT} (h : l[k]? = some f) : keepR (l.take (k + 1)) = keepR (l.take k) ++ (if hopB f.1 f.2 then [] else [lnF f]) := by
  obtain ⟨hk, rfl⟩ := List.getElem?_eq_some_iff.1 h
  unfold keepR
  rw [List.take_succ_eq_append_getElem hk, List.filter_append, List.map_append]
  generalize l[k] = f
  cases hh : hopB f.1 f.2 <;> simp [hh]
theorem keepR_len (l : List FldT) : (keepR l).length ≤ l.length := by
  unfold keepR
  rw [List.length_map]
  exact List.length_filter_le _ _
theorem Many.fdAt {w : World} {A : Option Addr} {xs : List FldT} (h : Many fldD 2 w A xs) (k : Nat) (x : FldT) (hx : xs[k]? = some x) :
    ∃ b o, A = some ⟨b, o, none⟩ ∧ b < w.heap.size ∧ w.cell? ⟨b, o + k * 2, none⟩ = some (.string x.1) ∧ w.cell? ⟨b, o + k * 2 + 1, none⟩ = some (.string x.2) := by
  obtain ⟨hk, rfl⟩ := List.getElem?_eq_some_iff.1 hx
  obtain ⟨b, o, e, hb, hc⟩ := h (by omega)
  exact ⟨b, o, e, hb, hc k hk 0 (by omega), hc k hk 1 (by omega)⟩
/-- What Fields tells. -/
def ClnP (l : List FldT) (w : World) (e : Ending) (w' : World) : Prop :=
  ∃ (n : Nat) (A : Option Addr) (xs : List LnD) (c : Nat), clnR l = (n, xs) ∧ e = .returned (.tuple #[.slice A xs.length c, .int .i64 (n : Int)]) ∧ Own w' w.heap.size 38 3 (.slice A xs.length c) xs.length (rowL xs) ∧ Fresh w w'
theorem clnP_bad {l : List FldT} {k n : Nat} {f : FldT} {w w' : World} (hx : l[k]? = some f) (ha : ∀ (j : Nat) g, j < k → l[j]? = some g → wrongF g = 0) (hn : wrongF f = n) (h0 : n ≠ 0) (hf : Fresh w w') : ClnP l w (.returned (.tuple #[.slice none 0 0, .int .i64 (n : Int)])) w' := by
  subst hn
  exact ⟨_, none, [], 0, clnR_bad hx ha h0, rfl, Own.nil _ _ _ _, hf⟩
/-- While the fields are gone through. -/
structure ClnI (l : List FldT) (w : World) (k : Nat) (A : Option Addr) (n c : Nat) (wr : World) : Prop where
  ok : ∀ (j : Nat) g, j < k → l[j]? = some g → wrongF g = 0
  len : n = (keepR (l.take k)).length
  own : Own wr w.heap.size 38 3 (.slice A n c) n (rowL (keepR (l.take k)))
  fr : Fresh w wr
theorem ClnI.fresh {l : List FldT} {w : World} {k : Nat} {A : Option Addr} {n c : Nat} {wr W : World} (h : ClnI l w k A n c wr) (hf : Fresh wr W) : ClnI l w k A n c W := ⟨h.ok, h.len, h.own.fresh hf, h.fr.trans hf⟩
theorem okW_succ {l : List FldT} {k : Nat} {x : FldT} (h : ∀ (j : Nat) y, j < k → l[j]? = some y → wrongF y = 0) (hk : l[k]? = some x) (hx : wrongF x = 0) : ∀ (j : Nat) y, j < k + 1 → l[j]? = some y → wrongF y = 0 := by
  intro j y hj hy
  by_cases e : j = k
  · subst e
    rw [hk] at hy
    cases hy
    exact hx
  · exact h j y (by omega) hy
theorem ClnI.skip {l : List FldT} {w : World} {k : Nat} {A : Option Addr} {n c : Nat} {wr : World} {f : FldT} (h : ClnI l w k A n c wr) (hx : l[k]? = some f) (h0 : wrongF f = 0) (hh : hopB f.1 f.2 = true) : ClnI l w (k + 1) A n c wr := by
  have e : keepR (l.take (k + 1)) = keepR (l.take k) := by rw [keepR_take hx, hh]; simp
  exact ⟨okW_succ h.ok hx h0, by rw [e]; exact h.len, by rw [e]; exact h.own, h.fr⟩
theorem ClnI.fin {l : List FldT} {w : World} {k : Nat} {A : Option Addr} {n c : Nat} {wr : World} (h : ClnI l w k A n c wr) (hk : l.length ≤ k) : ClnP l w (.returned (.tuple #[.slice A n c, .int .i64 0])) wr := by
  obtain ⟨h1, h2, h3, h4⟩ := h
  rw [List.take_of_length_le hk] at h2 h3
  subst h2
  exact ⟨0, A, keepR l, c, clnR_ok (fun f hf => by
    obtain ⟨j, hj⟩ := List.getElem?_of_mem hf
    exact h1 j f (by have := (List.getElem?_eq_some_iff.1 hj).1; omega) hj), rfl, h3, h4⟩
set_option maxHeartbeats 6400000 in
theorem cl_fields (A0 : Option Addr) (c0 : Nat) (l : List FldT) (w : World) (hm : Many fldD 2 w A0 l) (hl : l.length ≤ 1000000) (hs : ∀ f ∈ l, f.2.size ≤ 1000000) :
    Calls Tryz.prog 14 #[.slice A0 l.length c0] w (ClnP l w) := by
  have HM := Lib.hid hm
  have HS := Lib.hid hs
  have HBAD := Lib.hid (fun (k n : Nat) (f : FldT) (w' : World) (hx : l[k]? = some f) ha (hn : wrongF f = n) (h0 : n ≠ 0) (hf : Fresh w w') => clnP_bad (w := w) (w' := w') hx ha hn h0 hf)
  have HFIN := Lib.hid (fun (k : Nat) (A : Option Addr) (n c : Nat) (wr : World) (h : ClnI l w k A n c wr) (hk : l.length ≤ k) => h.fin hk)
  clear hm hs
  generalize ClnP l w = FP at *
  go_enter Tryz.func14, Tryz.ntmps14
  go_wp2_with fail
  go_loopw [4, 9] (fun ox i wr => ∃ (k : Nat) (A : Option Addr) (n c : Nat), k ≤ l.length ∧ i = .int .i64 (k : Int) ∧ ox = .slice A n c ∧ ClnI l w k A n c wr) (fun _ i _ => l.length - (intOf i).toNat)
  case atStart => exact ⟨0, none, 0, 0, by omega, rfl, rfl, ⟨fun j g hj => by omega, rfl, Own.nil _ _ _ _, Fresh.refl _⟩⟩
  case round =>
    obtain ⟨k, A, n, c, hk, rfl, rfl, hI⟩ := hrel
    have HI := Lib.hid hI
    by_cases hlt : k < l.length
    · have hlt' : (k : Int) < (l.length : Int) := by omega
      obtain ⟨f, hx⟩ : ∃ f, l[k]? = some f := ⟨_, List.getElem?_eq_getElem hlt⟩
      obtain ⟨b, o, rfl, hb, g0, g1⟩ := HM.out.fdAt k f hx
      have e0 := (hI.fr.cell (p := ⟨b, o + k * 2, none⟩) hb).trans g0
      have e1 := (hI.fr.cell (p := ⟨b, o + k * 2 + 1, none⟩) hb).trans g1
      have HX := Lib.hid hx
      have HWR : Hid (wrongF f = if nameB f.1.data.toList = false then 30 else if valB f.2.data.toList = false then 31 else 0) := Lib.hid rfl
      have HNM := Lib.hid (fun w => cl_name f.1 w)
      have HVL := Lib.hid (fun w => cl_value f.2 w (HS.out f (List.mem_of_getElem? hx)))
      have HHP := Lib.hid (fun w => cl_hop f.1 f.2 w)
      have HSN := Lib.hid (fun w => cl_sen f.1 w)
      have HSK := Lib.hid (fun (W : World) (h : ClnI l w k A n c W) h0 hh => h.skip hx h0 hh)
      obtain ⟨bn, hbn⟩ : ∃ b, nameB f.1.data.toList = b := ⟨_, rfl⟩
      obtain ⟨bv, hbv⟩ : ∃ b, valB f.2.data.toList = b := ⟨_, rfl⟩
      obtain ⟨bh, hbh⟩ : ∃ b, hopB f.1 f.2 = b := ⟨_, rfl⟩
      obtain ⟨bs, hbs⟩ : ∃ b, senB f.1 = b := ⟨_, rfl⟩
      have HBS := Lib.hid hbs
      have HBH := Lib.hid hbh
      rw [hbn, hbv] at HWR
      rw [hbn] at HNM
      rw [hbv] at HVL
      rw [hbh] at HHP HSK
      rw [hbs] at HSN
      clear hx g0 g1 hI hbn hbv hbh hbs
      obtain ⟨f1, f2⟩ := f
      simp only at e0 e1 HNM HVL HHP HSN HBS HBH
      go_upto_region 5 with fail
      refine wp_gen (fun W => Blk W wr.heap.size 29 #[.string f1, .string f2] ∧ Fresh wr W) ⟨Blk.new wr _ _, Fresh.alloc _ _⟩ ?_
      rintro W ⟨hbw, hfw⟩
      obtain ⟨p, hp⟩ : ∃ p, wr.heap.size = p := ⟨_, rfl⟩
      rw [hp] at hbw ⊢
      clear hp e0 e1
      obtain ⟨y0, y1⟩ := hbw.c2
      have HBW := Lib.hid hbw
      have HFW := Lib.hid hfw
      clear hbw hfw
      cases bn
      · have HB := Lib.hid (HBAD.out k 30 (f1, f2) W HX.out HI.out.ok (by rw [HWR.out]; rfl) (by omega) (HI.out.fr.trans HFW.out))
        go_wp2_with fail
        with_reducible refine (HNM.out _).mono ?_
        rintro e w5 ⟨rfl, hw⟩
        obtain rfl : W = w5 := hw.symm
        go_wp2_with fail
        exact HB.out
      go_wp2_with fail
      with_reducible refine (HNM.out _).mono ?_
      rintro e w5 ⟨rfl, hw⟩
      obtain rfl : W = w5 := hw.symm
      go_wp2_with fail
      with_reducible refine (HVL.out _).mono ?_
      rintro e w6 ⟨rfl, hf6⟩
      obtain ⟨y0, y1⟩ := (HBW.out.fresh hf6).c2
      have HBW6 := Lib.hid (HBW.out.fresh hf6)
      have HF6 := Lib.hid (HFW.out.trans hf6)
      clear hf6 HBW HFW
      cases bv
      · have HB := Lib.hid (HBAD.out k 31 (f1, f2) w6 HX.out HI.out.ok (by rw [HWR.out]; rfl) (by omega) (HI.out.fr.trans HF6.out))
        go_wp2_with fail
        exact HB.out
      go_wp2_with fail
      with_reducible refine (HHP.out _).mono ?_
      rintro e w7 ⟨rfl, hf7⟩
      obtain ⟨y0, y1⟩ := (HBW6.out.fresh hf7).c2
      have HBW7 := Lib.hid (HBW6.out.fresh hf7)
      have HF7 := Lib.hid (HF6.out.trans hf7)
      clear hf7 HBW6 HF6
      have HW0 : Hid (wrongF (f1, f2) = 0) := Lib.hid (by rw [HWR.out]; rfl)
      cases bh
      rotate_left
      · have HQ := Lib.hid (HSK.out w7 (HI.out.fresh HF7.out) HW0.out rfl)
        go_wp2_with fail
        go_roundw
        case rel => exact ⟨k + 1, A, n, c, by omega, by go_num, rfl, HQ.out⟩
        case measure => simp [intOf]; omega
      go_upto_region 10 with fail
      refine wp_gen (fun W7 => ClnI l w k A n c W7 ∧ Blk W7 p 29 #[.string f1, .string f2]) ⟨HI.out.fresh HF7.out, HBW7.out⟩ ?_
      clear HI HBW7 HF7 y0 y1 HBAD HFIN HNM HVL HHP HSK
      rintro W7 ⟨hi, hb7⟩
      obtain ⟨y0, y1⟩ := hb7.c2
      have hkl := keepR_len (l.take k)
      have hkn : (l.take k).length ≤ 1000000 := by rw [List.length_take]; omega
      have hown := hi.own
      rw [hi.len] at hown
      obtain ⟨A', c', w', hap, ho', hO, _⟩ := ln_push (w := W7.drew) (base := w.heap.size) (hown.fresh (Fresh.drew W7)) (hi.fr.trans (Fresh.drew W7)).size ((f1, f2), bs) (by omega) _ rfl
      rw [← hi.len] at hap hO ho'
      have HKE : Hid (keepR (l.take (k + 1)) = keepR (l.take k) ++ [((f1, f2), bs)]) := Lib.hid (by
        rw [keepR_take HX.out, HBH.out, ← HBS.out]
        rfl)
      have HN : Hid (ClnI l w (k + 1) A' (n + 1) c' w') := Lib.hid ⟨okW_succ hi.ok HX.out HW0.out, by rw [HKE.out, List.length_append, ← hi.len]; rfl, by
        rw [HKE.out]
        have := ho'
        rw [List.length_append, ← hi.len] at this
        exact this, by
        have h1 : Only (fun k => (Value.slice A n c).ownBlock = some k) W7 w' := (Only.of_fresh (Fresh.drew W7)).trans hO
        have hlt := hi.own.lt
        exact hi.fr.only h1 (fun k hk => (hlt k hk).1)⟩
      clear hi hb7 hown ho' hO hkl hkn
      simp only at hap
      go_region_law (first
        | (go_simp; go_at_call 32; (with_reducible refine (HSN.out _).mono ?_); rintro e w8 ⟨rfl, hw⟩; obtain rfl : W7.drew = w8 := hw.symm)
        | (with_reducible refine step_app rfl (.tmp 24) (.tmp 30) _ rfl hap rfl (by simp [Act.eval, Act.put]) (by simp [Act.eval, Act.put]) ?_))
      all_goals
        refine wx_gen (ClnI l w (k + 1) A' (n + 1) c') HN.out ?_
        clear HN hap y0 y1
        rintro W9 hW9
        have HW9 := Lib.hid hW9
        clear hW9
        go_wp2_with fail
        go_roundw
        case rel => exact ⟨k + 1, A', n + 1, c', by omega, by go_num, rfl, HW9.out⟩
        case measure => simp [intOf]; omega
    · obtain rfl : k = l.length := by omega
      have HQ := Lib.hid (HFIN.out _ _ _ _ _ HI.out (Nat.le_refl _))
      go_wp2_with fail
      exact HQ.out
end Go.Proofs.YtapikjhfgcbifaaGreatDoor

/-
  Package clean: Check; the laws' fixed answer.
-/
namespace Go.Proofs.YtapikjhfgcbifaaGreatDoor
set_option maxRecDepth 100000
set_option linter.unusedVariables false
set_option linter.unusedSimpArgs false
open Go.RowKit
def wrongC (f : FldT) : Nat := if nameB f.1.data.toList = false ∨ hopB f.1 f.2 = true then 30 else if valB f.2.data.toList = false then 31 else 0
/-- The first error of lines. -/
def chkR : List LnD → Nat
  | [] => 0
  | x :: r => if wrongC x.1 ≠ 0 then wrongC x.1 else chkR r
theorem chkR_ok : ∀ {l : List LnD}, (∀ (j : Nat) x, l[j]? = some x → wrongC x.1 = 0) → chkR l = 0
  | [], _ => rfl
  | x :: r, h => by
    unfold chkR
    rw [if_neg (by rw [h 0 x rfl]; simp)]
    exact chkR_ok (fun j y hy => h (j + 1) y (by simpa using hy))
theorem chkR_bad : ∀ {l : List LnD} {k : Nat} {x : LnD}, l[k]? = some x → (∀ (j : Nat) y, j < k → l[j]? = some y → wrongC y.1 = 0) → wrongC x.1 ≠ 0 → chkR l = wrongC x.1
  | [], k, f, h, _, _ => by cases h
  | g :: r, 0, f, h, _, hf => by
    simp at h
    subst h
    unfold chkR
    rw [if_pos hf]
  | g :: r, k + 1, f, h, ha, hf => by
    unfold chkR
    rw [if_neg (by rw [ha 0 g (by omega) rfl]; simp)]
    exact chkR_bad (l := r) (k := k) (by simpa using h) (fun j y hj hy => ha (j + 1) y (by omega) (by simpa using hy)) hf
theorem okC_succ {l : List LnD} {k : Nat} {x : LnD} (h : ∀ (j : Nat) y, j < k → l[j]? = some y → wrongC y.1 = 0) (hk : l[k]? = some x) (hx : wrongC x.1 = 0) : ∀ (j : Nat) y, j < k + 1 → l[j]? = some y → wrongC y.1 = 0 := by
  intro j y hj hy
  by_cases e : j = k
  · subst e
    rw [hk] at hy
    cases hy
    exact hx
  · exact h j y (by omega) hy
def ChkP (l : List LnD) (w : World) (e : Ending) (w' : World) : Prop := ∃ n : Nat, e = .returned (.int .i64 (n : Int)) ∧ chkR l = n ∧ Fresh w w'
set_option maxHeartbeats 6400000 in
theorem cl_check (A0 : Option Addr) (c0 : Nat) (l : List LnD) (w : World) (hm : Many lnD 3 w A0 l) (hl : l.length ≤ 1000000) (hs : ∀ x ∈ l, x.1.2.size ≤ 1000000) :
    Calls Tryz.prog 28 #[.slice A0 l.length c0] w (ChkP l w) := by
  have HM := Lib.hid hm
  have HS := Lib.hid hs
  have HBAD : Hid (∀ (k n : Nat) (x : LnD) (w' : World), l[k]? = some x → (∀ (j : Nat) y, j < k → l[j]? = some y → wrongC y.1 = 0) → wrongC x.1 = n → n ≠ 0 → Fresh w w' → ChkP l w (.returned (.int .i64 (n : Int))) w') := Lib.hid (fun k n x w' hx ha hn h0 hf => by
    subst hn
    exact ⟨_, rfl, chkR_bad hx ha h0, hf⟩)
  have HFIN : Hid (∀ w', (∀ (j : Nat) y, l[j]? = some y → wrongC y.1 = 0) → Fresh w w' → ChkP l w (.returned (.int .i64 0)) w') := Lib.hid (fun w' h hf => ⟨0, rfl, chkR_ok h, hf⟩)
  clear hm hs
  generalize ChkP l w = FP at *
  go_enter Tryz.func28, Tryz.ntmps28
  go_wp2_with fail
  go_loopw [7] (fun i wr => ∃ k : Nat, k ≤ l.length ∧ i = .int .i64 (k : Int) ∧ (∀ (j : Nat) y, j < k → l[j]? = some y → wrongC y.1 = 0) ∧ Fresh w wr) (fun i _ => l.length - (intOf i).toNat)
  case atStart => exact ⟨0, by omega, rfl, fun j g hj => by omega, Fresh.refl _⟩
  case round =>
    obtain ⟨k, hk, rfl, hok, hfr⟩ := hrel
    have HOK := Lib.hid hok
    have HFR := Lib.hid hfr
    clear hok
    by_cases hlt : k < l.length
    · have hlt' : (k : Int) < (l.length : Int) := by omega
      obtain ⟨x, hx⟩ : ∃ x, l[k]? = some x := ⟨_, List.getElem?_eq_getElem hlt⟩
      obtain ⟨b, o, rfl, hb, g0, g1, g2⟩ := HM.out.lnAt k x hx
      have e0 := (hfr.cell (p := ⟨b, o + k * 3, none⟩) hb).trans g0
      have e1 := (hfr.cell (p := ⟨b, o + k * 3 + 1, none⟩) hb).trans g1
      have e2 := (hfr.cell (p := ⟨b, o + k * 3 + 2, none⟩) hb).trans g2
      have HX := Lib.hid hx
      have HWR : Hid (wrongC x.1 = if nameB x.1.1.data.toList = false ∨ hopB x.1.1 x.1.2 = true then 30 else if valB x.1.2.data.toList = false then 31 else 0) := Lib.hid rfl
      have HNM := Lib.hid (fun w => cl_name x.1.1 w)
      have HVL := Lib.hid (fun w => cl_value x.1.2 w (HS.out x (List.mem_of_getElem? hx)))
      have HHP := Lib.hid (fun w => cl_hop x.1.1 x.1.2 w)
      obtain ⟨bn, hbn⟩ : ∃ b, nameB x.1.1.data.toList = b := ⟨_, rfl⟩
      obtain ⟨bv, hbv⟩ : ∃ b, valB x.1.2.data.toList = b := ⟨_, rfl⟩
      obtain ⟨bh, hbh⟩ : ∃ b, hopB x.1.1 x.1.2 = b := ⟨_, rfl⟩
      rw [hbn, hbv, hbh] at HWR
      rw [hbn] at HNM
      rw [hbv] at HVL
      rw [hbh] at HHP
      clear hx g0 g1 g2 hfr hbn hbv hbh
      obtain ⟨⟨f1, f2⟩, nv⟩ := x
      simp only at e0 e1 e2 HNM HVL HHP
      go_upto_region 4 with fail
      refine wp_gen (fun W => Blk W wr.heap.size 38 #[.string f1, .string f2, .bool nv] ∧ Fresh wr W) ⟨Blk.new wr _ _, Fresh.alloc _ _⟩ ?_
      rintro W ⟨hbw, hfw⟩
      obtain ⟨p, hp⟩ : ∃ p, wr.heap.size = p := ⟨_, rfl⟩
      rw [hp] at hbw ⊢
      clear hp e0 e1 e2
      obtain ⟨y0, y1, y2⟩ := hbw.c3
      have HBW := Lib.hid hbw
      have HFW := Lib.hid hfw
      clear hbw hfw
      cases bn
      · have HB := Lib.hid (HBAD.out k 30 ((f1, f2), nv) W HX.out HOK.out (by rw [HWR.out]; rfl) (by omega) (HFR.out.trans HFW.out))
        go_wp2_with fail
        with_reducible refine (HNM.out _).mono ?_
        rintro e w5 ⟨rfl, hw⟩
        obtain rfl : W = w5 := hw.symm
        go_wp2_with fail
        exact HB.out
      go_wp2_with fail
      with_reducible refine (HNM.out _).mono ?_
      rintro e w5 ⟨rfl, hw⟩
      obtain rfl : W = w5 := hw.symm
      go_wp2_with fail
      with_reducible refine (HHP.out _).mono ?_
      rintro e w7 ⟨rfl, hf7⟩
      obtain ⟨y0, y1, y2⟩ := (HBW.out.fresh hf7).c3
      have HBW7 := Lib.hid (HBW.out.fresh hf7)
      have HF7 := Lib.hid (HFW.out.trans hf7)
      clear hf7 HBW HFW
      cases bh
      rotate_left
      · have HB := Lib.hid (HBAD.out k 30 ((f1, f2), nv) w7 HX.out HOK.out (by rw [HWR.out]; rfl) (by omega) (HFR.out.trans HF7.out))
        go_wp2_with fail
        exact HB.out
      go_wp2_with fail
      with_reducible refine (HVL.out _).mono ?_
      rintro e w6 ⟨rfl, hf6⟩
      have HF6 := Lib.hid (HF7.out.trans hf6)
      clear hf6 HBW7 HF7
      cases bv
      · have HB := Lib.hid (HBAD.out k 31 ((f1, f2), nv) w6 HX.out HOK.out (by rw [HWR.out]; rfl) (by omega) (HFR.out.trans HF6.out))
        go_wp2_with fail
        exact HB.out
      have HQ := Lib.hid (okC_succ HOK.out HX.out (by rw [HWR.out]; rfl))
      go_wp2_with fail
      go_roundw
      case rel => exact ⟨k + 1, by omega, by go_num, HQ.out, HFR.out.trans HF6.out⟩
      case measure => simp [intOf]; omega
    · obtain rfl : k = l.length := by omega
      have HQ := Lib.hid (HFIN.out wr (fun j y hy => HOK.out j y (List.getElem?_eq_some_iff.1 hy).1 hy) hfr)
      clear hfr
      go_wp2_with fail
      exact HQ.out
theorem many_fd1 {w : World} {b : Nat} {x : FldT} (h : Blk w b 29 #[.string x.1, .string x.2]) : Many fldD 2 w (some ⟨b, 0, none⟩) [x] := fun _ => by
  refine ⟨b, 0, rfl, h.lt, fun i hi j hj => ?_⟩
  obtain rfl : i = 0 := by simp at hi; omega
  rcases (show j = 0 ∨ j = 1 by omega) with rfl | rfl
  · rw [h.cell]; rfl
  · rw [h.cell]; rfl
theorem many_fd3 {w : World} {b : Nat} {x y z : FldT} (h : Blk w b 29 #[.string x.1, .string x.2, .string y.1, .string y.2, .string z.1, .string z.2]) : Many fldD 2 w (some ⟨b, 0, none⟩) [x, y, z] := fun _ => by
  refine ⟨b, 0, rfl, h.lt, fun i hi j hj => ?_⟩
  have hi' : i = 0 ∨ i = 1 ∨ i = 2 := by simp at hi; omega
  rcases hi' with rfl | rfl | rfl <;> rcases (show j = 0 ∨ j = 1 by omega) with rfl | rfl <;> (rw [h.cell]; rfl)
end Go.Proofs.YtapikjhfgcbifaaGreatDoor

