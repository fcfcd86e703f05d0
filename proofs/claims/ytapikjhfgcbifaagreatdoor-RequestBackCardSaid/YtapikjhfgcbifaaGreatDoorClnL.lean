/-
  Package clean: Lower.
-/
import Derived.Test.YtapikjhfgcbifaaGreatDoorClnG1
import Derived.Test.YtapikjhfgcbifaaGreatDoorMake
import Derived.Test.YtapikjhfgcbifaaGreatDoorBytes
import Derived.Laws.IdiomStrings
namespace Go.Proofs.YtapikjhfgcbifaaGreatDoor
set_option maxRecDepth 100000
set_option linter.unusedVariables false
set_option linter.unusedSimpArgs false
open Go.RowKit
def lowC (c : UInt8) : UInt8 := if 65 ≤ c.toNat ∧ c.toNat ≤ 90 then c + 32 else c
def lowL (l : List UInt8) : List UInt8 := l.map lowC
theorem lowC_all : ∀ n : Fin 256, 65 ≤ n.val → n.val ≤ 90 → ((((n.val : Int) - 65) % 256 + 97) % 256 : Int) = ((lowC n.val.toUInt8).toNat : Int) ∧ (lowC n.val.toUInt8).toNat = n.val + 32 := by decide +kernel
theorem lowC_up (c : UInt8) (h0 : 65 ≤ c.toNat) (h1 : c.toNat ≤ 90) : ((((c.toNat : Int) - 65) % 256 + 97) % 256 : Int) = ((lowC c).toNat : Int) ∧ (lowC c).toNat = c.toNat + 32 := by
  have h := lowC_all ⟨c.toNat, c.toNat_lt⟩ h0 h1
  simpa using h
theorem lowC_no (c : UInt8) (h : ¬ (65 ≤ c.toNat ∧ c.toNat ≤ 90)) : lowC c = c := by unfold lowC; rw [if_neg h]
theorem lowC_two (c : UInt8) : lowC (lowC c) = lowC c := by
  by_cases h : 65 ≤ c.toNat ∧ c.toNat ≤ 90
  · have := lowC_up c h.1 h.2
    rw [lowC_no (lowC c) (by omega)]
  · rw [lowC_no c h, lowC_no c h]
theorem lowL_two (l : List UInt8) : lowL (lowL l) = lowL l := by
  unfold lowL
  rw [List.map_map]
  congr 1
  funext c
  exact lowC_two c
theorem lowL_len (l : List UInt8) : (lowL l).length = l.length := by simp [lowL]
/-- A row of bytes that is made small in place: k of them so far. -/
structure LowS (w : World) (g c : Nat) (l : List UInt8) (k : Nat) (wr : World) : Prop where
  ge : w.heap.size ≤ g
  fr : Fresh w wr
  row : ∃ cs z, wr.heap[g]? = some (.cells cs 5 z) ∧ l.length ≤ cs.size ∧ cs.size ≤ z.1 ∧ ∀ (j : Nat) x, l[j]? = some x → cs[j]? = some (byteV (if j < k then lowC x else x))
theorem conv_low (w : World) (l : List UInt8) : ∃ (c : Nat) (W : World), (convert 9 23 (.string (strB l))).run Tryz.prog w = .ok (.slice (some ⟨w.heap.size, 0, none⟩) l.length c) W ∧ LowS w w.heap.size c l 0 W ∧ l.length ≤ c := by
  have h := run_bytes_of_string (P := Tryz.prog) w 9 23 5 (strB l) Tryz.underlying9 Tryz.underlying23 Tryz.underlying5
  rw [strB_size] at h
  have hge := grownCap_ge w l.length 0 5
  generalize grownCap w l.length 0 5 = cp at *
  refine ⟨_, _, h, ⟨Nat.le_refl _, (Fresh.drew w).trans (Fresh.alloc _ _), bytesRow (strB l) cp, ((bytesRow (strB l) cp).size, (bytesRow (strB l) cp).size + 1), ?_, ?_, Nat.le_refl _, fun j x hx => ?_⟩, hge⟩
  · show (w.heap.push _)[w.heap.size]? = _
    simp
  · simp [bytesRow, strB]
  · obtain ⟨hj, rfl⟩ := List.getElem?_eq_some_iff.1 hx
    simp [bytesRow, strB, byteV, Array.getElem?_append, hj]
theorem LowS.at {w wr : World} {g c k : Nat} {l : List UInt8} (h : LowS w g c l k wr) {x : UInt8} (hx : l[k]? = some x) : wr.cell? ⟨g, k, none⟩ = some (.int .u8 (x.toNat : Int)) ∧ wr.frozen? ⟨g, k, none⟩ = false := by
  obtain ⟨_, _, cs, z, h1, h2, h3, h4⟩ := h
  have hk := (List.getElem?_eq_some_iff.1 hx).1
  refine ⟨?_, ?_⟩
  · have := h4 k x hx
    rw [if_neg (Nat.lt_irrefl _)] at this
    simp [World.cell?, h1, this, byteV]
  · simp [World.frozen?, h1]
    omega
theorem LowS.same {w wr : World} {g c k : Nat} {l : List UInt8} (h : LowS w g c l k wr) {x : UInt8} (hx : l[k]? = some x) (hl : lowC x = x) : LowS w g c l (k + 1) wr := by
  obtain ⟨a, b, cs, z, h1, h2, h3, h4⟩ := h
  refine ⟨a, b, cs, z, h1, h2, h3, fun j y hy => ?_⟩
  rw [h4 j y hy]
  by_cases e : j = k
  · subst e
    rw [hx] at hy
    cases hy
    simp [hl]
  · by_cases e2 : j < k
    · rw [if_pos e2, if_pos (by omega)]
    · rw [if_neg e2, if_neg (by omega)]
theorem LowS.step {w wr : World} {g c k : Nat} {l : List UInt8} (h : LowS w g c l k wr) {x : UInt8} (hx : l[k]? = some x) (v : Value) (hv : v = .int .u8 ((lowC x).toNat : Int)) : LowS w g c l (k + 1) (wr.setCell ⟨g, k, none⟩ v) := by
  obtain ⟨a, b, cs, z, h1, h2, h3, h4⟩ := h
  subst hv
  have hk := (List.getElem?_eq_some_iff.1 hx).1
  refine ⟨a, b.step _ _ a, cs.setIfInBounds k (.int .u8 ((lowC x).toNat : Int)), z, ?_, by simpa using h2, by simpa using h3, fun j y hy => ?_⟩
  · simp [World.setCell, Array.getElem?_modify, h1]
  · by_cases e : j = k
    · subst e
      rw [hx] at hy
      cases hy
      rw [if_pos (by omega), Array.getElem?_setIfInBounds, if_pos rfl, if_pos (by omega)]
      rfl
    · rw [Array.getElem?_setIfInBounds_ne (fun h => e h.symm), h4 j y hy]
      by_cases e2 : j < k
      · rw [if_pos e2, if_pos (by omega)]
      · rw [if_neg e2, if_neg (by omega)]
theorem LowS.row_all {w wr : World} {g c k : Nat} {l : List UInt8} (h : LowS w g c l k wr) (hk : l.length ≤ k) : BS wr (some ⟨g, 0, none⟩) (lowL l) := by
  obtain ⟨a, b, cs, z, h1, h2, h3, h4⟩ := h
  intro hn
  refine ⟨g, 0, rfl, (Array.getElem?_eq_some_iff.1 h1).1, fun j hj => ?_⟩
  rw [lowL_len] at hj
  have := h4 j l[j] (List.getElem?_eq_getElem hj)
  rw [if_pos (by omega)] at this
  rw [Nat.zero_add]
  simp [World.cell?, h1, this, lowL]
end Go.Proofs.YtapikjhfgcbifaaGreatDoor

