/-
  Package clean: Lower.
-/
import Derived.Test.YtmeeofplpffboaaDoorClnA
import Derived.Test.YtmeeofplpffboaaDoorMake
import Derived.Test.YtmeeofplpffboaaDoorBytes
import Derived.Laws.IdiomStrings
namespace Go.Proofs.YtmeeofplpffboaaDoor
set_option maxRecDepth 100000
set_option linter.unusedVariables false
set_option linter.unusedSimpArgs false
open Go.RowKit
def lowC (c : UInt8) : UInt8 := if 65 ≤ c.toNat ∧ c.toNat ≤ 90 then c + 32 else c
def lowL (l : List UInt8) : List UInt8 := l.map lowC
theorem lowC_all : ∀ n : Fin 256, 65 ≤ n.val → n.val ≤ 90 → ((((n.val : Int) - 65) % 256 + 97) % 256 : Int) = ((lowC n.val.toUInt8).toNat : Int) ∧ (lowC n.val.toUInt8).toNat = n.val + 32 := by decide +kernel
theorem lowC_up (c : UInt8) (h0 : 65 ≤ c.toNat) (h1 : c.toNat ≤ 90) : ((((c.toNat : Int) - 65) % 256 + 97) % 256 : Int) = ((lowC c).toNat : Int) ∧ (lowC c).toNat = c.toNat + 32 := by
  have h := lowC_all ⟨c.toNat, c.toNat_lt⟩ h0 h1
  simpa using h
theorem lowC_no (c : UInt8) (h : ¬ (65 ≤ c.toNat ∧ c.toNat ≤ 90)) : lowC c = c := by unfold lowC; rw [if_neg h]
theorem lowC_two (c : UInt8) : lowC (lowC c) = lowC c := by
  by_cases h : 65 ≤ c.toNat ∧ c.toNat ≤ 90
  · have := lowC_up c h.1 h.2
    rw [lowC_no (lowC c) (by omega)]
  · rw [lowC_no c h, lowC_no c h]
theorem lowL_two (l : List UInt8) : lowL (lowL l) = lowL l := by
  unfold lowL
  rw [List.map_map]
  congr 1
  funext c
  exact lowC_two c
theorem lowL_len (l : List UInt8) : (lowL l).length = l.length := by simp [lowL]
/-- A row of bytes that is made small in place: k of them so far. -/
structure LowS (w : World) (g c : Nat) (l : List UInt8) (k : Nat) (wr : World) : Prop where
  ge : w.heap.size ≤ g
  fr : Fresh w wr
  row : ∃ cs z, wr.heap[g]? = some (.cells cs 5 z) ∧ l.length ≤ cs.size ∧ cs.size ≤ z.1 ∧ ∀ (j : Nat) x, l[j]? = some x → cs[j]? = some (byteV (if j < k then lowC x else x))
theorem conv_low (w : World) (l : List UInt8) : ∃ (c : Nat) (W : World), (convert 9 45 (.string (strB l))).run Tryd.prog w = .ok (.slice (some ⟨w.heap.size, 0, none⟩) l.length c) W ∧ LowS w w.heap.size c l 0 W ∧ l.length ≤ c := by
  have h := run_bytes_of_string (P := Tryd.prog) w 9 45 5 (strB l) Tryd.underlying9 Tryd.underlying45 Tryd.underlying5
  rw [strB_size] at h
  have hge := grownCap_ge w l.length 0 5
  generalize grownCap w l.length 0 5 = cp at *
  refine ⟨_, _, h, ⟨Nat.le_refl _, (Fresh.drew w).trans (Fresh.alloc _ _), bytesRow (strB l) cp, ((bytesRow (strB l) cp).size, (bytesRow (strB l) cp).size + 1), ?_, ?_, Nat.le_refl _, fun j x hx => ?_⟩, hge⟩
  · show (w.heap.push _)[w.heap.size]? = _
    simp
  · simp [bytesRow, strB]
  · obtain ⟨hj, rfl⟩ := List.getElem?_eq_some_iff.1 hx
    simp [bytesRow, strB, byteV, Array.getElem?_append, hj]
theorem LowS.at {w wr : World} {g c k : Nat} {l : List UInt8} (h : LowS w g c l k wr) {x : UInt8} (hx : l[k]? = some x) : wr.cell? ⟨g, k, none⟩ = some (.int .u8 (x.toNat : Int)) ∧ wr.frozen? ⟨g, k, none⟩ = false := by
  obtain ⟨_, _, cs, z, h1, h2, h3, h4⟩ := h
  have hk := (List.getElem?_eq_some_iff.1 hx).1
  refine ⟨?_, ?_⟩
  · have := h4 k x hx
    rw [if_neg (Nat.lt_irrefl _)] at this
    simp [World.cell?, h1, this, byteV]
  · simp [World.frozen?, h1]
    omega
theorem LowS.same {w wr : World} {g c k : Nat} {l : List UInt8} (h : LowS w g c l k wr) {x : UInt8} (hx : l[k]? = some x) (hl : lowC x = x) : LowS w g c l (k + 1) wr := by
  obtain ⟨a, b, cs, z, h1, h2, h3, h4⟩ := h
  refine ⟨a, b, cs, z, h1, h2, h3, fun j y hy => ?_⟩
  rw [h4 j y hy]
  by_cases e : j = k
  · subst e
    rw [hx] at hy
    cases hy
    simp [hl]
  · by_cases e2 : j < k
    · rw [if_pos e2, if_pos (by omega)]
    · rw [if_neg e2, if_neg (by omega)]
theorem LowS.step {w wr : World} {g c k : Nat} {l : List UInt8} (h : LowS w g c l k wr) {x : UInt8} (hx : l[k]? = some x) (v : Value) (hv : v = .int .u8 ((lowC x).toNat : Int)) : LowS w g c l (k + 1) (wr.setCell ⟨g, k, none⟩ v) := by
  obtain ⟨a, b, cs, z, h1, h2, h3, h4⟩ := h
  subst hv
  have hk := (List.getElem?_eq_some_iff.1 hx).1
  refine ⟨a, b.step _ _ a, cs.setIfInBounds k (.int .u8 ((lowC x).toNat : Int)), z, ?_, by simpa using h2, by simpa using h3, fun j y hy => ?_⟩
  · simp [World.setCell, Array.getElem?_modify, h1]
  · by_cases e : j = k
    · subst e
      rw [hx] at hy
      cases hy
      rw [if_pos (by omega), Array.getElem?_setIfInBounds, if_pos rfl, if_pos (by omega)]
      rfl
    · rw [Array.getElem?_setIfInBounds_ne (fun h => e h.symm), h4 j y hy]
      by_cases e2 : j < k
      · rw [if_pos e2, if_pos (by omega)]
      · rw [if_neg e2, if_neg (by omega)]
theorem LowS.row_all {w wr : World} {g c k : Nat} {l : List UInt8} (h : LowS w g c l k wr) (hk : l.length ≤ k) : BS wr (some ⟨g, 0, none⟩) (lowL l) := by
  obtain ⟨a, b, cs, z, h1, h2, h3, h4⟩ := h
  intro hn
  refine ⟨g, 0, rfl, (Array.getElem?_eq_some_iff.1 h1).1, fun j hj => ?_⟩
  rw [lowL_len] at hj
  have := h4 j l[j] (List.getElem?_eq_getElem hj)
  rw [if_pos (by omega)] at this
  rw [Nat.zero_add]
  simp [World.cell?, h1, this, lowL]
set_option maxHeartbeats 3200000 in
theorem cl_low (l : List UInt8) (w : World) (hl : l.length ≤ 100000000) :
    Calls Tryd.prog 21 #[.string (strB l)] w fun e w' => e = .returned (.string (strB (lowL l))) ∧ Fresh w w' := by
  obtain ⟨c, W, hcv, hS, hlc⟩ := conv_low w l
  have HS := Lib.hid hS
  clear hS
  obtain ⟨g, hg⟩ : ∃ g, w.heap.size = g := ⟨_, rfl⟩
  rw [hg] at hcv HS
  have HL : Hid (∀ wr, LowS w g c l l.length wr → (convert 45 9 (.slice (some ⟨g, 0, none⟩) l.length c)).run Tryd.prog wr = .ok (.string (strB (lowL l))) wr) := Lib.hid (fun wr h => by
    have h1 := run_str (P := Tryd.prog) (h.row_all (Nat.le_refl _)) 45 9 5 Tryd.underlying45 Tryd.underlying5 Tryd.underlying9 (c := c)
    rw [lowL_len] at h1
    exact h1)
  clear hg
  generalize strB (lowL l) = R at *
  generalize hSL : strB l = SL at *
  clear hSL
  go_enter Tryd.func21, Tryd.ntmps21
  go_wp2
  go_loopw [10] (fun i wr => ∃ k : Nat, k ≤ l.length ∧ i = .int .i64 (k : Int) ∧ LowS w g c l k wr) (fun i _ => l.length - (intOf i).toNat)
  case atStart => exact ⟨0, by omega, rfl, HS.out⟩
  case round =>
    obtain ⟨k, hk, rfl, hs⟩ := hrel
    have HR := Lib.hid hs
    clear hs
    by_cases hlt : k < l.length
    · have hlt' : (k : Int) < (l.length : Int) := by omega
      obtain ⟨x, hx⟩ : ∃ x, l[k]? = some x := ⟨_, List.getElem?_eq_getElem hlt⟩
      obtain ⟨e1, e2⟩ := HR.out.at hx
      have HX := Lib.hid hx
      clear hx
      by_cases h65 : 65 ≤ x.toNat
      · by_cases h90 : x.toNat ≤ 90
        · have a0 : (65 : Int) ≤ (x.toNat : Int) := by omega
          have a1 : (x.toNat : Int) ≤ 90 := by omega
          have HN := Lib.hid (lowC_up x h65 h90).1
          have HQ := Lib.hid (HR.out.step HX.out)
          clear h65 h90
          go_wp2
          go_roundw
          case rel => exact ⟨k + 1, by omega, by go_num, HQ.out _ (by rw [← HN.out]; congr 1; omega)⟩
          case measure => simp [intOf]; omega
        · have a0 : decide ((65 : Int) ≤ (x.toNat : Int)) = true := decide_eq_true (by omega)
          have a1 : decide ((x.toNat : Int) ≤ 90) = false := decide_eq_false (by omega)
          have HQ := Lib.hid (HR.out.same HX.out (lowC_no x (by omega)))
          clear h65 h90
          go_wp2
          go_roundw
          case rel => exact ⟨k + 1, by omega, by go_num, HQ.out⟩
          case measure => simp [intOf]; omega
      · have a0 : decide ((65 : Int) ≤ (x.toNat : Int)) = false := decide_eq_false (by omega)
        have HQ := Lib.hid (HR.out.same HX.out (lowC_no x (by omega)))
        clear h65
        go_wp2
        go_roundw
        case rel => exact ⟨k + 1, by omega, by go_num, HQ.out⟩
        case measure => simp [intOf]; omega
    · obtain rfl : k = l.length := by omega
      have hcv2 := HL.out _ HR.out
      go_wp2
      go_ret
      exact ⟨rfl, HR.out.fr⟩
end Go.Proofs.YtmeeofplpffboaaDoor

