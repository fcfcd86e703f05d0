/-
  Contract of window.Parts.
-/
import Derived.Test.YtnnciekbmapilaaWindow
import Derived.Deep.OwnRows
namespace Go.Proofs.Ytnnciekbmapilaa
set_option linter.unusedVariables false
open Go.RowKit

def part (t n : Int) (i : Nat) : Int := t / n + if (i : Int) < t % n then 1 else 0
def partsL (t : Int) (n : Nat) : List Int := (List.range n).map (part t n)
def intsA (l : List Int) : Array Value := (l.map (Value.int .i64)).toArray
theorem intsA_get (l : List Int) (i : Nat) : (intsA l)[i]? = (l[i]?).map (Value.int .i64) := by simp [intsA]
theorem intsA_size (l : List Int) : (intsA l).size = l.length := by simp [intsA]
theorem partsL_get (t : Int) (n i : Nat) (h : i < n) : (partsL t n)[i]? = some (part t n i) := by simp [partsL, h]
theorem partsL_length (t : Int) (n : Nat) : (partsL t n).length = n := by simp [partsL]
theorem int_info : (Try.prog.info? 3).map (fun i => (i.zero, i.size, i.bytes)) = some (some (.int .i64 0), 1, 8) := by kernel_rfl

/-- What Parts answers: a new row of just these numbers. -/
def PartsPost (t : Int) (n : Nat) (w : World) (e : Ending) (w' : World) : Prop :=
  e = .returned (.slice (some ⟨w.heap.size, 0, none⟩) n n) ∧ Blk w' w.heap.size 3 (intsA (partsL t n)) ∧ Fresh w w'

theorem parts_no (t n : Int) (w : World) (h : ¬ (1 ≤ n ∧ n ≤ 64 ∧ 0 ≤ t)) :
    Calls Try.prog 19 #[.int .i64 t, .int .i64 n] w fun e w' => e = .returned (.slice none 0 0) ∧ w = w' := by
  by_cases h0 : n < 1
  · clear h
    go_enter Try.func19, Try.ntmps19
    go_wp2
    go_ret
    exact ⟨rfl, rfl⟩
  · by_cases h1 : 64 < n
    · clear h
      go_enter Try.func19, Try.ntmps19
      go_wp2
      go_ret
      exact ⟨rfl, rfl⟩
    · have h2 : t < 0 := by omega
      clear h
      go_enter Try.func19, Try.ntmps19
      go_wp2
      go_ret
      exact ⟨rfl, rfl⟩

def PRel (t : Int) (n g k : Nat) (w wr : World) : Prop :=
  ∃ cs : Array Value, cs.size = n ∧ Blk wr g 3 cs ∧ (∀ j, j < k → cs[j]? = some (.int .i64 (part t n j))) ∧ Below g w wr

theorem PRel.step {t : Int} {n g k : Nat} {w wr wx : World} (h : PRel t n g k w wr) (hk : k < n) (v : Int)
    (hx : wx = wr.setCell ⟨g, k, none⟩ (.int .i64 v) ∨ ∃ u, wx = (wr.setCell ⟨g, k, none⟩ u).setCell ⟨g, k, none⟩ (.int .i64 v)) (hv : v = part t n k) : PRel t n g (k + 1) w wx := by
  obtain ⟨cs, hs, hb, hp, hbl⟩ := h
  rcases hx with rfl | ⟨u, rfl⟩
  · refine ⟨cs.setIfInBounds k (.int .i64 v), by simpa using hs, hb.set k _, fun j hj => ?_, hbl.setCell (Nat.le_refl _) _⟩
    by_cases e : j = k
    · subst e; simp [Array.getElem?_setIfInBounds, hs, hk, hv]
    · rw [Array.getElem?_setIfInBounds_ne (by omega)]; exact hp j (by omega)
  · refine ⟨(cs.setIfInBounds k u).setIfInBounds k (.int .i64 v), by simpa using hs, (hb.set k _).set k _, fun j hj => ?_, (hbl.setCell (Nat.le_refl _) _).setCell (Nat.le_refl _) _⟩
    by_cases e : j = k
    · subst e; simp [Array.getElem?_setIfInBounds, hs, hk, hv]
    · rw [Array.getElem?_setIfInBounds_ne (by omega), Array.getElem?_setIfInBounds_ne (by omega)]; exact hp j (by omega)

set_option maxHeartbeats 800000 in
theorem parts_yes (t : Int) (n : Nat) (w : World) (h1 : 1 ≤ n) (h2 : n ≤ 64) (h3 : 0 ≤ t) (h4 : t ≤ 9223372036854775807) :
    Calls Try.prog 19 #[.int .i64 t, .int .i64 n] w fun e w' => PartsPost t n w e w' := by
  have hmk := run_make_row' (P := Try.prog) 28 3 (.int .i64 0) 8 Try.underlying28 int_info rfl .i64 .i64 n (by omega) (by omega)
  have hm0 := World.cell?_alloc_lt
  have hq0 := Int.ediv_nonneg h3 (show (0 : Int) ≤ n by omega)
  have hq1 := Int.ediv_le_self (n : Int) h3
  have hr0 := Int.emod_nonneg t (show (n : Int) ≠ 0 by omega)
  have hr1 := Int.emod_lt_of_pos t (show (0 : Int) < n by omega)
  clear hm0
  have hst : PRel t n w.heap.size 0 w (w.alloc (.cells (madeCells #[.int .i64 0] n) 3)) :=
    ⟨_, size_madeCells _ _, Blk.new _ _ _, fun j hj => by omega, (Below.refl _ _).alloc (Nat.le_refl _) _⟩
  have HST := Lib.hid hst
  clear hst
  go_enter Try.func19, Try.ntmps19
  go_wp2
  go_loopw [21] (fun i wr => ∃ k : Nat, k ≤ n ∧ i = .int .i64 k ∧ PRel t n w.heap.size k w wr) (fun i _ => n - (intOf i).toNat)
  case atStart => exact ⟨0, by omega, rfl, HST.out⟩
  case round =>
    obtain ⟨k, hk, rfl, hrl⟩ := hrel
    have HR := Lib.hid hrl
    obtain ⟨cs, hs, hb, hp, hbl⟩ := hrl
    by_cases hlt : k < n
    · obtain ⟨v0, hv0⟩ : ∃ v, cs[k]? = some v := ⟨cs[k]'(by omega), Array.getElem?_eq_getElem _⟩
      have hc := (hb.cell k).trans hv0
      have hz := hb.frozen k
      clear hp hs hb hbl hv0
      by_cases hlr : (k : Int) < t % n
      · have hlq : t / (n : Int) < 9223372036854775807 := by
          by_cases hh : t / (n : Int) ≤ 9223372036854775806
          · omega
          · exfalso
            have e := Int.mul_ediv_add_emod t n
            have : (1 : Int) * (t / n) ≤ n * (t / n) := Int.mul_le_mul_of_nonneg_right (by omega) hq0
            omega
        have hpk : part t n k = t / n + 1 := by unfold part; rw [if_pos hlr]
        go_wp2
        go_roundw
        case rel => exact ⟨k + 1, by omega, by go_num, HR.out.step hlt _ (.inr ⟨_, rfl⟩) hpk.symm⟩
        case measure => simp [intOf]; omega
      · have hpk : part t n k = t / n := by unfold part; rw [if_neg hlr]; omega
        go_wp2
        go_roundw
        case rel => exact ⟨k + 1, by omega, by go_num, HR.out.step hlt _ (.inl rfl) hpk.symm⟩
        case measure => simp [intOf]; omega
    · obtain rfl : k = n := by omega
      clear hs hb hp hbl
      go_wp2
      go_ret
      obtain ⟨cs, hs, hb, hp, hbl⟩ := HR.out
      refine ⟨rfl, ?_, hbl⟩
      have : cs = intsA (partsL t k) := by
        apply Array.ext_getElem?
        intro i
        by_cases hi : i < k
        · rw [hp i hi]; simp [intsA, partsL, hi]
        · rw [Array.getElem?_eq_none (by omega), intsA_get, List.getElem?_eq_none (by rw [partsL_length]; omega)]; rfl
      rwa [this] at hb
end Go.Proofs.Ytnnciekbmapilaa
