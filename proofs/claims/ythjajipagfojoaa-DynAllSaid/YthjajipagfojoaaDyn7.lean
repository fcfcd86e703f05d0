/-
  The document's Size and Resize of a list of fields.
-/
import Derived.Test.YthjajipagfojoaaDyn6
import Derived.Test.YthjajipagfojoaaShape
namespace Go.Proofs.Ythjajipagfojoaa
set_option linter.unusedVariables false
set_option linter.unusedSimpArgs false
open Go.RowKit
theorem Many.at2 {w : World} {A : Option Addr} {xs : List FldT} (h : Many fldD 2 w A xs) (k : Nat) (x : FldT) (hx : xs[k]? = some x) :
    ∃ b o, A = some ⟨b, o, none⟩ ∧ b < w.heap.size ∧ w.cell? ⟨b, o + k * 2, none⟩ = some (.string x.1) ∧ w.cell? ⟨b, o + k * 2 + 1, none⟩ = some (.string x.2) := by
  obtain ⟨hk, rfl⟩ := List.getElem?_eq_some_iff.1 hx
  obtain ⟨b, o, e, hb, hc⟩ := h (by omega)
  exact ⟨b, o, e, hb, by have := hc k hk 0 (by omega); simpa [fldD] using this, by have := hc k hk 1 (by omega); simpa [fldD] using this⟩
theorem Many.takeD {w : World} {A : Option Addr} {xs : List FldT} (h : Many fldD 2 w A xs) (n : Nat) : Many fldD 2 w A (xs.take n) := by
  intro hn
  have hl : 0 < xs.length := by rw [List.length_take] at hn; omega
  obtain ⟨b, o, e, hb, hc⟩ := h hl
  refine ⟨b, o, e, hb, fun k hk j hj => ?_⟩
  rw [List.length_take] at hk
  rw [hc k (by omega) j hj, List.getElem_take]
theorem tz_take (xs : List FldT) (k : Nat) (f : FldT) (h : xs[k]? = some f) : tz (xs.take (k + 1)) = tz (xs.take k) + fz f := by
  obtain ⟨hk, rfl⟩ := List.getElem?_eq_some_iff.1 h
  rw [List.take_succ_eq_append_getElem hk, tz_append]
  simp [tz]
theorem tz_take_le (xs : List FldT) (k : Nat) : tz (xs.take k) ≤ tz xs := by
  have h := tz_append (xs.take k) (xs.drop k)
  rw [List.take_append_drop] at h
  omega
set_option maxRecDepth 100000 in
set_option maxHeartbeats 3200000 in
theorem rf_size (A : Option Addr) (c : Nat) (xs : List FldT) (w : World) (hm : Many fldD 2 w A xs) (hl : xs.length ≤ 1000000) (hz : tz xs ≤ 4503599627370496) :
    Calls Try.prog 28 #[.slice A xs.length c] w fun e w' => e = .returned (.int .i64 (tz xs : Int)) ∧ Fresh w w' := by
  have HM := Lib.hid hm
  have HZ := Lib.hid hz
  clear hm hz
  obtain ⟨n, hn⟩ : ∃ n, xs.length = n := ⟨_, rfl⟩
  rw [hn] at hl ⊢
  go_enter Try.func28, Try.ntmps28
  go_wp2
  go_loopw [3, 4] (fun s i wr => ∃ k : Nat, k ≤ n ∧ i = .int .i64 (k : Int) ∧ s = .int .i64 (tz (xs.take k) : Int) ∧ Fresh w wr) (fun s i _ => n - (intOf i).toNat)
  case atStart => exact ⟨0, by omega, rfl, rfl, Fresh.refl _⟩
  case round =>
    obtain ⟨k, hk, rfl, rfl, hf⟩ := hrel
    by_cases hlt : k < n
    · have hlt' : (k : Int) < (n : Int) := by omega
      obtain ⟨f, hfk⟩ : ∃ f, xs[k]? = some f := ⟨_, List.getElem?_eq_getElem (by omega)⟩
      obtain ⟨b, o, rfl, hb, h0, h1⟩ := HM.out.at2 k f hfk
      have h0 := (hf.cell (p := ⟨b, o + k * 2, none⟩) hb).trans h0
      have h1 := (hf.cell (p := ⟨b, o + k * 2 + 1, none⟩) hb).trans h1
      have ht := tz_take xs k f hfk
      have hz2 := HZ.out
      have hz3 := tz_take_le xs (k + 1)
      have HT := Lib.hid ht
      have hfz : (fz f : Int) = (f.1.size : Int) + (f.2.size : Int) + 32 := by unfold fz; simp
      have e1 : IntKind.i64.wrap ((f.1.size : Int) + (f.2.size : Int)) = (f.1.size : Int) + (f.2.size : Int) := by rw [IntKind.wrap_i64]; omega
      have e2 : IntKind.i64.wrap ((f.1.size : Int) + (f.2.size : Int) + 32) = (fz f : Int) := by rw [IntKind.wrap_i64]; omega
      have e3 : IntKind.i64.wrap ((tz (xs.take k) : Int) + (fz f : Int)) = (tz (xs.take (k + 1)) : Int) := by rw [IntKind.wrap_i64]; omega
      have HF := Lib.hid hf
      clear ht hz2 hz3 hfz hf
      go_upto_region 5 with fail
      go_region_with fail
      all_goals
        go_wp2
        go_roundw
        case rel => exact ⟨k + 1, by omega, by go_num, rfl, HF.out.drewS⟩
        case measure => simp [intOf]; omega
    · have hlt' : ¬ (k : Int) < (n : Int) := by omega
      obtain rfl : k = n := by omega
      have HF := Lib.hid hf
      clear hf
      go_wp2
      go_ret
      exact ⟨by rw [← hn, List.take_length]; rfl, HF.out⟩
end Go.Proofs.Ythjajipagfojoaa
