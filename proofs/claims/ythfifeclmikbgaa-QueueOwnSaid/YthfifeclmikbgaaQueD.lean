/-
  The document's lists of items: Size.
-/
import Derived.Test.YthfifeclmikbgaaQueC
import Derived.Test.YthfifeclmikbgaaShape
namespace Go.Proofs.Ythfifeclmikbgaa
set_option linter.unusedVariables false
set_option linter.unusedSimpArgs false
open Go.RowKit
abbrev SI := Int × List UInt8 × List UInt8
def siD (x : SI) : List Value := [.int .i64 x.1, .string (strB x.2.1), .string (strB x.2.2)]
def rowS (l : List SI) : List Value := l.flatMap siD
def siz (x : SI) : Nat := x.2.1.length + x.2.2.length
def sz (l : List SI) : Nat := (l.map siz).sum
theorem rowS_length (l : List SI) : (rowS l).length = l.length * 3 := by
  induction l with
  | nil => rfl
  | cons f r ih => simp only [rowS, List.flatMap_cons, List.length_append, List.length_cons] at ih ⊢; rw [ih]; simp [siD]; omega
theorem Many.at3 {w : World} {A : Option Addr} {xs : List SI} (h : Many siD 3 w A xs) (k : Nat) (x : SI) (hx : xs[k]? = some x) :
    ∃ b o, A = some ⟨b, o, none⟩ ∧ b < w.heap.size ∧ w.cell? ⟨b, o + k * 3, none⟩ = some (.int .i64 x.1) ∧ w.cell? ⟨b, o + k * 3 + 1, none⟩ = some (.string (strB x.2.1)) ∧ w.cell? ⟨b, o + k * 3 + 2, none⟩ = some (.string (strB x.2.2)) := by
  obtain ⟨hk, rfl⟩ := List.getElem?_eq_some_iff.1 hx
  obtain ⟨b, o, e, hb, hc⟩ := h (by omega)
  exact ⟨b, o, e, hb, by have := hc k hk 0 (by omega); simpa [siD] using this, by have := hc k hk 1 (by omega); simpa [siD] using this, by have := hc k hk 2 (by omega); simpa [siD] using this⟩
theorem sz_append (a b : List SI) : sz (a ++ b) = sz a + sz b := by simp [sz]
theorem sz_take (xs : List SI) (k : Nat) (f : SI) (h : xs[k]? = some f) : sz (xs.take (k + 1)) = sz (xs.take k) + siz f := by
  obtain ⟨hk, rfl⟩ := List.getElem?_eq_some_iff.1 h
  rw [List.take_succ_eq_append_getElem hk, sz_append]
  simp [sz]
theorem sz_take_le (xs : List SI) (k : Nat) : sz (xs.take k) ≤ sz xs := by
  have h := sz_append (xs.take k) (xs.drop k)
  rw [List.take_append_drop] at h
  omega
set_option maxRecDepth 100000 in
set_option maxHeartbeats 3200000 in
theorem rs_size (A : Option Addr) (c : Nat) (xs : List SI) (w : World) (hm : Many siD 3 w A xs) (hl : xs.length ≤ 1000000) (hz : sz xs ≤ 4503599627370496) :
    Calls Try.prog 13 #[.slice A xs.length c] w fun e w' => e = .returned (.int .i64 (sz xs : Int)) ∧ Fresh w w' := by
  have HM := Lib.hid hm
  have HZ := Lib.hid hz
  clear hm hz
  obtain ⟨n, hn⟩ : ∃ n, xs.length = n := ⟨_, rfl⟩
  rw [hn] at hl ⊢
  go_enter Try.func13, Try.ntmps13
  go_wp2
  go_loopw [3, 4] (fun s i wr => ∃ k : Nat, k ≤ n ∧ i = .int .i64 (k : Int) ∧ s = .int .i64 (sz (xs.take k) : Int) ∧ Fresh w wr) (fun s i _ => n - (intOf i).toNat)
  case atStart => exact ⟨0, by omega, rfl, rfl, Fresh.refl _⟩
  case round =>
    obtain ⟨k, hk, rfl, rfl, hf⟩ := hrel
    by_cases hlt : k < n
    · have hlt' : (k : Int) < (n : Int) := by omega
      obtain ⟨f, hfk⟩ : ∃ f, xs[k]? = some f := ⟨_, List.getElem?_eq_getElem (by omega)⟩
      obtain ⟨b, o, rfl, hb, h0, h1, h2⟩ := HM.out.at3 k f hfk
      have h1 := (hf.cell (p := ⟨b, o + k * 3 + 1, none⟩) hb).trans h1
      have h2 := (hf.cell (p := ⟨b, o + k * 3 + 2, none⟩) hb).trans h2
      have ht := sz_take xs k f hfk
      have hz2 := HZ.out
      have hz3 := sz_take_le xs (k + 1)
      have HT := Lib.hid ht
      have hs1 : (strB f.2.1).size = f.2.1.length := strB_size _
      have hs2 : (strB f.2.2).size = f.2.2.length := strB_size _
      have hfz : (siz f : Int) = ((strB f.2.1).size : Int) + ((strB f.2.2).size : Int) := by unfold siz; rw [hs1, hs2]; simp
      have e1 : IntKind.i64.wrap (((strB f.2.1).size : Int) + ((strB f.2.2).size : Int)) = (siz f : Int) := by rw [IntKind.wrap_i64]; omega
      have e3 : IntKind.i64.wrap ((sz (xs.take k) : Int) + (siz f : Int)) = (sz (xs.take (k + 1)) : Int) := by rw [IntKind.wrap_i64]; omega
      have HF := Lib.hid hf
      generalize strB f.2.1 = S1 at *
      generalize strB f.2.2 = S2 at *
      clear ht hz2 hz3 hfz hf hs1 hs2 h0
      go_upto_region 5 with fail
      go_quiet (fail)
      all_goals
        go_wp2
        go_roundw
        case rel => exact ⟨k + 1, by omega, by go_num, rfl, HF.out.trans (Fresh.drewN _ _)⟩
        case measure => simp [intOf]; omega
    · have hlt' : ¬ (k : Int) < (n : Int) := by omega
      obtain rfl : k = n := by omega
      have HF := Lib.hid hf
      clear hf
      go_wp2
      go_ret
      exact ⟨by rw [← hn, List.take_length]; rfl, HF.out⟩
end Go.Proofs.Ythfifeclmikbgaa
