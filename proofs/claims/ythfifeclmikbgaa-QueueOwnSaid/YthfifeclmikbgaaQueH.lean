/-
  The document's Cut.
-/
import Derived.Test.YthfifeclmikbgaaQueG
namespace Go.Proofs.Ythfifeclmikbgaa
set_option linter.unusedVariables false
set_option linter.unusedSimpArgs false
open Go.RowKit
def cutS (x : SI) (d : Nat) : SI := (x.1, x.2.1, x.2.2.drop d)
theorem cutS_row (x : SI) (d : Nat) (r : List SI) : (rowS (x :: r)).set 2 (.string (strB (x.2.2.drop d))) = rowS (cutS x d :: r) := by simp [rowS, siD, cutS]
theorem strB_extract (l : List UInt8) (i j : Nat) : (strB l).extract i j = strB ((l.take j).drop i) := by
  apply ByteArray.ext
  simp [strB, ByteArray.data_extract]
  try rw [List.drop_take]
def CutSP (x : SI) (d : Nat) (r : List SI) (w : World) (e : Ending) (w' : World) : Prop := ∃ A' c', e = .returned (.slice A' (r.length + 1) c') ∧ LS w' A' c' (cutS x d :: r) ∧ Fresh w w'
set_option maxRecDepth 100000 in
set_option maxHeartbeats 3200000 in
theorem rs_cut (A : Option Addr) (c : Nat) (x : SI) (r : List SI) (d : Nat) (w : World) (h : LS w A c (x :: r)) (hl : r.length ≤ 10000) (hd : d ≤ x.2.2.length) (hx : x.2.2.length ≤ 100000000) :
    Calls Try.prog 26 #[.slice A (r.length + 1) c, .int .i64 (d : Int)] w (CutSP x d r w) := by
  obtain ⟨A1, c1, w1, hap, ho, hf⟩ := si_more h.rows (n := r.length + 1) (by simp) (by omega) (by have := h.le; simp at this; exact this)
  have hmx := h.max
  simp only [maxLen] at hmx
  obtain ⟨g, rfl, hgb, hgl, hnc, hcm, cur, hB⟩ := ho.pos (by omega)
  rcases ho.form with ⟨e, _⟩ | ⟨g', cc, e, _, _, _, _, hcell⟩
  · cases e
  injection e with e1 e2 e3
  simp at e1
  subst e1 e3
  have y2 : w1.cell? ⟨g, 2, none⟩ = some (.string (strB x.2.2)) := (hcell 2 (by simp [rowS, siD])).1.trans (by simp [rowS, siD])
  have z2 : w1.frozen? ⟨g, 2, none⟩ = false := hB.frozen 2
  have hex : (strB x.2.2).extract d (strB x.2.2).size = strB (x.2.2.drop d) := by rw [strB_extract, strB_size, List.take_length]
  have hsz : (strB x.2.2).size = x.2.2.length := strB_size _
  have HPUT := Lib.hid (ho.put 2 (.string (strB (x.2.2.drop d))))
  have HFIN : Hid (CutSP x d r w (.returned (.slice (some ⟨g, 0, none⟩) (r.length + 1) c1)) (w1.setCell ⟨g, 2, none⟩ (.string (strB (x.2.2.drop d))))) := Lib.hid (by
    have hp := HPUT.out
    rw [cutS_row] at hp
    exact ⟨_, c1, rfl, LS.of hp (by simp), hf.step _ _ hgb⟩)
  have HF : Hid (Fresh w (w1.setCell ⟨g, 2, none⟩ (.string (strB (x.2.2.drop d))))) := Lib.hid (hf.step _ _ hgb)
  obtain ⟨n, hn⟩ : ∃ n, r.length + 1 = n := ⟨_, rfl⟩
  have HN := Lib.hid hn
  rw [hn] at hap HFIN hnc ⊢
  clear HPUT
  have hn0 : 0 < n := by omega
  have hn1 : (0 : Int) < (n : Int) := by omega
  have i1 : (0 : Int) ≤ (d : Int) := by omega
  have i2 : (d : Int) ≤ ((strB x.2.2).size : Int) := by rw [hsz]; omega
  have i3 : d ≤ (strB x.2.2).size := by rw [hsz]; omega
  simp only [maxLen] at hcm
  generalize strB (x.2.2.drop d) = S2 at *
  generalize strB x.2.2 = S1 at *
  clear h ho hf hcell hB hn hsz
  go_enter Try.func26, Try.ntmps26
  go_wp2_with (at_builtin; with_reducible refine wp_app rfl (.tmp 6) (.tmp 7) _ rfl hap rfl rfl rfl ?_)
  go_ret
  exact HFIN.out
end Go.Proofs.Ythfifeclmikbgaa
