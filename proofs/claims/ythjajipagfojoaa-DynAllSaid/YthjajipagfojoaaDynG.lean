/-
  small; the law DynPlays.
-/
import Derived.Test.YthjajipagfojoaaDynF
namespace Go.Proofs.Ythjajipagfojoaa
set_option linter.unusedVariables false
set_option linter.unusedSimpArgs false
open Go.RowKit
theorem Many.at4 {w : World} {A : Option Addr} {xs : List OpT} (h : Many OpT.cells 4 w A xs) (k : Nat) (x : OpT) (hx : xs[k]? = some x) :
    ∃ b o, A = some ⟨b, o, none⟩ ∧ b < w.heap.size ∧ w.cell? ⟨b, o + k * 4, none⟩ = some (.int .i64 x.k) ∧ w.cell? ⟨b, o + k * 4 + 1, none⟩ = some (.int .i64 x.n) ∧ w.cell? ⟨b, o + k * 4 + 2, none⟩ = some (.string x.f.1) ∧ w.cell? ⟨b, o + k * 4 + 3, none⟩ = some (.string x.f.2) := by
  obtain ⟨hk, rfl⟩ := List.getElem?_eq_some_iff.1 hx
  obtain ⟨b, o, e, hb, hc⟩ := h (by omega)
  exact ⟨b, o, e, hb, by have := hc k hk 0 (by omega); simpa [OpT.cells] using this, by have := hc k hk 1 (by omega); simpa [OpT.cells] using this, by have := hc k hk 2 (by omega); simpa [OpT.cells] using this, by have := hc k hk 3 (by omega); simpa [OpT.cells] using this⟩
def SmP (w : World) (e : Ending) (w' : World) : Prop := ∃ r : Bool, e = .returned (.bool r) ∧ Fresh w w'
set_option maxRecDepth 100000 in
set_option maxHeartbeats 3200000 in
theorem small_any (s : OpsV) (w : World) (h : s.Ok w) : Calls Try.prog 8 #[s.v] w (SmP w) := by
  obtain ⟨A, c, xs⟩ := s
  have H := Lib.hid h
  have hle := h.le
  have hmx := h.max
  simp only at hle hmx
  simp only [maxLen] at hmx
  obtain ⟨n, hn⟩ : ∃ n, xs.length = n := ⟨_, rfl⟩
  have HN := Lib.hid hn
  simp only [OpsV.v]
  rw [hn] at hle ⊢
  clear h hn
  go_enter Try.func8, Try.ntmps8
  go_wp2
  go_loopw [3, 8] (fun t i wr => ∃ (k : Nat) (z : Int), k ≤ n ∧ i = .int .i64 (k : Int) ∧ t = .int .i64 z ∧ 0 ≤ z ∧ z ≤ 120 ∧ Fresh w wr) (fun _ i _ => n - (intOf i).toNat)
  case atStart => exact ⟨0, 0, by omega, rfl, rfl, by omega, by omega, Fresh.refl _⟩
  case round =>
    obtain ⟨k, z, hk, rfl, rfl, hz0, hz1, hf⟩ := hrel
    have HF := Lib.hid hf
    by_cases hlt : k < n
    · have hlt' : (k : Int) < (n : Int) := by omega
      obtain ⟨x, hxk⟩ : ∃ x, xs[k]? = some x := ⟨_, List.getElem?_eq_getElem (by rw [HN.out]; exact hlt)⟩
      have hx1 := (H.out.ok x (List.mem_of_getElem? hxk)).f1
      obtain ⟨b, o, hA, hb, y0, y1, y2, y3⟩ := (H.out.rows.fresh hf).at4 k x hxk
      simp only at hA
      subst hA
      obtain ⟨xk, xn, xf, xg⟩ := x
      simp only [fz] at hx1 y0 y1 y2 y3
      clear hf hxk
      go_upto_region 5 with fail
      refine wp_gen (fun W => Fresh wr W ∧ W.cell? ⟨wr.heap.size, 2, none⟩ = some (.string xf) ∧ W.cell? ⟨wr.heap.size, 3, none⟩ = some (.string xg)) ⟨?_, ?_, ?_⟩ ?_
      · repeat (first | with_reducible exact Fresh.refl _ | with_reducible apply Fresh.drewS | with_reducible apply Fresh.allocS | (with_reducible refine Fresh.step2 ?_ ?_; simp))
      · exact (Blk.new _ _ _).cell 2
      · exact (Blk.new _ _ _).cell 3
      rintro W ⟨hfW, c2, c3⟩
      have HFW := Lib.hid (HF.out.trans hfW)
      clear hfW y0 y1 y2 y3 hb
      obtain ⟨q, hq⟩ : ∃ q : Nat, xf.size + xg.size = q := ⟨_, rfl⟩
      have hq2 : q ≤ 1000000000000000 := by omega
      have e1 : wrap64 ((xf.size : Int) + (xg.size : Int)) = (q : Int) := by rw [← wrap_e64, IntKind.wrap_i64]; omega
      clear hx1
      go_wp2
      · go_ret
        exact ⟨false, rfl, HFW.out⟩
      · go_roundw
        case rel => exact ⟨k + 1, _, by omega, by go_num, rfl, by omega, by omega, HFW.out⟩
        case measure => simp [intOf]; omega
    · obtain rfl : k = n := by omega
      clear hf
      go_wp2
      go_ret
      exact ⟨true, rfl, HF.out⟩
end Go.Proofs.Ythjajipagfojoaa
