/-
  Package queue: may a case be gone through?
-/
import Derived.Test.YthfifeclmikbgaaQueK
namespace Go.Proofs.Ythfifeclmikbgaa
set_option linter.unusedVariables false
set_option linter.unusedSimpArgs false
open Go.RowKit
theorem Many.at6 {w : World} {A : Option Addr} {xs : List OpQ} (h : Many OpQ.cells 6 w A xs) (k : Nat) (o : OpQ) (hx : xs[k]? = some o) :
    ∃ b f, A = some ⟨b, f, none⟩ ∧ b < w.heap.size ∧ w.cell? ⟨b, f + k * 6, none⟩ = some (.int .i64 o.k) ∧ w.cell? ⟨b, f + k * 6 + 1, none⟩ = some (.int .i64 o.t) ∧ w.cell? ⟨b, f + k * 6 + 2, none⟩ = some (.int .i64 o.n) ∧ w.cell? ⟨b, f + k * 6 + 3, none⟩ = some (.int .i64 o.x.num) ∧
      w.cell? ⟨b, f + k * 6 + 4, none⟩ = some (.slice o.x.HA o.x.h.length o.x.hc) ∧ w.cell? ⟨b, f + k * 6 + 5, none⟩ = some (.slice o.x.BA o.x.b.length o.x.bc) := by
  obtain ⟨hk, rfl⟩ := List.getElem?_eq_some_iff.1 hx
  obtain ⟨b, f, e, hb, hc⟩ := h (by omega)
  have g := fun j hj => hc k hk j hj
  refine ⟨b, f, e, hb, ?_, ?_, ?_, ?_, ?_, ?_⟩
  · have := g 0 (by omega); simpa [OpQ.cells, QI.cells] using this
  · have := g 1 (by omega); simpa [OpQ.cells, QI.cells] using this
  · have := g 2 (by omega); simpa [OpQ.cells, QI.cells] using this
  · have := g 3 (by omega); simpa [OpQ.cells, QI.cells] using this
  · have := g 4 (by omega); simpa [OpQ.cells, QI.cells] using this
  · have := g 5 (by omega); simpa [OpQ.cells, QI.cells] using this
def NumOk (a b c : Int) : Prop := 1 ≤ a ∧ a ≤ 64 ∧ 0 ≤ b ∧ b ≤ 1048576 ∧ 1 ≤ c ∧ c ≤ 4096
def RtP (z : CaseQ) (w : World) (e : Ending) (w' : World) : Prop := ∃ r : Bool, e = .returned (.bool r) ∧ Fresh w w' ∧ (r = true → NumOk z.a z.b z.c ∧ (∀ o ∈ z.ops.xs, o.x.z ≤ 4000) ∧ z.ops.xs.length ≤ 100)
set_option maxRecDepth 100000 in
set_option maxHeartbeats 6400000 in
theorem qu_right (z : CaseQ) (w : World) (h : z.ops.Ok w) : Calls Try.prog 7 #[z.v] w (RtP z w) := by
  obtain ⟨a, b, c, ⟨A, cc, xs⟩⟩ := z
  have H := Lib.hid h
  have hle := h.le
  have hmx := h.max
  simp only at hle hmx
  simp only [maxLen] at hmx
  obtain ⟨n, hn⟩ : ∃ n, xs.length = n := ⟨_, rfl⟩
  have HN := Lib.hid hn
  simp only [CaseQ.v, OpsQ.v]
  rw [hn] at hle ⊢
  clear h hn
  go_enter Try.func7, Try.ntmps7
  go_upto_region 1 with fail
  refine wp_gen (fun W => Fresh w W ∧ Blk W w.heap.size 24 #[.int .i64 a, .int .i64 b, .int .i64 c, .slice A n cc]) ⟨Fresh.alloc _ _, Blk.new _ _ _⟩ ?_
  rintro W ⟨hf0, hb0⟩
  obtain ⟨c0, c1, c2, c3⟩ := hb0.c4
  have HF0 := Lib.hid hf0
  have HB0 := Lib.hid hb0
  clear hf0 hb0
  go_wp2
  clear c0 c1 c2 c3
  go_loopw [3, 9] (fun t i wr => ∃ (k : Nat) (z : Int), k ≤ n ∧ i = .int .i64 (k : Int) ∧ t = .int .i64 z ∧ 2 * (k : Int) ≤ z ∧ z ≤ 200 ∧ (∀ o ∈ xs.take k, o.x.z ≤ 4000) ∧ Fresh W wr) (fun _ i _ => n - (intOf i).toNat)
  case atStart => exact ⟨0, 0, by omega, rfl, rfl, by omega, by omega, by simp, Fresh.refl _⟩
  case round =>
    obtain ⟨k, z, hk, rfl, rfl, hz0, hz1, hall, hf⟩ := hrel
    have HFW := Lib.hid hf
    have HALL := Lib.hid hall
    by_cases hlt : k < n
    · have hlt' : (k : Int) < (n : Int) := by omega
      obtain ⟨o, hx⟩ : ∃ x, xs[k]? = some x := ⟨_, List.getElem?_eq_getElem (by rw [HN.out]; exact hlt)⟩
      have hin := H.out.ok o (List.mem_of_getElem? hx)
      obtain ⟨bb, ff, hA, hb, y0, y1, y2, y3, y4, y5⟩ := (H.out.rows.fresh (HF0.out.trans hf)).at6 k o hx
      simp only at hA
      subst hA
      have htk : xs.take (k + 1) = xs.take k ++ [o] := by
        obtain ⟨hq, rfl⟩ := List.getElem?_eq_some_iff.1 hx
        rw [List.take_succ_eq_append_getElem hq]
      have HTK := Lib.hid htk
      have hh1 := Nat.le_trans hin.h1 hin.h2
      have hh2 := Nat.le_trans hin.b1 hin.b2
      have HOZ : Hid (o.x.z = o.x.h.length + o.x.b.length) := Lib.hid rfl
      obtain ⟨ok, ot, on, ⟨onu, oHA, ohc, oh, oBA, obc, ob⟩⟩ := o
      simp only at y0 y1 y2 y3 y4 y5 hh1 hh2 HOZ
      clear hf hx hall hin htk
      go_upto_region 5 with fail
      refine wp_gen (fun W2 => Fresh wr W2 ∧ W2.cell? ⟨wr.heap.size, 4, none⟩ = some (.slice oHA oh.length ohc) ∧ W2.cell? ⟨wr.heap.size, 5, none⟩ = some (.slice oBA ob.length obc)) ⟨?_, ?_, ?_⟩ ?_
      · repeat (first | with_reducible exact Fresh.refl _ | with_reducible apply Fresh.drewS | with_reducible apply Fresh.allocS | (with_reducible refine Fresh.step2 ?_ ?_; simp))
      · exact (Blk.new _ _ _).cell 4
      · exact (Blk.new _ _ _).cell 5
      rintro W2 ⟨hfW, d4, d5⟩
      have HF := Lib.hid (HF0.out.trans (HFW.out.trans hfW))
      have HFW2 := Lib.hid (HFW.out.trans hfW)
      generalize oh.length = lh at *
      generalize ob.length = lb at *
      obtain ⟨q, hq⟩ : ∃ q : Nat, lh + lb = q := ⟨_, rfl⟩
      have hq2 : q ≤ 1000000000000000 := by omega
      have e1 : IntKind.i64.wrap ((lh : Int) + (lb : Int)) = (q : Int) := by rw [IntKind.wrap_i64]; omega
      have e2 : wrap64 ((lh : Int) + (lb : Int)) = (q : Int) := by unfold wrap64; rw [← IntKind.wrap_i64]; exact e1
      have HQ := Lib.hid hq
      clear hfW y0 y1 y2 y3 y4 y5 hb hq
      go_wp2
      · go_ret
        exact ⟨false, rfl, HF.out, fun h => by cases h⟩
      · go_roundw
        case rel =>
          refine ⟨k + 1, _, by omega, by go_num, rfl, by omega, by omega, ?_, HFW2.out⟩
          rw [HTK.out]
          intro o ho
          rcases List.mem_append.1 ho with h1 | h1
          · exact HALL.out o h1
          · rw [List.mem_singleton.1 h1]
            refine Nat.le_trans (Nat.le_of_eq HOZ.out) ?_
            have := HQ.out
            omega
        case measure => simp [intOf]; omega
    · obtain rfl : k = n := by omega
      have HF := Lib.hid (HF0.out.trans hf)
      have HFIN : Hid (NumOk a b c → NumOk a b c ∧ (∀ o ∈ xs, o.x.z ≤ 4000) ∧ xs.length ≤ 100) := Lib.hid (fun h => ⟨h, by
        have := HALL.out
        rwa [List.take_of_length_le (by rw [HN.out]; exact Nat.le_refl _)] at this, by rw [HN.out]; omega⟩)
      obtain ⟨c0, c1, c2, c3⟩ := (HB0.out.fresh hf).c4
      clear hf hall
      by_cases h1 : a < 1
      · have p1 : ¬ 1 ≤ a := by omega
        go_wp2
        go_ret
        first | exact ⟨false, rfl, HF.out, fun h => by cases h⟩ | exact ⟨false, ret_bool (by simp; omega), HF.out, fun h => by cases h⟩
      by_cases h2 : 64 < a
      · have p1 : 1 ≤ a := by omega
        have p2 : ¬ a ≤ 64 := by omega
        go_wp2
        go_ret
        first | exact ⟨false, rfl, HF.out, fun h => by cases h⟩ | exact ⟨false, ret_bool (by simp; omega), HF.out, fun h => by cases h⟩
      by_cases h3 : b < 0
      · have p1 : 1 ≤ a := by omega
        have p2 : a ≤ 64 := by omega
        have p3 : ¬ 0 ≤ b := by omega
        go_wp2
        go_ret
        first | exact ⟨false, rfl, HF.out, fun h => by cases h⟩ | exact ⟨false, ret_bool (by simp; omega), HF.out, fun h => by cases h⟩
      by_cases h4 : 1048576 < b
      · have p1 : 1 ≤ a := by omega
        have p2 : a ≤ 64 := by omega
        have p3 : 0 ≤ b := by omega
        have p4 : ¬ b ≤ 1048576 := by omega
        go_wp2
        go_ret
        first | exact ⟨false, rfl, HF.out, fun h => by cases h⟩ | exact ⟨false, ret_bool (by simp; omega), HF.out, fun h => by cases h⟩
      by_cases h5 : c < 1
      · have p1 : 1 ≤ a := by omega
        have p2 : a ≤ 64 := by omega
        have p3 : 0 ≤ b := by omega
        have p4 : b ≤ 1048576 := by omega
        have p5 : ¬ 1 ≤ c := by omega
        go_wp2
        go_ret
        first | exact ⟨false, rfl, HF.out, fun h => by cases h⟩ | exact ⟨false, ret_bool (by simp; omega), HF.out, fun h => by cases h⟩
      by_cases h6 : 4096 < c
      · have p1 : 1 ≤ a := by omega
        have p2 : a ≤ 64 := by omega
        have p3 : 0 ≤ b := by omega
        have p4 : b ≤ 1048576 := by omega
        have p5 : 1 ≤ c := by omega
        have p6 : ¬ c ≤ 4096 := by omega
        go_wp2
        go_ret
        first | exact ⟨false, rfl, HF.out, fun h => by cases h⟩ | exact ⟨false, ret_bool (by simp; omega), HF.out, fun h => by cases h⟩
      have p1 : 1 ≤ a := by omega
      have p2 : a ≤ 64 := by omega
      have p3 : 0 ≤ b := by omega
      have p4 : b ≤ 1048576 := by omega
      have p5 : 1 ≤ c := by omega
      have p6 : c ≤ 4096 := by omega
      go_wp2
      go_ret
      exact ⟨true, by first | rfl | exact ret_bool (by simp; omega), HF.out, fun _ => HFIN.out ⟨p1, p2, p3, p4, p5, p6⟩⟩
end Go.Proofs.Ythfifeclmikbgaa
