/-
  Contracts of package credit: spending, telling, copies; what the document says of them.
-/
import Derived.Test.YtnnciekbmapilaaCredit2
import Derived.Maps.AppendAt
namespace Go.Proofs.Ytnnciekbmapilaa
set_option linter.unusedVariables false
open Go.RowKit

/-- A row of numbers. -/
def Ints (w : World) (g n k : Nat) (f : Nat → Int) : Prop := ∃ cur : Array Value, cur.size = k ∧ n ≤ k ∧ k ≤ maxLen ∧ Blk w g 3 cur ∧ ∀ j, j < n → cur[j]? = some (.int .i64 (f j))
section
variable {w w' : World} {g n k : Nat} {f : Nat → Int}
theorem Ints.cell (h : Ints w g n k f) {j : Nat} (hj : j < n) : w.cell? ⟨g, j, none⟩ = some (.int .i64 (f j)) := by
  obtain ⟨cur, _, _, _, hb, hc⟩ := h
  rw [hb.cell, hc j hj]
theorem Ints.frozen (h : Ints w g n k f) (j : Nat) : w.frozen? ⟨g, j, none⟩ = false := by
  obtain ⟨cur, _, _, _, hb, hc⟩ := h
  exact hb.frozen j
theorem Ints.lt (h : Ints w g n k f) : g < w.heap.size := by
  obtain ⟨cur, _, _, _, hb, hc⟩ := h
  exact hb.lt
theorem Ints.ne (h : Ints w g n k f) {c : Nat} {t : TypeId} {cs : Array Value} (hb : Blk w c t cs) (ht : t ≠ 3) : c ≠ g := by
  obtain ⟨cur, _, _, _, hb', hc⟩ := h
  exact hb.ne hb' ht
theorem Ints.only {S : Nat → Prop} (h : Ints w g n k f) (ho : Only S w w') (hs : ¬ S g) : Ints w' g n k f := by
  obtain ⟨cur, h1, h2, h3, hb, hc⟩ := h
  exact ⟨cur, h1, h2, h3, hb.only ho hs, hc⟩
theorem Ints.fresh (h : Ints w g n k f) (ho : Fresh w w') : Ints w' g n k f := by
  obtain ⟨cur, h1, h2, h3, hb, hc⟩ := h
  exact ⟨cur, h1, h2, h3, hb.fresh ho, hc⟩
theorem Ints.congr {f' : Nat → Int} (h : Ints w g n k f) (e : ∀ j, j < n → f j = f' j) : Ints w g n k f' := by
  obtain ⟨cur, h1, h2, h3, hb, hc⟩ := h
  exact ⟨cur, h1, h2, h3, hb, fun j hj => by rw [hc j hj, e j hj]⟩
theorem Ints.set (h : Ints w g n k f) {j : Nat} (hj : j < n) (v : Int) : Ints (w.setCell ⟨g, j, none⟩ (.int .i64 v)) g n k (updN f j v) := by
  obtain ⟨cur, h1, h2, h3, hb, hc⟩ := h
  refine ⟨cur.setIfInBounds j (.int .i64 v), by simpa using h1, h2, h3, hb.set j _, fun i hi => ?_⟩
  by_cases e : i = j
  · subst e; rw [updN_same]; simp [Array.getElem?_setIfInBounds]; omega
  · rw [Array.getElem?_setIfInBounds_ne (fun h => e h.symm), updN_ne e]; exact hc i hi
theorem Ints.wrote (h : Ints w g n k f) {j : Nat} (hj : j < n) (v : Int) (hw : Wrote ⟨g, j, none⟩ (.int .i64 v) w w') : Ints w' g n k (updN f j v) := by
  obtain ⟨cur, h1, h2, h3, hb, hc⟩ := h
  refine ⟨cur.setIfInBounds j (.int .i64 v), by simpa using h1, h2, h3, hw.blk hb, fun i hi => ?_⟩
  by_cases e : i = j
  · subst e; rw [updN_same]; simp [Array.getElem?_setIfInBounds]; omega
  · rw [Array.getElem?_setIfInBounds_ne (fun h => e h.symm), updN_ne e]; exact hc i hi
end

theorem Own.ints {w : World} {base n : Nat} {v : Value} {f : Nat → Int} (h : Own w base 3 1 v n (intsV f n)) (hn : 0 < n) : ∃ g k, v = .slice (some ⟨g, 0, none⟩) n k ∧ base ≤ g ∧ Ints w g n k f := by
  obtain ⟨g, k, cur, h1, h2, h3, h4, h5, h6, h7⟩ := h.row hn
  exact ⟨g, k, h1, h2, cur, h5, h3, h4, h6, h7⟩
/-- An append of a row of numbers to a row of the call's own. -/
theorem app_row {P : Program} {T E : TypeId} {z : Value} (hT : P.underlying T = some (.slice E)) (hinfo : (P.info? E).map (fun i => (i.zero, i.size, i.bytes)) = some (some z, 1, 8)) (hz : z.cells.size = 1)
    {w : World} {base m n : Nat} {v : Value} {xs : List Value} {f : Nat → Int} (ty : TypeId) (h : Own w base E 1 v m xs) (hbase : base ≤ w.heap.size) (g k : Nat) (hc : ∀ j, j < n → w.cell? ⟨g, j, none⟩ = some (.int .i64 (f j))) (hn : m + n ≤ 1000000) :
    ∃ A' c' w', (Builtin.append_ #[T, T] ty #[v, .slice (some ⟨g, 0, none⟩) n k]).run P w = .ok (.slice A' (m + n) c') w' ∧ Own w' base E 1 (.slice A' (m + n) c') (m + n) (xs ++ intsV f n) ∧ Only (fun k => v.ownBlock = some k) w w' ∧
      ((Value.slice A' (m + n) c').ownBlock = v.ownBlock ∨ (Value.slice A' (m + n) c').ownBlock = some w.heap.size) := by
  obtain ⟨i, hi, hiz, his, hib⟩ := info_parts hinfo
  obtain ⟨v', w', hr, ho, hg, _, hat⟩ := run_append_own_at (P := P) w base T ty E i z 1 8 hT hi hiz his hib hz (by omega) v m _ h ⟨g, 0, none⟩ n k (intsV f n) (by simp [intsV_len]) (fun j u hj => by
    rw [add_eq _ _ rfl]
    simp only [Nat.zero_add]
    have hjn : j < n := by
      rcases Nat.lt_or_ge j n with h | h
      · exact h
      · rw [List.getElem?_eq_none (by rw [intsV_len]; exact h)] at hj; cases hj
    rw [hc j hjn, ← intsV_get f hjn]; exact hj) (fun u hu => by
    unfold intsV at hu
    rw [List.mem_map] at hu
    obtain ⟨x, _, rfl⟩ := hu
    rfl) (by unfold maxLen; omega) (by omega) hbase
  obtain ⟨A', c', rfl, _⟩ := Own.slice (show Own w' base E 1 v' _ _ from ho)
  exact ⟨A', c', w', hr, ho, ⟨hg.os, hg.tape, hg.output, hg.size, fun k hk hne => hg.block k hk (fun e => hne e.symm)⟩, hat⟩

theorem cr_has (c g k n t : Nat) (f : Nat → Int) (i : Int) (w : World) (h : Cr w c g k n f t) :
    Calls Try.prog 24 #[.pointer (some ⟨c, 0, none⟩), .int .i64 i] w fun e w' => e = .returned (.bool (decide (0 ≤ i ∧ i < n))) ∧ w = w' := by
  obtain ⟨q0, q1, q2⟩ := h.blk.c3
  clear h
  by_cases h0 : 0 ≤ i
  · by_cases h1 : i < n
    · have e : decide (0 ≤ i ∧ i < (n : Int)) = true := by simp [h0, h1]
      rw [e]
      clear e
      go_enter Try.func24, Try.ntmps24
      go_wp2_with fail
      go_ret
      exact ⟨rfl, rfl⟩
    · have e : decide (0 ≤ i ∧ i < (n : Int)) = false := by simp [h0, h1]
      have h1' : decide (i < (n : Int)) = false := by simpa using h1
      rw [e]
      clear e
      go_enter Try.func24, Try.ntmps24
      go_wp2_with fail
      go_ret
      exact ⟨rfl, rfl⟩
  · have e : decide (0 ≤ i ∧ i < (n : Int)) = false := by simp [h0]
    have h1' : decide (0 ≤ i) = false := by simpa using h0
    rw [e]
    clear e
    go_enter Try.func24, Try.ntmps24
    go_wp2_with fail
    go_ret
    exact ⟨rfl, rfl⟩
theorem cr_has_yes (c g k n t : Nat) (f : Nat → Int) (i : Int) (w : World) (h : Cr w c g k n f t) (h0 : 0 ≤ i) (h1 : i < n) :
    Calls Try.prog 24 #[.pointer (some ⟨c, 0, none⟩), .int .i64 i] w fun e w' => e = .returned (.bool true) ∧ w = w' := by
  have := cr_has c g k n t f i w h
  rwa [show decide (0 ≤ i ∧ i < (n : Int)) = true by simp [h0, h1]] at this
theorem cr_has_no (c g k n t : Nat) (f : Nat → Int) (i : Int) (w : World) (h : Cr w c g k n f t) (h0 : ¬ (0 ≤ i ∧ i < n)) :
    Calls Try.prog 24 #[.pointer (some ⟨c, 0, none⟩), .int .i64 i] w fun e w' => e = .returned (.bool false) ∧ w = w' := by
  have := cr_has c g k n t f i w h
  rwa [show decide (0 ≤ i ∧ i < (n : Int)) = false by simpa using h0] at this

theorem cr_whole (c g k n t : Nat) (f : Nat → Int) (w : World) (h : Cr w c g k n f t) :
    Calls Try.prog 17 #[.pointer (some ⟨c, 0, none⟩)] w fun e w' => e = .returned (.int .i64 (sumN f n)) ∧ Fresh w w' := by
  obtain ⟨q0, q1, q2⟩ := h.blk.c3
  generalize sumN f n = s at *
  clear h
  go_enter Try.func17, Try.ntmps17
  go_wp2_with fail
  with_reducible refine (wsize_any _ _).mono ?_
  rintro e w1 ⟨rfl, hf⟩
  go_wp2_with fail
  go_ret
  exact ⟨rfl, hf⟩
theorem cr_left_no (c g k n t : Nat) (f : Nat → Int) (i : Int) (w : World) (h : Cr w c g k n f t) (h0 : ¬ (0 ≤ i ∧ i < n)) :
    Calls Try.prog 14 #[.pointer (some ⟨c, 0, none⟩), .int .i64 i] w fun e w' => e = .returned (.int .i64 0) ∧ Fresh w w' := by
  have H := Lib.hid (cr_has_no c g k n t f i w h h0)
  clear h h0
  go_enter Try.func14, Try.ntmps14
  go_wp2_with fail
  with_reducible refine H.out.mono ?_
  rintro e w1 ⟨rfl, rfl⟩
  go_wp2_with fail
  go_ret
  exact ⟨rfl, Fresh.refl _⟩
theorem cr_left_yes (c g k n t i : Nat) (f : Nat → Int) (w : World) (h : Cr w c g k n f t) (h0 : i < n) :
    Calls Try.prog 14 #[.pointer (some ⟨c, 0, none⟩), .int .i64 i] w fun e w' => e = .returned (.int .i64 (f i)) ∧ Fresh w w' := by
  have H := Lib.hid (cr_has_yes c g k n t f i w h (by omega) (by omega))
  have hc := h.prt.cell h0
  obtain ⟨q0, q1, q2⟩ := h.blk.c3
  generalize f i = x at *
  have n2 := h.n2
  clear h q0 q2
  go_enter Try.func14, Try.ntmps14
  go_wp2_with fail
  with_reducible refine H.out.mono ?_
  rintro e w1 ⟨rfl, rfl⟩
  go_wp2_with fail
  with_reducible refine (wsize_any _ _).mono ?_
  rintro e w1 ⟨rfl, hf⟩
  go_wp2_with fail
  go_ret
  exact ⟨rfl, hf⟩

theorem cr_spend_range (c g k n t : Nat) (f : Nat → Int) (i x : Int) (w : World) (h : Cr w c g k n f t) (h0 : ¬ (0 ≤ i ∧ i < n ∧ 0 ≤ x ∧ x ≤ 2147483647)) :
    Calls Try.prog 13 #[.pointer (some ⟨c, 0, none⟩), .int .i64 i, .int .i64 x] w fun e w' => e = .returned (.int .i64 11) ∧ Fresh w w' := by
  by_cases h1 : 0 ≤ i ∧ i < n
  · have H := Lib.hid (cr_has_yes c g k n t f i w h h1.1 h1.2)
    have H2 := Lib.hid (fun p w => spend_range p x w (by omega))
    obtain ⟨q0, q1, q2⟩ := h.blk.c3
    have n2 := h.n2
    obtain ⟨h1, h2⟩ := h1
    clear h h0 q0 q2
    go_enter Try.func13, Try.ntmps13
    go_wp2_with fail
    with_reducible refine H.out.mono ?_
    rintro e w1 ⟨rfl, rfl⟩
    go_wp2_with fail
    with_reducible refine (H2.out _ _).mono ?_
    rintro e w1 ⟨rfl, rfl⟩
    go_wp2_with fail
    go_ret
    exact ⟨rfl, Fresh.refl _⟩
  · have H := Lib.hid (cr_has_no c g k n t f i w h h1)
    clear h h0 h1
    go_enter Try.func13, Try.ntmps13
    go_wp2_with fail
    with_reducible refine H.out.mono ?_
    rintro e w1 ⟨rfl, rfl⟩
    go_wp2_with fail
    go_ret
    exact ⟨rfl, Fresh.refl _⟩
theorem cr_spend_full (c g k n t i : Nat) (f : Nat → Int) (x : Int) (w : World) (h : Cr w c g k n f t) (h1 : i < n) (h2 : 0 < x) (h3 : x ≤ 2147483647) (h4 : f i < x) :
    Calls Try.prog 13 #[.pointer (some ⟨c, 0, none⟩), .int .i64 i, .int .i64 x] w fun e w' => e = .returned (.int .i64 15) ∧ Fresh w w' := by
  have H := Lib.hid (cr_has_yes c g k n t f i w h (by omega) (by omega))
  have H2 := Lib.hid (spend_full g i (f i) x w (h.prt.cell h1) (by omega) h3 (by omega))
  obtain ⟨q0, q1, q2⟩ := h.blk.c3
  have n2 := h.n2
  clear h q0 q2 h2 h3 h4
  go_enter Try.func13, Try.ntmps13
  go_wp2_with fail
  with_reducible refine H.out.mono ?_
  rintro e w1 ⟨rfl, rfl⟩
  go_wp2_with fail
  with_reducible refine H2.out.mono ?_
  rintro e w1 ⟨rfl, hf⟩
  go_wp2_with fail
  go_ret
  exact ⟨rfl, hf⟩
def SpendPost (c g k n t i : Nat) (f : Nat → Int) (x : Int) (w : World) (e : Ending) (w' : World) : Prop := e = .returned (.int .i64 0) ∧ Cr w' c g k n (updN f i (f i - x)) t ∧ Only (fun i => i = c ∨ i = g) w w'
set_option maxHeartbeats 800000 in
theorem cr_spend_ok (c g k n t i : Nat) (f : Nat → Int) (x : Int) (w : World) (h : Cr w c g k n f t) (h1 : i < n) (h2 : 0 ≤ x) (h3 : x ≤ 2147483647) (h4 : x ≤ f i) :
    Calls Try.prog 13 #[.pointer (some ⟨c, 0, none⟩), .int .i64 i, .int .i64 x] w (SpendPost c g k n t i f x w) := by
  have hge := sumN_ge h.pos h1
  have hp0 := h.pos i h1
  have hmx := h.mx
  have hN := Cr.ne h
  have H := Lib.hid (cr_has_yes c g k n t f i w h (by omega) (by omega))
  have H2 := Lib.hid (spend_ok g i (f i) x w (h.prt.cell h1) (h.prt.frozen i) h3 (by omega) (by omega) (by omega) h.prt.lt)
  obtain ⟨q0, q1, q2⟩ := h.blk.c3
  have n2 := h.n2
  have HH := Lib.hid h
  clear h q0 q2
  go_enter Try.func13, Try.ntmps13
  go_wp2_with fail
  with_reducible refine H.out.mono ?_
  rintro e w1 ⟨rfl, rfl⟩
  go_wp2_with fail
  with_reducible refine H2.out.mono ?_
  rintro e w1 ⟨rfl, hw1⟩
  have hb1 := HH.out.blk.only hw1.1 hN
  have hp1 := HH.out.prt.wrote h1 _ hw1
  have HP1 := Lib.hid hp1
  have HB1 := Lib.hid hb1
  have HO1 := Lib.hid hw1.1
  have HC := Lib.hid (spend_ok c 0 (sumN f n) x w1 (by rw [hb1.cell]; rfl) (hb1.frozen 0) h3 (by omega) (by omega) (by omega) hb1.lt)
  clear hb1 hp1 hw1 q1
  go_wp2_with fail
  with_reducible refine HC.out.mono ?_
  rintro e w2 ⟨rfl, hw2⟩
  go_wp2_with fail
  go_ret
  have hs := sumN_upd f i (f i - x) h1
  have hb2 := hw2.blk HB1.out
  have e : sumN f n - f i + (f i - x) = sumN f n - x := by omega
  rw [e] at hs
  refine ⟨rfl, ⟨?_, HP1.out.only hw2.1 (fun e => hN e.symm), HH.out.n1, n2, HH.out.tl, fun j hj => ?_, by omega⟩, (HO1.out.mono (fun i e => .inr e)).trans (hw2.1.mono (fun i e => .inl e))⟩
  · rw [hs]; simpa using hb2
  · by_cases e : j = i
    · subst e; rw [updN_same]; omega
    · rw [updN_ne e]; exact HH.out.pos j hj
end Go.Proofs.Ytnnciekbmapilaa
