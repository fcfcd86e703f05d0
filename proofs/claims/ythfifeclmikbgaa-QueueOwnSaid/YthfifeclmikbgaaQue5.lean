/-
  Package queue: Put.
-/
import Derived.Test.YthfifeclmikbgaaQue4
namespace Go.Proofs.Ythfifeclmikbgaa
set_option linter.unusedVariables false
set_option linter.unusedSimpArgs false
open Go.RowKit
section
variable {base q R n : Nat} {by_ it : Int} {ro : Rows} {w : World}
def ErrP (k : Int) (w : World) (e : Ending) (w' : World) : Prop := e = .returned (.int .i64 k) ∧ Fresh w w'
theorem qu_put_range (i : Int) (x : QI) (h : QAt w base q R n by_ it ro) (hi : i < 0 ∨ (n : Int) ≤ i) : Calls Try.prog 16 #[.pointer (some ⟨q, 0, none⟩), .int .i64 i, x.agg] w (ErrP 11 w) := by
  have H := Lib.hid (fun W (hw : Fresh w W) => qu_row_no i (h.fresh hw) hi)
  clear h hi
  unfold QI.agg
  go_enter Try.func16, Try.ntmps16
  go_wp2_with fail
  with_reducible refine (H.out _ (Fresh.alloc _ _)).mono ?_
  rintro e w1 ⟨rfl, rfl⟩
  go_wp2
  go_ret
  exact ⟨rfl, Fresh.alloc _ _⟩
set_option maxHeartbeats 3200000 in
theorem qu_put_many (t : Nat) (x : QI) (h : QAt w base q R n by_ it ro) (ht : t < n) (hm : it ≤ ((ro t).2.length : Int)) : Calls Try.prog 16 #[.pointer (some ⟨q, 0, none⟩), .int .i64 (t : Int), x.agg] w (ErrP 33 w) := by
  have H := Lib.hid (fun W (hw : Fresh w W) => qu_row t (h.fresh hw) ht)
  obtain ⟨A, c, hv, _⟩ := (h.own t ht).slice
  have h' := h.fresh (Fresh.alloc w (.cells #[.int .i64 x.num, .slice x.HA x.h.length x.hc, .slice x.BA x.b.length x.bc] 34))
  obtain ⟨d0, d1, _⟩ := h'.cells ht
  obtain ⟨_, e1, e2⟩ := h'.blk.c3
  rw [hv] at d0
  obtain ⟨m, hmm⟩ : ∃ m, (ro t).2.length = m := ⟨_, rfl⟩
  rw [hmm] at d0 hm
  unfold qrow at H
  clear h h' hv hmm
  unfold QI.agg
  go_enter Try.func16, Try.ntmps16
  go_wp2_with fail
  with_reducible refine (H.out _ (Fresh.alloc _ _)).mono ?_
  rintro e w1 ⟨rfl, rfl⟩
  go_upto_region 4 with fail
  go_quiet (fail)
  all_goals
    go_wp2
    go_ret
    exact ⟨rfl, (Fresh.alloc _ _).trans (Fresh.drewN _ _)⟩
/-- Ahead of the tests: the item's box, and what the queue holds. -/
structure PuW (w : World) (q R t b m c : Nat) (A : Option Addr) (z by_ it : Int) (x : QI) (W : World) : Prop where
  x0 : W.cell? ⟨b, 0, none⟩ = some (.int .i64 x.num)
  x1 : W.cell? ⟨b, 1, none⟩ = some (.slice x.HA x.h.length x.hc)
  x2 : W.cell? ⟨b, 2, none⟩ = some (.slice x.BA x.b.length x.bc)
  d0 : W.cell? ⟨R, t * 2, none⟩ = some (.slice A m c)
  d1 : W.cell? ⟨R, t * 2 + 1, none⟩ = some (.int .i64 z)
  e1 : W.cell? ⟨q, 1, none⟩ = some (.int .i64 by_)
  e2 : W.cell? ⟨q, 2, none⟩ = some (.int .i64 it)
  lt : b < W.heap.size ∧ R < W.heap.size ∧ q < W.heap.size
  fr : Fresh w W
theorem PuW.fresh {W W' : World} {t b m c : Nat} {A : Option Addr} {z : Int} {x : QI} (h : PuW w q R t b m c A z by_ it x W) (hf : Fresh W W') : PuW w q R t b m c A z by_ it x W' := by
  obtain ⟨h1, h2, h3⟩ := h.lt
  have hs := hf.size
  exact ⟨(hf.cell (p := ⟨b, 0, none⟩) h1).trans h.x0, (hf.cell (p := ⟨b, 1, none⟩) h1).trans h.x1, (hf.cell (p := ⟨b, 2, none⟩) h1).trans h.x2, (hf.cell (p := ⟨R, t * 2, none⟩) h2).trans h.d0, (hf.cell (p := ⟨R, t * 2 + 1, none⟩) h2).trans h.d1, (hf.cell (p := ⟨q, 1, none⟩) h3).trans h.e1, (hf.cell (p := ⟨q, 2, none⟩) h3).trans h.e2, ⟨by omega, by omega, by omega⟩, h.fr.trans hf⟩
def PutP (base q R n : Nat) (by_ it : Int) (ro : Rows) (t : Nat) (x : QI) (w : World) (e : Ending) (w' : World) : Prop :=
  ∃ v' g1 g2, e = .returned (.int .i64 0) ∧ QAt w' base q R n by_ it (updR ro t (v', (ro t).2 ++ [clI x g1 g2])) ∧ Only (fun k => k = R ∨ (ro t).1.ownBlock = some k) w w' ∧ (∀ k, v'.ownBlock = some k → (ro t).1.ownBlock = some k ∨ w.heap.size ≤ k) ∧ w.heap.size ≤ g1 ∧ w.heap.size ≤ g2
/-- Behind the append: the new row's slice is stored. -/
structure PuX (w : World) (base q R n : Nat) (by_ it : Int) (ro : Rows) (t b m : Nat) (x : QI) (g1 g2 : Nat) (A' : Option Addr) (c' : Nat) (W : World) : Prop where
  x0 : W.cell? ⟨b, 0, none⟩ = some (.int .i64 x.num)
  x1 : W.cell? ⟨b, 1, none⟩ = some (.slice x.HA x.h.length x.hc)
  x2 : W.cell? ⟨b, 2, none⟩ = some (.slice x.BA x.b.length x.bc)
  lt : b < W.heap.size
  row : ∀ cs, Blk w R 63 cs → Blk W R 63 (cs.setIfInBounds (t * 2) (.slice A' (m + 1) c'))
  own : Own W base 34 3 (.slice A' (m + 1) c') (m + 1) (rowQ ((ro t).2 ++ [clI x g1 g2]))
  b1 : Blk W g1 5 (bytesA x.h)
  b2 : Blk W g2 5 (bytesA x.b)
  on : Only (fun k => k = R ∨ (ro t).1.ownBlock = some k) w W
  new : ∀ k, (Value.slice A' (m + 1) c').ownBlock = some k → (ro t).1.ownBlock = some k ∨ w.heap.size ≤ k
  gl : w.heap.size ≤ g1 ∧ w.heap.size ≤ g2
theorem PuX.fresh {W W' : World} {t b m g1 g2 c' : Nat} {A' : Option Addr} {x : QI} (h : PuX w base q R n by_ it ro t b m x g1 g2 A' c' W) (hf : Fresh W W') : PuX w base q R n by_ it ro t b m x g1 g2 A' c' W' := by
  have h1 := h.lt
  have hs := hf.size
  exact ⟨(hf.cell (p := ⟨b, 0, none⟩) h1).trans h.x0, (hf.cell (p := ⟨b, 1, none⟩) h1).trans h.x1, (hf.cell (p := ⟨b, 2, none⟩) h1).trans h.x2, by omega, fun cs hb => (h.row cs hb).fresh hf, h.own.fresh hf, h.b1.fresh hf, h.b2.fresh hf, h.on.freshS hf, h.new, h.gl⟩
theorem puX_mk {w4 w5 : World} {t b m c g1 g2 c' : Nat} {A A' : Option Addr} {z : Int} {x : QI} (H : QAt w base q R n by_ it ro) (ht : t < n) (hv : (ro t).1 = .slice A m c) (hp : PuW w q R t b m c A z by_ it x w4) (hbb : w.heap.size = b) (hx1 : Blk w4 g1 5 (bytesA x.h)) (hx2 : Blk w4 g2 5 (bytesA x.b))
    (ho5 : Own w5 base 34 3 (.slice A' (m + 1) c') (m + 1) (rowQ ((ro t).2 ++ [clI x g1 g2]))) (hon5 : Only (fun k => (Value.slice A m c).ownBlock = some k) w4 w5) (hnew5 : ∀ k, (Value.slice A' (m + 1) c').ownBlock = some k → (Value.slice A m c).ownBlock = some k ∨ w4.heap.size < k) (hgl : w.heap.size ≤ g1 ∧ w.heap.size ≤ g2) :
    PuX w base q R n by_ it ro t b m x g1 g2 A' c' (w5.setCell ⟨R, t * 2, none⟩ (.slice A' (m + 1) c')) := by
  have hne : ∀ k, (Value.slice A m c).ownBlock = some k → k ≠ q ∧ k ≠ R ∧ k < w.heap.size := fun k hk => H.own_ne ht (by rw [hv]; exact hk)
  obtain ⟨l1, l2, l3⟩ := hp.lt
  obtain ⟨cs, hR, _⟩ := H.rows
  have hbR : b ≠ R := by have := hR.lt; omega
  have hR5 : ∀ cs, Blk w R 63 cs → Blk w5 R 63 cs := fun cs hc => (hc.fresh hp.fr).only hon5 (fun e => (hne R e).2.1 rfl)
  have hby : ∀ g, (Blk w4 g 5 (bytesA x.h) → Blk w5 g 5 (bytesA x.h)) ∧ (Blk w4 g 5 (bytesA x.b) → Blk w5 g 5 (bytesA x.b)) := fun g => by
    have key : ∀ cs, Blk w4 g 5 cs → Blk w5 g 5 cs := fun cs hg => hg.only hon5 (fun e => by
      obtain ⟨cur, hc⟩ := ownQ ((H.own t ht).fresh hp.fr) (by rw [hv]; exact e)
      exact hg.ne hc (by decide) rfl)
    exact ⟨key _, key _⟩
  have cb : ∀ i, w5.cell? ⟨b, i, none⟩ = w4.cell? ⟨b, i, none⟩ := fun i => hon5.cell (p := ⟨b, i, none⟩) l1 (fun e => by have := (hne b e).2.2; omega)
  have cs5 : ∀ i, (w5.setCell ⟨R, t * 2, none⟩ (.slice A' (m + 1) c')).cell? ⟨b, i, none⟩ = w5.cell? ⟨b, i, none⟩ := fun i => (Only.setCell w5 ⟨R, t * 2, none⟩ (.slice A' (m + 1) c')).cell (p := ⟨b, i, none⟩) (by have := hon5.size; show b < _; omega) (fun e => hbR e)
  refine ⟨(cs5 0).trans ((cb 0).trans hp.x0), (cs5 1).trans ((cb 1).trans hp.x1), (cs5 2).trans ((cb 2).trans hp.x2), by have := hon5.size; simp [World.setCell]; omega, fun cs hc => (hR5 cs hc).set (t * 2) _, ho5.only onR (fun k hk e => ?_), ((hby g1).1 hx1).far ?_ _, ((hby g2).2 hx2).far ?_ _, ?_, fun k hk => ?_, hgl⟩
  · obtain ⟨cur, hc⟩ := ownQ ho5 hk
    exact hc.ne (hR5 cs hR) (by decide) e
  · simp; exact ((hby g1).1 hx1).ne (hR5 cs hR) (by decide)
  · simp; exact ((hby g2).2 hx2).ne (hR5 cs hR) (by decide)
  · refine ((Only.of_fresh hp.fr).trans' hon5 (fun i _ e => .inr (by rw [hv]; exact e))).trans (onR.mono (fun k e => .inl e))
  · rcases hnew5 k hk with e | e
    · exact .inl (by rw [hv]; exact e)
    · right; have := hp.fr.size; omega
/-- All is laid. -/
theorem PuX.fin {W : World} {t b m g1 g2 c' : Nat} {A' : Option Addr} {x : QI} (h : PuX w base q R n by_ it ro t b m x g1 g2 A' c' W) (H : QAt w base q R n by_ it ro) (ht : t < n) (hm : (ro t).2.length = m) (hlt : (m : Int) < it) (hz : (qz (ro t).2 : Int) + (x.z : Int) ≤ by_) (hx : x.z ≤ 1000000) :
    PutP base q R n by_ it ro t x w (.returned (.int .i64 0)) (W.setCell ⟨R, t * 2 + 1, none⟩ (.int .i64 ((qz (ro t).2 : Int) + (x.z : Int)))) := by
  have ho2 : Only (fun k => k = R ∨ (ro t).1.ownBlock = some k) w (W.setCell ⟨R, t * 2 + 1, none⟩ (.int .i64 ((qz (ro t).2 : Int) + (x.z : Int)))) := h.on.trans (onR.mono (fun k e => .inl e))
  have hzz : (qz ((ro t).2 ++ [clI x g1 g2]) : Int) = (qz (ro t).2 : Int) + (x.z : Int) := by rw [qz_append]; simp [qz, clI, QI.z]
  have hun : x.h.length ≤ 1000000 ∧ x.b.length ≤ 1000000 := by unfold QI.z at hx; omega
  have hRW : ∀ g, Blk W g 5 (bytesA x.h) ∨ Blk W g 5 (bytesA x.b) → g ≠ R := by
    obtain ⟨cs, hR, _⟩ := H.rows
    rintro g (hg | hg)
    · exact hg.ne (h.row cs hR) (by decide)
    · exact hg.ne (h.row cs hR) (by decide)
  refine ⟨.slice A' (m + 1) c', g1, g2, rfl, H.upd ht (fun k => k = R ∨ (ro t).1.ownBlock = some k) ho2 ?_ ?_ ?_ ?_ ?_ ?_ ?_ ?_, ho2, h.new, h.gl⟩
  · rintro (e | e)
    · exact H.ne e
    · exact (H.own_ne ht e).1 rfl
  · intro cs hcs hb
    rw [hzz]
    exact (h.row cs hb).set (t * 2 + 1) _
  · rintro j hj hjt k hk (e | e)
    · exact (H.own_ne hj hk).2.1 e
    · exact H.sep j t k hj ht hjt hk e
  · rintro g cs hg (e | e)
    · exact (H.byte_ne hg).2.1 e
    · exact (H.byte_ne hg).2.2 t ht e
  · rw [List.length_append, hm]
    refine h.own.only onR (fun k hk e => ?_)
    obtain ⟨cur, hc⟩ := ownQ h.own hk
    obtain ⟨cs, hR, _⟩ := H.rows
    exact hc.ne (h.row cs hR) (by decide) e
  · intro y hy
    rcases List.mem_append.1 hy with h1 | h1
    · refine (H.ok t ht y h1).only ho2 ?_
      rintro g cs hg (e | e)
      · exact (H.byte_ne hg).2.1 e
      · exact (H.byte_ne hg).2.2 t ht e
    · rw [List.mem_singleton.1 h1]
      exact ⟨ByS.row (n := x.h.length) (h.b1.far (by simp; exact hRW g1 (.inl h.b1)) _) rfl (by unfold maxLen; omega), ByS.row (n := x.b.length) (h.b2.far (by simp; exact hRW g2 (.inr h.b2)) _) rfl (by unfold maxLen; omega)⟩
  · intro j k hj hjt hk hk2
    rcases h.new k hk2 with e | e
    · exact H.sep j t k hj ht hjt hk e
    · have := (H.own_ne hj hk).2.2; omega
  · rw [hzz, List.length_append, hm]
    exact ⟨hz, by simp; omega⟩
set_option maxRecDepth 100000 in
set_option maxHeartbeats 6400000 in
theorem qu_put (t : Nat) (x : QI) (h : QAt w base q R n by_ it ro) (hb : base ≤ w.heap.size) (ht : t < n) (h1 : BS w x.HA x.h) (h2 : BS w x.BA x.b) (hz : x.z ≤ 1000000) (hm : ((ro t).2.length : Int) < it) :
    Calls Try.prog 16 #[.pointer (some ⟨q, 0, none⟩), .int .i64 (t : Int), x.agg] w fun e w' => if by_ - (qz (ro t).2 : Int) < (x.z : Int) then ErrP 33 w e w' else PutP base q R n by_ it ro t x w e w' := by
  have H := Lib.hid h
  have HX1 := Lib.hid h1
  have HX2 := Lib.hid h2
  have HB := Lib.hid hb
  obtain ⟨A, c, hv, _⟩ := (h.own t ht).slice
  obtain ⟨d0, d1, _⟩ := h.cells ht
  obtain ⟨_, e1, e2⟩ := h.blk.c3
  obtain ⟨cs, hRb, _⟩ := h.rows
  rw [hv] at d0
  obtain ⟨m, hmm⟩ : ∃ m, (ro t).2.length = m := ⟨_, rfl⟩
  obtain ⟨z, hzz⟩ : ∃ z, qz (ro t).2 = z := ⟨_, rfl⟩
  have HMM := Lib.hid hmm
  have HZZ := Lib.hid hzz
  have hlen := h.len ht
  have hy1 := h.y1
  have hy0 := h.y0
  have hi1 := h.i1
  rw [hmm] at d0 hm hlen hv
  rw [hzz] at d1 hlen ⊢
  have HV := Lib.hid hv
  obtain ⟨b, hbb⟩ : ∃ b, w.heap.size = b := ⟨_, rfl⟩
  have HBB := Lib.hid hbb
  have hW0 : PuW w q R t b m c A (z : Int) by_ it x (w.alloc (.cells #[.int .i64 x.num, .slice x.HA x.h.length x.hc, .slice x.BA x.b.length x.bc] 34)) := by
    have hn : Blk (w.alloc (.cells #[.int .i64 x.num, .slice x.HA x.h.length x.hc, .slice x.BA x.b.length x.bc] 34)) b 34 #[.int .i64 x.num, .slice x.HA x.h.length x.hc, .slice x.BA x.b.length x.bc] := by rw [← hbb]; exact Blk.new _ _ _
    have hf := Fresh.alloc w (.cells #[.int .i64 x.num, .slice x.HA x.h.length x.hc, .slice x.BA x.b.length x.bc] 34)
    exact ⟨hn.cell 0, hn.cell 1, hn.cell 2, (hf.cell (p := ⟨R, t * 2, none⟩) hRb.lt).trans d0, (hf.cell (p := ⟨R, t * 2 + 1, none⟩) hRb.lt).trans d1, (hf.cell (p := ⟨q, 1, none⟩) h.blk.lt).trans e1, (hf.cell (p := ⟨q, 2, none⟩) h.blk.lt).trans e2, ⟨hn.lt, (hRb.fresh hf).lt, (h.blk.fresh hf).lt⟩, hf⟩
  have HROW := Lib.hid (fun W (hw : Fresh w W) => qu_row t (h.fresh hw) ht)
  have HSZ := Lib.hid (fun W => qu_size x W (by omega))
  obtain ⟨zx, hzx⟩ : ∃ zx, x.z = zx := ⟨_, rfl⟩
  have HZX := Lib.hid hzx
  rw [hzx] at HSZ hz ⊢
  have HW0 := Lib.hid hW0
  have hwr : IntKind.i64.wrap (by_ - (z : Int)) = by_ - (z : Int) := by rw [IntKind.wrap_i64]; omega
  unfold qrow at HROW
  unfold QI.agg at HSZ ⊢
  have hdm : decide (it ≤ (m : Int)) = false := decide_eq_false (by omega)
  clear h h1 h2 hb d0 d1 e1 e2 hRb hmm hzz hbb hzx hW0 hv
  go_enter Try.func16, Try.ntmps16
  go_upto_region 1 with fail
  rw [HBB.out]
  refine wp_gen (PuW w q R t b m c A (z : Int) by_ it x) HW0.out ?_
  intro W hW
  have HW := Lib.hid hW
  have HROW' := HROW.out W hW.fr
  clear hW
  go_wp2_with fail
  with_reducible refine HROW'.mono ?_
  rintro e w1 ⟨rfl, rfl⟩
  clear HROW HROW'
  go_upto_region 4 with fail
  have HSK : Hid (∀ w', Fresh W w' → w'.cell? ⟨b, 0, none⟩ = some (.int .i64 x.num) ∧ w'.cell? ⟨b, 1, none⟩ = some (.slice x.HA x.h.length x.hc) ∧ w'.cell? ⟨b, 2, none⟩ = some (.slice x.BA x.b.length x.bc) ∧ w'.cell? ⟨R, t * 2, none⟩ = some (.slice A m c) ∧ w'.cell? ⟨R, t * 2 + 1, none⟩ = some (.int .i64 (z : Int)) ∧ w'.cell? ⟨q, 1, none⟩ = some (.int .i64 by_) ∧ w'.cell? ⟨q, 2, none⟩ = some (.int .i64 it) ∧ Fresh W w') := Lib.hid (fun w' hw => by
    have h := HW.out.fresh hw
    exact ⟨h.x0, h.x1, h.x2, h.d0, h.d1, h.e1, h.e2, hw⟩)
  go_region_held3 (fun w' => w'.cell? ⟨b, 0, none⟩ = some (.int .i64 x.num) ∧ w'.cell? ⟨b, 1, none⟩ = some (.slice x.HA x.h.length x.hc) ∧ w'.cell? ⟨b, 2, none⟩ = some (.slice x.BA x.b.length x.bc) ∧ w'.cell? ⟨R, t * 2, none⟩ = some (.slice A m c) ∧ w'.cell? ⟨R, t * 2 + 1, none⟩ = some (.int .i64 (z : Int)) ∧ w'.cell? ⟨q, 1, none⟩ = some (.int .i64 by_) ∧ w'.cell? ⟨q, 2, none⟩ = some (.int .i64 it) ∧ Fresh W w')
    ((refine HSK.out _ ?_; first | with_reducible assumption | with_reducible exact Fresh.drew _))
    (first | (go_at_call 18; (with_reducible refine (HSZ.out _).mono ?_); rintro e w2 ⟨rfl, hf2⟩; have hg2 : Fresh W w2 := Fresh.trans (Fresh.drew _) hf2; clear hf2))
  all_goals
    have HP3 := Lib.hid (HW.out.fresh hg2)
    refine wx_gen (PuW w q R t b m c A (z : Int) by_ it x) HP3.out ?_
    clear HSK HP3 hg2 HW
    intro W3 hW3
    have HW3 := Lib.hid hW3
    by_cases hq : by_ - (z : Int) < (zx : Int)
    · have HQ := Lib.hid hq
      clear hW3
      go_wp2
      go_ret
      exact ⟨rfl, HW3.out.fr⟩
    · have HQ := Lib.hid hq
      have hfr3 := hW3.fr
      have HRF : Hid (∀ W4, Fresh W3 W4 → W4.frozen? ⟨R, t * 2, none⟩ = false) := Lib.hid (fun W4 hw => ((H.out.fresh (hfr3.trans hw)).cells ht).2.2.1)
      have HCL := Lib.hid (fun W4 (hw : Fresh w W4) => qu_clone x W4 (HX1.out.fresh hw) (HX2.out.fresh hw) (by have := HZX.out; omega))
      unfold QI.agg at HCL
      obtain ⟨y0, y1, y2, y3, y4, y5, y6, _, _⟩ := hW3
      go_upto_region 6 with fail
      clear hwr
      have HARM := Lib.hid (fun W4 (hw : Fresh W3 W4) (g1 g2 : Nat) => qi_push (w := W4) (H.out.own t ht |>.fresh (hfr3.trans hw)) (Nat.le_trans HB.out (hfr3.trans hw).size) (clI x g1 g2) (by have := HMM.out; omega) m HMM.out)
      rw [HV.out] at HARM
      simp only [clI] at HARM
      have HRN := Lib.hid (fun k (hk : (Value.slice A m c).ownBlock = some k) => (H.out.own_ne ht (by rw [HV.out]; exact hk)))
      go_region_law (first
        | (go_simp; go_at_call 27; (with_reducible refine (HCL.out _ (hfr3.drewS)).mono ?_); rintro e w4 ⟨g1, g2, rfl, hx1, hx2, hne, hg1, hg2, hf4⟩; have hF4 : Fresh W3 w4 := (Fresh.drew W3).trans hf4; obtain ⟨A', c', w5, hap, ho5, hon5, hnew5⟩ := HARM.out w4 hF4 g1 g2; have HX5 := Lib.hid (And.intro hx1 (And.intro hx2 (And.intro hne (And.intro hg1 (And.intro hg2 (And.intro ho5 (And.intro hon5 hnew5))))))); have HP4 := HW3.out.fresh hF4; have k0 := HP4.d0; have hRl : R < w4.heap.size := HP4.lt.2.1; have HP4 := Lib.hid HP4; have hR5 : w5.cell? ⟨R, t * 2, none⟩ = some (.slice A m c) := (hon5.cell (p := ⟨R, t * 2, none⟩) HP4.out.lt.2.1 (fun e => (HRN.out R e).2.1 rfl)).trans HP4.out.d0; have hRz : w5.frozen? ⟨R, t * 2, none⟩ = false := (hon5.frozen (p := ⟨R, t * 2, none⟩) HP4.out.lt.2.1 (fun e => (HRN.out R e).2.1 rfl)).trans (HRF.out w4 hF4); simp only [clI, QI.agg]; clear hx1 hx2 hne hg1 hg2 hf4 ho5 hon5 hnew5)
        | (with_reducible refine step_app rfl (.tmp 41) (.tmp 44) _ rfl hap rfl (by simp [Act.eval, Act.put]) (by simp [Act.eval, Act.put]) ?_))
      all_goals
        obtain ⟨g01, g02, g03, g04, g05, g06, g07, g08⟩ := HX5.out
        refine wx_gen (PuX w base q R n by_ it ro t b m x g1 g2 A' c') (puX_mk H.out ht HV.out HP4.out HBB.out g01 g02 g06 g07 g08 ⟨Nat.le_trans hfr3.size g04, Nat.le_trans hfr3.size g05⟩) ?_
        clear g01 g02 g03 g04 g05 g06 g07 g08 HX5 HP4 hR5 hRz hap HCL HARM HRN HRF hF4 k0 y0 y1 y2 y3 y4 y5 y6 hfr3
        intro W6 hX
        have HXX := Lib.hid hX
        obtain ⟨cs6, hcs6, hcz, hcv⟩ := H.out.rows
        have hr1 : ∀ W7, Fresh W6 W7 → W7.cell? ⟨R, t * 2 + 1, none⟩ = some (.int .i64 (z : Int)) ∧ W7.frozen? ⟨R, t * 2 + 1, none⟩ = false := fun W7 hw => by
          have hb := (HXX.out.row cs6 hcs6).fresh hw
          refine ⟨?_, hb.frozen _⟩
          rw [hb.cell, Array.getElem?_setIfInBounds_ne (by omega), (hcv t ht).2, HZZ.out]
        have HR1 := Lib.hid hr1
        obtain ⟨u1, u2⟩ := hr1 W6 (Fresh.refl _)
        have v0 := hX.x0
        have v1 := hX.x1
        have v2 := hX.x2
        have HFIN : Hid (∀ W7, Fresh W6 W7 → PutP base q R n by_ it ro t x w (.returned (.int .i64 0)) (W7.setCell ⟨R, t * 2 + 1, none⟩ (.int .i64 ((z : Int) + (zx : Int))))) := Lib.hid (fun W7 hw => by
          have h := (HXX.out.fresh hw).fin H.out ht HMM.out hm (by rw [HZZ.out, HZX.out]; have := HQ.out; omega) (by rw [HZX.out]; exact hz)
          rw [HZZ.out, HZX.out] at h
          exact h)
        clear hX hr1 hcs6 hcz hcv
        have hw7 : IntKind.i64.wrap ((z : Int) + (zx : Int)) = (z : Int) + (zx : Int) := by rw [IntKind.wrap_i64]; omega
        go_upto_region 7 with fail
        go_region_law (go_simp; go_at_call 18; (with_reducible refine (HSZ.out _).mono ?_); rintro e w7 ⟨rfl, hf7⟩; have hF7 : Fresh W6 w7 := (Fresh.drew W6).trans hf7; obtain ⟨u3, u4⟩ := HR1.out w7 hF7; clear hf7)
        all_goals
          clear hw7
          go_wp2
          go_ret
          exact HFIN.out w7 hF7
end
end Go.Proofs.Ythfifeclmikbgaa
