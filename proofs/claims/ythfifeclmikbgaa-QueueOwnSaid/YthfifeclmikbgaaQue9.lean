/-
  Package queue: Cut.
-/
import Derived.Test.YthfifeclmikbgaaQue8
namespace Go.Proofs.Ythfifeclmikbgaa
set_option linter.unusedVariables false
set_option linter.unusedSimpArgs false
open Go.RowKit
theorem u8_sizeQ : ∀ W : World, (Go.sizeOf 5).run Try.prog W = .ok 1 W := fun W => by kernel_rfl
theorem Blk.inj {w : World} {g : Nat} {t t' : TypeId} {cs cs' : Array Value} (h : Blk w g t cs) (h' : Blk w g t' cs') : cs = cs' := by
  have e1 : w.heap[g]? = some (.cells cs t (0, 0)) := h
  have e2 : w.heap[g]? = some (.cells cs' t' (0, 0)) := h'
  rw [e1] at e2
  simp at e2
  exact e2.1
theorem Own.put {w : World} {base sz n c g : Nat} {E : TypeId} {xs : List Value} (h : Own w base E sz (.slice (some ⟨g, 0, none⟩) n c) n xs) (i : Nat) (u : Value) : Own (w.setCell ⟨g, i, none⟩ u) base E sz (.slice (some ⟨g, 0, none⟩) n c) n (xs.set i u) := by
  rcases h.2 with ⟨e, _⟩ | ⟨g', cap, cur, e, hb, hh, hn, hc, hs, hx⟩
  · cases e
  · injection e with e1 e2 e3
    simp at e1
    subst e1 e3
    have hB : Blk w g E cur := hh
    refine ⟨by rw [List.length_set]; exact h.1, .inr ⟨g, c, cur.setIfInBounds i u, rfl, hb, hB.set i u, hn, hc, by simpa using hs, ?_⟩⟩
    rw [Array.toList_setIfInBounds, List.take_set, hx]
def cutI (x : QI) (d : Nat) : QI := { x with BA := cutA x.BA d x.bc, bc := x.bc - d, b := x.b.drop d }
theorem cutI_cells (x : QI) (d : Nat) (r : List QI) : (rowQ (x :: r)).set 2 (.slice (cutA x.BA d x.bc) (x.b.length - d) (x.bc - d)) = rowQ (cutI x d :: r) := by
  simp [rowQ, QI.cells, cutI]
section
variable {base q R n : Nat} {by_ it : Int} {ro : Rows} {w : World}
def CutP (base q R n : Nat) (by_ it : Int) (ro : Rows) (t d : Nat) (x : QI) (r : List QI) (w : World) (e : Ending) (w' : World) : Prop :=
  ∃ g2, e = .returned (.tuple #[.slice (some ⟨g2, 0, none⟩) d d, .int .i64 0]) ∧ Blk w' g2 5 (bytesA (x.b.take d)) ∧ w.heap.size ≤ g2 ∧ QAt w' base q R n by_ it (updR ro t ((ro t).1, cutI x d :: r)) ∧ Only (fun k => k = R ∨ (ro t).1.ownBlock = some k) w w'
theorem cut_fin {w2 : World} {t d g c m : Nat} {x : QI} {r : List QI} (H : QAt w base q R n by_ it ro) (ht : t < n) (hr : (ro t).2 = x :: r) (hv : (ro t).1 = .slice (some ⟨g, 0, none⟩) m c) (hm : (ro t).2.length = m) (hd : d ≤ x.b.length) (hf : Fresh w w2) :
    QAt ((w2.setCell ⟨g, 2, none⟩ (.slice (cutA x.BA d x.bc) (x.b.length - d) (x.bc - d))).setCell ⟨R, t * 2 + 1, none⟩ (.int .i64 ((qz (ro t).2 : Int) - (d : Int)))) base q R n by_ it (updR ro t ((ro t).1, cutI x d :: r)) ∧
      Only (fun k => k = R ∨ (ro t).1.ownBlock = some k) w ((w2.setCell ⟨g, 2, none⟩ (.slice (cutA x.BA d x.bc) (x.b.length - d) (x.bc - d))).setCell ⟨R, t * 2 + 1, none⟩ (.int .i64 ((qz (ro t).2 : Int) - (d : Int)))) := by
  have hvg : (ro t).1.ownBlock = some g := by rw [hv]; rfl
  have hgb := H.own_ne ht hvg
  have hRg : R ≠ g := fun e => hgb.2.1 e.symm
  have hzz : (qz (cutI x d :: r) : Int) = (qz (ro t).2 : Int) - (d : Int) := by
    rw [hr, qz_cons, qz_cons]
    simp [cutI, QI.z]
    omega
  have ho2 : Only (fun k => k = R ∨ (ro t).1.ownBlock = some k) w ((w2.setCell ⟨g, 2, none⟩ (.slice (cutA x.BA d x.bc) (x.b.length - d) (x.bc - d))).setCell ⟨R, t * 2 + 1, none⟩ (.int .i64 ((qz (ro t).2 : Int) - (d : Int)))) :=
    ((Only.of_fresh hf).trans (onR.mono (fun k e => .inr (by rw [e]; exact hvg)))).trans (onR.mono (fun k e => .inl e))
  have hby : ∀ y : QI, y.Ok w → y.Ok ((w2.setCell ⟨g, 2, none⟩ (.slice (cutA x.BA d x.bc) (x.b.length - d) (x.bc - d))).setCell ⟨R, t * 2 + 1, none⟩ (.int .i64 ((qz (ro t).2 : Int) - (d : Int)))) := fun y hy => hy.only ho2 (fun g' cs hg => by
    rintro (e | e)
    · exact (H.byte_ne hg).2.1 e
    · exact (H.byte_ne hg).2.2 t ht e)
  refine ⟨H.upd ht (fun k => k = R ∨ (ro t).1.ownBlock = some k) ho2 ?_ ?_ ?_ ?_ ?_ ?_ ?_ ?_, ho2⟩
  · rintro (e | e)
    · exact H.ne e
    · exact (H.own_ne ht e).1 rfl
  · intro cs hcs hb
    rw [hzz]
    obtain ⟨cs0, h1, h2, h3⟩ := H.rows
    obtain rfl := hb.inj h1
    have hid : cs.setIfInBounds (t * 2) (ro t).1 = cs := by
      apply Array.ext_getElem?
      intro i
      by_cases e : i = t * 2
      · subst e
        rw [(h3 t ht).1]
        simp [show t * 2 < cs.size by omega]
      · rw [Array.getElem?_setIfInBounds_ne (fun h => e h.symm)]
    rw [hid]
    exact ((hb.fresh hf).far (by simpa using hRg) _).set (t * 2 + 1) _
  · rintro j hj hjt k' hk (e | e)
    · exact (H.own_ne hj hk).2.1 e
    · exact H.sep j t k' hj ht hjt hk e
  · rintro g' cs hg (e | e)
    · exact (H.byte_ne hg).2.1 e
    · exact (H.byte_ne hg).2.2 t ht e
  · have ho := (H.own t ht).fresh hf
    rw [hr] at ho hm
    rw [hv] at ho ⊢
    have hl : (cutI x d :: r).length = m := by rw [← hm]; rfl
    rw [hm] at ho
    rw [hl, ← cutI_cells]
    refine (ho.put 2 _).only onR (fun k' hk' e => ?_)
    simp [Value.ownBlock] at hk'
    omega
  · intro y hy
    rcases List.mem_cons.1 hy with rfl | hy
    · have hx := hby x (H.ok t ht x (by rw [hr]; simp))
      refine ⟨hx.hd, ⟨?_, ?_, hx.bd.bs.cut d x.bc hx.bd.le, fun hn => ?_⟩⟩
      · have := hx.bd.le; simp [cutI]; omega
      · have := hx.bd.max; simp only [cutI]; unfold maxLen at *; omega
      · simp [cutI] at hn
        obtain ⟨b, o, cs, e, hb⟩ := hx.bd.ty (by omega)
        have := hx.bd.le
        refine ⟨b, o + d, cs, ?_, hb⟩
        simp only [cutI]
        rw [e, cutA_some _ _ _ _ (by omega)]
    · exact hby y (H.ok t ht y (by rw [hr]; simp [hy]))
  · intro j k' hj hjt hk' hk2
    exact H.sep j t k' hj ht hjt hk' hk2
  · have := H.quota t ht
    rw [hr] at this
    rw [hzz, hr]
    simp at this ⊢
    omega
set_option maxHeartbeats 3200000 in
theorem qu_cut (t d : Nat) (x : QI) (r : List QI) (h : QAt w base q R n by_ it ro) (ht : t < n) (hr : (ro t).2 = x :: r) (hd : d ≤ x.b.length) : Calls Try.prog 21 #[.pointer (some ⟨q, 0, none⟩), .int .i64 (t : Int), .int .i64 (d : Int)] w (CutP base q R n by_ it ro t d x r w) := by
  have hx : (ro t).2[0]? = some x := by rw [hr]; rfl
  have hl := (List.getElem?_eq_some_iff.1 hx).1
  have H := Lib.hid h
  have HFU := Lib.hid (fun W (hw : Fresh w W) => qu_full t (h.fresh hw) ht hl)
  obtain ⟨g, c, hv, hnc, hcm, hgl, y0, y1, y2, hok, hz⟩ := h.first ht hx
  obtain ⟨d0, d1, z0, z1⟩ := h.cells ht
  obtain ⟨cs, hRb, hcs, hcv⟩ := h.rows
  have hRl := hRb.lt
  have hgb := h.own_ne ht (k := g) (by rw [hv]; rfl)
  have hRg : R ≠ g := fun e => hgb.2.1 e.symm
  rw [hv] at d0
  have HCL := Lib.hid (fun W (hw : Fresh w W) => qu_cloned x.BA x.bc (x.b.take d) W (((hok.fresh hw).bd.bs).take d) (by unfold QI.z at hz; simp; omega))
  rw [show (x.b.take d).length = d by simp; omega] at HCL
  have hzf2 : w.frozen? ⟨g, 2, none⟩ = false := by
    obtain ⟨cur, hc⟩ := ownQ (h.own t ht) (g := g) (by rw [hv]; rfl)
    exact hc.frozen 2
  obtain ⟨m, hm⟩ : ∃ m, (ro t).2.length = m := ⟨_, rfl⟩
  have HM := Lib.hid hm
  have hlen := h.len ht
  rw [hm] at d0 hl hnc hv hlen
  obtain ⟨z, hzz⟩ : ∃ z, qz (ro t).2 = z := ⟨_, rfl⟩
  have HZ := Lib.hid hzz
  rw [hzz] at d1 hlen
  have hdz : d ≤ z := by rw [← hzz, hr, qz_cons]; unfold QI.z; omega
  have HV := Lib.hid hv
  have HRR := Lib.hid hr
  have HD := Lib.hid hd
  have HC := Lib.hid (fun W (hw : Fresh w W) => And.intro ((hw.cell (p := ⟨R, t * 2, none⟩) hRl).trans d0) (And.intro ((hw.cell (p := ⟨R, t * 2 + 1, none⟩) hRl).trans d1) (And.intro ((hw.cell (p := ⟨g, 2, none⟩) hgl).trans y2) (And.intro ((hw.frozen (p := ⟨g, 2, none⟩) hgl).trans hzf2) ((hw.frozen (p := ⟨R, t * 2 + 1, none⟩) hRl).trans z1)))))
  have hct := run_cut_to (P := Try.prog) Try.underlying32 u8_sizeQ x.BA x.b.length x.bc d (by have := hok.bd.le; omega)
  have hcf := run_cut_from (P := Try.prog) Try.underlying32 u8_sizeQ x.BA x.b.length x.bc d hd
  obtain ⟨lb, hlb⟩ : ∃ lb, x.b.length = lb := ⟨_, rfl⟩
  have HLB := Lib.hid hlb
  rw [hlb] at HC hct hcf hd
  have hw7 : IntKind.i64.wrap ((z : Int) - (d : Int)) = (z : Int) - (d : Int) := by rw [IntKind.wrap_i64]; omega
  have n0 : ¬ (d : Int) < 0 := by omega
  have n1 : ¬ (lb : Int) < (d : Int) := by omega
  unfold qrow at HFU
  simp only [maxLen] at hcm
  clear h hx hr hv y0 y1 y2 hok hz d0 d1 z0 z1 hRb hcs hcv hzf2 hm hzz hlb
  go_enter Try.func21, Try.ntmps21
  go_wp2_with fail
  with_reducible refine (HFU.out _ (Fresh.refl _)).mono ?_
  rintro e w1 ⟨rfl, hf1⟩
  have HF1 := Lib.hid hf1
  obtain ⟨d0, d1, y2, zg, zR⟩ := HC.out w1 hf1
  clear hf1 HFU
  go_wp2_with fail
  with_reducible refine (HCL.out w1 HF1.out).mono ?_
  rintro e w2 ⟨g2, hE, hx2, hg2, hf2⟩
  have hE' : e = .returned (.slice (some ⟨g2, 0, none⟩) d d) := by
    rw [hE]
    have : (x.b.take d).length = d := by have := HD.out; simp; omega
    rw [this]
  subst hE'
  have HF2 := Lib.hid (HF1.out.trans hf2)
  clear d0 d1 y2 zg zR
  obtain ⟨d0, d1, y2, zg, zR⟩ := HC.out w2 HF2.out
  have HX2 := Lib.hid (And.intro hx2 (And.intro hg2 hf2))
  clear hE hx2 hg2 hf2 HCL HC
  go_wp2
  go_ret2
  have hfin := cut_fin (w2 := w2) (d := d) H.out ht HRR.out HV.out HM.out HD.out HF2.out
  rw [HLB.out, HZ.out] at hfin
  have hb2 := HX2.out.1
  refine ⟨g2, rfl, (hb2.far ?_ _).far ?_ _, Nat.le_trans HF1.out.size HX2.out.2.1, hfin.1, hfin.2⟩
  · have := HX2.out.2.1; have := HF1.out.size; simp; omega
  · have := HX2.out.2.1; have := HF1.out.size; simp; omega
end
end Go.Proofs.Ythfifeclmikbgaa
