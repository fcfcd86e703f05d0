/-
  Package queue: take, Pop.
-/
import Derived.Test.YthfifeclmikbgaaQue6
namespace Go.Proofs.Ythfifeclmikbgaa
set_option linter.unusedVariables false
set_option linter.unusedSimpArgs false
open Go.RowKit
def ZI : Array Value := #[.int .i64 0, .slice none 0 0, .slice none 0 0]
def QI.arr (x : QI) : Array Value := #[.int .i64 x.num, .slice x.HA x.h.length x.hc, .slice x.BA x.b.length x.bc]
/-- An item is out of its row; its bytes are not yet taken off. -/
structure TkX (w : World) (base R : Nat) (ro : Rows) (t k b4 b5 g c m : Nat) (x : QI) (W : World) : Prop where
  x4 : Blk W b4 34 ZI
  x5 : Blk W b5 34 x.arr
  row : ∀ cs, Blk w R 63 cs → Blk W R 63 (cs.setIfInBounds (t * 2) (.slice (some ⟨g, 0, none⟩) (m - 1) c))
  own : Own W base 34 3 (.slice (some ⟨g, 0, none⟩) (m - 1) c) (m - 1) (rowQ ((ro t).2.eraseIdx k))
  on : Only (fun k => k = R ∨ (ro t).1.ownBlock = some k) w W
theorem TkX.fresh {w W W' : World} {base R t k b4 b5 g c m : Nat} {ro : Rows} {x : QI} (h : TkX w base R ro t k b4 b5 g c m x W) (hf : Fresh W W') : TkX w base R ro t k b4 b5 g c m x W' :=
  ⟨h.x4.fresh hf, h.x5.fresh hf, fun cs hb => (h.row cs hb).fresh hf, h.own.fresh hf, h.on.freshS hf⟩
theorem qz_erase {l : List QI} {k : Nat} {x : QI} (h : l[k]? = some x) : qz l = qz (l.eraseIdx k) + x.z := by
  obtain ⟨hk, rfl⟩ := List.getElem?_eq_some_iff.1 h
  rw [List.eraseIdx_eq_take_drop_succ, qz_append]
  have h2 : qz l = qz (l.take k) + qz (l.drop k) := by rw [← qz_append, List.take_append_drop]
  rw [h2, List.drop_eq_getElem_cons hk, qz_cons]
  omega
section
variable {base q R n : Nat} {by_ it : Int} {ro : Rows} {w : World}
theorem QAt.at {t k : Nat} {x : QI} (h : QAt w base q R n by_ it ro) (ht : t < n) (hx : (ro t).2[k]? = some x) : ∃ g c, (ro t).1 = .slice (some ⟨g, 0, none⟩) (ro t).2.length c ∧ (ro t).2.length ≤ c ∧ c ≤ maxLen ∧ g < w.heap.size ∧ w.cell? ⟨g, k * 3, none⟩ = some (.int .i64 x.num) ∧ w.cell? ⟨g, k * 3 + 1, none⟩ = some (.slice x.HA x.h.length x.hc) ∧ w.cell? ⟨g, k * 3 + 2, none⟩ = some (.slice x.BA x.b.length x.bc) ∧ x.Ok w ∧ x.z ≤ 1048576 := by
  have hl := (List.getElem?_eq_some_iff.1 hx).1
  rcases (h.own t ht).form with ⟨_, h0, _⟩ | ⟨g, c, hv, hgb, hgl, hnc, hcm, hcell⟩
  · omega
  · obtain ⟨r0, r1, r2⟩ := rowQ_at hx
    have hz := qz_erase hx
    refine ⟨g, c, hv, hnc, hcm, hgl, (hcell _ (by rw [rowQ_length]; omega)).1.trans r0, (hcell _ (by rw [rowQ_length]; omega)).1.trans r1, (hcell _ (by rw [rowQ_length]; omega)).1.trans r2, h.ok t ht x (List.mem_of_getElem? hx), ?_⟩
    have := (h.len ht).2
    omega
theorem TkX.fin {W W2 : World} {t k b4 b5 g c m : Nat} {x : QI} (h : TkX w base R ro t k b4 b5 g c m x W) (H : QAt w base q R n by_ it ro) (ht : t < n) (hm : (ro t).2.length = m) (hx : (ro t).2[k]? = some x) (hv : (ro t).1.ownBlock = some g) (hb4 : w.heap.size ≤ b4)
    (hW2 : Only (· = b4) (W.setCell ⟨R, t * 2 + 1, none⟩ (.int .i64 ((qz (ro t).2 : Int) - (x.z : Int)))) W2) (hb4t : b4 ≠ R) :
    QAt W2 base q R n by_ it (updR ro t (.slice (some ⟨g, 0, none⟩) (m - 1) c, (ro t).2.eraseIdx k)) ∧ Only (fun k => k = R ∨ (ro t).1.ownBlock = some k) w W2 := by
  have hkl := (List.getElem?_eq_some_iff.1 hx).1
  have hz := qz_erase hx
  have hzz : (qz ((ro t).2.eraseIdx k) : Int) = (qz (ro t).2 : Int) - (x.z : Int) := by omega
  have hgb := H.own_ne ht hv
  have ho2 : Only (fun k => k = R ∨ (ro t).1.ownBlock = some k) w W2 := (h.on.trans (onR.mono (fun k e => .inl e))).trans' hW2 (fun i hi e => by omega)
  refine ⟨H.upd ht (fun k => k = R ∨ (ro t).1.ownBlock = some k) ho2 ?_ ?_ ?_ ?_ ?_ ?_ ?_ ?_, ho2⟩
  · rintro (e | e)
    · exact H.ne e
    · exact (H.own_ne ht e).1 rfl
  · intro cs hcs hb
    rw [hzz]
    exact ((h.row cs hb).set (t * 2 + 1) _).only hW2 (fun e => hb4t e.symm)
  · rintro j hj hjt k' hk (e | e)
    · exact (H.own_ne hj hk).2.1 e
    · exact H.sep j t k' hj ht hjt hk e
  · rintro g' cs hg (e | e)
    · exact (H.byte_ne hg).2.1 e
    · exact (H.byte_ne hg).2.2 t ht e
  · rw [List.length_eraseIdx_of_lt hkl, hm]
    refine (h.own.only onR (fun k' hk' e => ?_)).only hW2 (fun k' hk' e => ?_)
    · simp [Value.ownBlock] at hk'
      omega
    · simp [Value.ownBlock] at hk'
      omega
  · intro y hy
    refine (H.ok t ht y (List.mem_of_mem_eraseIdx hy)).only ho2 ?_
    rintro g' cs hg (e | e)
    · exact (H.byte_ne hg).2.1 e
    · exact (H.byte_ne hg).2.2 t ht e
  · intro j k' hj hjt hk' hk2
    simp [Value.ownBlock] at hk2
    exact H.sep j t k' hj ht hjt hk' (by rw [hv, hk2])
  · have := H.quota t ht
    rw [hzz, List.length_eraseIdx_of_lt hkl]
    omega
def TakeP (base q R n : Nat) (by_ it : Int) (ro : Rows) (t k : Nat) (x : QI) (w : World) (e : Ending) (w' : World) : Prop :=
  ∃ v', e = .returned x.agg ∧ QAt w' base q R n by_ it (updR ro t (v', (ro t).2.eraseIdx k)) ∧ v'.ownBlock = (ro t).1.ownBlock ∧ Only (fun k => k = R ∨ (ro t).1.ownBlock = some k) w w'
set_option maxRecDepth 100000 in
set_option maxHeartbeats 6400000 in
theorem qu_take (t k : Nat) (x : QI) (h : QAt w base q R n by_ it ro) (ht : t < n) (hx : (ro t).2[k]? = some x) :
    Calls Try.prog 29 #[qrow R t, .int .i64 (k : Int)] w (TakeP base q R n by_ it ro t k x w) := by
  have H := Lib.hid h
  have HX := Lib.hid hx
  have hkl := (List.getElem?_eq_some_iff.1 hx).1
  obtain ⟨g, c, hv, hnc, hcm, hgl, y0, y1, y2, hok, hz⟩ := h.at ht hx
  obtain ⟨d0, d1, z0, z1⟩ := h.cells ht
  obtain ⟨cs, hRb, hcs, hcv⟩ := h.rows
  rw [hv] at d0
  have hRl := hRb.lt
  have hlen := (h.len ht)
  have HDEL := Lib.hid (fun W (hw : Fresh w W) => qd_delete k ((h.own t ht).fresh hw) hkl (by omega))
  obtain ⟨m, hm⟩ : ∃ m, (ro t).2.length = m := ⟨_, rfl⟩
  have HM := Lib.hid hm
  rw [hm] at d0 hkl hnc hlen hv
  rw [hm, hv] at HDEL
  have HV := Lib.hid hv
  have HC := Lib.hid (fun W (hw : Fresh w W) => And.intro ((hw.cell (p := ⟨R, t * 2, none⟩) hRl).trans d0) (And.intro ((hw.cell (p := ⟨g, k * 3, none⟩) hgl).trans y0) (And.intro ((hw.cell (p := ⟨g, k * 3 + 1, none⟩) hgl).trans y1) (And.intro ((hw.cell (p := ⟨g, k * 3 + 2, none⟩) hgl).trans y2) ((hw.frozen (p := ⟨R, t * 2, none⟩) hRl).trans z0)))))
  obtain ⟨z, hzz⟩ : ∃ z, qz (ro t).2 = z := ⟨_, rfl⟩
  have HZ := Lib.hid hzz
  rw [hzz] at d1 hlen
  have HSZ := Lib.hid (fun W => qu_size x W (by omega))
  obtain ⟨zx, hzx⟩ : ∃ zx, x.z = zx := ⟨_, rfl⟩
  have HZX := Lib.hid hzx
  have hze := qz_erase hx
  rw [hzz, hzx] at hze
  have hzle : zx ≤ z := by omega
  rw [hzx] at HSZ hz
  simp only [maxLen] at hcm
  unfold QI.agg at HSZ
  have HR := Lib.hid hRb
  unfold qrow
  clear h hx hv y0 y1 y2 hok hm hzz hzx hze d0 d1 z0 z1 hRb hcs hcv
  go_enter Try.func29, Try.ntmps29
  go_upto_region 1 with fail
  refine wp_gen (fun W => Fresh w W ∧ Blk W w.heap.size 34 ZI) ⟨Fresh.alloc _ _, Blk.new _ _ _⟩ ?_
  rintro W ⟨hf0, hb0⟩
  have HF0 := Lib.hid hf0
  have HB0 := Lib.hid hb0
  obtain ⟨b4, hb4⟩ : ∃ b, w.heap.size = b := ⟨_, rfl⟩
  rw [hb4] at HB0 ⊢
  have HB4 := Lib.hid hb4
  obtain ⟨d0, y0, y1, y2, zf⟩ := HC.out W hf0
  have hb4l := HB0.out.lt
  clear hf0 hb0 hb4
  go_upto_region 2 with fail
  refine wp_gen (fun W2 => Fresh W W2 ∧ Blk W2 W.heap.size 34 x.arr) ⟨Fresh.alloc _ _, Blk.new _ _ _⟩ ?_
  rintro W2 ⟨hf2, hb2⟩
  obtain ⟨b5, hb5⟩ : ∃ b, W.heap.size = b := ⟨_, rfl⟩
  rw [hb5] at hb2 ⊢
  have HB5 := Lib.hid hb2
  have HB42 := Lib.hid (HB0.out.fresh hf2)
  have hb45 : b4 ≠ b5 := by omega
  have hb5w : w.heap.size ≤ b5 := by have := HF0.out.size; omega
  have HF2 := Lib.hid (HF0.out.trans hf2)
  clear d0 y0 y1 y2 zf hf2 hb2 hb5
  obtain ⟨d0, _, _, _, zf⟩ := HC.out W2 HF2.out
  have HD2 := Lib.hid (HDEL.out W2 HF2.out)
  clear HDEL HC
  go_wp2_with fail
  with_reducible refine HD2.out.mono ?_
  rintro e w3 ⟨g', c', hgc, rfl, ho3, hon3⟩
  have HGC := Lib.hid hgc
  obtain ⟨rfl, rfl⟩ : g = g' ∧ c = c' := by injection hgc with e1 e2 e3; simp at e1; exact ⟨e1, e3⟩
  have hbs := H.out.own_ne ht (k := g) (by rw [HV.out]; rfl)
  have hRg : ¬ R = g := fun e => hbs.2.1 e.symm
  have hws := HF0.out.size
  have hr3 : ∀ cs, Blk w R 63 cs → Blk w3 R 63 cs := fun cs hc => (hc.fresh HF2.out).only hon3 hRg
  have hb43 : Blk w3 b4 34 ZI := HB42.out.only hon3 (fun e => by have := HB4.out; omega)
  have hb53 : Blk w3 b5 34 x.arr := HB5.out.only hon3 (fun e => by omega)
  have hd3 : w3.cell? ⟨R, t * 2, none⟩ = some (.slice (some ⟨g, 0, none⟩) m c) := (hon3.cell (p := ⟨R, t * 2, none⟩) (by have := HF2.out.size; show R < _; omega) hRg).trans d0
  have hz3 : w3.frozen? ⟨R, t * 2, none⟩ = false := (hon3.frozen (p := ⟨R, t * 2, none⟩) (by have := HF2.out.size; show R < _; omega) hRg).trans zf
  have HT : Hid (TkX w base R ro t k b4 b5 g c m x (w3.setCell ⟨R, t * 2, none⟩ (.slice (some ⟨g, 0, none⟩) (m - 1) c))) := Lib.hid ⟨hb43.far (by simp; have := HB4.out; omega) _, hb53.far (by simp; omega) _, fun cs hc => (hr3 cs hc).set (t * 2) _, ho3.only onR (fun k' hk' e => by simp [Value.ownBlock] at hk'; omega), ((Only.of_fresh HF2.out).trans' hon3 (fun i _ e => .inr (by rw [HV.out, e]; rfl))).trans (onR.mono (fun k e => .inl e))⟩
  have HR3 : Hid (w3.cell? ⟨R, t * 2 + 1, none⟩ = some (.int .i64 (z : Int))) := Lib.hid (by
    have := (H.out.cells ht).2.1
    rw [HZ.out] at this
    rw [hon3.cell (p := ⟨R, t * 2 + 1, none⟩) (by have := HF2.out.size; show R < _; omega) hRg, HF2.out.cell (p := ⟨R, t * 2 + 1, none⟩) hRl]
    exact this)
  clear hgc ho3 hon3 hr3 hb43 hb53 d0 zf HD2
  go_upto_region 3 with fail
  refine wp_gen (TkX w base R ro t k b4 b5 g c m x) HT.out ?_
  clear hd3 hz3 HT HR3
  intro W4 hT
  have HT := Lib.hid hT
  have hrow : ∀ W5, Fresh W4 W5 → W5.cell? ⟨R, t * 2 + 1, none⟩ = some (.int .i64 (z : Int)) ∧ W5.frozen? ⟨R, t * 2 + 1, none⟩ = false := fun W5 hw => by
    obtain ⟨cs, hR, hcz, hcv⟩ := H.out.rows
    have hb := (HT.out.row cs hR).fresh hw
    refine ⟨?_, hb.frozen _⟩
    rw [hb.cell, Array.getElem?_setIfInBounds_ne (by omega), (hcv t ht).2, HZ.out]
  have HROW := Lib.hid hrow
  obtain ⟨u1, u2⟩ := hrow W4 (Fresh.refl _)
  obtain ⟨v0, v1, v2⟩ : W4.cell? ⟨b5, 0, none⟩ = some (.int .i64 x.num) ∧ W4.cell? ⟨b5, 1, none⟩ = some (.slice x.HA x.h.length x.hc) ∧ W4.cell? ⟨b5, 2, none⟩ = some (.slice x.BA x.b.length x.bc) := ⟨hT.x5.cell 0, hT.x5.cell 1, hT.x5.cell 2⟩
  have hw7 : IntKind.i64.wrap ((z : Int) - (zx : Int)) = (z : Int) - (zx : Int) := by rw [IntKind.wrap_i64]; omega
  have hbR4 : b4 ≠ R := by have := HB4.out; omega
  have hbR5 : b5 ≠ R := by omega
  clear hT hrow
  go_region_law (go_simp; go_at_call 18; (with_reducible refine (HSZ.out _).mono ?_); rintro e w7 ⟨rfl, hf7⟩; have hF7 : Fresh W4 w7 := (Fresh.drew W4).trans hf7; obtain ⟨u3, u4⟩ := HROW.out w7 hF7; clear hf7)
  all_goals
    clear hw7
    have HT7 := Lib.hid (HT.out.fresh hF7)
    have HP : Hid (Blk (w7.setCell ⟨R, t * 2 + 1, none⟩ (.int .i64 ((z : Int) - (zx : Int)))) b4 34 ZI ∧ Blk (w7.setCell ⟨R, t * 2 + 1, none⟩ (.int .i64 ((z : Int) - (zx : Int)))) b5 34 x.arr) := Lib.hid ⟨HT7.out.x4.far (by simpa using hbR4) _, HT7.out.x5.far (by simpa using hbR5) _⟩
    refine wx_gen (fun W8 => W8 = w7.setCell ⟨R, t * 2 + 1, none⟩ (.int .i64 ((z : Int) - (zx : Int)))) rfl ?_
    intro W8 hW8
    rw [← hW8] at HP
    have HW8 := Lib.hid hW8
    obtain ⟨f0, f1, f2⟩ : W8.cell? ⟨b5, 0, none⟩ = some (.int .i64 x.num) ∧ W8.cell? ⟨b5, 1, none⟩ = some (.slice x.HA x.h.length x.hc) ∧ W8.cell? ⟨b5, 2, none⟩ = some (.slice x.BA x.b.length x.bc) := ⟨HP.out.2.cell 0, HP.out.2.cell 1, HP.out.2.cell 2⟩
    obtain ⟨l0, l1, l2⟩ : W8.cell? ⟨b4, 0, none⟩ = some (.int .i64 0) ∧ W8.cell? ⟨b4, 1, none⟩ = some (.slice none 0 0) ∧ W8.cell? ⟨b4, 2, none⟩ = some (.slice none 0 0) := ⟨HP.out.1.cell 0, HP.out.1.cell 1, HP.out.1.cell 2⟩
    have q0 := HP.out.1.frozen 0
    have q1 := HP.out.1.frozen 1
    have q2 := HP.out.1.frozen 2
    clear hW8 u1 u2 u3 u4 v0 v1 v2
    go_wp2
    refine bodyPost_ret (v := x.agg) (by simp [results, Try.results29, go_sem, QI.agg, l0, l1, l2, q0, q1, q2]) rfl ?_
    have hfin := HT7.out.fin (W2 := ((W8.setCell ⟨b4, 0, none⟩ (.int .i64 x.num)).setCell ⟨b4, 1, none⟩ (.slice x.HA x.h.length x.hc)).setCell ⟨b4, 2, none⟩ (.slice x.BA x.b.length x.bc)) H.out ht HM.out HX.out (by rw [HV.out]; rfl) (Nat.le_of_eq HB4.out) (by rw [HZ.out, HZX.out, ← HW8.out]; exact (onR.trans onR).trans onR) hbR4
    exact ⟨_, rfl, hfin.1, by rw [HV.out]; rfl, hfin.2⟩
end
end Go.Proofs.Ythfifeclmikbgaa
