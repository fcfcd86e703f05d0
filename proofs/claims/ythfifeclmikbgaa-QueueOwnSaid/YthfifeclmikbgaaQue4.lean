/-
  Package queue: First; one item more in a row.
-/
import Derived.Test.YthfifeclmikbgaaQue3
import Derived.Maps.AppendAt
namespace Go.Proofs.Ythfifeclmikbgaa
set_option linter.unusedVariables false
set_option linter.unusedSimpArgs false
open Go.RowKit
theorem qi_push {w : World} {base : Nat} {v : Value} {l : List QI} (h : Own w base 34 3 v l.length (rowQ l)) (hb : base ≤ w.heap.size) (x : QI) (hn : (l.length + 1) * 56 ≤ 140737488355328) (m : Nat) (hm : l.length = m) :
    ∃ A' c' w', (Builtin.append_ #[61, 61] 61 #[v, .slice (some ⟨w.heap.size, 0, none⟩) 1 1]).run Try.prog (w.alloc (.cells #[.int .i64 x.num, .slice x.HA x.h.length x.hc, .slice x.BA x.b.length x.bc] 34)) = .ok (.slice A' (m + 1) c') w' ∧ Own w' base 34 3 (.slice A' (m + 1) c') (m + 1) (rowQ (l ++ [x])) ∧ Only (fun k => v.ownBlock = some k) w w' ∧
      (∀ k, (Value.slice A' (m + 1) c').ownBlock = some k → v.ownBlock = some k ∨ w.heap.size < k) := by
  subst hm
  obtain ⟨i, hi, hiz, his, hib⟩ := info_parts qi_info
  obtain ⟨v', w', hr, ho, hgr, _, hat⟩ := run_append_own_at (P := Try.prog) (w.alloc (.cells #[.int .i64 x.num, .slice x.HA x.h.length x.hc, .slice x.BA x.b.length x.bc] 34)) base 61 61 34 i _ 3 56 Try.underlying61 hi hiz his hib rfl (by omega) v l.length _ (h.fresh (Fresh.alloc _ _)) ⟨w.heap.size, 0, none⟩ 1 1 x.cells rfl
    (fun j u hj => by
      rw [add_eq _ _ rfl]
      simp only [Nat.zero_add]
      rw [(Blk.new w 34 #[.int .i64 x.num, .slice x.HA x.h.length x.hc, .slice x.BA x.b.length x.bc]).cell]
      simpa [QI.cells] using hj) (by
    intro u hu
    simp only [QI.cells, List.mem_cons, List.not_mem_nil, or_false] at hu
    rcases hu with rfl | rfl | rfl <;> rfl) (by unfold maxLen; omega) hn (by simp; omega)
  obtain ⟨A', c', rfl, _⟩ := Own.slice (show Own w' base _ 3 v' _ _ from ho)
  have hO : Only (fun k => v.ownBlock = some k) (w.alloc (.cells #[.int .i64 x.num, .slice x.HA x.h.length x.hc, .slice x.BA x.b.length x.bc] 34)) w' := ⟨hgr.os, hgr.tape, hgr.output, hgr.size, fun k hk hne => hgr.block k hk (fun e => hne e.symm)⟩
  have hO2 : Only (fun k => v.ownBlock = some k) w w' := (Only.of_fresh (Fresh.alloc _ _)).trans hO
  refine ⟨A', c', w', hr, ?_, hO2, fun k hk => ?_⟩
  · have : Own w' base 34 3 (.slice A' (l.length + 1) c') (l.length + 1) _ := ho
    simpa [rowQ] using this
  · rcases hat with e | e
    · rw [e] at hk; exact .inl hk
    · rw [e] at hk; simp at hk; right; omega
def zI : Value := .agg #[.int .i64 0, .slice none 0 0, .slice none 0 0]
theorem Fresh.setF {w w' : World} {p : Addr} {v : Value} (h : Fresh w w') (hp : w.heap.size ≤ p.block) : Fresh w (w'.setCell p v) := h.step p v hp
section
variable {base q R n : Nat} {by_ it : Int} {ro : Rows} {w : World}
def NoneP (w : World) (e : Ending) (w' : World) : Prop := e = .returned (.tuple #[zI, .int .i64 14]) ∧ Fresh w w'
set_option maxHeartbeats 1600000 in
theorem qu_first_no (i : Int) (h : QAt w base q R n by_ it ro) (hi : (i < 0 ∨ (n : Int) ≤ i) ∨ ∃ t : Nat, i = (t : Int) ∧ t < n ∧ (ro t).2 = []) : Calls Try.prog 17 #[.pointer (some ⟨q, 0, none⟩), .int .i64 i] w (NoneP w) := by
  have H : Hid (∀ W, Fresh w W → Calls Try.prog 28 #[.pointer (some ⟨q, 0, none⟩), .int .i64 i] W fun e w' => ∃ p, e = .returned (.tuple #[p, .bool false]) ∧ Fresh W w') := Lib.hid (fun W hw => by
    rcases hi with hi | ⟨t, rfl, ht, he⟩
    · exact qu_full_no i (h.fresh hw) hi
    · exact qu_full_none t (h.fresh hw) ht he)
  clear h hi
  go_enter Try.func17, Try.ntmps17
  go_upto_region 1 with fail
  refine wp_gen (fun W => Fresh w W ∧ Blk W w.heap.size 34 #[.int .i64 0, .slice none 0 0, .slice none 0 0]) ⟨Fresh.alloc _ _, Blk.new _ _ _⟩ ?_
  rintro W ⟨hf0, hb0⟩
  have HF := Lib.hid hf0
  have HB := Lib.hid hb0
  have HH := Lib.hid (H.out W hf0)
  clear hf0 hb0 H
  go_wp2_with fail
  refine HH.out.mono ?_
  rintro e w1 ⟨p, rfl, hf1⟩
  have hb1 := HB.out.fresh hf1
  obtain ⟨c0, c1, c2⟩ := hb1.c3
  have z0 := hb1.frozen 0
  have z1 := hb1.frozen 1
  have z2 := hb1.frozen 2
  have HF1 := Lib.hid (HF.out.trans hf1)
  clear hf1 hb1
  go_wp2
  refine bodyPost_ret (v := .tuple #[zI, .int .i64 14]) (by simp [results, Try.results17, go_sem, zI, c0, c1, c2, z0, z1, z2]) rfl ?_
  refine ⟨rfl, ?_⟩
  repeat (first | with_reducible exact HF1.out | with_reducible apply Fresh.drewS | (with_reducible refine Fresh.step2 ?_ ?_; focus exact Nat.le_refl _))
def FirstP (x : QI) (w : World) (e : Ending) (w' : World) : Prop := ∃ g1 g2, e = .returned (.tuple #[(clI x g1 g2).agg, .int .i64 0]) ∧ Blk w' g1 5 (bytesA x.h) ∧ Blk w' g2 5 (bytesA x.b) ∧ g1 ≠ g2 ∧ w.heap.size ≤ g1 ∧ w.heap.size ≤ g2 ∧ Fresh w w'
theorem QAt.first {t : Nat} {x : QI} (h : QAt w base q R n by_ it ro) (ht : t < n) (hx : (ro t).2[0]? = some x) : ∃ g c, (ro t).1 = .slice (some ⟨g, 0, none⟩) (ro t).2.length c ∧ (ro t).2.length ≤ c ∧ c ≤ maxLen ∧ g < w.heap.size ∧ w.cell? ⟨g, 0, none⟩ = some (.int .i64 x.num) ∧ w.cell? ⟨g, 1, none⟩ = some (.slice x.HA x.h.length x.hc) ∧ w.cell? ⟨g, 2, none⟩ = some (.slice x.BA x.b.length x.bc) ∧ x.Ok w ∧ x.z ≤ 1048576 := by
  have hl := (List.getElem?_eq_some_iff.1 hx).1
  rcases (h.own t ht).form with ⟨_, h0, _⟩ | ⟨g, c, hv, hgb, hgl, hnc, hcm, hcell⟩
  · omega
  · obtain ⟨r0, r1, r2⟩ := rowQ_at hx
    have hz : x.z ≤ qz (ro t).2 := by
      cases hro : (ro t).2 with
      | nil => rw [hro] at hl; simp at hl
      | cons y r => rw [hro] at hx; simp at hx; subst hx; rw [qz_cons]; omega
    refine ⟨g, c, hv, hnc, hcm, hgl, (hcell 0 (by rw [rowQ_length]; omega)).1.trans r0, (hcell 1 (by rw [rowQ_length]; omega)).1.trans r1, (hcell 2 (by rw [rowQ_length]; omega)).1.trans r2, h.ok t ht x (List.mem_of_getElem? hx), ?_⟩
    have := (h.len ht).2
    omega
set_option maxHeartbeats 1600000 in
theorem qu_first (t : Nat) (x : QI) (h : QAt w base q R n by_ it ro) (ht : t < n) (hx : (ro t).2[0]? = some x) : Calls Try.prog 17 #[.pointer (some ⟨q, 0, none⟩), .int .i64 (t : Int)] w (FirstP x w) := by
  have hl := (List.getElem?_eq_some_iff.1 hx).1
  have H := Lib.hid (fun W (hw : Fresh w W) => qu_full t (h.fresh hw) ht hl)
  obtain ⟨g, c, hv, hnc, hcm, hgl, y0, y1, y2, hok, hz⟩ := h.first ht hx
  obtain ⟨d0, _⟩ := h.cells ht
  rw [hv] at d0
  obtain ⟨cs, hR, _⟩ := h.rows
  have hRl := hR.lt
  have HK := Lib.hid (fun W (hw : Fresh w W) => qu_clone x W ((hok.fresh hw).hd.bs) ((hok.fresh hw).bd.bs) (by omega))
  have HC := Lib.hid (fun W (hw : Fresh w W) => And.intro ((hw.cell (p := ⟨R, t * 2, none⟩) hRl).trans d0) (And.intro ((hw.cell (p := ⟨g, 0, none⟩) hgl).trans y0) (And.intro ((hw.cell (p := ⟨g, 1, none⟩) hgl).trans y1) ((hw.cell (p := ⟨g, 2, none⟩) hgl).trans y2))))
  obtain ⟨m, hm⟩ : ∃ m, (ro t).2.length = m := ⟨_, rfl⟩
  rw [hm] at HC hl hnc
  obtain ⟨nu, HA, hc, hh, BA, bc, bb⟩ := x
  simp only at HC
  unfold qrow at H
  simp only [maxLen] at hcm
  clear h hx hv y0 y1 y2 hok hz d0 hR hm
  go_enter Try.func17, Try.ntmps17
  go_upto_region 1 with fail
  refine wp_gen (fun W => Fresh w W ∧ Blk W w.heap.size 34 #[.int .i64 0, .slice none 0 0, .slice none 0 0]) ⟨Fresh.alloc _ _, Blk.new _ _ _⟩ ?_
  rintro W ⟨hf0, hb0⟩
  have HF := Lib.hid hf0
  have HB := Lib.hid hb0
  have HH := Lib.hid (H.out W hf0)
  clear hf0 hb0 H
  go_wp2_with fail
  refine HH.out.mono ?_
  rintro e w1 ⟨rfl, hf1⟩
  have HF1 := Lib.hid (HF.out.trans hf1)
  have HB1 := Lib.hid (HB.out.fresh hf1)
  obtain ⟨d0, y0, y1, y2⟩ := HC.out w1 HF1.out
  have HK1 := Lib.hid (HK.out w1 HF1.out)
  simp only [QI.agg] at HK1
  generalize hh.length = lh at *
  generalize bb.length = lb at *
  clear hf1 HH
  go_wp2_with fail
  refine HK1.out.mono ?_
  rintro e w2 ⟨g1, g2, rfl, hx1, hx2, hne, hg1, hg2, hf2⟩
  have hb2 := HB1.out.fresh hf2
  obtain ⟨c0, c1, c2⟩ := hb2.c3
  have z0 := hb2.frozen 0
  have z1 := hb2.frozen 1
  have z2 := hb2.frozen 2
  have hws := HF1.out.size
  have hbl := HB1.out.lt
  have HX := Lib.hid (And.intro hx1 (And.intro hx2 (And.intro hne (And.intro hg1 (And.intro hg2 hf2)))))
  clear hx1 hx2 hne hg1 hg2 hf2 hb2
  simp only [clI, QI.agg]
  go_wp2
  refine bodyPost_ret (v := .tuple #[(clI ⟨nu, HA, hc, hh, BA, bc, bb⟩ g1 g2).agg, .int .i64 0]) (by simp [results, Try.results17, go_sem, clI, QI.agg, c0, c1, c2, z0, z1, z2]) rfl ?_
  obtain ⟨x1, x2, x3, x4, x5, x6⟩ := HX.out
  refine ⟨g1, g2, rfl, ?_, ?_, x3, by omega, by omega, ?_⟩
  · exact ((x1.far (by simp; omega) _).far (by simp; omega) _).far (by simp; omega) _
  · exact ((x2.far (by simp; omega) _).far (by simp; omega) _).far (by simp; omega) _
  · exact (((HF1.out.trans x6).setF (Nat.le_refl _)).setF (Nat.le_refl _)).setF (Nat.le_refl _)
end
end Go.Proofs.Ythfifeclmikbgaa
