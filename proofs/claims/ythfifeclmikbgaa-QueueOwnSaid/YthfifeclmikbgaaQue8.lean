/-
  Package queue: Pop.
-/
import Derived.Test.YthfifeclmikbgaaQue7
namespace Go.Proofs.Ythfifeclmikbgaa
set_option linter.unusedVariables false
set_option linter.unusedSimpArgs false
open Go.RowKit
section
variable {base q R n : Nat} {by_ it : Int} {ro : Rows} {w : World}
theorem QAt.onlyB {w' : World} {b : Nat} {cs : Array Value} (h : QAt w base q R n by_ it ro) (hb : Blk w b 34 cs) (hown : ∀ t, t < n → (ro t).1.ownBlock ≠ some b) (ho : Only (· = b) w w') : QAt w' base q R n by_ it ro := by
  obtain ⟨cs', h1, h2, h3⟩ := h.rows
  exact ⟨h.blk.only ho (fun e => h.blk.ne hb (by decide) e), ⟨cs', h1.only ho (fun e => h1.ne hb (by decide) e), h2, h3⟩, fun t ht => (h.own t ht).only ho (fun k hk e => hown t ht (by rw [hk, e])), fun t ht x hx => (h.ok t ht x hx).only ho (fun g cs hg e => hg.ne hb (by decide) e), h.sep, h.quota, h.n1, h.n64, h.y0, h.y1, h.i0, h.i1⟩
set_option maxHeartbeats 1600000 in
theorem qu_pop_no (i : Int) (h : QAt w base q R n by_ it ro) (hi : (i < 0 ∨ (n : Int) ≤ i) ∨ ∃ t : Nat, i = (t : Int) ∧ t < n ∧ (ro t).2 = []) : Calls Try.prog 19 #[.pointer (some ⟨q, 0, none⟩), .int .i64 i] w (NoneP w) := by
  have H : Hid (∀ W, Fresh w W → Calls Try.prog 28 #[.pointer (some ⟨q, 0, none⟩), .int .i64 i] W fun e w' => ∃ p, e = .returned (.tuple #[p, .bool false]) ∧ Fresh W w') := Lib.hid (fun W hw => by
    rcases hi with hi | ⟨t, rfl, ht, he⟩
    · exact qu_full_no i (h.fresh hw) hi
    · exact qu_full_none t (h.fresh hw) ht he)
  clear h hi
  go_enter Try.func19, Try.ntmps19
  go_upto_region 1 with fail
  refine wp_gen (fun W => Fresh w W ∧ Blk W w.heap.size 34 #[.int .i64 0, .slice none 0 0, .slice none 0 0]) ⟨Fresh.alloc _ _, Blk.new _ _ _⟩ ?_
  rintro W ⟨hf0, hb0⟩
  have HF := Lib.hid hf0
  have HB := Lib.hid hb0
  have HH := Lib.hid (H.out W hf0)
  clear hf0 hb0 H
  go_wp2_with fail
  refine HH.out.mono ?_
  rintro e w1 ⟨p, rfl, hf1⟩
  have hb1 := HB.out.fresh hf1
  obtain ⟨c0, c1, c2⟩ := hb1.c3
  have z0 := hb1.frozen 0
  have z1 := hb1.frozen 1
  have z2 := hb1.frozen 2
  have HF1 := Lib.hid (HF.out.trans hf1)
  clear hf1 hb1
  go_wp2
  refine bodyPost_ret (v := .tuple #[zI, .int .i64 14]) (by simp [results, Try.results19, go_sem, zI, c0, c1, c2, z0, z1, z2]) rfl ?_
  refine ⟨rfl, ?_⟩
  repeat (first | with_reducible exact HF1.out | with_reducible apply Fresh.drewS | (with_reducible refine Fresh.step2 ?_ ?_; focus exact Nat.le_refl _))
def PopP (base q R n : Nat) (by_ it : Int) (ro : Rows) (t : Nat) (x : QI) (w : World) (e : Ending) (w' : World) : Prop :=
  ∃ v', e = .returned (.tuple #[x.agg, .int .i64 0]) ∧ QAt w' base q R n by_ it (updR ro t (v', (ro t).2.eraseIdx 0)) ∧ v'.ownBlock = (ro t).1.ownBlock ∧ Only (fun k => k = R ∨ (ro t).1.ownBlock = some k) w w'
set_option maxHeartbeats 3200000 in
theorem qu_pop (t : Nat) (x : QI) (h : QAt w base q R n by_ it ro) (ht : t < n) (hx : (ro t).2[0]? = some x) : Calls Try.prog 19 #[.pointer (some ⟨q, 0, none⟩), .int .i64 (t : Int)] w (PopP base q R n by_ it ro t x w) := by
  have hl := (List.getElem?_eq_some_iff.1 hx).1
  have H := Lib.hid (fun W (hw : Fresh w W) => qu_full t (h.fresh hw) ht hl)
  have HT := Lib.hid (fun W (hw : Fresh w W) => qu_take t 0 x (h.fresh hw) ht hx)
  have HON := Lib.hid (fun j (hj : j < n) k (hk : (ro j).1.ownBlock = some k) => (h.own_ne hj hk).2.2)
  obtain ⟨cs, hRb, _⟩ := h.rows
  have hRl := hRb.lt
  unfold qrow at H HT
  clear h hx hRb
  go_enter Try.func19, Try.ntmps19
  go_upto_region 1 with fail
  refine wp_gen (fun W => Fresh w W ∧ Blk W w.heap.size 34 ZI) ⟨Fresh.alloc _ _, Blk.new _ _ _⟩ ?_
  rintro W ⟨hf0, hb0⟩
  have HF := Lib.hid hf0
  have HB := Lib.hid hb0
  have HH := Lib.hid (H.out W hf0)
  clear hf0 hb0 H
  go_wp2_with fail
  refine HH.out.mono ?_
  rintro e w1 ⟨rfl, hf1⟩
  have HF1 := Lib.hid (HF.out.trans hf1)
  have HB1 := Lib.hid (HB.out.fresh hf1)
  have HT1 := Lib.hid (HT.out w1 HF1.out)
  rw [show (((0 : Nat) : Int)) = 0 from rfl] at HT1
  clear hf1 HT HH
  go_wp2_with fail
  with_reducible refine HT1.out.mono ?_
  rintro e w2 ⟨v', rfl, hq2, hv2, ho2⟩
  have hb2 : Blk w2 w.heap.size 34 ZI := HB1.out.only ho2 (fun e => by
    rcases e with e | e
    · omega
    · have := HON.out t ht _ e; omega)
  obtain ⟨l0, l1, l2⟩ : w2.cell? ⟨w.heap.size, 0, none⟩ = some (.int .i64 0) ∧ w2.cell? ⟨w.heap.size, 1, none⟩ = some (.slice none 0 0) ∧ w2.cell? ⟨w.heap.size, 2, none⟩ = some (.slice none 0 0) := ⟨hb2.cell 0, hb2.cell 1, hb2.cell 2⟩
  have q0 := hb2.frozen 0
  have q1 := hb2.frozen 1
  have q2 := hb2.frozen 2
  have HX := Lib.hid (And.intro hq2 (And.intro hv2 (And.intro ho2 hb2)))
  clear hq2 hv2 ho2 hb2 HT1
  unfold QI.agg
  go_wp2
  refine bodyPost_ret (v := .tuple #[x.agg, .int .i64 0]) (by simp [results, Try.results19, go_sem, QI.agg, l0, l1, l2, q0, q1, q2]) rfl ?_
  obtain ⟨x1, x2, x3, x4⟩ := HX.out
  refine ⟨v', rfl, x1.onlyB x4 (fun j hj hk => ?_) ((onR.trans onR).trans onR), x2, ?_⟩
  · by_cases e : j = t
    · subst e
      rw [updR_same, x2] at hk
      have := HON.out j hj _ hk
      omega
    · rw [updR_ne _ _ e] at hk
      have := HON.out j hj _ hk
      omega
  · exact (((Only.of_fresh HF1.out).trans x3).trans' ((onR.trans onR).trans onR) (fun i hi e => by omega))
end
end Go.Proofs.Ythfifeclmikbgaa
