/-
  Contracts of package credit: parts, copies.
-/
import Derived.Test.YtnnciekbmapilaaCredit3
namespace Go.Proofs.Ytnnciekbmapilaa
set_option linter.unusedVariables false
open Go.RowKit

structure PaR (w : World) (p n : Nat) (f : Nat → Int) (j : Nat) (wr : World) : Prop where
  row : ∃ cs : Array Value, cs.size = n ∧ Blk wr p 3 cs ∧ ∀ i, i < j → cs[i]? = some (.int .i64 (f i))
  fr : Fresh w wr
  hp : w.heap.size ≤ p
theorem PaR.fresh {w wr wx : World} {p n j : Nat} {f : Nat → Int} (h : PaR w p n f j wr) (hf : Fresh wr wx) : PaR w p n f j wx := by
  obtain ⟨⟨cs, h1, h2, h3⟩, h4, h5⟩ := h
  exact ⟨⟨cs, h1, h2.fresh hf, h3⟩, h4.trans hf, h5⟩
theorem PaR.step {w wr : World} {p n j : Nat} {f : Nat → Int} (h : PaR w p n f j wr) (hj : j < n) (v : Int) (hv : f j = v) : PaR w p n f (j + 1) (wr.setCell ⟨p, j, none⟩ (.int .i64 v)) := by
  obtain ⟨⟨cs, h1, h2, h3⟩, h4, h5⟩ := h
  refine ⟨⟨cs.setIfInBounds j (.int .i64 v), by simpa using h1, h2.set j _, fun i hi => ?_⟩, h4.step _ _ h5, h5⟩
  by_cases e : i = j
  · subst e; simp [Array.getElem?_setIfInBounds, h1, hj, hv]
  · rw [Array.getElem?_setIfInBounds_ne (by omega)]; exact h3 i (by omega)
def PartsP (n : Nat) (f : Nat → Int) (w : World) (e : Ending) (w' : World) : Prop := ∃ p, e = .returned (.slice (some ⟨p, 0, none⟩) n n) ∧ w.heap.size ≤ p ∧ Ints w' p n n f ∧ Fresh w w'
set_option maxHeartbeats 800000 in
theorem cr_parts (c g k n t : Nat) (f : Nat → Int) (w : World) (h : Cr w c g k n f t) :
    Calls Try.prog 15 #[.pointer (some ⟨c, 0, none⟩)] w (PartsP n f w) := by
  have n1 := h.n1
  have n2 := h.n2
  have hmk := run_make_row' (P := Try.prog) 28 3 (.int .i64 0) 8 Try.underlying28 int_info rfl .i64 .i64 n (by omega) (by omega)
  obtain ⟨q0, q1, q2⟩ := h.blk.c3
  have hlt := h.blk.lt
  have HH := Lib.hid h
  have HST : Hid (PaR w w.heap.size n f 0 (w.alloc (.cells (madeCells #[.int .i64 0] n) 3))) := Lib.hid ⟨⟨_, size_madeCells _ _, Blk.new _ _ _, fun i hi => by omega⟩, Fresh.alloc _ _, Nat.le_refl _⟩
  clear h q0 q2
  go_enter Try.func15, Try.ntmps15
  go_wp2_with fail
  obtain ⟨p, hp⟩ : ∃ p, w.heap.size = p := ⟨_, rfl⟩
  have HP := Lib.hid hp
  rw [hp] at HST ⊢
  clear hp
  go_loopw [17] (fun i wr => ∃ j : Nat, j ≤ n ∧ i = .int .i64 j ∧ PaR w p n f j wr) (fun i _ => n - (intOf i).toNat)
  case atStart => exact ⟨0, by omega, rfl, HST.out⟩
  case round =>
    obtain ⟨j, hj, rfl, hR⟩ := hrel
    clear q1 hmk HST
    by_cases hlt : j < n
    · have hprt := HH.out.prt.fresh hR.fr
      have hc := hprt.cell hlt
      have hgl := hprt.lt
      generalize hx : f j = x at hc
      have HX := Lib.hid hx
      clear hprt hx
      have HR := Lib.hid hR
      clear hR
      have hq : (wr.alloc (.cells #[.int .i64 x] 48)).cell? ⟨wr.heap.size, 0, none⟩ = some (.int .i64 x) := (Blk.new wr 48 #[.int .i64 x]).cell 0
      go_wp2_with fail
      with_reducible refine (wsize_any _ _).mono ?_
      rintro e w1 ⟨rfl, hf⟩
      have HR1 := Lib.hid (HR.out.fresh ((Fresh.alloc wr (.cells #[.int .i64 x] 48)).trans hf))
      clear hf hq hc hgl
      obtain ⟨⟨cs, hcs, hb, hi⟩, _, _⟩ := HR1.out
      obtain ⟨v0, hv0⟩ : ∃ v, cs[j]? = some v := ⟨cs[j]'(by omega), Array.getElem?_eq_getElem _⟩
      have hc := (hb.cell j).trans hv0
      have hz := hb.frozen j
      clear hb hi hv0 hcs
      go_wp2_with fail
      go_roundw
      case rel => exact ⟨j + 1, by omega, by go_num, HR1.out.step hlt x HX.out⟩
      case measure => simp [intOf]; omega
    · obtain rfl : j = n := by omega
      have HR := Lib.hid hR
      clear hR
      go_wp2_with fail
      go_ret
      obtain ⟨⟨cs, hcs, hb, hi⟩, hf, hp⟩ := HR.out
      exact ⟨p, rfl, hp, ⟨cs, hcs, Nat.le_refl _, by unfold maxLen; omega, hb, hi⟩, hf⟩

def CloneP (n : Nat) (f : Nat → Int) (w : World) (e : Ending) (w' : World) : Prop := ∃ g k, e = .returned (.slice (some ⟨g, 0, none⟩) n k) ∧ w.heap.size ≤ g ∧ Prt w' g n k f ∧ Fresh w w'
theorem clone_any (g k n : Nat) (f : Nat → Int) (w : World) (h : Prt w g n k f) (n1 : 1 ≤ n) (n2 : n ≤ 64) :
    Calls Try.prog 27 #[.slice (some ⟨g, 0, none⟩) n k] w (CloneP n f w) := by
  have hO : Own (w.alloc (.cells #[] 48)) w.heap.size 48 1 (.slice (some ⟨w.heap.size, 0, none⟩) 0 0) 0 [] := Own.lit (Nat.le_refl _) (by unfold maxLen; omega) rfl
  obtain ⟨A', c', w', hap, ho, hon, hat⟩ := app_row (P := Try.prog) Try.underlying49 win_info rfl 49 hO (by simp) g k (n := n) (f := f) (fun j hj => (h.fresh (Fresh.alloc w _)).cell hj) (by omega)
  rw [Nat.zero_add, List.nil_append] at ho
  rw [Nat.zero_add] at hap
  have HO := Lib.hid ho
  have HON := Lib.hid hon
  clear hO ho hon hat h
  have qn : ∀ (w : World) (a : Option Addr) (n c : Nat), (binOp .eql 49 (.slice a n c) (.slice none 0 0)).run Try.prog w = .ok (.bool a.isNone) w := fun w a n c => Lib.run_eql_slice_nil w _ _ a n c 0 0 Try.underlying49
  go_enter Try.func27, Try.ntmps27
  go_wp2_with (at_builtin; with_reducible refine wp_app rfl (.tmp 5) (.tmp 6) _ rfl hap rfl (by simp [Act.eval, Act.put]) (by simp [Act.eval, Act.put]) ?_)
  go_ret
  obtain ⟨g', k', e, hg, hp⟩ := HO.out.prt n1
  cases e
  exact ⟨g', c', rfl, hg, hp, Only.fresh ((Only.of_fresh (Fresh.alloc w (.cells #[] 48))).trans HON.out) (fun i hi e => by simp [Value.ownBlock] at e; omega)⟩
def CopyP (n : Nat) (f : Nat → Int) (t : Nat) (w : World) (e : Ending) (w' : World) : Prop := ∃ c g k, e = .returned (.pointer (some ⟨c, 0, none⟩)) ∧ w.heap.size ≤ c ∧ w.heap.size ≤ g ∧ Cr w' c g k n f t ∧ Fresh w w'
theorem cr_copy (c g k n t : Nat) (f : Nat → Int) (w : World) (h : Cr w c g k n f t) :
    Calls Try.prog 16 #[.pointer (some ⟨c, 0, none⟩)] w (CopyP n f t w) := by
  have n1 := h.n1
  have n2 := h.n2
  obtain ⟨q0, q1, q2⟩ := h.blk.c3
  have hlt := h.blk.lt
  have HH := Lib.hid h
  have HD := Lib.hid (Blk.new w 51 #[.int .i64 (sumN f n), .slice (some ⟨g, 0, none⟩) n k, .int .i64 (t : Int)])
  generalize hs : sumN f n = s at *
  have HS := Lib.hid hs
  clear h hs
  have HC := Lib.hid (clone_any g k n f _ (HH.out.prt.fresh (Fresh.alloc w (.cells #[.int .i64 s, .slice (some ⟨g, 0, none⟩) n k, .int .i64 (t : Int)] 51))) n1 n2)
  go_enter Try.func16, Try.ntmps16
  go_wp2_with fail
  refine HC.out.mono ?_
  rintro e w1 ⟨g', k', rfl, hg, hp, hf⟩
  have hb1 := HD.out.fresh hf
  obtain ⟨d0, d1, d2⟩ := hb1.c3
  have z1 := hb1.frozen 1
  have HB1 := Lib.hid hb1
  have HG := Lib.hid hg
  have HP := Lib.hid hp
  have HF := Lib.hid hf
  clear hb1 hg hp hf
  go_wp2_with fail
  go_ret
  have hb2 := HB1.out.set 1 (.slice (some ⟨g', 0, none⟩) n k')
  have hg := HG.out
  simp at hg
  refine ⟨w.heap.size, g', k', rfl, Nat.le_refl _, by omega, ⟨?_, HP.out.only (Only.setCell _ _ _) (fun e => by simp at e; omega), n1, n2, HH.out.tl, HH.out.pos, HH.out.mx⟩, Fresh.step ((Fresh.alloc _ _).trans HF.out) _ _ (Nat.le_refl _)⟩
  rw [HS.out]; simpa using hb2
end Go.Proofs.Ytnnciekbmapilaa
