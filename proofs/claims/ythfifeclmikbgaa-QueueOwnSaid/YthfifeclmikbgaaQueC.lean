/-
  Package queue: an item as the document has it; what Cut refuses.
-/
import Derived.Test.YthfifeclmikbgaaQueA
namespace Go.Proofs.Ythfifeclmikbgaa
set_option linter.unusedVariables false
set_option linter.unusedSimpArgs false
open Go.RowKit
/-- What an item says, as a value. -/
def saidV (x : Int × List UInt8 × List UInt8) : Value := .agg #[.int .i64 x.1, .string (strB x.2.1), .string (strB x.2.2)]
section
variable {base q R n : Nat} {by_ it : Int} {ro : Rows} {w : World}
set_option maxHeartbeats 1600000 in
theorem qu_ref (x : QI) (w : World) (h1 : BS w x.HA x.h) (h2 : BS w x.BA x.b) : Calls Try.prog 15 #[x.agg] w fun e w' => e = .returned (saidV x.said) ∧ Fresh w w' := by
  obtain ⟨nu, HA, hc, hl, BA, bc, bl⟩ := x
  simp only [QI.agg, QI.said, saidV] at h1 h2 ⊢
  have HS1 := Lib.hid (fun W (hw : Fresh w W) => run_str (P := Try.prog) (h1.fresh hw) 32 9 5 Try.underlying32 Try.underlying5 Try.underlying9 hc)
  have HS2 := Lib.hid (fun W (hw : Fresh w W) => run_str (P := Try.prog) (h2.fresh hw) 32 9 5 Try.underlying32 Try.underlying5 Try.underlying9 bc)
  obtain ⟨n1, hn1⟩ : ∃ n, hl.length = n := ⟨_, rfl⟩
  obtain ⟨n2, hn2⟩ : ∃ n, bl.length = n := ⟨_, rfl⟩
  rw [hn1] at HS1 ⊢
  rw [hn2] at HS2 ⊢
  generalize strB hl = S1 at *
  generalize strB bl = S2 at *
  clear h1 h2 hn1 hn2
  go_enter Try.func15, Try.ntmps15
  go_upto_region 1 with fail
  refine wp_gen (fun W => Fresh w W ∧ Blk W w.heap.size 34 #[.int .i64 nu, .slice HA n1 hc, .slice BA n2 bc] ∧ Blk W (w.heap.size + 1) 45 #[.int .i64 0, .string ByteArray.empty, .string ByteArray.empty]) ⟨(Fresh.alloc _ _).allocS _, (Blk.new _ _ _).alloc _, Blk.mkAt (by simp)⟩ ?_
  rintro W ⟨hf0, hb0, hb1⟩
  obtain ⟨c0, c1, c2⟩ := hb0.c3
  obtain ⟨d0, d1, d2⟩ := hb1.c3
  have z0 := hb1.frozen 0
  have z1 := hb1.frozen 1
  have z2 := hb1.frozen 2
  have s1 := HS1.out W hf0
  have s2 := HS2.out W hf0
  have HF := Lib.hid hf0
  clear hf0 hb0 hb1
  go_wp2
  refine bodyPost_ret (v := .agg #[.int .i64 nu, .string S1, .string S2]) (by simp [results, Try.results15, go_sem, d0, d1, d2, z0, z1, z2]) rfl ?_
  exact ⟨rfl, ((HF.out.setF (by simp)).setF (by simp)).setF (by simp)⟩
def CutNo (k : Int) (w : World) (e : Ending) (w' : World) : Prop := e = .returned (.tuple #[.slice none 0 0, .int .i64 k]) ∧ Fresh w w'
theorem qu_cut_no (i d : Int) (h : QAt w base q R n by_ it ro) (hi : (i < 0 ∨ (n : Int) ≤ i) ∨ ∃ t : Nat, i = (t : Int) ∧ t < n ∧ (ro t).2 = []) : Calls Try.prog 21 #[.pointer (some ⟨q, 0, none⟩), .int .i64 i, .int .i64 d] w (CutNo 14 w) := by
  have H : Hid (Calls Try.prog 28 #[.pointer (some ⟨q, 0, none⟩), .int .i64 i] w fun e w' => ∃ p, e = .returned (.tuple #[p, .bool false]) ∧ Fresh w w') := Lib.hid (by
    rcases hi with hi | ⟨t, rfl, ht, he⟩
    · exact qu_full_no i h hi
    · exact qu_full_none t h ht he)
  clear h hi
  go_enter Try.func21, Try.ntmps21
  go_wp2_with fail
  with_reducible refine H.out.mono ?_
  rintro e w1 ⟨p, rfl, hf1⟩
  have HF1 := Lib.hid hf1
  clear hf1
  go_wp2
  go_ret2
  exact ⟨rfl, HF1.out⟩
theorem qu_cut_range (t : Nat) (d : Int) (x : QI) (h : QAt w base q R n by_ it ro) (ht : t < n) (hx : (ro t).2[0]? = some x) (hd : d < 0 ∨ (x.b.length : Int) < d) : Calls Try.prog 21 #[.pointer (some ⟨q, 0, none⟩), .int .i64 (t : Int), .int .i64 d] w (CutNo 11 w) := by
  have hl := (List.getElem?_eq_some_iff.1 hx).1
  have H := Lib.hid (qu_full t h ht hl)
  obtain ⟨g, c, hv, hnc, hcm, hgl, y0, y1, y2, hok, hz⟩ := h.first ht hx
  obtain ⟨d0, _⟩ := h.cells ht
  rw [hv] at d0
  obtain ⟨cs, hRb, _⟩ := h.rows
  have hRl := hRb.lt
  have HC := Lib.hid (fun W (hw : Fresh w W) => And.intro ((hw.cell (p := ⟨R, t * 2, none⟩) hRl).trans d0) ((hw.cell (p := ⟨g, 2, none⟩) hgl).trans y2))
  obtain ⟨m, hm⟩ : ∃ m, (ro t).2.length = m := ⟨_, rfl⟩
  rw [hm] at HC hl hnc
  obtain ⟨lb, hlb⟩ : ∃ lb, x.b.length = lb := ⟨_, rfl⟩
  rw [hlb] at HC hd
  simp only [maxLen] at hcm
  unfold qrow at H
  clear h hx hv y0 y1 y2 hok hz d0 hRb hm hlb
  by_cases h0 : d < 0
  · clear hd
    go_enter Try.func21, Try.ntmps21
    go_wp2_with fail
    with_reducible refine H.out.mono ?_
    rintro e w1 ⟨rfl, hf1⟩
    have HF1 := Lib.hid hf1
    obtain ⟨d0, y2⟩ := HC.out w1 hf1
    clear hf1
    go_wp2
    go_ret2
    exact ⟨rfl, HF1.out⟩
  · have h1 : (lb : Int) < d := by omega
    clear hd
    go_enter Try.func21, Try.ntmps21
    go_wp2_with fail
    with_reducible refine H.out.mono ?_
    rintro e w1 ⟨rfl, hf1⟩
    have HF1 := Lib.hid hf1
    obtain ⟨d0, y2⟩ := HC.out w1 hf1
    clear hf1
    go_wp2
    go_ret2
    exact ⟨rfl, HF1.out⟩
end
end Go.Proofs.Ythfifeclmikbgaa
