/-
  The law's one: of an empty list.
-/
import Derived.Test.YthfifeclmikbgaaQueP
namespace Go.Proofs.Ythfifeclmikbgaa
set_option linter.unusedVariables false
set_option linter.unusedSimpArgs false
open Go.RowKit
section
variable {base q R n : Nat} {by_ it : Int} {ro : Rows} {w : World}
def zQ : QI := ⟨0, none, 0, [], none, 0, []⟩
theorem strB_nil : strB [] = ByteArray.empty := by rfl
theorem ref_zero (w : World) : Calls Try.prog 15 #[.agg #[.int .i64 0, .slice none 0 0, .slice none 0 0]] w fun e w' => e = .returned (.agg #[.int .i64 0, .string ByteArray.empty, .string ByteArray.empty]) ∧ Fresh w w' := by
  have h := qu_ref zQ w (BS.nil _ _) (BS.nil _ _)
  have e : saidV zQ.said = .agg #[.int .i64 0, .string ByteArray.empty, .string ByteArray.empty] := by
    show Value.agg #[.int .i64 0, .string (strB []), .string (strB [])] = _
    rw [strB_nil]
  rw [e] at h
  exact h
set_option maxRecDepth 100000 in
set_option maxHeartbeats 6400000 in
theorem one_nil (A zA : Option Addr) (c t zn zc : Nat) (a cc k nn : Int) (x : QI) (k1 : k ≠ 1) (k5 : k ≠ 5) (h : QAt w base q R n by_ it ro) (ht : t < n) (hl : LS w A c (saidL (ro t).2)) (hm : (ro t).2.length = 0) :
    Calls Try.prog 14 #[.pointer (some ⟨q, 0, none⟩), .slice A 0 c, .agg #[.int .i64 a, .int .i64 by_, .int .i64 cc, .slice zA zn zc], .agg #[.int .i64 k, .int .i64 (t : Int), .int .i64 nn, .int .i64 x.num, .slice x.HA x.h.length x.hc, .slice x.BA x.b.length x.bc]] w (OneP base q R n by_ it ro t ⟨k, (t : Int), nn, x⟩ w) := by
  have H := Lib.hid h
  have HL := Lib.hid hl
  have HM := Lib.hid hm
  have he : (ro t).2 = [] := List.length_eq_zero_iff.1 hm
  have HFI := Lib.hid (fun W (hw : Fresh w W) => qu_first_no (t : Int) (h.fresh hw) (.inr ⟨t, rfl, ht, he⟩))
  have HCU := Lib.hid (fun W (hw : Fresh w W) => qu_cut_no (t : Int) 0 (h.fresh hw) (.inr ⟨t, rfl, ht, he⟩))
  have HPO := Lib.hid (fun W (hw : Fresh w W) => qu_pop_no (t : Int) (h.fresh hw) (.inr ⟨t, rfl, ht, he⟩))
  have HRE := Lib.hid ref_zero
  have HFIN : Hid (∀ w', Fresh w w' → OneP base q R n by_ it ro t ⟨k, (t : Int), nn, x⟩ w (.returned (.tuple #[.slice A 0 c, .bool true])) w') := Lib.hid (fun w' hw => OneP.same h hl (by
    rw [he]
    show nextS _ _ ⟨k, _, _, _⟩ _ = _
    simp only [nextS]
    rw [if_neg k1, if_neg k5]
    rfl) hm hw)
  have e1 : (k == 1) = false := by simpa using k1
  have e5 : (k == 5) = false := by simpa using k5
  clear h hl hm he k1 k5
  go_enter Try.func14, Try.ntmps14
  go_upto_region 10 with fail
  obtain ⟨b0, hb0⟩ : ∃ b0, w.heap.size = b0 := ⟨_, rfl⟩
  rw [hb0]
  refine wp_gen (fun W => Fresh w W ∧ Blk W (b0 + 1) 36 #[.int .i64 k, .int .i64 (t : Int), .int .i64 nn, .int .i64 x.num, .slice x.HA x.h.length x.hc, .slice x.BA x.b.length x.bc]) ⟨(Fresh.alloc _ _).allocS _, Blk.mkAt (by simp; omega)⟩ ?_
  clear hb0
  rintro W ⟨hf0, ho0⟩
  have HF0 := Lib.hid hf0
  have HO0 := Lib.hid ho0
  have o1 := ho0.cell 1
  clear hf0 ho0
  go_wp2_with fail
  with_reducible refine (HFI.out _ HF0.out).mono ?_
  rintro e w2 ⟨rfl, hf2⟩
  have HF2 := Lib.hid (HF0.out.trans hf2)
  have HO2 := Lib.hid (HO0.out.fresh hf2)
  clear hf2 o1
  unfold zI
  go_upto_region 11 with fail
  obtain ⟨b2, hb2⟩ : ∃ b2, w2.heap.size = b2 := ⟨_, rfl⟩
  rw [hb2]
  refine wp_gen (fun W => Fresh w W ∧ Blk W (b0 + 1) 36 #[.int .i64 k, .int .i64 (t : Int), .int .i64 nn, .int .i64 x.num, .slice x.HA x.h.length x.hc, .slice x.BA x.b.length x.bc] ∧ Blk W b2 34 #[.int .i64 0, .slice none 0 0, .slice none 0 0]) ?_ ?_
  · exact ⟨HF2.out.allocS _, HO2.out.alloc _, Blk.mkAt hb2⟩
  clear hb2
  rintro W3 ⟨hf3, ho3, hx3⟩
  have HF3 := Lib.hid hf3
  have HO3 := Lib.hid ho3
  have HX3 := Lib.hid hx3
  have o1 := ho3.cell 1
  clear hf3 ho3 hx3
  go_wp2_with fail
  with_reducible refine (HCU.out _ HF3.out).mono ?_
  rintro e w4 ⟨rfl, hf4⟩
  have HF4 := Lib.hid (HF3.out.trans hf4)
  have HO4 := Lib.hid (HO3.out.fresh hf4)
  have HX4 := Lib.hid (HX3.out.fresh hf4)
  clear hf4 o1
  have o1 := HO4.out.cell 1
  go_wp2_with fail
  with_reducible refine (HPO.out _ HF4.out).mono ?_
  rintro e w5 ⟨rfl, hf5⟩
  have HF5 := Lib.hid (HF4.out.trans hf5)
  have HX5 := Lib.hid (HX4.out.fresh hf5)
  clear hf5 o1
  unfold zI
  go_upto_region 13 with fail
  refine wp_gen (fun W => Fresh w W ∧ Blk W b2 34 #[.int .i64 0, .slice none 0 0, .slice none 0 0]) ?_ ?_
  · exact ⟨HF5.out.allocS _, HX5.out.alloc _⟩
  rintro W6 ⟨hf6, hx6⟩
  have HF6 := Lib.hid hf6
  obtain ⟨c0, c1, c2⟩ := hx6.c3
  have HSK : Hid (∀ w', Fresh W6 w' → w'.cell? ⟨b2, 0, none⟩ = some (.int .i64 0) ∧ w'.cell? ⟨b2, 1, none⟩ = some (.slice none 0 0) ∧ w'.cell? ⟨b2, 2, none⟩ = some (.slice none 0 0) ∧ Fresh W6 w') := Lib.hid (fun w' hw => by
    have hz := hx6.fresh hw
    exact ⟨hz.cell 0, hz.cell 1, hz.cell 2, hw⟩)
  clear hf6 hx6
  go_region_held3 (fun w' => w'.cell? ⟨b2, 0, none⟩ = some (.int .i64 0) ∧ w'.cell? ⟨b2, 1, none⟩ = some (.slice none 0 0) ∧ w'.cell? ⟨b2, 2, none⟩ = some (.slice none 0 0) ∧ Fresh W6 w')
    ((refine HSK.out _ ?_; first | with_reducible assumption | with_reducible exact Fresh.drew _))
    (first
      | (go_at_call 15; have hg1 : Fresh W6 _ := Fresh.drew _; (with_reducible refine (HRE.out _).mono ?_); rintro e w7 ⟨rfl, hf7⟩; have hg7 : Fresh W6 w7 := Fresh.trans hg1 hf7; clear hf7 hg1))
  all_goals
    have HG7 := Lib.hid (HF6.out.trans hg7)
    clear hg7
    go_wp2
    go_ret2
    exact HFIN.out _ HG7.out
end
end Go.Proofs.Ythfifeclmikbgaa
