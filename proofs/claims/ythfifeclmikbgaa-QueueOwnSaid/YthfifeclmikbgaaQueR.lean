/-
  The law's one: Pop.
-/
import Derived.Test.YthfifeclmikbgaaQueQ
namespace Go.Proofs.Ythfifeclmikbgaa
set_option linter.unusedVariables false
set_option linter.unusedSimpArgs false
open Go.RowKit
theorem si_size : ∀ W : World, (Go.sizeOf 45).run Try.prog W = .ok 3 W := fun W => by kernel_rfl
def tailA (A : Option Addr) (c : Nat) : Option Addr := if c = 1 then A else A.map (·.add 3)
theorem run_tail (A : Option Addr) (m c : Nat) (hm : 1 ≤ m) (W : World) : (Instr.slice 39 (.slice A m c) (some (.int .i64 1)) none none).run Try.prog W = .ok (.slice (tailA A c) (m - 1) (c - 1)) W := by
  have he : Try.prog.elem 39 = 45 := by simp [Program.elem, Try.underlying39]
  have h := run_slice_l (P := Try.prog) W 39 A m c (by rw [he]; exact Try.underlying39) .i64 1 (by omega) (by omega)
  rw [he, si_size] at h
  refine h.trans ?_
  simp [sliced, tailA, Result.andThen]
theorem LS.tail {w : World} {A : Option Addr} {c : Nat} {x : SI} {r : List SI} (h : LS w A c (x :: r)) : LS w (tailA A c) (c - 1) r := by
  have hle := h.le
  have hmx := h.max
  simp at hle
  obtain ⟨g, o, cs, e, hb⟩ := h.ty (by simp)
  obtain ⟨b, o', e', hlt, hc⟩ := h.rows (by simp)
  rw [e] at e'
  injection e' with e'
  injection e' with e1 e2
  subst e1 e2
  have hta : 0 < r.length → tailA A c = some ⟨g, o + 3, none⟩ := fun hr => by
    unfold tailA
    rw [if_neg (by omega), e]
    simp [add_eq]
  refine ⟨by omega, by omega, fun hn => ⟨g, o + 3, hta hn, hlt, fun k hk j hj => ?_⟩, fun hn => ⟨g, o + 3, cs, hta hn, hb⟩⟩
  have := hc (k + 1) (by simp; omega) j hj
  rw [show o + 3 + k * 3 + j = o + (k + 1) * 3 + j by omega, this]
  simp
section
variable {base q R n : Nat} {by_ it : Int} {ro : Rows} {w : World}
set_option maxRecDepth 100000 in
set_option maxHeartbeats 6400000 in
theorem one_pop (A zA : Option Addr) (c t m zn zc : Nat) (a cc nn : Int) (x y : QI) (r : List QI) (h : QAt w base q R n by_ it ro) (ht : t < n) (hr : (ro t).2 = y :: r) (hl : LS w A c (saidL (ro t).2)) (hm : r.length + 1 = m) :
    Calls Try.prog 14 #[.pointer (some ⟨q, 0, none⟩), .slice A m c, .agg #[.int .i64 a, .int .i64 by_, .int .i64 cc, .slice zA zn zc], .agg #[.int .i64 4, .int .i64 (t : Int), .int .i64 nn, .int .i64 x.num, .slice x.HA x.h.length x.hc, .slice x.BA x.b.length x.bc]] w (OneP base q R n by_ it ro t ⟨4, (t : Int), nn, x⟩ w) := by
  have H := Lib.hid h
  have HR := Lib.hid hr
  have HM := Lib.hid hm
  have hyo : y.Ok w := h.ok t ht y (by rw [hr]; simp)
  have HPO := Lib.hid (fun W (hw : Fresh w W) => qu_pop t y (h.fresh hw) ht (by rw [hr]; rfl))
  have HREF := Lib.hid (fun W (hy : y.Ok W) => qu_ref y W hy.hd.bs hy.bd.bs)
  have hl' : LS w A c (y.said :: saidL r) := by rw [hr] at hl; exact hl
  have HL := Lib.hid hl'
  obtain ⟨g, o, hA, _⟩ := hl'.rows.at3 0 y.said rfl
  have HA := Lib.hid hA
  have HCE : Hid (∀ W, LS W A c (y.said :: saidL r) → W.cell? ⟨g, o, none⟩ = some (.int .i64 y.num) ∧ W.cell? ⟨g, o + 1, none⟩ = some (.string (strB y.h)) ∧ W.cell? ⟨g, o + 2, none⟩ = some (.string (strB y.b))) := Lib.hid (fun W hw => by
    obtain ⟨g', o', hA', _, y0, y1, y2⟩ := hw.rows.at3 0 y.said rfl
    rw [hA] at hA'
    injection hA' with hA'
    injection hA' with e1 e2
    subst e1 e2
    exact ⟨by simpa [QI.said] using y0, by simpa [QI.said] using y1, by simpa [QI.said] using y2⟩)
  have htl := run_tail A m c (by omega)
  have htm : m - 1 = r.length := by omega
  rw [hA, htm] at htl
  have HTL : Hid (LS w (tailA A c) (c - 1) (saidL r)) := Lib.hid hl'.tail
  have hmm : (0 : Int) < (m : Int) := by omega
  have hmn : 0 < m := by omega
  have hm0 : ((m : Int) == 0) = false := by simp; omega
  obtain ⟨ta, hta⟩ : ∃ ta, tailA (some ⟨g, o, none⟩) c = ta := ⟨_, rfl⟩
  rw [hA, hta] at HTL
  rw [hta] at htl
  obtain ⟨c1, hc1⟩ : ∃ c1, c - 1 = c1 := ⟨_, rfl⟩
  rw [hc1] at htl HTL
  obtain ⟨mr, hmr⟩ : ∃ mr, r.length = mr := ⟨_, rfl⟩
  have HMR := Lib.hid hmr
  rw [hmr] at htl
  rw [hA]
  unfold QI.agg at HREF
  unfold PopP QI.agg at HPO
  have HSV : Hid (saidV y.said = .agg #[.int .i64 y.num, .string (strB y.h), .string (strB y.b)]) := Lib.hid rfl
  rw [HSV.out] at HREF
  generalize strB y.h = S1 at *
  generalize strB y.b = S2 at *
  clear h hl hl' hr hm hA hyo hta hc1 htm hmr HSV
  go_enter Try.func14, Try.ntmps14
  go_upto_region 30 with fail
  obtain ⟨b0, hb0⟩ : ∃ b0, w.heap.size = b0 := ⟨_, rfl⟩
  rw [hb0]
  refine wp_gen (fun W => Fresh w W ∧ Blk W (b0 + 1) 36 #[.int .i64 4, .int .i64 (t : Int), .int .i64 nn, .int .i64 x.num, .slice x.HA x.h.length x.hc, .slice x.BA x.b.length x.bc]) ⟨(Fresh.alloc _ _).allocS _, Blk.mkAt (by simp; omega)⟩ ?_
  clear hb0
  rintro W ⟨hf0, ho0⟩
  have HF0 := Lib.hid hf0
  have o1 := ho0.cell 1
  clear hf0 ho0
  go_wp2_with fail
  with_reducible refine (HPO.out _ HF0.out).mono ?_
  rintro e w2 ⟨v', rfl, hq2, hv2, ho2⟩
  have HX2 := Lib.hid (And.intro hq2 (And.intro hv2 ho2))
  clear hq2 hv2 ho2 o1
  go_upto_region 31 with fail
  obtain ⟨b2, hb2⟩ : ∃ b2, w2.heap.size = b2 := ⟨_, rfl⟩
  rw [hb2]
  refine wp_gen (fun W3 => Fresh w2 W3 ∧ Blk W3 b2 34 #[.int .i64 y.num, .slice y.HA y.h.length y.hc, .slice y.BA y.b.length y.bc]) ⟨Fresh.alloc _ _, Blk.mkAt hb2⟩ ?_
  clear hb2
  rintro W3 ⟨hf3, hx3⟩
  have HF3 := Lib.hid hf3
  have HNT : Hid (∀ w', Fresh w2 w' → LS w' (some ⟨g, o, none⟩) c (y.said :: saidL r) ∧ y.Ok w') := Lib.hid (fun w' hw => by
    obtain ⟨x1, x2, x3⟩ := HX2.out
    have hq := H.out.fresh HF0.out
    refine ⟨?_, ?_⟩
    · have hl := HL.out
      rw [HA.out] at hl
      refine ((hl.fresh HF0.out).only x3 ?_).fresh hw
      rintro g cs hg (e | e)
      · obtain ⟨cs', h1, _⟩ := hq.rows
        exact hg.ne h1 (by decide) e
      · obtain ⟨cur, h1⟩ := ownQ (hq.own t ht) e
        exact hg.ne h1 (by decide) rfl
    · refine (((hq.ok t ht y (by rw [HR.out]; simp))).only x3 ?_).fresh hw
      rintro g cs hg (e | e)
      · exact (hq.byte_ne hg).2.1 e
      · exact (hq.byte_ne hg).2.2 t ht e)
  have HSK : Hid (∀ w', Fresh W3 w' → w'.cell? ⟨g, o, none⟩ = some (.int .i64 y.num) ∧ w'.cell? ⟨g, o + 1, none⟩ = some (.string S1) ∧ w'.cell? ⟨g, o + 2, none⟩ = some (.string S2) ∧ w'.cell? ⟨b2, 0, none⟩ = some (.int .i64 y.num) ∧ w'.cell? ⟨b2, 1, none⟩ = some (.slice y.HA y.h.length y.hc) ∧ w'.cell? ⟨b2, 2, none⟩ = some (.slice y.BA y.b.length y.bc) ∧ Fresh W3 w') := Lib.hid (fun w' hw => by
    obtain ⟨h1, h2⟩ := HNT.out w' (HF3.out.trans hw)
    rw [← HA.out] at h1
    obtain ⟨u0, u1, u2⟩ := HCE.out w' h1
    have hb := hx3.fresh hw
    exact ⟨u0, u1, u2, hb.cell 0, hb.cell 1, hb.cell 2, hw⟩)
  have HRY : Hid (∀ w', Fresh W3 w' → y.Ok w') := Lib.hid (fun w' hw => (HNT.out w' (HF3.out.trans hw)).2)
  obtain ⟨u0, u1, u2, u3, u4, u5, _⟩ := HSK.out W3 (Fresh.refl _)
  clear hf3 hx3
  go_region_held3 (fun w' => w'.cell? ⟨g, o, none⟩ = some (.int .i64 y.num) ∧ w'.cell? ⟨g, o + 1, none⟩ = some (.string S1) ∧ w'.cell? ⟨g, o + 2, none⟩ = some (.string S2) ∧ w'.cell? ⟨b2, 0, none⟩ = some (.int .i64 y.num) ∧ w'.cell? ⟨b2, 1, none⟩ = some (.slice y.HA y.h.length y.hc) ∧ w'.cell? ⟨b2, 2, none⟩ = some (.slice y.BA y.b.length y.bc) ∧ Fresh W3 w')
    ((refine HSK.out _ ?_; first | with_reducible assumption | with_reducible exact Fresh.drew _))
    (first
      | (go_at_call 15; have hg1 : Fresh W3 _ := Fresh.drew _; (with_reducible refine (HREF.out _ (HRY.out _ hg1)).mono ?_); rintro e w7 ⟨rfl, hf7⟩; have hg7 : Fresh W3 w7 := Fresh.trans hg1 hf7; clear hf7 hg1))
  all_goals
    have HG7 := Lib.hid (HF3.out.trans hg7)
    clear hg7 HSK
    go_wp2
    go_ret2
    obtain ⟨x1, x2, x3⟩ := HX2.out
    have e0 : (ro t).2.eraseIdx 0 = r := by rw [HR.out]; rfl
    rw [e0] at x1
    exact OneP.upd (H.out.fresh HF0.out) ht HF0.out (HTL.out.fresh HF0.out) (x1.fresh HG7.out) (x3.trans' (Only.of_fresh (S := fun _ => False) HG7.out) (fun i _ e => e.elim)) HMR.out (fun k hk => .inl (by rw [← x2]; exact hk)) (by
      rw [HR.out]
      show _ = nextS _ _ ⟨4, _, _, _⟩ _
      simp [nextS, saidL])
end
end Go.Proofs.Ythfifeclmikbgaa
