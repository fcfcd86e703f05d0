/-
  The law CreditAlone: its walk.
-/
import Derived.Test.YtnnciekbmapilaaCreditV
import Derived.Deep.Cut
import Derived.Deep.CutBlock
namespace Go.Proofs.Ytnnciekbmapilaa
set_option linter.unusedVariables false
open Go.RowKit

/-- Two credits of which one tenant has the same part: a spending of that tenant. -/
theorem spend_two {n t i : Nat} {f f2 : Nat → Int} (h : OkF n f t) (h2 : OkF n f2 t) (hi : i < n) (he : f i = f2 i) (x : Int) : ∃ r f' f2', f' i = f2' i ∧
    (∀ c g k w, Cr w c g k n f t → Calls Try.prog 13 #[.pointer (some ⟨c, 0, none⟩), .int .i64 (i : Int), .int .i64 x] w (GAny c g k n r f' t w)) ∧
    (∀ c g k w, Cr w c g k n f2 t → Calls Try.prog 13 #[.pointer (some ⟨c, 0, none⟩), .int .i64 (i : Int), .int .i64 x] w (GAny c g k n r f2' t w)) := by
  by_cases h1 : 0 ≤ x ∧ x ≤ 2147483647
  · obtain ⟨h3, h4⟩ := h1
    have p1 := h.pos i hi
    by_cases h5 : x ≤ f i
    · exact ⟨0, updN f i (f i - x), updN f2 i (f2 i - x), by rw [updN_same, updN_same, he], fun c g k w h => (cr_spend_ok c g k n t i f x w h hi h3 h4 h5).mono fun e w' ⟨a, b, d⟩ => ⟨a, b, d⟩,
        fun c g k w h => (cr_spend_ok c g k n t i f2 x w h hi h3 h4 (by omega)).mono fun e w' ⟨a, b, d⟩ => ⟨a, b, d⟩⟩
    · exact ⟨15, f, f2, he, fun c g k w h => (cr_spend_full c g k n t i f x w h hi (by omega) h4 (by omega)).mono fun e w' ⟨a, b⟩ => ⟨a, h.fresh b, Only.of_fresh b⟩,
        fun c g k w h => (cr_spend_full c g k n t i f2 x w h hi (by omega) h4 (by omega)).mono fun e w' ⟨a, b⟩ => ⟨a, h.fresh b, Only.of_fresh b⟩⟩
  · exact ⟨11, f, f2, he, fun c g k w h => (cr_spend_range c g k n t f i x w h (by omega)).mono fun e w' ⟨a, b⟩ => ⟨a, h.fresh b, Only.of_fresh b⟩,
      fun c g k w h => (cr_spend_range c g k n t f2 i x w h (by omega)).mono fun e w' ⟨a, b⟩ => ⟨a, h.fresh b, Only.of_fresh b⟩⟩
/-- A spending of another tenant. -/
theorem spend_other {n t q : Nat} {f : Nat → Int} (h : OkF n f t) (i x : Int) (hi : i ≠ (q : Int)) : ∃ r f', f' q = f q ∧
    (∀ c g k w, Cr w c g k n f t → Calls Try.prog 13 #[.pointer (some ⟨c, 0, none⟩), .int .i64 i, .int .i64 x] w (GAny c g k n r f' t w)) := by
  obtain ⟨r, f', hr, h1, _⟩ := spend_pair h i x
  refine ⟨r, f', ?_, h1⟩
  rcases hr with ⟨_, h0, _, _, _, rfl⟩ | ⟨_, rfl⟩
  · exact updN_ne (by omega)
  · rfl
/-- A grant of both: if both answer the same, that tenant's part stays the same. -/
theorem grant_two {n t i : Nat} {f f2 : Nat → Int} (h : OkF n f t) (h2 : OkF n f2 t) (he : f i = f2 i) (x : Int) : ∃ r r2 f' f2' t' t2', (r = r2 → f' i = f2' i ∧ t' = t2') ∧
    (∀ c g k w, Cr w c g k n f t → Calls Try.prog 12 #[.pointer (some ⟨c, 0, none⟩), .int .i64 x] w (GAny c g k n r f' t' w)) ∧
    (∀ c g k w, Cr w c g k n f2 t → Calls Try.prog 12 #[.pointer (some ⟨c, 0, none⟩), .int .i64 x] w (GAny c g k n r2 f2' t2' w)) := by
  obtain ⟨r, f', t', hr, h3, _⟩ := grant_pair h x
  obtain ⟨r2, f2', t2', hr2, h4, _⟩ := grant_pair h2 x
  refine ⟨r, r2, f', f2', t', t2', fun e => ?_, h3, h4⟩
  rcases hr with ⟨a, rfl, rfl, _⟩ | ⟨a, rfl, rfl⟩ <;> rcases hr2 with ⟨b, rfl, rfl, _⟩ | ⟨b, rfl, rfl⟩
  · exact ⟨by unfold grantF; rw [he], rfl⟩
  · omega
  · omega
  · exact ⟨he, rfl⟩
structure AlR (w : World) (c gc kc d gd kd n q : Nat) (A : Option Addr) (len : Nat) (R : Nat → Nat → Int) (wr : World) : Prop where
  two : ∃ fc fd t, Cr wr c gc kc n fc t ∧ Cr wr d gd kd n fd t ∧ fc q = fd q
  rows : IntRows w 3 A len R
  fr : Fresh w wr
  h1 : w.heap.size ≤ c ∧ w.heap.size ≤ gc
  h2 : w.heap.size ≤ d ∧ w.heap.size ≤ gd
  ap : c ≠ d ∧ c ≠ gd ∧ gc ≠ d ∧ gc ≠ gd
section
variable {w wr wx : World} {c gc kc d gd kd n q : Nat} {A : Option Addr} {len : Nat} {R : Nat → Nat → Int}
theorem AlR.fresh (h : AlR w c gc kc d gd kd n q A len R wr) (hf : Fresh wr wx) : AlR w c gc kc d gd kd n q A len R wx := by
  obtain ⟨⟨fc, fd, t, a, b, e⟩, hr, hfr, h1, h2, ap⟩ := h
  exact ⟨⟨fc, fd, t, a.fresh hf, b.fresh hf, e⟩, hr, hfr.trans hf, h1, h2, ap⟩
end
set_option maxRecDepth 100000 in
set_option maxHeartbeats 6400000 in
theorem CreditAlone_any (n : Int) (A : Option Addr) (len cap : Nat) (R : Nat → Nat → Int) (q : Int) (w : World) (_ : (Lit.int .i64 n).wf = true) (hlen : len ≤ maxLen) (hA : IntRows w 3 A len R) (_ : (Lit.int .i64 q).wf = true) :
    Calls Try.prog 4 #[.int .i64 n, .slice A len cap, .int .i64 q] w fun e w' => e = .returned (.bool true) ∧ Below w.heap.size w w' := by
  unfold maxLen at hlen
  by_cases hall : len ≤ 100 ∧ 1 ≤ n ∧ n ≤ 64 ∧ 0 ≤ q ∧ q < n
  · obtain ⟨hl, h1, h2, h3, h4⟩ := hall
    obtain ⟨N, rfl⟩ : ∃ N : Nat, n = (N : Int) := ⟨n.toNat, by omega⟩
    obtain ⟨Q, rfl⟩ : ∃ Q : Nat, q = (Q : Int) := ⟨q.toNat, by omega⟩
    have n1 : 1 ≤ N := by omega
    have n2 : N ≤ 64 := by omega
    have q1 : Q < N := by omega
    have HA := Lib.hid hA
    clear hA h1 h2 h3 h4
    have a0 : decide (100 < (len : Int)) = false := by simp; omega
    have a1 : decide ((N : Int) < 1) = false := by simp; omega
    have a2 : decide (64 < (N : Int)) = false := by simp; omega
    have a3 : decide ((Q : Int) < 0) = false := by simp
    have a4 : decide ((N : Int) ≤ (Q : Int)) = false := by simp; omega
    go_enter Try.func4, Try.ntmps4
    go_wp2_with fail
    with_reducible refine (cr_new_yes N _ n1 n2).mono ?_
    rintro e w1 ⟨c, gc, kc, rfl, hc, hg, hcr, hf1⟩
    have HCR := Lib.hid hcr
    have HF1 := Lib.hid hf1
    have HCG := Lib.hid (And.intro hc hg)
    clear hcr hf1 hc hg
    go_wp2_with fail
    with_reducible refine (cr_new_yes N _ n1 n2).mono ?_
    rintro e w2 ⟨d, gd, kd, rfl, hd, hgd, hdr, hf2⟩
    have HR : Hid (AlR w c gc kc d gd kd N Q A len R w2) := Lib.hid (by
      have l1 := HCR.out.lt
      have := HF1.out.size
      have := HCG.out
      exact ⟨⟨_, _, _, HCR.out.fresh hf2, hdr, rfl⟩, HA.out, HF1.out.trans hf2, HCG.out, ⟨by omega, by omega⟩, ⟨by omega, by omega, by omega, by omega⟩⟩)
    clear hdr hf2 hd hgd HCR HF1 HCG
    go_wp2_with fail
    go_loopw [62] (fun i wr => ∃ j : Nat, j ≤ len ∧ i = .int .i64 j ∧ AlR w c gc kc d gd kd N Q A len R wr) (fun i _ => len - (intOf i).toNat)
    case atStart => exact ⟨0, by omega, rfl, HR.out⟩
    case round =>
      obtain ⟨j, hj, rfl, hR⟩ := hrel
      clear HR
      by_cases hlt : j < len
      · have hrw := rows_below HA.out hR.fr
        obtain ⟨bb, oo, hAe, hbb, hcells⟩ := hrw.1 (by omega)
        have c0 := hcells j 0 hlt (by omega)
        have c1 := hcells j 1 hlt (by omega)
        have c2 := hcells j 2 hlt (by omega)
        simp only [Nat.add_zero] at c0
        clear hcells hrw
        generalize hk0 : R j 0 = kd0 at *
        generalize hk1 : R j 1 = tn at *
        generalize hk2 : R j 2 = x at *
        clear hk0 hk1 hk2
        have HR := Lib.hid hR
        have HAe := Lib.hid hAe
        have HO := Lib.hid (hR.fresh (Fresh.alloc wr (.cells #[.int .i64 kd0, .int .i64 tn, .int .i64 x] 34)))
        have HB : Hid (Blk (wr.alloc (.cells #[.int .i64 kd0, .int .i64 tn, .int .i64 x] 34)) wr.heap.size 34 #[.int .i64 kd0, .int .i64 tn, .int .i64 x]) := Lib.hid (Blk.new _ _ _)
        obtain ⟨f1, f2, T, hC, hD, hE⟩ := HO.out.two
        have HC := Lib.hid hC
        have HD := Lib.hid hD
        have HE := Lib.hid hE
        have hoc : c < wr.heap.size ∧ gc < wr.heap.size ∧ d < wr.heap.size ∧ gd < wr.heap.size := by
          obtain ⟨_, _, _, a, b, _⟩ := hR.two
          have := a.lt
          have := b.lt
          omega
        clear hR hC hD hE
        by_cases hq1 : kd0 = 1
        · subst hq1
          obtain ⟨r1, r2, f1', f2', T1, T2, hrr, hg1, hg2⟩ := grant_two HC.out.ok HD.out.ok HE.out x
          have HG1 := Lib.hid hg1
          have HG2 := Lib.hid hg2
          have HRR := Lib.hid hrr
          clear hg1 hg2 hrr
          subst hAe
          go_wp2_with fail
          refine (HG1.out c gc kc _ HC.out).mono ?_
          rintro e w3 ⟨rfl, hc3, ho3⟩
          have hb3 := HB.out.only ho3 (by omega)
          have hd3 := HD.out.only ho3 (by have := HO.out.ap; omega) (by have := HO.out.ap; omega)
          have HC2 := Lib.hid hc3
          have HD2 := Lib.hid hd3
          have HB2 := Lib.hid hb3
          have HON2 := Lib.hid ho3
          have k2 := hb3.cell 2
          simp only [List.getElem?_toArray, List.getElem?_cons_zero, List.getElem?_cons_succ] at k2
          clear hb3 hd3 hc3 ho3 c0 c1 c2
          go_wp2_with fail
          refine (HG2.out d gd kd _ HD2.out).mono ?_
          rintro e w4 ⟨rfl, hd4, ho4⟩
          have HB3 := Lib.hid (HB2.out.only ho4 (by omega))
          have HC3 := Lib.hid (HC2.out.only ho4 (by have := HO.out.ap; omega) (by have := HO.out.ap; omega))
          have HD3 := Lib.hid hd4
          have HF3 : Hid (Fresh w w4) := Lib.hid (Only.fresh (S := fun i => w.heap.size ≤ i) (((Only.of_fresh HO.out.fr).trans (HON2.out.mono (fun i e => by have := HO.out.h1; omega))).trans (ho4.mono (fun i e => by have := HO.out.h2; omega))) (fun i hi e => by omega))
          clear hd4 ho4 k2
          by_cases hr12 : r1 = r2
          · obtain ⟨he3, ht3⟩ := HRR.out hr12
            subst hr12
            subst ht3
            have hne : (r1 != r1) = false := by simp
            have HE3 := Lib.hid he3
            clear he3 HG1 HG2 HRR
            go_wp2_with fail
            have hz1 := cr_left_yes c gc kc N T1 Q f1' _ HC3.out q1
            rw [HE3.out] at hz1
            have HZ1 := Lib.hid hz1
            clear hz1
            go_wp2_with fail
            refine HZ1.out.mono ?_
            rintro e w7 ⟨rfl, hf7⟩
            have HZ2 := Lib.hid (cr_left_yes d gd kd N T1 Q f2' _ (HD3.out.fresh hf7) q1)
            have HX := Lib.hid (AlR.fresh (⟨⟨f1', f2', T1, HC3.out, HD3.out, HE3.out⟩, HA.out, HF3.out, HO.out.h1, HO.out.h2, HO.out.ap⟩ : AlR w c gc kc d gd kd N Q _ len R _) hf7)
            clear hf7
            go_wp2_with fail
            refine HZ2.out.mono ?_
            rintro e w8 ⟨rfl, hf8⟩
            have HX8 := Lib.hid (HX.out.fresh hf8)
            have hyy : (f2' Q != f2' Q) = false := by simp
            clear hf8
            go_wp2_with fail
            go_roundw
            case rel => exact ⟨j + 1, by omega, by go_num, HX8.out⟩
            case measure => simp [intOf]; omega
          · have hne : (r1 != r2) = true := by simpa using hr12
            clear hr12 HG1 HG2 HRR
            go_wp2_with fail
            refine (cr_awake _).mono ?_
            rintro e w5 ⟨rfl, hf5⟩
            go_wp2_with fail
            go_ret
            exact ⟨rfl, HF3.out.trans hf5⟩
        · have hq1' : (kd0 == 1) = false := by simpa using hq1
          by_cases hq2 : kd0 = 2
          · subst hq2
            clear hq1 hq1'
            by_cases hqt : tn = (Q : Int)
            · subst hqt
              obtain ⟨r1, f1', f2', hrr, hg1, hg2⟩ := spend_two HC.out.ok HD.out.ok q1 HE.out x
              have HG1 := Lib.hid hg1
              have HG2 := Lib.hid hg2
              have HRR := Lib.hid hrr
              clear hg1 hg2 hrr
              have heq : ((Q : Int) == (Q : Int)) = true := by simp
              subst hAe
              have k2 := HB.out.cell 2
              simp only [List.getElem?_toArray, List.getElem?_cons_zero, List.getElem?_cons_succ] at k2
              have HSK : Hid (∀ w', Only (fun i => i = c ∨ i = gc ∨ i = d ∨ i = gd) (wr.alloc (.cells #[.int .i64 2, .int .i64 (Q : Int), .int .i64 x] 34)) w' → w'.cell? ⟨wr.heap.size, 2, none⟩ = some (.int .i64 x)) := Lib.hid (fun w' ho => (HB.out.only ho (by omega)).cell 2)
              clear heq
              have hne : (r1 != r1) = false := by simp
              have heq2 : ((Q : Int) == (Q : Int)) = true := by simp
              go_upto_region 16 with (fail)
              clear c0 c1 c2
              go_region_held3 (fun w' => w'.cell? ⟨wr.heap.size, 2, none⟩ = some (.int .i64 x))
                ((refine HSK.out _ ?_; first | with_reducible exact Only.refl _ _ | with_reducible exact Only.drewS (Only.refl _ _) | with_reducible exact HON4.out | with_reducible exact HON3.out))
                (first
                  | (go_at_call 13; (with_reducible refine (HG1.out c gc kc _ (HC.out.fresh (Fresh.drew _))).mono ?_); rintro e w3 ⟨rfl, hc3, ho3⟩; have HON3 : Hid (Only (fun i => i = c ∨ i = gc ∨ i = d ∨ i = gd) _ w3) := Lib.hid (((Only.drewS (Only.refl _ _)).trans ho3).mono (fun i e => by omega)); have HC2 := Lib.hid hc3; have HD2 := Lib.hid ((HD.out.fresh (Fresh.drew _)).only ho3 (by have := HO.out.ap; omega) (by have := HO.out.ap; omega)); clear hc3 ho3)
                  | (go_at_call 13; (with_reducible refine (HG2.out d gd kd _ HD2.out).mono ?_); rintro e w4 ⟨rfl, hd4, ho4⟩; have HON4 : Hid (Only (fun i => i = c ∨ i = gc ∨ i = d ∨ i = gd) _ w4) := Lib.hid (HON3.out.trans (ho4.mono (fun i e => by omega))); have HC3 := Lib.hid (HC2.out.only ho4 (by have := HO.out.ap; omega) (by have := HO.out.ap; omega)); have HD3 := Lib.hid hd4; clear hd4 ho4))
              have HE3 := Lib.hid HRR.out
              have HF3 : Hid (Fresh w w4) := Lib.hid (Only.fresh (S := fun i => w.heap.size ≤ i) ((Only.of_fresh HO.out.fr).trans (HON4.out.mono (fun i e => by have := HO.out.h1; have := HO.out.h2; omega))) (fun i hi e => by omega))
              clear k2 HSK
              have hz1 := cr_left_yes c gc kc N T Q f1' _ HC3.out q1
              rw [HE3.out] at hz1
              have HZ1 := Lib.hid hz1
              clear hz1
              go_wp2_with fail
              refine HZ1.out.mono ?_
              rintro e w7 ⟨rfl, hf7⟩
              have HZ2 := Lib.hid (cr_left_yes d gd kd N T Q f2' _ (HD3.out.fresh hf7) q1)
              have HX := Lib.hid (AlR.fresh (⟨⟨f1', f2', T, HC3.out, HD3.out, HE3.out⟩, HA.out, HF3.out, HO.out.h1, HO.out.h2, HO.out.ap⟩ : AlR w c gc kc d gd kd N Q _ len R _) hf7)
              clear hf7
              go_wp2_with fail
              refine HZ2.out.mono ?_
              rintro e w8 ⟨rfl, hf8⟩
              have HX8 := Lib.hid (HX.out.fresh hf8)
              have hyy : (f2' Q != f2' Q) = false := by simp
              clear hf8
              go_wp2_with fail
              go_roundw
              case rel => exact ⟨j + 1, by omega, by go_num, HX8.out⟩
              case measure => simp [intOf]; omega
            · have hqt' : (tn == (Q : Int)) = false := by simpa using hqt
              obtain ⟨r1, f1', hrr, hg1⟩ := spend_other HC.out.ok tn x hqt
              have HG1 := Lib.hid hg1
              have HRR := Lib.hid hrr
              clear hg1 hrr hqt
              subst hAe
              go_wp2_with fail
              refine (HG1.out c gc kc _ HC.out).mono ?_
              rintro e w3 ⟨rfl, hc3, ho3⟩
              have HD3 := Lib.hid (HD.out.only ho3 (by have := HO.out.ap; omega) (by have := HO.out.ap; omega))
              have HC3 := Lib.hid hc3
              have HE3 : Hid (f1' Q = f2 Q) := Lib.hid (HRR.out.trans HE.out)
              have HF3 : Hid (Fresh w w3) := Lib.hid (Only.fresh (S := fun i => w.heap.size ≤ i) ((Only.of_fresh HO.out.fr).trans (ho3.mono (fun i e => by have := HO.out.h1; omega))) (fun i hi e => by omega))
              clear hc3 ho3 c0 c1 c2 HG1
              go_wp2_with fail
              have hz1 := cr_left_yes c gc kc N T Q f1' _ HC3.out q1
              rw [HE3.out] at hz1
              have HZ1 := Lib.hid hz1
              clear hz1
              go_wp2_with fail
              refine HZ1.out.mono ?_
              rintro e w7 ⟨rfl, hf7⟩
              have HZ2 := Lib.hid (cr_left_yes d gd kd N T Q f2 _ (HD3.out.fresh hf7) q1)
              have HX := Lib.hid (AlR.fresh (⟨⟨f1', f2, T, HC3.out, HD3.out, HE3.out⟩, HA.out, HF3.out, HO.out.h1, HO.out.h2, HO.out.ap⟩ : AlR w c gc kc d gd kd N Q _ len R _) hf7)
              clear hf7
              go_wp2_with fail
              refine HZ2.out.mono ?_
              rintro e w8 ⟨rfl, hf8⟩
              have HX8 := Lib.hid (HX.out.fresh hf8)
              have hyy : (f2 Q != f2 Q) = false := by simp
              clear hf8
              go_wp2_with fail
              go_roundw
              case rel => exact ⟨j + 1, by omega, by go_num, HX8.out⟩
              case measure => simp [intOf]; omega
          · have hq2' : (kd0 == 2) = false := by simpa using hq2
            clear hq1 hq2
            have HC3 := HC
            have HD3 := HD
            have HE3 := HE
            have HF3 := Lib.hid HO.out.fr
            subst hAe
            go_wp2_with fail
            have hz1 := cr_left_yes c gc kc N T Q f1 _ HC3.out q1
            rw [HE3.out] at hz1
            have HZ1 := Lib.hid hz1
            clear hz1
            go_wp2_with fail
            refine HZ1.out.mono ?_
            rintro e w7 ⟨rfl, hf7⟩
            have HZ2 := Lib.hid (cr_left_yes d gd kd N T Q f2 _ (HD3.out.fresh hf7) q1)
            have HX := Lib.hid (AlR.fresh (⟨⟨f1, f2, T, HC3.out, HD3.out, HE3.out⟩, HA.out, HF3.out, HO.out.h1, HO.out.h2, HO.out.ap⟩ : AlR w c gc kc d gd kd N Q _ len R _) hf7)
            clear hf7
            go_wp2_with fail
            refine HZ2.out.mono ?_
            rintro e w8 ⟨rfl, hf8⟩
            have HX8 := Lib.hid (HX.out.fresh hf8)
            have hyy : (f2 Q != f2 Q) = false := by simp
            clear hf8
            go_wp2_with fail
            go_roundw
            case rel => exact ⟨j + 1, by omega, by go_num, HX8.out⟩
            case measure => simp [intOf]; omega
      · obtain rfl : j = len := by omega
        have HF := Lib.hid hR.fr
        clear hR
        go_wp2_with fail
        refine (cr_awake _).mono ?_
        rintro e w5 ⟨rfl, hf5⟩
        go_wp2_with fail
        go_ret
        exact ⟨rfl, HF.out.trans hf5⟩
  · clear hA
    by_cases c0 : (100 : Int) < len
    · clear hall
      go_enter Try.func4, Try.ntmps4
      go_wp2_with fail
      refine (cr_awake _).mono ?_
      rintro e w5 ⟨rfl, hf5⟩
      go_wp2_with fail
      go_ret
      exact ⟨rfl, hf5⟩
    · have d0 : decide ((100 : Int) < len) = false := by simpa using c0
      by_cases c1 : n < 1
      · clear hall
        go_enter Try.func4, Try.ntmps4
        go_wp2_with fail
        refine (cr_awake _).mono ?_
        rintro e w5 ⟨rfl, hf5⟩
        go_wp2_with fail
        go_ret
        exact ⟨rfl, hf5⟩
      · have d1 : decide (n < 1) = false := by simpa using c1
        by_cases c2 : 64 < n
        · clear hall
          go_enter Try.func4, Try.ntmps4
          go_wp2_with fail
          refine (cr_awake _).mono ?_
          rintro e w5 ⟨rfl, hf5⟩
          go_wp2_with fail
          go_ret
          exact ⟨rfl, hf5⟩
        · have d2 : decide (64 < n) = false := by simpa using c2
          by_cases c3 : q < 0
          · clear hall
            go_enter Try.func4, Try.ntmps4
            go_wp2_with fail
            refine (cr_awake _).mono ?_
            rintro e w5 ⟨rfl, hf5⟩
            go_wp2_with fail
            go_ret
            exact ⟨rfl, hf5⟩
          · have d3 : decide (q < 0) = false := by simpa using c3
            have c4 : n ≤ q := by omega
            clear hall
            go_enter Try.func4, Try.ntmps4
            go_wp2_with fail
            refine (cr_awake _).mono ?_
            rintro e w5 ⟨rfl, hf5⟩
            go_wp2_with fail
            go_ret
            exact ⟨rfl, hf5⟩
end Go.Proofs.Ytnnciekbmapilaa
