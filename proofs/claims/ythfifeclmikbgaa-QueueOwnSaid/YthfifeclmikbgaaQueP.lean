/-
  The law's one: Drop; the empty list; no call.
-/
import Derived.Test.YthfifeclmikbgaaQueO
namespace Go.Proofs.Ythfifeclmikbgaa
set_option linter.unusedVariables false
set_option linter.unusedSimpArgs false
open Go.RowKit
section
variable {base q R n : Nat} {by_ it : Int} {ro : Rows} {w : World}
/-- One row changed, a list in new memory. -/
theorem OneP.upd {A' : Option Addr} {c' t m : Nat} {o : OpQ} {w' W : World} {v' : Value} {xs' : List QI} (h : QAt W base q R n by_ it ro) (ht : t < n) (hf : Fresh w W) (hl : LS W A' c' (saidL xs')) (hq : QAt w' base q R n by_ it (updR ro t (v', xs'))) (ho : Only (fun k => k = R ∨ (ro t).1.ownBlock = some k) W w') (hm : xs'.length = m)
    (hn : ∀ k, v'.ownBlock = some k → (ro t).1.ownBlock = some k ∨ w.heap.size ≤ k) (hx : saidL xs' = nextS by_ it o (saidL (ro t).2)) : OneP base q R n by_ it ro t o w (.returned (.tuple #[.slice A' m c', .bool true])) w' := by
  have e1 : (updR ro t (v', xs') t).2 = xs' := by rw [updR_same]
  refine ⟨A', c', updR ro t (v', xs'), by rw [e1, hm], ?_, hq, by rw [e1, hx], fun j hj => updR_ne _ _ hj, (Only.of_fresh hf).trans' ho (fun i _ e => e), fun k hk => hn k (by rw [updR_same] at hk; exact hk)⟩
  rw [e1]
  refine hl.only ho ?_
  rintro g cs hg (e | e)
  · obtain ⟨cs', h1, _⟩ := h.rows
    exact hg.ne h1 (by decide) e
  · obtain ⟨cur, h1⟩ := ownQ (h.own t ht) e
    exact hg.ne h1 (by decide) rfl
set_option maxRecDepth 100000 in
set_option maxHeartbeats 6400000 in
theorem one_drop (A zA : Option Addr) (c t m zn zc : Nat) (a cc nn : Int) (x : QI) (h : QAt w base q R n by_ it ro) (ht : t < n) (hl : LS w A c (saidL (ro t).2)) (hm : (ro t).2.length = m) :
    Calls Try.prog 14 #[.pointer (some ⟨q, 0, none⟩), .slice A m c, .agg #[.int .i64 a, .int .i64 by_, .int .i64 cc, .slice zA zn zc], .agg #[.int .i64 5, .int .i64 (t : Int), .int .i64 nn, .int .i64 x.num, .slice x.HA x.h.length x.hc, .slice x.BA x.b.length x.bc]] w (OneP base q R n by_ it ro t ⟨5, (t : Int), nn, x⟩ w) := by
  have H := Lib.hid h
  have HL := Lib.hid hl
  have HM := Lib.hid hm
  have hle := (h.len ht).1
  have HRD := Lib.hid (fun W (hw : Fresh w W) => rs_drop A c (saidL (ro t).2) nn W (hl.fresh hw) (by rw [saidL_len]; omega))
  rw [saidL_len, hm] at HRD
  obtain ⟨m2, hm2⟩ : ∃ m2, (dropS nn (saidL (ro t).2)).length = m2 := ⟨_, rfl⟩
  have HM2 := Lib.hid hm2
  have hdl := saidL_dropLen nn (ro t).2
  rw [saidL_len, hm2, hm] at hdl
  have HDL := Lib.hid hdl
  have HDR : Hid (∀ W, Fresh w W → Calls Try.prog 22 #[.pointer (some ⟨q, 0, none⟩), .int .i64 (t : Int), .int .i64 nn] W fun e w' =>
      ∃ (r : Bool) (v' : Value), e = .returned (.bool r) ∧ r = decide ((m2 : Int) < (m : Int)) ∧ QAt w' base q R n by_ it (updR ro t (v', (ro t).2.eraseIdx (idxQ nn (ro t).2))) ∧ v'.ownBlock = (ro t).1.ownBlock ∧ Only (fun k => k = R ∨ (ro t).1.ownBlock = some k) W w') := Lib.hid (fun W hw => by
    have hsame : ∀ w', Fresh W w' → (ro t).2.eraseIdx (idxQ nn (ro t).2) = (ro t).2 → QAt w' base q R n by_ it (updR ro t ((ro t).1, (ro t).2.eraseIdx (idxQ nn (ro t).2))) := fun w' hf he => by
      rw [he]
      have : updR ro t ((ro t).1, (ro t).2) = ro := by funext j; by_cases e : j = t <;> simp [updR, e]
      rw [this]
      exact h.fresh (hw.trans hf)
    by_cases h0 : 0 < (ro t).2.length
    · refine (qu_drop t nn (h.fresh hw) ht h0).mono (fun e w' hp => ?_)
      rcases hp with ⟨hi, rfl, hf⟩ | ⟨hi, v', rfl, hq, hv, ho⟩
      · refine ⟨false, (ro t).1, rfl, ?_, hsame w' hf (List.eraseIdx_of_length_le (by omega)), rfl, Only.of_fresh hf⟩
        symm
        rw [decide_eq_false_iff_not]
        intro hlt
        have := hdl.1 (by omega)
        omega
      · refine ⟨true, v', rfl, ?_, hq, hv, ho⟩
        symm
        rw [decide_eq_true_eq]
        have := hdl.2 (by omega)
        omega
    · have he : (ro t).2 = [] := List.length_eq_zero_iff.1 (by omega)
      refine (qu_drop_no (t : Int) nn (h.fresh hw) (.inr ⟨t, rfl, ht, he⟩)).mono (fun e w' hp => ?_)
      obtain ⟨rfl, hf⟩ := hp
      refine ⟨false, (ro t).1, rfl, ?_, hsame w' hf (by rw [he]; rfl), rfl, Only.of_fresh hf⟩
      symm
      rw [decide_eq_false_iff_not]
      omega)
  clear h hl hle hm hm2 hdl
  go_enter Try.func14, Try.ntmps14
  go_upto_region 7 with fail
  obtain ⟨b0, hb0⟩ : ∃ b0, w.heap.size = b0 := ⟨_, rfl⟩
  rw [hb0]
  refine wp_gen (fun W => Fresh w W ∧ Blk W (b0 + 1) 36 #[.int .i64 5, .int .i64 (t : Int), .int .i64 nn, .int .i64 x.num, .slice x.HA x.h.length x.hc, .slice x.BA x.b.length x.bc]) ⟨(Fresh.alloc _ _).allocS _, Blk.mkAt (by simp; omega)⟩ ?_
  clear hb0
  rintro W ⟨hf0, ho0⟩
  have HF0 := Lib.hid hf0
  have HO0 := Lib.hid ho0
  have o2 := ho0.cell 2
  clear hf0 ho0
  go_wp2_with fail
  with_reducible refine (HRD.out _ HF0.out).mono ?_
  rintro e w2 ⟨A', c', hE, hls, hf2⟩
  rw [HM2.out] at hE
  subst hE
  have HF2 := Lib.hid (HF0.out.trans hf2)
  have HLS := Lib.hid hls
  have ho2 := HO0.out.fresh hf2
  have o1 := ho2.cell 1
  have o2 := ho2.cell 2
  clear hf2 hls ho2 HRD
  go_wp2_with fail
  with_reducible refine (HDR.out _ HF2.out).mono ?_
  rintro e w3 ⟨r, v', rfl, hr, hq3, hv3, ho3⟩
  have HX := Lib.hid (And.intro hq3 (And.intro hv3 ho3))
  clear hq3 hv3 ho3 o1 o2 HDR
  have HFIN : Hid (OneP base q R n by_ it ro t ⟨5, (t : Int), nn, x⟩ w (.returned (.tuple #[.slice A' m2 c', .bool true])) w3) := Lib.hid (by
    obtain ⟨x1, x2, x3⟩ := HX.out
    have hls := HLS.out
    rw [saidL_drop] at hls
    refine OneP.upd (H.out.fresh HF2.out) ht HF2.out hls x1 x3 ?_ (fun k hk => .inl (by rw [← x2]; exact hk)) ?_
    · rw [← HM2.out, saidL_drop, saidL_len]
    · show _ = nextS _ _ ⟨5, _, _, _⟩ _
      simp only [nextS]
      rw [if_neg (by decide), if_pos trivial, saidL_drop])
  by_cases hlt : (m2 : Int) < (m : Int)
  · have hr' : r = true := by rw [hr]; simpa using hlt
    subst hr'
    clear hr
    go_wp2
    go_ret2
    exact HFIN.out
  · have hr' : r = false := by rw [hr]; simpa using hlt
    subst hr'
    have hd : decide (m2 < m) = false := by simp; omega
    clear hr hlt
    go_wp2
    go_ret2
    exact HFIN.out
end
end Go.Proofs.Ythfifeclmikbgaa
