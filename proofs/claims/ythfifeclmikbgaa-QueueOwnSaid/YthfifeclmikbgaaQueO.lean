/-
  The law's one: Put.
-/
import Derived.Test.YthfifeclmikbgaaQueN
namespace Go.Proofs.Ythfifeclmikbgaa
set_option linter.unusedVariables false
set_option linter.unusedSimpArgs false
open Go.RowKit
/-- What a call makes of the document's list. -/
def nextS (by_ it : Int) (o : OpQ) (l : List SI) : List SI :=
  if o.k = 1 then (if it ≤ (l.length : Int) ∨ by_ < (sz l : Int) + (siz o.x.said : Int) then l else l ++ [o.x.said])
  else if o.k = 5 then dropS o.n l
  else match l with
    | [] => []
    | x :: r => if o.k = 3 then (if o.n < 0 ∨ (x.2.2.length : Int) < o.n then x :: r else cutS x o.n.toNat :: r)
      else if o.k = 4 then r else x :: r
section
variable {base q R n : Nat} {by_ it : Int} {ro : Rows} {w : World}
def OneP (base q R n : Nat) (by_ it : Int) (ro : Rows) (t : Nat) (o : OpQ) (w : World) (e : Ending) (w' : World) : Prop :=
  ∃ A' c' ro', e = .returned (.tuple #[.slice A' (ro' t).2.length c', .bool true]) ∧ LS w' A' c' (saidL (ro' t).2) ∧ QAt w' base q R n by_ it ro' ∧ saidL (ro' t).2 = nextS by_ it o (saidL (ro t).2) ∧ (∀ j, j ≠ t → ro' j = ro j) ∧
    Only (fun k => k = R ∨ (ro t).1.ownBlock = some k) w w' ∧ (∀ k, (ro' t).1.ownBlock = some k → (ro t).1.ownBlock = some k ∨ w.heap.size ≤ k)
/-- The queue stays as it was. -/
theorem OneP.same {A : Option Addr} {c t m : Nat} {o : OpQ} {w' : World} (h : QAt w base q R n by_ it ro) (hl : LS w A c (saidL (ro t).2)) (hn : nextS by_ it o (saidL (ro t).2) = saidL (ro t).2) (hm : (ro t).2.length = m) (hf : Fresh w w') : OneP base q R n by_ it ro t o w (.returned (.tuple #[.slice A m c, .bool true])) w' :=
  ⟨A, c, ro, by rw [hm], hl.fresh hf, h.fresh hf, hn.symm, fun _ _ => rfl, Only.of_fresh hf, fun k hk => .inl hk⟩
theorem si_siz (x : QI) : siz x.said = x.z := rfl
set_option maxRecDepth 100000 in
set_option maxHeartbeats 6400000 in
theorem one_put (A zA : Option Addr) (c t m zn zc : Nat) (a nn : Int) (x : QI) (h : QAt w base q R n by_ it ro) (hb : base ≤ w.heap.size) (ht : t < n) (hl : LS w A c (saidL (ro t).2)) (hx : x.In w) (hz : x.z ≤ 1000000) (hm : (ro t).2.length = m) :
    Calls Try.prog 14 #[.pointer (some ⟨q, 0, none⟩), .slice A m c, .agg #[.int .i64 a, .int .i64 by_, .int .i64 it, .slice zA zn zc], .agg #[.int .i64 1, .int .i64 (t : Int), .int .i64 nn, .int .i64 x.num, .slice x.HA x.h.length x.hc, .slice x.BA x.b.length x.bc]] w (OneP base q R n by_ it ro t ⟨1, (t : Int), nn, x⟩ w) := by
  have H := Lib.hid h
  have HB := Lib.hid hb
  have HL := Lib.hid hl
  have HM := Lib.hid hm
  have HREF := Lib.hid (fun W (hw : Fresh w W) => qu_ref x W (hx.h3.fresh hw) (hx.b3.fresh hw))
  have hq := h.quota t ht
  have hq1 := h.y1
  have hq2 := h.i1
  have HRP := Lib.hid (fun W (hw : Fresh w W) => rs_put A c (saidL (ro t).2) by_ it x.said W (hl.fresh hw) (by rw [saidL_len]; omega) (by rw [saidL_sz, si_siz]; omega) (by omega) (by omega))
  rw [saidL_len, hm] at HRP
  have HPM := Lib.hid (fun W (hw : Fresh w W) (hit : it ≤ (m : Int)) => qu_put_many t x (h.fresh hw) ht (by rw [hm]; exact hit))
  have HPU := Lib.hid (fun W (hw : Fresh w W) (hit : (m : Int) < it) => qu_put t x (h.fresh hw) (Nat.le_trans hb hw.size) ht (hx.h3.fresh hw) (hx.b3.fresh hw) hz (by rw [hm]; exact hit))
  unfold QI.agg at HREF HPM HPU
  generalize hsv : saidV x.said = sv at *
  clear h hb hl hx hm hsv
  go_enter Try.func14, Try.ntmps14
  go_upto_region 3 with fail
  obtain ⟨b0, hb0⟩ : ∃ b0, w.heap.size = b0 := ⟨_, rfl⟩
  have HB0 := Lib.hid hb0
  rw [hb0]
  refine wp_gen (fun W => Fresh w W ∧ Blk W b0 24 #[.int .i64 a, .int .i64 by_, .int .i64 it, .slice zA zn zc] ∧ Blk W (b0 + 1) 36 #[.int .i64 1, .int .i64 (t : Int), .int .i64 nn, .int .i64 x.num, .slice x.HA x.h.length x.hc, .slice x.BA x.b.length x.bc]) ⟨(Fresh.alloc _ _).allocS _, (Blk.mkAt hb0).alloc _, Blk.mkAt (by simp; omega)⟩ ?_
  clear hb0
  rintro W ⟨hf0, hz0, ho0⟩
  have HF0 := Lib.hid hf0
  obtain ⟨_, z1, z2, _⟩ := hz0.c4
  have o1 := ho0.cell 1
  have o3 := ho0.cell 3
  have o4 := ho0.cell 4
  have o5 := ho0.cell 5
  have HSK : Hid (∀ w', Fresh W w' → w'.cell? ⟨b0, 1, none⟩ = some (.int .i64 by_) ∧ w'.cell? ⟨b0, 2, none⟩ = some (.int .i64 it) ∧ w'.cell? ⟨b0 + 1, 1, none⟩ = some (.int .i64 (t : Int)) ∧ w'.cell? ⟨b0 + 1, 3, none⟩ = some (.int .i64 x.num) ∧ w'.cell? ⟨b0 + 1, 4, none⟩ = some (.slice x.HA x.h.length x.hc) ∧ w'.cell? ⟨b0 + 1, 5, none⟩ = some (.slice x.BA x.b.length x.bc) ∧ Fresh W w') := Lib.hid (fun w' hw => by
    have hz := hz0.fresh hw
    have ho := ho0.fresh hw
    exact ⟨hz.cell 1, hz.cell 2, ho.cell 1, ho.cell 3, ho.cell 4, ho.cell 5, hw⟩)
  clear hf0 hz0 ho0
  by_cases hrf : it ≤ (m : Int) ∨ by_ < (qz (ro t).2 : Int) + (x.z : Int)
  · have HR1 := Lib.hid (fun W hw => (HRP.out W hw).mono (fun e w' (h : RPutP A c (saidL (ro t).2) by_ it x.said W e w') => (show e = .returned (.tuple #[.slice A m c, .int .i64 1]) ∧ Fresh W w' from by
      obtain ⟨hf, ⟨_, rfl⟩ | ⟨hc, _⟩⟩ := h
      · rw [saidL_len, HM.out]; exact ⟨rfl, hf⟩
      · rw [saidL_len, HM.out, saidL_sz, si_siz] at hc; omega)))
    go_region_held3 (fun w' => w'.cell? ⟨b0, 1, none⟩ = some (.int .i64 by_) ∧ w'.cell? ⟨b0, 2, none⟩ = some (.int .i64 it) ∧ w'.cell? ⟨b0 + 1, 1, none⟩ = some (.int .i64 (t : Int)) ∧ w'.cell? ⟨b0 + 1, 3, none⟩ = some (.int .i64 x.num) ∧ w'.cell? ⟨b0 + 1, 4, none⟩ = some (.slice x.HA x.h.length x.hc) ∧ w'.cell? ⟨b0 + 1, 5, none⟩ = some (.slice x.BA x.b.length x.bc) ∧ Fresh W w')
      ((refine HSK.out _ ?_; first | with_reducible assumption | with_reducible exact Fresh.drew _))
      (first
        | (go_at_call 15; have hg1 : Fresh W _ := Fresh.drew _; (with_reducible refine (HREF.out _ (HF0.out.trans hg1)).mono ?_); rintro e w2 ⟨rfl, hf2⟩; have hg2 : Fresh W w2 := Fresh.trans hg1 hf2; clear hf2 hg1)
        | (go_at_call 24; (with_reducible refine (HR1.out _ (HF0.out.trans hg2)).mono ?_); rintro e w3 ⟨rfl, hf3⟩; have hg3 : Fresh W w3 := Fresh.trans hg2 hf3; clear hf3))
    have HNO := Lib.hid (fun W (hw : Fresh w W) => show Calls Try.prog 16 #[.pointer (some ⟨q, 0, none⟩), .int .i64 (t : Int), .agg #[.int .i64 x.num, .slice x.HA x.h.length x.hc, .slice x.BA x.b.length x.bc]] W (ErrP 33 W) from by
      by_cases hit : it ≤ (m : Int)
      · exact HPM.out W hw hit
      · have hbig : by_ - (qz (ro t).2 : Int) < (x.z : Int) := by omega
        refine (HPU.out W hw (by omega)).mono (fun e w' h => ?_)
        rw [if_pos hbig] at h
        exact h)
    have HRF := Lib.hid hrf
    clear hrf HSK
    all_goals
      have HG3 := Lib.hid (HF0.out.trans hg3)
      clear hg3
      go_wp2_with fail
      with_reducible refine (HNO.out _ HG3.out).mono ?_
      rintro e w4 ⟨rfl, hf4⟩
      have HG4 := Lib.hid (HG3.out.trans hf4)
      clear hf4
      go_wp2
      go_ret2
      exact OneP.same H.out HL.out (by simp only [nextS, if_true]; rw [if_pos (by rw [saidL_len, saidL_sz, si_siz, HM.out]; exact HRF.out)]) HM.out HG4.out
  · have HR2 := Lib.hid (fun W hw => (HRP.out W hw).mono (fun e w' (h : RPutP A c (saidL (ro t).2) by_ it x.said W e w') => (show ∃ A' c', e = .returned (.tuple #[.slice A' (m + 1) c', .int .i64 0]) ∧ Fresh W w' ∧ LS w' A' c' (saidL (ro t).2 ++ [x.said]) from by
      obtain ⟨hf, ⟨hc, _⟩ | ⟨_, A', c', rfl, hls⟩⟩ := h
      · rw [saidL_len, HM.out, saidL_sz, si_siz] at hc; omega
      · rw [saidL_len, HM.out]; exact ⟨A', c', rfl, hf, hls⟩)))
    go_region_held3 (fun w' => w'.cell? ⟨b0, 1, none⟩ = some (.int .i64 by_) ∧ w'.cell? ⟨b0, 2, none⟩ = some (.int .i64 it) ∧ w'.cell? ⟨b0 + 1, 1, none⟩ = some (.int .i64 (t : Int)) ∧ w'.cell? ⟨b0 + 1, 3, none⟩ = some (.int .i64 x.num) ∧ w'.cell? ⟨b0 + 1, 4, none⟩ = some (.slice x.HA x.h.length x.hc) ∧ w'.cell? ⟨b0 + 1, 5, none⟩ = some (.slice x.BA x.b.length x.bc) ∧ Fresh W w')
      ((refine HSK.out _ ?_; first | with_reducible assumption | with_reducible exact Fresh.drew _))
      (first
        | (go_at_call 15; have hg1 : Fresh W _ := Fresh.drew _; (with_reducible refine (HREF.out _ (HF0.out.trans hg1)).mono ?_); rintro e w2 ⟨rfl, hf2⟩; have hg2 : Fresh W w2 := Fresh.trans hg1 hf2; clear hf2 hg1)
        | (go_at_call 24; (with_reducible refine (HR2.out _ (HF0.out.trans hg2)).mono ?_); rintro e w3 ⟨A', c', rfl, hf3, hls⟩; have hg3 : Fresh W w3 := Fresh.trans hg2 hf3; clear hf3))
    have HYES := Lib.hid (fun W (hw : Fresh w W) => show Calls Try.prog 16 #[.pointer (some ⟨q, 0, none⟩), .int .i64 (t : Int), .agg #[.int .i64 x.num, .slice x.HA x.h.length x.hc, .slice x.BA x.b.length x.bc]] W (PutP base q R n by_ it ro t x W) from by
      have hbig : ¬ by_ - (qz (ro t).2 : Int) < (x.z : Int) := by omega
      refine (HPU.out W hw (by omega)).mono (fun e w' h => ?_)
      rw [if_neg hbig] at h
      exact h)
    have HRF := Lib.hid hrf
    clear hrf HSK
    all_goals
      have HG3 := Lib.hid (HF0.out.trans hg3)
      have HLS := Lib.hid hls
      clear hg3 hls
      go_wp2_with fail
      with_reducible refine (HYES.out _ HG3.out).mono ?_
      rintro e w4 ⟨v', g1, g2, rfl, hq4, ho4, hn4⟩
      have HX4 := Lib.hid (And.intro hq4 (And.intro ho4 hn4))
      clear hq4 ho4 hn4
      go_wp2
      go_ret2
      obtain ⟨x1, x2, x3⟩ := HX4.out
      have e1 : (updR ro t (v', (ro t).2 ++ [clI x g1 g2]) t).2 = (ro t).2 ++ [clI x g1 g2] := by rw [updR_same]
      refine ⟨A', c', updR ro t (v', (ro t).2 ++ [clI x g1 g2]), by rw [e1, List.length_append, HM.out]; rfl, ?_, x1, ?_, fun j hj => updR_ne _ _ hj, ?_, ?_⟩
      · rw [e1, saidL_push]
        refine HLS.out.only x2 ?_
        rintro g cs hg (e | e)
        · obtain ⟨cs', h1, _⟩ := (H.out.fresh HG3.out).rows
          exact hg.ne h1 (by decide) e
        · obtain ⟨cur, h1⟩ := ownQ ((H.out.fresh HG3.out).own t ht) e
          exact hg.ne h1 (by decide) rfl
      · rw [e1, saidL_push]
        simp only [nextS, if_true]
        rw [if_neg (by rw [saidL_len, saidL_sz, si_siz, HM.out]; exact HRF.out)]
      · exact (Only.of_fresh HG3.out).trans' x2 (fun i _ e => e)
      · intro k hk
        rw [updR_same] at hk
        rcases x3.1 k hk with e | e
        · exact .inl e
        · right; have := HG3.out.size; omega
end
end Go.Proofs.Ythfifeclmikbgaa
