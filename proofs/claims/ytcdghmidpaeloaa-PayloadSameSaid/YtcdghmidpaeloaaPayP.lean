/-
  Contracts of package payload: Equal, whatever the items.
-/
import Derived.Test.YtcdghmidpaeloaaPayG
import Derived.Test.YtcdghmidpaeloaaVal
import Derived.Deep.Cut
namespace Go.Proofs.Ytcdghmidpaeloaa
set_option linter.unusedVariables false
set_option linter.unusedSimpArgs false
open Go.RowKit

set_option maxRecDepth 100000 in
set_option maxHeartbeats 12800000 in
theorem iequal (x y : ItV) (w : World) (hx : x.Ok w) (hy : y.Ok w) (hxp : x.ps.length ≤ 1000000) (hyp : y.ps.length ≤ 1000000) :
    Calls Try.prog 14 #[x.agg, y.agg] w (EqP (decide (x.nums = y.nums) && (decide (x.mks = y.mks) && ((x.l == y.l) && decide (x.ps = y.ps)))) w) := by
  obtain ⟨r, hr⟩ : ∃ r, (decide (x.nums = y.nums) && (decide (x.mks = y.mks) && ((x.l == y.l) && decide (x.ps = y.ps)))) = r := ⟨_, rfl⟩
  rw [hr]
  obtain ⟨ty, st, A, c, l, en, eh, ak, fl, co, la, inc, de, we, wd, ex, PA, pc, ps⟩ := x
  obtain ⟨ty2, st2, A2, c2, l2, en2, eh2, ak2, fl2, co2, la2, inc2, de2, we2, wd2, ex2, PA2, pc2, ps2⟩ := y
  have hT := TwoIt.start w ⟨ty, st, A, c, l, en, eh, ak, fl, co, la, inc, de, we, wd, ex, PA, pc, ps⟩ ⟨ty2, st2, A2, c2, l2, en2, eh2, ak2, fl2, co2, la2, inc2, de2, we2, wd2, ex2, PA2, pc2, ps2⟩
  have HBX := Lib.hid hx.bs
  have HBY := Lib.hid hy.bs
  have HPX := Lib.hid hx.prs
  have HPY := Lib.hid hy.prs
  simp only [ItV.nums, ItV.mks, ItV.agg] at *
  have hN : ∀ W, (Op.equalIn 10000 53 (.agg #[.int .i64 ty, .int .i64 st, .int .i64 fl, .int .i64 co, .int .i64 la, .int .i64 inc, .int .i64 de, .int .i64 we]) (.agg #[.int .i64 ty2, .int .i64 st2, .int .i64 fl2, .int .i64 co2, .int .i64 la2, .int .i64 inc2, .int .i64 de2, .int .i64 we2])).run Try.prog W = .ok (decide ([ty, st, fl, co, la, inc, de, we] = [ty2, st2, fl2, co2, la2, inc2, de2, we2])) W := fun W =>
    run_equalIn_ints (P := Try.prog) Try.underlying53 Try.underlying3 (by kernel_rfl) 9998 [ty, st, fl, co, la, inc, de, we] [ty2, st2, fl2, co2, la2, inc2, de2, we2] rfl rfl W
  have hM : ∀ W, (Op.equalIn 10000 57 (.agg #[.bool en, .bool eh, .bool ak, .bool wd, .bool ex]) (.agg #[.bool en2, .bool eh2, .bool ak2, .bool wd2, .bool ex2])).run Try.prog W = .ok (decide ([en, eh, ak, wd, ex] = [en2, eh2, ak2, wd2, ex2])) W := fun W =>
    run_equalIn_bools (P := Try.prog) Try.underlying57 Try.underlying4 (by kernel_rfl) 9998 [en, eh, ak, wd, ex] [en2, eh2, ak2, wd2, ex2] rfl rfl W
  obtain ⟨e1, he1⟩ : ∃ e, decide ([ty, st, fl, co, la, inc, de, we] = [ty2, st2, fl2, co2, la2, inc2, de2, we2]) = e := ⟨_, rfl⟩
  obtain ⟨e2, he2⟩ : ∃ e, decide ([en, eh, ak, wd, ex] = [en2, eh2, ak2, wd2, ex2]) = e := ⟨_, rfl⟩
  obtain ⟨e3, he3⟩ : ∃ e, (l == l2) = e := ⟨_, rfl⟩
  obtain ⟨e4, he4⟩ : ∃ e, decide (ps = ps2) = e := ⟨_, rfl⟩
  have hr' : (e1 && (e2 && (e3 && e4))) = r := by rw [← he1, ← he2, ← he3, ← he4]; exact hr
  rw [he1] at hN
  rw [he2] at hM
  have HRR := Lib.hid hr'
  clear hr'
  clear hr he1 he2 hx hy
  go_enter Try.func14, Try.ntmps14
  go_upto_region 1 with fail
  refine wp_gen (TwoIt w w.heap.size ⟨ty, st, A, c, l, en, eh, ak, fl, co, la, inc, de, we, wd, ex, PA, pc, ps⟩ ⟨ty2, st2, A2, c2, l2, en2, eh2, ak2, fl2, co2, la2, inc2, de2, we2, wd2, ex2, PA2, pc2, ps2⟩) hT ?_
  clear hT
  intro W hW
  obtain ⟨b, hb⟩ : ∃ b, w.heap.size = b := ⟨_, rfl⟩
  rw [hb] at hW ⊢
  have HSK : Hid (∀ w', Fresh W w' → w'.cell? ⟨b, 0, none⟩ = some (.int .i64 ty) ∧ w'.cell? ⟨b, 1, none⟩ = some (.int .i64 st) ∧ w'.cell? ⟨b, 2, none⟩ = some (.slice A l.length c) ∧ w'.cell? ⟨b, 3, none⟩ = some (.bool en) ∧ w'.cell? ⟨b, 4, none⟩ = some (.bool eh) ∧ w'.cell? ⟨b, 5, none⟩ = some (.bool ak) ∧ w'.cell? ⟨b, 6, none⟩ = some (.int .i64 fl) ∧ w'.cell? ⟨b, 7, none⟩ = some (.int .i64 co) ∧ w'.cell? ⟨b, 8, none⟩ = some (.int .i64 la) ∧ w'.cell? ⟨b, 9, none⟩ = some (.int .i64 inc) ∧ w'.cell? ⟨b, 10, none⟩ = some (.int .i64 de) ∧ w'.cell? ⟨b, 11, none⟩ = some (.int .i64 we) ∧ w'.cell? ⟨b, 12, none⟩ = some (.bool wd) ∧ w'.cell? ⟨b, 13, none⟩ = some (.bool ex) ∧ w'.cell? ⟨b, 14, none⟩ = some (.slice PA ps.length pc) ∧ w'.cell? ⟨b + 1, 0, none⟩ = some (.int .i64 ty2) ∧ w'.cell? ⟨b + 1, 1, none⟩ = some (.int .i64 st2) ∧ w'.cell? ⟨b + 1, 2, none⟩ = some (.slice A2 l2.length c2) ∧ w'.cell? ⟨b + 1, 3, none⟩ = some (.bool en2) ∧ w'.cell? ⟨b + 1, 4, none⟩ = some (.bool eh2) ∧ w'.cell? ⟨b + 1, 5, none⟩ = some (.bool ak2) ∧ w'.cell? ⟨b + 1, 6, none⟩ = some (.int .i64 fl2) ∧ w'.cell? ⟨b + 1, 7, none⟩ = some (.int .i64 co2) ∧ w'.cell? ⟨b + 1, 8, none⟩ = some (.int .i64 la2) ∧ w'.cell? ⟨b + 1, 9, none⟩ = some (.int .i64 inc2) ∧ w'.cell? ⟨b + 1, 10, none⟩ = some (.int .i64 de2) ∧ w'.cell? ⟨b + 1, 11, none⟩ = some (.int .i64 we2) ∧ w'.cell? ⟨b + 1, 12, none⟩ = some (.bool wd2) ∧ w'.cell? ⟨b + 1, 13, none⟩ = some (.bool ex2) ∧ w'.cell? ⟨b + 1, 14, none⟩ = some (.slice PA2 ps2.length pc2)) := Lib.hid (fun w' hw => by
    have h1 := hW.b1.fresh hw
    have h2 := hW.b2.fresh hw
    exact ⟨h1.cell 0, h1.cell 1, h1.cell 2, h1.cell 3, h1.cell 4, h1.cell 5, h1.cell 6, h1.cell 7, h1.cell 8, h1.cell 9, h1.cell 10, h1.cell 11, h1.cell 12, h1.cell 13, h1.cell 14, h2.cell 0, h2.cell 1, h2.cell 2, h2.cell 3, h2.cell 4, h2.cell 5, h2.cell 6, h2.cell 7, h2.cell 8, h2.cell 9, h2.cell 10, h2.cell 11, h2.cell 12, h2.cell 13, h2.cell 14⟩)
  have HBE := Lib.hid (fun w' (hw : Fresh W w') => bequal A A2 l l2 c c2 w' (HBX.out.fresh (hW.fr.trans hw)) (HBY.out.fresh (hW.fr.trans hw)))
  rw [he3] at HBE
  have HSE := Lib.hid (fun w' (hw : Fresh W w') => sequal PA PA2 ps ps2 pc pc2 w' (HPX.out.fresh (hW.fr.trans hw)) (HPY.out.fresh (hW.fr.trans hw)) hxp hyp)
  rw [he4] at HSE
  have HWF := Lib.hid hW.fr
  clear hW he3 he4 hb
  cases e1 with
  | false =>
    refine wp_region_vals (by kernel_rfl) (by kernel_rfl) (by kernel_rfl) (by kernel_rfl) (by kernel_rfl) (fun i => ([.agg #[.int .i64 ty, .int .i64 st, .slice A l.length c, .bool en, .bool eh, .bool ak, .int .i64 fl, .int .i64 co, .int .i64 la, .int .i64 inc, .int .i64 de, .int .i64 we, .bool wd, .bool ex, .slice PA ps.length pc], .agg #[.int .i64 ty, .int .i64 st, .int .i64 fl, .int .i64 co, .int .i64 la, .int .i64 inc, .int .i64 de, .int .i64 we], .agg #[.int .i64 ty2, .int .i64 st2, .slice A2 l2.length c2, .bool en2, .bool eh2, .bool ak2, .int .i64 fl2, .int .i64 co2, .int .i64 la2, .int .i64 inc2, .int .i64 de2, .int .i64 we2, .bool wd2, .bool ex2, .slice PA2 ps2.length pc2], .agg #[.int .i64 ty2, .int .i64 st2, .int .i64 fl2, .int .i64 co2, .int .i64 la2, .int .i64 inc2, .int .i64 de2, .int .i64 we2], .bool false, .bool false, undef, undef, undef, undef, undef, .bool false, .bool false, undef, undef, undef, undef, undef, .bool false, .bool false, undef, undef, undef, undef, undef, .bool false, .bool false] : List Value).getD i undef) { tmps := #[.agg #[.int .i64 ty, .int .i64 st, .slice A l.length c, .bool en, .bool eh, .bool ak, .int .i64 fl, .int .i64 co, .int .i64 la, .int .i64 inc, .int .i64 de, .int .i64 we, .bool wd, .bool ex, .slice PA ps.length pc], .agg #[.int .i64 ty2, .int .i64 st2, .slice A2 l2.length c2, .bool en2, .bool eh2, .bool ak2, .int .i64 fl2, .int .i64 co2, .int .i64 la2, .int .i64 inc2, .int .i64 de2, .int .i64 we2, .bool wd2, .bool ex2, .slice PA2 ps2.length pc2], .pointer (some ⟨b, 0, none⟩), .pointer (some ⟨(b + 1), 0, none⟩), .bool false, .agg #[.int .i64 ty, .int .i64 st, .slice A l.length c, .bool en, .bool eh, .bool ak, .int .i64 fl, .int .i64 co, .int .i64 la, .int .i64 inc, .int .i64 de, .int .i64 we, .bool wd, .bool ex, .slice PA ps.length pc], .agg #[.int .i64 ty, .int .i64 st, .int .i64 fl, .int .i64 co, .int .i64 la, .int .i64 inc, .int .i64 de, .int .i64 we], .agg #[.int .i64 ty2, .int .i64 st2, .slice A2 l2.length c2, .bool en2, .bool eh2, .bool ak2, .int .i64 fl2, .int .i64 co2, .int .i64 la2, .int .i64 inc2, .int .i64 de2, .int .i64 we2, .bool wd2, .bool ex2, .slice PA2 ps2.length pc2], .agg #[.int .i64 ty2, .int .i64 st2, .int .i64 fl2, .int .i64 co2, .int .i64 la2, .int .i64 inc2, .int .i64 de2, .int .i64 we2], .bool false, .bool false, undef, undef, undef, undef, undef, .bool false, .bool false, undef, undef, undef, undef, undef, .bool false, .bool false, undef, undef, undef, undef, undef, .bool false], defers := [] } (by kernel_rfl) (fun w2 => Fresh W w2) (Fresh.drew W) ⟨?_, ?_, ?_, ?_, ?_, ?_, ?_, ?_, ?_, ?_, ?_, ?_, ?_, ?_, ?_, ?_, ?_, ?_, ?_, ?_, ?_, ?_, ?_, ?_, ?_, ?_, ?_, trivial⟩ ?_
    · refine .inl ⟨by kernel_rfl, ?_⟩
      as_aux_lemma =>
        intro w2 hf
        obtain ⟨x0, x1, x2, x3, x4, x5, x6, x7, x8, x9, x10, x11, x12, x13, x14, y0, y1, y2, y3, y4, y5, y6, y7, y8, y9, y10, y11, y12, y13, y14⟩ := HSK.out w2 hf
        exact .val _ (by simp [execOp, Act.eval, x0, x1, x2, x3, x4, x5, x6, x7, x8, x9, x10, x11, x12, x13, x14, go_sem]) hf
    · refine .inl ⟨by kernel_rfl, ?_⟩
      as_aux_lemma =>
        intro w2 hf
        exact .call _ #[.agg #[.int .i64 ty, .int .i64 st, .slice A l.length c, .bool en, .bool eh, .bool ak, .int .i64 fl, .int .i64 co, .int .i64 la, .int .i64 inc, .int .i64 de, .int .i64 we, .bool wd, .bool ex, .slice PA ps.length pc]] w2 (by simp [execOp, Act.eval, go_sem]) ((inumbers _ _ _ _ _ _ _ _ _ _ _ _ _ _ _ _).mono fun e w3 h => ⟨h.1, hf.trans h.2⟩)
    · refine .inl ⟨by kernel_rfl, ?_⟩
      as_aux_lemma =>
        intro w2 hf
        obtain ⟨x0, x1, x2, x3, x4, x5, x6, x7, x8, x9, x10, x11, x12, x13, x14, y0, y1, y2, y3, y4, y5, y6, y7, y8, y9, y10, y11, y12, y13, y14⟩ := HSK.out w2 hf
        exact .val _ (by simp [execOp, Act.eval, y0, y1, y2, y3, y4, y5, y6, y7, y8, y9, y10, y11, y12, y13, y14, go_sem]) hf
    · refine .inl ⟨by kernel_rfl, ?_⟩
      as_aux_lemma =>
        intro w2 hf
        exact .call _ #[.agg #[.int .i64 ty2, .int .i64 st2, .slice A2 l2.length c2, .bool en2, .bool eh2, .bool ak2, .int .i64 fl2, .int .i64 co2, .int .i64 la2, .int .i64 inc2, .int .i64 de2, .int .i64 we2, .bool wd2, .bool ex2, .slice PA2 ps2.length pc2]] w2 (by simp [execOp, Act.eval, go_sem]) ((inumbers _ _ _ _ _ _ _ _ _ _ _ _ _ _ _ _).mono fun e w3 h => ⟨h.1, hf.trans h.2⟩)
    · refine .inl ⟨by kernel_rfl, ?_⟩
      as_aux_lemma =>
        intro w2 hf
        exact .val _ (by simp [execOp, Act.eval, binOp, Op.equal, Op.maxDepth, hN, go_sem]) hf
    · refine .inl ⟨by kernel_rfl, ?_⟩
      as_aux_lemma =>
        intro w2 hf
        exact .val _ (by simp [execOp, Act.eval, go_sem]) hf
    · exact .inr ⟨by kernel_rfl, rfl⟩
    · exact .inr ⟨by kernel_rfl, rfl⟩
    · exact .inr ⟨by kernel_rfl, rfl⟩
    · exact .inr ⟨by kernel_rfl, rfl⟩
    · exact .inr ⟨by kernel_rfl, rfl⟩
    · refine .inl ⟨by kernel_rfl, ?_⟩
      as_aux_lemma =>
        intro w2 hf
        exact .val _ (by simp [execOp, Act.eval, go_sem]) hf
    · refine .inl ⟨by kernel_rfl, ?_⟩
      as_aux_lemma =>
        intro w2 hf
        exact .val _ (by simp [execOp, Act.eval, go_sem]) hf
    · exact .inr ⟨by kernel_rfl, rfl⟩
    · exact .inr ⟨by kernel_rfl, rfl⟩
    · exact .inr ⟨by kernel_rfl, rfl⟩
    · exact .inr ⟨by kernel_rfl, rfl⟩
    · exact .inr ⟨by kernel_rfl, rfl⟩
    · refine .inl ⟨by kernel_rfl, ?_⟩
      as_aux_lemma =>
        intro w2 hf
        exact .val _ (by simp [execOp, Act.eval, go_sem]) hf
    · refine .inl ⟨by kernel_rfl, ?_⟩
      as_aux_lemma =>
        intro w2 hf
        exact .val _ (by simp [execOp, Act.eval, go_sem]) hf
    · exact .inr ⟨by kernel_rfl, rfl⟩
    · exact .inr ⟨by kernel_rfl, rfl⟩
    · exact .inr ⟨by kernel_rfl, rfl⟩
    · exact .inr ⟨by kernel_rfl, rfl⟩
    · exact .inr ⟨by kernel_rfl, rfl⟩
    · refine .inl ⟨by kernel_rfl, ?_⟩
      as_aux_lemma =>
        intro w2 hf
        exact .val _ (by simp [execOp, Act.eval, go_sem]) hf
    · refine .inl ⟨by kernel_rfl, ?_⟩
      as_aux_lemma =>
        intro w2 hf
        exact .val _ (by simp [execOp, Act.eval, go_sem]) hf
    intro w2 hf
    have HF := Lib.hid (HWF.out.trans hf)
    clear hf
    go_wp2
    go_ret
    exact ⟨by rw [← HRR.out]; rfl, HF.out⟩
  | true =>
    cases e2 with
    | false =>
      refine wp_region_vals (by kernel_rfl) (by kernel_rfl) (by kernel_rfl) (by kernel_rfl) (by kernel_rfl) (fun i => ([.agg #[.int .i64 ty, .int .i64 st, .slice A l.length c, .bool en, .bool eh, .bool ak, .int .i64 fl, .int .i64 co, .int .i64 la, .int .i64 inc, .int .i64 de, .int .i64 we, .bool wd, .bool ex, .slice PA ps.length pc], .agg #[.int .i64 ty, .int .i64 st, .int .i64 fl, .int .i64 co, .int .i64 la, .int .i64 inc, .int .i64 de, .int .i64 we], .agg #[.int .i64 ty2, .int .i64 st2, .slice A2 l2.length c2, .bool en2, .bool eh2, .bool ak2, .int .i64 fl2, .int .i64 co2, .int .i64 la2, .int .i64 inc2, .int .i64 de2, .int .i64 we2, .bool wd2, .bool ex2, .slice PA2 ps2.length pc2], .agg #[.int .i64 ty2, .int .i64 st2, .int .i64 fl2, .int .i64 co2, .int .i64 la2, .int .i64 inc2, .int .i64 de2, .int .i64 we2], .bool true, .bool true, .agg #[.int .i64 ty, .int .i64 st, .slice A l.length c, .bool en, .bool eh, .bool ak, .int .i64 fl, .int .i64 co, .int .i64 la, .int .i64 inc, .int .i64 de, .int .i64 we, .bool wd, .bool ex, .slice PA ps.length pc], .agg #[.bool en, .bool eh, .bool ak, .bool wd, .bool ex], .agg #[.int .i64 ty2, .int .i64 st2, .slice A2 l2.length c2, .bool en2, .bool eh2, .bool ak2, .int .i64 fl2, .int .i64 co2, .int .i64 la2, .int .i64 inc2, .int .i64 de2, .int .i64 we2, .bool wd2, .bool ex2, .slice PA2 ps2.length pc2], .agg #[.bool en2, .bool eh2, .bool ak2, .bool wd2, .bool ex2], .bool false, .bool false, .bool false, undef, undef, undef, undef, undef, .bool false, .bool false, undef, undef, undef, undef, undef, .bool false, .bool false] : List Value).getD i undef) { tmps := #[.agg #[.int .i64 ty, .int .i64 st, .slice A l.length c, .bool en, .bool eh, .bool ak, .int .i64 fl, .int .i64 co, .int .i64 la, .int .i64 inc, .int .i64 de, .int .i64 we, .bool wd, .bool ex, .slice PA ps.length pc], .agg #[.int .i64 ty2, .int .i64 st2, .slice A2 l2.length c2, .bool en2, .bool eh2, .bool ak2, .int .i64 fl2, .int .i64 co2, .int .i64 la2, .int .i64 inc2, .int .i64 de2, .int .i64 we2, .bool wd2, .bool ex2, .slice PA2 ps2.length pc2], .pointer (some ⟨b, 0, none⟩), .pointer (some ⟨(b + 1), 0, none⟩), .bool false, .agg #[.int .i64 ty, .int .i64 st, .slice A l.length c, .bool en, .bool eh, .bool ak, .int .i64 fl, .int .i64 co, .int .i64 la, .int .i64 inc, .int .i64 de, .int .i64 we, .bool wd, .bool ex, .slice PA ps.length pc], .agg #[.int .i64 ty, .int .i64 st, .int .i64 fl, .int .i64 co, .int .i64 la, .int .i64 inc, .int .i64 de, .int .i64 we], .agg #[.int .i64 ty2, .int .i64 st2, .slice A2 l2.length c2, .bool en2, .bool eh2, .bool ak2, .int .i64 fl2, .int .i64 co2, .int .i64 la2, .int .i64 inc2, .int .i64 de2, .int .i64 we2, .bool wd2, .bool ex2, .slice PA2 ps2.length pc2], .agg #[.int .i64 ty2, .int .i64 st2, .int .i64 fl2, .int .i64 co2, .int .i64 la2, .int .i64 inc2, .int .i64 de2, .int .i64 we2], .bool true, .bool true, .agg #[.int .i64 ty, .int .i64 st, .slice A l.length c, .bool en, .bool eh, .bool ak, .int .i64 fl, .int .i64 co, .int .i64 la, .int .i64 inc, .int .i64 de, .int .i64 we, .bool wd, .bool ex, .slice PA ps.length pc], .agg #[.bool en, .bool eh, .bool ak, .bool wd, .bool ex], .agg #[.int .i64 ty2, .int .i64 st2, .slice A2 l2.length c2, .bool en2, .bool eh2, .bool ak2, .int .i64 fl2, .int .i64 co2, .int .i64 la2, .int .i64 inc2, .int .i64 de2, .int .i64 we2, .bool wd2, .bool ex2, .slice PA2 ps2.length pc2], .agg #[.bool en2, .bool eh2, .bool ak2, .bool wd2, .bool ex2], .bool false, .bool false, .bool false, undef, undef, undef, undef, undef, .bool false, .bool false, undef, undef, undef, undef, undef, .bool false], defers := [] } (by kernel_rfl) (fun w2 => Fresh W w2) (Fresh.drew W) ⟨?_, ?_, ?_, ?_, ?_, ?_, ?_, ?_, ?_, ?_, ?_, ?_, ?_, ?_, ?_, ?_, ?_, ?_, ?_, ?_, ?_, ?_, ?_, ?_, ?_, ?_, ?_, trivial⟩ ?_
      · refine .inl ⟨by kernel_rfl, ?_⟩
        as_aux_lemma =>
          intro w2 hf
          obtain ⟨x0, x1, x2, x3, x4, x5, x6, x7, x8, x9, x10, x11, x12, x13, x14, y0, y1, y2, y3, y4, y5, y6, y7, y8, y9, y10, y11, y12, y13, y14⟩ := HSK.out w2 hf
          exact .val _ (by simp [execOp, Act.eval, x0, x1, x2, x3, x4, x5, x6, x7, x8, x9, x10, x11, x12, x13, x14, go_sem]) hf
      · refine .inl ⟨by kernel_rfl, ?_⟩
        as_aux_lemma =>
          intro w2 hf
          exact .call _ #[.agg #[.int .i64 ty, .int .i64 st, .slice A l.length c, .bool en, .bool eh, .bool ak, .int .i64 fl, .int .i64 co, .int .i64 la, .int .i64 inc, .int .i64 de, .int .i64 we, .bool wd, .bool ex, .slice PA ps.length pc]] w2 (by simp [execOp, Act.eval, go_sem]) ((inumbers _ _ _ _ _ _ _ _ _ _ _ _ _ _ _ _).mono fun e w3 h => ⟨h.1, hf.trans h.2⟩)
      · refine .inl ⟨by kernel_rfl, ?_⟩
        as_aux_lemma =>
          intro w2 hf
          obtain ⟨x0, x1, x2, x3, x4, x5, x6, x7, x8, x9, x10, x11, x12, x13, x14, y0, y1, y2, y3, y4, y5, y6, y7, y8, y9, y10, y11, y12, y13, y14⟩ := HSK.out w2 hf
          exact .val _ (by simp [execOp, Act.eval, y0, y1, y2, y3, y4, y5, y6, y7, y8, y9, y10, y11, y12, y13, y14, go_sem]) hf
      · refine .inl ⟨by kernel_rfl, ?_⟩
        as_aux_lemma =>
          intro w2 hf
          exact .call _ #[.agg #[.int .i64 ty2, .int .i64 st2, .slice A2 l2.length c2, .bool en2, .bool eh2, .bool ak2, .int .i64 fl2, .int .i64 co2, .int .i64 la2, .int .i64 inc2, .int .i64 de2, .int .i64 we2, .bool wd2, .bool ex2, .slice PA2 ps2.length pc2]] w2 (by simp [execOp, Act.eval, go_sem]) ((inumbers _ _ _ _ _ _ _ _ _ _ _ _ _ _ _ _).mono fun e w3 h => ⟨h.1, hf.trans h.2⟩)
      · refine .inl ⟨by kernel_rfl, ?_⟩
        as_aux_lemma =>
          intro w2 hf
          exact .val _ (by simp [execOp, Act.eval, binOp, Op.equal, Op.maxDepth, hN, go_sem]) hf
      · refine .inl ⟨by kernel_rfl, ?_⟩
        as_aux_lemma =>
          intro w2 hf
          exact .val _ (by simp [execOp, Act.eval, go_sem]) hf
      · refine .inl ⟨by kernel_rfl, ?_⟩
        as_aux_lemma =>
          intro w2 hf
          obtain ⟨x0, x1, x2, x3, x4, x5, x6, x7, x8, x9, x10, x11, x12, x13, x14, y0, y1, y2, y3, y4, y5, y6, y7, y8, y9, y10, y11, y12, y13, y14⟩ := HSK.out w2 hf
          exact .val _ (by simp [execOp, Act.eval, x0, x1, x2, x3, x4, x5, x6, x7, x8, x9, x10, x11, x12, x13, x14, go_sem]) hf
      · refine .inl ⟨by kernel_rfl, ?_⟩
        as_aux_lemma =>
          intro w2 hf
          exact .call _ #[.agg #[.int .i64 ty, .int .i64 st, .slice A l.length c, .bool en, .bool eh, .bool ak, .int .i64 fl, .int .i64 co, .int .i64 la, .int .i64 inc, .int .i64 de, .int .i64 we, .bool wd, .bool ex, .slice PA ps.length pc]] w2 (by simp [execOp, Act.eval, go_sem]) ((imarks _ _ _ _ _ _ _ _ _ _ _ _ _ _ _ _).mono fun e w3 h => ⟨h.1, hf.trans h.2⟩)
      · refine .inl ⟨by kernel_rfl, ?_⟩
        as_aux_lemma =>
          intro w2 hf
          obtain ⟨x0, x1, x2, x3, x4, x5, x6, x7, x8, x9, x10, x11, x12, x13, x14, y0, y1, y2, y3, y4, y5, y6, y7, y8, y9, y10, y11, y12, y13, y14⟩ := HSK.out w2 hf
          exact .val _ (by simp [execOp, Act.eval, y0, y1, y2, y3, y4, y5, y6, y7, y8, y9, y10, y11, y12, y13, y14, go_sem]) hf
      · refine .inl ⟨by kernel_rfl, ?_⟩
        as_aux_lemma =>
          intro w2 hf
          exact .call _ #[.agg #[.int .i64 ty2, .int .i64 st2, .slice A2 l2.length c2, .bool en2, .bool eh2, .bool ak2, .int .i64 fl2, .int .i64 co2, .int .i64 la2, .int .i64 inc2, .int .i64 de2, .int .i64 we2, .bool wd2, .bool ex2, .slice PA2 ps2.length pc2]] w2 (by simp [execOp, Act.eval, go_sem]) ((imarks _ _ _ _ _ _ _ _ _ _ _ _ _ _ _ _).mono fun e w3 h => ⟨h.1, hf.trans h.2⟩)
      · refine .inl ⟨by kernel_rfl, ?_⟩
        as_aux_lemma =>
          intro w2 hf
          exact .val _ (by simp [execOp, Act.eval, binOp, Op.equal, Op.maxDepth, hM, go_sem]) hf
      · refine .inl ⟨by kernel_rfl, ?_⟩
        as_aux_lemma =>
          intro w2 hf
          exact .val _ (by simp [execOp, Act.eval, go_sem]) hf
      · refine .inl ⟨by kernel_rfl, ?_⟩
        as_aux_lemma =>
          intro w2 hf
          exact .val _ (by simp [execOp, Act.eval, go_sem]) hf
      · exact .inr ⟨by kernel_rfl, rfl⟩
      · exact .inr ⟨by kernel_rfl, rfl⟩
      · exact .inr ⟨by kernel_rfl, rfl⟩
      · exact .inr ⟨by kernel_rfl, rfl⟩
      · exact .inr ⟨by kernel_rfl, rfl⟩
      · refine .inl ⟨by kernel_rfl, ?_⟩
        as_aux_lemma =>
          intro w2 hf
          exact .val _ (by simp [execOp, Act.eval, go_sem]) hf
      · refine .inl ⟨by kernel_rfl, ?_⟩
        as_aux_lemma =>
          intro w2 hf
          exact .val _ (by simp [execOp, Act.eval, go_sem]) hf
      · exact .inr ⟨by kernel_rfl, rfl⟩
      · exact .inr ⟨by kernel_rfl, rfl⟩
      · exact .inr ⟨by kernel_rfl, rfl⟩
      · exact .inr ⟨by kernel_rfl, rfl⟩
      · exact .inr ⟨by kernel_rfl, rfl⟩
      · refine .inl ⟨by kernel_rfl, ?_⟩
        as_aux_lemma =>
          intro w2 hf
          exact .val _ (by simp [execOp, Act.eval, go_sem]) hf
      · refine .inl ⟨by kernel_rfl, ?_⟩
        as_aux_lemma =>
          intro w2 hf
          exact .val _ (by simp [execOp, Act.eval, go_sem]) hf
      intro w2 hf
      have HF := Lib.hid (HWF.out.trans hf)
      clear hf
      go_wp2
      go_ret
      exact ⟨by rw [← HRR.out]; rfl, HF.out⟩
    | true =>
      cases e3 with
      | false =>
        refine wp_region_vals (by kernel_rfl) (by kernel_rfl) (by kernel_rfl) (by kernel_rfl) (by kernel_rfl) (fun i => ([.agg #[.int .i64 ty, .int .i64 st, .slice A l.length c, .bool en, .bool eh, .bool ak, .int .i64 fl, .int .i64 co, .int .i64 la, .int .i64 inc, .int .i64 de, .int .i64 we, .bool wd, .bool ex, .slice PA ps.length pc], .agg #[.int .i64 ty, .int .i64 st, .int .i64 fl, .int .i64 co, .int .i64 la, .int .i64 inc, .int .i64 de, .int .i64 we], .agg #[.int .i64 ty2, .int .i64 st2, .slice A2 l2.length c2, .bool en2, .bool eh2, .bool ak2, .int .i64 fl2, .int .i64 co2, .int .i64 la2, .int .i64 inc2, .int .i64 de2, .int .i64 we2, .bool wd2, .bool ex2, .slice PA2 ps2.length pc2], .agg #[.int .i64 ty2, .int .i64 st2, .int .i64 fl2, .int .i64 co2, .int .i64 la2, .int .i64 inc2, .int .i64 de2, .int .i64 we2], .bool true, .bool true, .agg #[.int .i64 ty, .int .i64 st, .slice A l.length c, .bool en, .bool eh, .bool ak, .int .i64 fl, .int .i64 co, .int .i64 la, .int .i64 inc, .int .i64 de, .int .i64 we, .bool wd, .bool ex, .slice PA ps.length pc], .agg #[.bool en, .bool eh, .bool ak, .bool wd, .bool ex], .agg #[.int .i64 ty2, .int .i64 st2, .slice A2 l2.length c2, .bool en2, .bool eh2, .bool ak2, .int .i64 fl2, .int .i64 co2, .int .i64 la2, .int .i64 inc2, .int .i64 de2, .int .i64 we2, .bool wd2, .bool ex2, .slice PA2 ps2.length pc2], .agg #[.bool en2, .bool eh2, .bool ak2, .bool wd2, .bool ex2], .bool true, .bool true, .bool true, .pointer (some ⟨b, 2, none⟩), .slice A l.length c, .pointer (some ⟨(b + 1), 2, none⟩), .slice A2 l2.length c2, .bool false, .bool false, .bool false, undef, undef, undef, undef, undef, .bool false, .bool false] : List Value).getD i undef) { tmps := #[.agg #[.int .i64 ty, .int .i64 st, .slice A l.length c, .bool en, .bool eh, .bool ak, .int .i64 fl, .int .i64 co, .int .i64 la, .int .i64 inc, .int .i64 de, .int .i64 we, .bool wd, .bool ex, .slice PA ps.length pc], .agg #[.int .i64 ty2, .int .i64 st2, .slice A2 l2.length c2, .bool en2, .bool eh2, .bool ak2, .int .i64 fl2, .int .i64 co2, .int .i64 la2, .int .i64 inc2, .int .i64 de2, .int .i64 we2, .bool wd2, .bool ex2, .slice PA2 ps2.length pc2], .pointer (some ⟨b, 0, none⟩), .pointer (some ⟨(b + 1), 0, none⟩), .bool false, .agg #[.int .i64 ty, .int .i64 st, .slice A l.length c, .bool en, .bool eh, .bool ak, .int .i64 fl, .int .i64 co, .int .i64 la, .int .i64 inc, .int .i64 de, .int .i64 we, .bool wd, .bool ex, .slice PA ps.length pc], .agg #[.int .i64 ty, .int .i64 st, .int .i64 fl, .int .i64 co, .int .i64 la, .int .i64 inc, .int .i64 de, .int .i64 we], .agg #[.int .i64 ty2, .int .i64 st2, .slice A2 l2.length c2, .bool en2, .bool eh2, .bool ak2, .int .i64 fl2, .int .i64 co2, .int .i64 la2, .int .i64 inc2, .int .i64 de2, .int .i64 we2, .bool wd2, .bool ex2, .slice PA2 ps2.length pc2], .agg #[.int .i64 ty2, .int .i64 st2, .int .i64 fl2, .int .i64 co2, .int .i64 la2, .int .i64 inc2, .int .i64 de2, .int .i64 we2], .bool true, .bool true, .agg #[.int .i64 ty, .int .i64 st, .slice A l.length c, .bool en, .bool eh, .bool ak, .int .i64 fl, .int .i64 co, .int .i64 la, .int .i64 inc, .int .i64 de, .int .i64 we, .bool wd, .bool ex, .slice PA ps.length pc], .agg #[.bool en, .bool eh, .bool ak, .bool wd, .bool ex], .agg #[.int .i64 ty2, .int .i64 st2, .slice A2 l2.length c2, .bool en2, .bool eh2, .bool ak2, .int .i64 fl2, .int .i64 co2, .int .i64 la2, .int .i64 inc2, .int .i64 de2, .int .i64 we2, .bool wd2, .bool ex2, .slice PA2 ps2.length pc2], .agg #[.bool en2, .bool eh2, .bool ak2, .bool wd2, .bool ex2], .bool true, .bool true, .bool true, .pointer (some ⟨b, 2, none⟩), .slice A l.length c, .pointer (some ⟨(b + 1), 2, none⟩), .slice A2 l2.length c2, .bool false, .bool false, .bool false, undef, undef, undef, undef, undef, .bool false], defers := [] } (by kernel_rfl) (fun w2 => Fresh W w2) (Fresh.drew W) ⟨?_, ?_, ?_, ?_, ?_, ?_, ?_, ?_, ?_, ?_, ?_, ?_, ?_, ?_, ?_, ?_, ?_, ?_, ?_, ?_, ?_, ?_, ?_, ?_, ?_, ?_, ?_, trivial⟩ ?_
        · refine .inl ⟨by kernel_rfl, ?_⟩
          as_aux_lemma =>
            intro w2 hf
            obtain ⟨x0, x1, x2, x3, x4, x5, x6, x7, x8, x9, x10, x11, x12, x13, x14, y0, y1, y2, y3, y4, y5, y6, y7, y8, y9, y10, y11, y12, y13, y14⟩ := HSK.out w2 hf
            exact .val _ (by simp [execOp, Act.eval, x0, x1, x2, x3, x4, x5, x6, x7, x8, x9, x10, x11, x12, x13, x14, go_sem]) hf
        · refine .inl ⟨by kernel_rfl, ?_⟩
          as_aux_lemma =>
            intro w2 hf
            exact .call _ #[.agg #[.int .i64 ty, .int .i64 st, .slice A l.length c, .bool en, .bool eh, .bool ak, .int .i64 fl, .int .i64 co, .int .i64 la, .int .i64 inc, .int .i64 de, .int .i64 we, .bool wd, .bool ex, .slice PA ps.length pc]] w2 (by simp [execOp, Act.eval, go_sem]) ((inumbers _ _ _ _ _ _ _ _ _ _ _ _ _ _ _ _).mono fun e w3 h => ⟨h.1, hf.trans h.2⟩)
        · refine .inl ⟨by kernel_rfl, ?_⟩
          as_aux_lemma =>
            intro w2 hf
            obtain ⟨x0, x1, x2, x3, x4, x5, x6, x7, x8, x9, x10, x11, x12, x13, x14, y0, y1, y2, y3, y4, y5, y6, y7, y8, y9, y10, y11, y12, y13, y14⟩ := HSK.out w2 hf
            exact .val _ (by simp [execOp, Act.eval, y0, y1, y2, y3, y4, y5, y6, y7, y8, y9, y10, y11, y12, y13, y14, go_sem]) hf
        · refine .inl ⟨by kernel_rfl, ?_⟩
          as_aux_lemma =>
            intro w2 hf
            exact .call _ #[.agg #[.int .i64 ty2, .int .i64 st2, .slice A2 l2.length c2, .bool en2, .bool eh2, .bool ak2, .int .i64 fl2, .int .i64 co2, .int .i64 la2, .int .i64 inc2, .int .i64 de2, .int .i64 we2, .bool wd2, .bool ex2, .slice PA2 ps2.length pc2]] w2 (by simp [execOp, Act.eval, go_sem]) ((inumbers _ _ _ _ _ _ _ _ _ _ _ _ _ _ _ _).mono fun e w3 h => ⟨h.1, hf.trans h.2⟩)
        · refine .inl ⟨by kernel_rfl, ?_⟩
          as_aux_lemma =>
            intro w2 hf
            exact .val _ (by simp [execOp, Act.eval, binOp, Op.equal, Op.maxDepth, hN, go_sem]) hf
        · refine .inl ⟨by kernel_rfl, ?_⟩
          as_aux_lemma =>
            intro w2 hf
            exact .val _ (by simp [execOp, Act.eval, go_sem]) hf
        · refine .inl ⟨by kernel_rfl, ?_⟩
          as_aux_lemma =>
            intro w2 hf
            obtain ⟨x0, x1, x2, x3, x4, x5, x6, x7, x8, x9, x10, x11, x12, x13, x14, y0, y1, y2, y3, y4, y5, y6, y7, y8, y9, y10, y11, y12, y13, y14⟩ := HSK.out w2 hf
            exact .val _ (by simp [execOp, Act.eval, x0, x1, x2, x3, x4, x5, x6, x7, x8, x9, x10, x11, x12, x13, x14, go_sem]) hf
        · refine .inl ⟨by kernel_rfl, ?_⟩
          as_aux_lemma =>
            intro w2 hf
            exact .call _ #[.agg #[.int .i64 ty, .int .i64 st, .slice A l.length c, .bool en, .bool eh, .bool ak, .int .i64 fl, .int .i64 co, .int .i64 la, .int .i64 inc, .int .i64 de, .int .i64 we, .bool wd, .bool ex, .slice PA ps.length pc]] w2 (by simp [execOp, Act.eval, go_sem]) ((imarks _ _ _ _ _ _ _ _ _ _ _ _ _ _ _ _).mono fun e w3 h => ⟨h.1, hf.trans h.2⟩)
        · refine .inl ⟨by kernel_rfl, ?_⟩
          as_aux_lemma =>
            intro w2 hf
            obtain ⟨x0, x1, x2, x3, x4, x5, x6, x7, x8, x9, x10, x11, x12, x13, x14, y0, y1, y2, y3, y4, y5, y6, y7, y8, y9, y10, y11, y12, y13, y14⟩ := HSK.out w2 hf
            exact .val _ (by simp [execOp, Act.eval, y0, y1, y2, y3, y4, y5, y6, y7, y8, y9, y10, y11, y12, y13, y14, go_sem]) hf
        · refine .inl ⟨by kernel_rfl, ?_⟩
          as_aux_lemma =>
            intro w2 hf
            exact .call _ #[.agg #[.int .i64 ty2, .int .i64 st2, .slice A2 l2.length c2, .bool en2, .bool eh2, .bool ak2, .int .i64 fl2, .int .i64 co2, .int .i64 la2, .int .i64 inc2, .int .i64 de2, .int .i64 we2, .bool wd2, .bool ex2, .slice PA2 ps2.length pc2]] w2 (by simp [execOp, Act.eval, go_sem]) ((imarks _ _ _ _ _ _ _ _ _ _ _ _ _ _ _ _).mono fun e w3 h => ⟨h.1, hf.trans h.2⟩)
        · refine .inl ⟨by kernel_rfl, ?_⟩
          as_aux_lemma =>
            intro w2 hf
            exact .val _ (by simp [execOp, Act.eval, binOp, Op.equal, Op.maxDepth, hM, go_sem]) hf
        · refine .inl ⟨by kernel_rfl, ?_⟩
          as_aux_lemma =>
            intro w2 hf
            exact .val _ (by simp [execOp, Act.eval, go_sem]) hf
        · refine .inl ⟨by kernel_rfl, ?_⟩
          as_aux_lemma =>
            intro w2 hf
            exact .val _ (by simp [execOp, Act.eval, go_sem]) hf
        · refine .inl ⟨by kernel_rfl, ?_⟩
          as_aux_lemma =>
            intro w2 hf
            exact .val _ (by simp [execOp, Act.eval, go_sem]) hf
        · refine .inl ⟨by kernel_rfl, ?_⟩
          as_aux_lemma =>
            intro w2 hf
            obtain ⟨x0, x1, x2, x3, x4, x5, x6, x7, x8, x9, x10, x11, x12, x13, x14, y0, y1, y2, y3, y4, y5, y6, y7, y8, y9, y10, y11, y12, y13, y14⟩ := HSK.out w2 hf
            exact .val _ (by simp [execOp, Act.eval, x2, go_sem]) hf
        · refine .inl ⟨by kernel_rfl, ?_⟩
          as_aux_lemma =>
            intro w2 hf
            exact .val _ (by simp [execOp, Act.eval, go_sem]) hf
        · refine .inl ⟨by kernel_rfl, ?_⟩
          as_aux_lemma =>
            intro w2 hf
            obtain ⟨x0, x1, x2, x3, x4, x5, x6, x7, x8, x9, x10, x11, x12, x13, x14, y0, y1, y2, y3, y4, y5, y6, y7, y8, y9, y10, y11, y12, y13, y14⟩ := HSK.out w2 hf
            exact .val _ (by simp [execOp, Act.eval, y2, go_sem]) hf
        · refine .inl ⟨by kernel_rfl, ?_⟩
          as_aux_lemma =>
            intro w2 hf
            exact .call _ _ w2 (by simp [execOp, Act.eval, go_sem]) ((HBE.out w2 hf).mono fun e w3 h => ⟨h.1, by rw [← h.2]; exact hf⟩)
        · refine .inl ⟨by kernel_rfl, ?_⟩
          as_aux_lemma =>
            intro w2 hf
            exact .val _ (by simp [execOp, Act.eval, go_sem]) hf
        · refine .inl ⟨by kernel_rfl, ?_⟩
          as_aux_lemma =>
            intro w2 hf
            exact .val _ (by simp [execOp, Act.eval, go_sem]) hf
        · exact .inr ⟨by kernel_rfl, rfl⟩
        · exact .inr ⟨by kernel_rfl, rfl⟩
        · exact .inr ⟨by kernel_rfl, rfl⟩
        · exact .inr ⟨by kernel_rfl, rfl⟩
        · exact .inr ⟨by kernel_rfl, rfl⟩
        · refine .inl ⟨by kernel_rfl, ?_⟩
          as_aux_lemma =>
            intro w2 hf
            exact .val _ (by simp [execOp, Act.eval, go_sem]) hf
        · refine .inl ⟨by kernel_rfl, ?_⟩
          as_aux_lemma =>
            intro w2 hf
            exact .val _ (by simp [execOp, Act.eval, go_sem]) hf
        intro w2 hf
        have HF := Lib.hid (HWF.out.trans hf)
        clear hf
        go_wp2
        go_ret
        exact ⟨by rw [← HRR.out]; rfl, HF.out⟩
      | true =>
        refine wp_region_vals (by kernel_rfl) (by kernel_rfl) (by kernel_rfl) (by kernel_rfl) (by kernel_rfl) (fun i => ([.agg #[.int .i64 ty, .int .i64 st, .slice A l.length c, .bool en, .bool eh, .bool ak, .int .i64 fl, .int .i64 co, .int .i64 la, .int .i64 inc, .int .i64 de, .int .i64 we, .bool wd, .bool ex, .slice PA ps.length pc], .agg #[.int .i64 ty, .int .i64 st, .int .i64 fl, .int .i64 co, .int .i64 la, .int .i64 inc, .int .i64 de, .int .i64 we], .agg #[.int .i64 ty2, .int .i64 st2, .slice A2 l2.length c2, .bool en2, .bool eh2, .bool ak2, .int .i64 fl2, .int .i64 co2, .int .i64 la2, .int .i64 inc2, .int .i64 de2, .int .i64 we2, .bool wd2, .bool ex2, .slice PA2 ps2.length pc2], .agg #[.int .i64 ty2, .int .i64 st2, .int .i64 fl2, .int .i64 co2, .int .i64 la2, .int .i64 inc2, .int .i64 de2, .int .i64 we2], .bool true, .bool true, .agg #[.int .i64 ty, .int .i64 st, .slice A l.length c, .bool en, .bool eh, .bool ak, .int .i64 fl, .int .i64 co, .int .i64 la, .int .i64 inc, .int .i64 de, .int .i64 we, .bool wd, .bool ex, .slice PA ps.length pc], .agg #[.bool en, .bool eh, .bool ak, .bool wd, .bool ex], .agg #[.int .i64 ty2, .int .i64 st2, .slice A2 l2.length c2, .bool en2, .bool eh2, .bool ak2, .int .i64 fl2, .int .i64 co2, .int .i64 la2, .int .i64 inc2, .int .i64 de2, .int .i64 we2, .bool wd2, .bool ex2, .slice PA2 ps2.length pc2], .agg #[.bool en2, .bool eh2, .bool ak2, .bool wd2, .bool ex2], .bool true, .bool true, .bool true, .pointer (some ⟨b, 2, none⟩), .slice A l.length c, .pointer (some ⟨(b + 1), 2, none⟩), .slice A2 l2.length c2, .bool true, .bool true, .bool true, .pointer (some ⟨b, 14, none⟩), .slice PA ps.length pc, .pointer (some ⟨(b + 1), 14, none⟩), .slice PA2 ps2.length pc2, .bool e4, .bool e4, .bool e4] : List Value).getD i undef) { tmps := #[.agg #[.int .i64 ty, .int .i64 st, .slice A l.length c, .bool en, .bool eh, .bool ak, .int .i64 fl, .int .i64 co, .int .i64 la, .int .i64 inc, .int .i64 de, .int .i64 we, .bool wd, .bool ex, .slice PA ps.length pc], .agg #[.int .i64 ty2, .int .i64 st2, .slice A2 l2.length c2, .bool en2, .bool eh2, .bool ak2, .int .i64 fl2, .int .i64 co2, .int .i64 la2, .int .i64 inc2, .int .i64 de2, .int .i64 we2, .bool wd2, .bool ex2, .slice PA2 ps2.length pc2], .pointer (some ⟨b, 0, none⟩), .pointer (some ⟨(b + 1), 0, none⟩), .bool e4, .agg #[.int .i64 ty, .int .i64 st, .slice A l.length c, .bool en, .bool eh, .bool ak, .int .i64 fl, .int .i64 co, .int .i64 la, .int .i64 inc, .int .i64 de, .int .i64 we, .bool wd, .bool ex, .slice PA ps.length pc], .agg #[.int .i64 ty, .int .i64 st, .int .i64 fl, .int .i64 co, .int .i64 la, .int .i64 inc, .int .i64 de, .int .i64 we], .agg #[.int .i64 ty2, .int .i64 st2, .slice A2 l2.length c2, .bool en2, .bool eh2, .bool ak2, .int .i64 fl2, .int .i64 co2, .int .i64 la2, .int .i64 inc2, .int .i64 de2, .int .i64 we2, .bool wd2, .bool ex2, .slice PA2 ps2.length pc2], .agg #[.int .i64 ty2, .int .i64 st2, .int .i64 fl2, .int .i64 co2, .int .i64 la2, .int .i64 inc2, .int .i64 de2, .int .i64 we2], .bool true, .bool true, .agg #[.int .i64 ty, .int .i64 st, .slice A l.length c, .bool en, .bool eh, .bool ak, .int .i64 fl, .int .i64 co, .int .i64 la, .int .i64 inc, .int .i64 de, .int .i64 we, .bool wd, .bool ex, .slice PA ps.length pc], .agg #[.bool en, .bool eh, .bool ak, .bool wd, .bool ex], .agg #[.int .i64 ty2, .int .i64 st2, .slice A2 l2.length c2, .bool en2, .bool eh2, .bool ak2, .int .i64 fl2, .int .i64 co2, .int .i64 la2, .int .i64 inc2, .int .i64 de2, .int .i64 we2, .bool wd2, .bool ex2, .slice PA2 ps2.length pc2], .agg #[.bool en2, .bool eh2, .bool ak2, .bool wd2, .bool ex2], .bool true, .bool true, .bool true, .pointer (some ⟨b, 2, none⟩), .slice A l.length c, .pointer (some ⟨(b + 1), 2, none⟩), .slice A2 l2.length c2, .bool true, .bool true, .bool true, .pointer (some ⟨b, 14, none⟩), .slice PA ps.length pc, .pointer (some ⟨(b + 1), 14, none⟩), .slice PA2 ps2.length pc2, .bool e4, .bool e4], defers := [] } (by kernel_rfl) (fun w2 => Fresh W w2) (Fresh.drew W) ⟨?_, ?_, ?_, ?_, ?_, ?_, ?_, ?_, ?_, ?_, ?_, ?_, ?_, ?_, ?_, ?_, ?_, ?_, ?_, ?_, ?_, ?_, ?_, ?_, ?_, ?_, ?_, trivial⟩ ?_
        · refine .inl ⟨by kernel_rfl, ?_⟩
          as_aux_lemma =>
            intro w2 hf
            obtain ⟨x0, x1, x2, x3, x4, x5, x6, x7, x8, x9, x10, x11, x12, x13, x14, y0, y1, y2, y3, y4, y5, y6, y7, y8, y9, y10, y11, y12, y13, y14⟩ := HSK.out w2 hf
            exact .val _ (by simp [execOp, Act.eval, x0, x1, x2, x3, x4, x5, x6, x7, x8, x9, x10, x11, x12, x13, x14, go_sem]) hf
        · refine .inl ⟨by kernel_rfl, ?_⟩
          as_aux_lemma =>
            intro w2 hf
            exact .call _ #[.agg #[.int .i64 ty, .int .i64 st, .slice A l.length c, .bool en, .bool eh, .bool ak, .int .i64 fl, .int .i64 co, .int .i64 la, .int .i64 inc, .int .i64 de, .int .i64 we, .bool wd, .bool ex, .slice PA ps.length pc]] w2 (by simp [execOp, Act.eval, go_sem]) ((inumbers _ _ _ _ _ _ _ _ _ _ _ _ _ _ _ _).mono fun e w3 h => ⟨h.1, hf.trans h.2⟩)
        · refine .inl ⟨by kernel_rfl, ?_⟩
          as_aux_lemma =>
            intro w2 hf
            obtain ⟨x0, x1, x2, x3, x4, x5, x6, x7, x8, x9, x10, x11, x12, x13, x14, y0, y1, y2, y3, y4, y5, y6, y7, y8, y9, y10, y11, y12, y13, y14⟩ := HSK.out w2 hf
            exact .val _ (by simp [execOp, Act.eval, y0, y1, y2, y3, y4, y5, y6, y7, y8, y9, y10, y11, y12, y13, y14, go_sem]) hf
        · refine .inl ⟨by kernel_rfl, ?_⟩
          as_aux_lemma =>
            intro w2 hf
            exact .call _ #[.agg #[.int .i64 ty2, .int .i64 st2, .slice A2 l2.length c2, .bool en2, .bool eh2, .bool ak2, .int .i64 fl2, .int .i64 co2, .int .i64 la2, .int .i64 inc2, .int .i64 de2, .int .i64 we2, .bool wd2, .bool ex2, .slice PA2 ps2.length pc2]] w2 (by simp [execOp, Act.eval, go_sem]) ((inumbers _ _ _ _ _ _ _ _ _ _ _ _ _ _ _ _).mono fun e w3 h => ⟨h.1, hf.trans h.2⟩)
        · refine .inl ⟨by kernel_rfl, ?_⟩
          as_aux_lemma =>
            intro w2 hf
            exact .val _ (by simp [execOp, Act.eval, binOp, Op.equal, Op.maxDepth, hN, go_sem]) hf
        · refine .inl ⟨by kernel_rfl, ?_⟩
          as_aux_lemma =>
            intro w2 hf
            exact .val _ (by simp [execOp, Act.eval, go_sem]) hf
        · refine .inl ⟨by kernel_rfl, ?_⟩
          as_aux_lemma =>
            intro w2 hf
            obtain ⟨x0, x1, x2, x3, x4, x5, x6, x7, x8, x9, x10, x11, x12, x13, x14, y0, y1, y2, y3, y4, y5, y6, y7, y8, y9, y10, y11, y12, y13, y14⟩ := HSK.out w2 hf
            exact .val _ (by simp [execOp, Act.eval, x0, x1, x2, x3, x4, x5, x6, x7, x8, x9, x10, x11, x12, x13, x14, go_sem]) hf
        · refine .inl ⟨by kernel_rfl, ?_⟩
          as_aux_lemma =>
            intro w2 hf
            exact .call _ #[.agg #[.int .i64 ty, .int .i64 st, .slice A l.length c, .bool en, .bool eh, .bool ak, .int .i64 fl, .int .i64 co, .int .i64 la, .int .i64 inc, .int .i64 de, .int .i64 we, .bool wd, .bool ex, .slice PA ps.length pc]] w2 (by simp [execOp, Act.eval, go_sem]) ((imarks _ _ _ _ _ _ _ _ _ _ _ _ _ _ _ _).mono fun e w3 h => ⟨h.1, hf.trans h.2⟩)
        · refine .inl ⟨by kernel_rfl, ?_⟩
          as_aux_lemma =>
            intro w2 hf
            obtain ⟨x0, x1, x2, x3, x4, x5, x6, x7, x8, x9, x10, x11, x12, x13, x14, y0, y1, y2, y3, y4, y5, y6, y7, y8, y9, y10, y11, y12, y13, y14⟩ := HSK.out w2 hf
            exact .val _ (by simp [execOp, Act.eval, y0, y1, y2, y3, y4, y5, y6, y7, y8, y9, y10, y11, y12, y13, y14, go_sem]) hf
        · refine .inl ⟨by kernel_rfl, ?_⟩
          as_aux_lemma =>
            intro w2 hf
            exact .call _ #[.agg #[.int .i64 ty2, .int .i64 st2, .slice A2 l2.length c2, .bool en2, .bool eh2, .bool ak2, .int .i64 fl2, .int .i64 co2, .int .i64 la2, .int .i64 inc2, .int .i64 de2, .int .i64 we2, .bool wd2, .bool ex2, .slice PA2 ps2.length pc2]] w2 (by simp [execOp, Act.eval, go_sem]) ((imarks _ _ _ _ _ _ _ _ _ _ _ _ _ _ _ _).mono fun e w3 h => ⟨h.1, hf.trans h.2⟩)
        · refine .inl ⟨by kernel_rfl, ?_⟩
          as_aux_lemma =>
            intro w2 hf
            exact .val _ (by simp [execOp, Act.eval, binOp, Op.equal, Op.maxDepth, hM, go_sem]) hf
        · refine .inl ⟨by kernel_rfl, ?_⟩
          as_aux_lemma =>
            intro w2 hf
            exact .val _ (by simp [execOp, Act.eval, go_sem]) hf
        · refine .inl ⟨by kernel_rfl, ?_⟩
          as_aux_lemma =>
            intro w2 hf
            exact .val _ (by simp [execOp, Act.eval, go_sem]) hf
        · refine .inl ⟨by kernel_rfl, ?_⟩
          as_aux_lemma =>
            intro w2 hf
            exact .val _ (by simp [execOp, Act.eval, go_sem]) hf
        · refine .inl ⟨by kernel_rfl, ?_⟩
          as_aux_lemma =>
            intro w2 hf
            obtain ⟨x0, x1, x2, x3, x4, x5, x6, x7, x8, x9, x10, x11, x12, x13, x14, y0, y1, y2, y3, y4, y5, y6, y7, y8, y9, y10, y11, y12, y13, y14⟩ := HSK.out w2 hf
            exact .val _ (by simp [execOp, Act.eval, x2, go_sem]) hf
        · refine .inl ⟨by kernel_rfl, ?_⟩
          as_aux_lemma =>
            intro w2 hf
            exact .val _ (by simp [execOp, Act.eval, go_sem]) hf
        · refine .inl ⟨by kernel_rfl, ?_⟩
          as_aux_lemma =>
            intro w2 hf
            obtain ⟨x0, x1, x2, x3, x4, x5, x6, x7, x8, x9, x10, x11, x12, x13, x14, y0, y1, y2, y3, y4, y5, y6, y7, y8, y9, y10, y11, y12, y13, y14⟩ := HSK.out w2 hf
            exact .val _ (by simp [execOp, Act.eval, y2, go_sem]) hf
        · refine .inl ⟨by kernel_rfl, ?_⟩
          as_aux_lemma =>
            intro w2 hf
            exact .call _ _ w2 (by simp [execOp, Act.eval, go_sem]) ((HBE.out w2 hf).mono fun e w3 h => ⟨h.1, by rw [← h.2]; exact hf⟩)
        · refine .inl ⟨by kernel_rfl, ?_⟩
          as_aux_lemma =>
            intro w2 hf
            exact .val _ (by simp [execOp, Act.eval, go_sem]) hf
        · refine .inl ⟨by kernel_rfl, ?_⟩
          as_aux_lemma =>
            intro w2 hf
            exact .val _ (by simp [execOp, Act.eval, go_sem]) hf
        · refine .inl ⟨by kernel_rfl, ?_⟩
          as_aux_lemma =>
            intro w2 hf
            exact .val _ (by simp [execOp, Act.eval, go_sem]) hf
        · refine .inl ⟨by kernel_rfl, ?_⟩
          as_aux_lemma =>
            intro w2 hf
            obtain ⟨x0, x1, x2, x3, x4, x5, x6, x7, x8, x9, x10, x11, x12, x13, x14, y0, y1, y2, y3, y4, y5, y6, y7, y8, y9, y10, y11, y12, y13, y14⟩ := HSK.out w2 hf
            exact .val _ (by simp [execOp, Act.eval, x14, go_sem]) hf
        · refine .inl ⟨by kernel_rfl, ?_⟩
          as_aux_lemma =>
            intro w2 hf
            exact .val _ (by simp [execOp, Act.eval, go_sem]) hf
        · refine .inl ⟨by kernel_rfl, ?_⟩
          as_aux_lemma =>
            intro w2 hf
            obtain ⟨x0, x1, x2, x3, x4, x5, x6, x7, x8, x9, x10, x11, x12, x13, x14, y0, y1, y2, y3, y4, y5, y6, y7, y8, y9, y10, y11, y12, y13, y14⟩ := HSK.out w2 hf
            exact .val _ (by simp [execOp, Act.eval, y14, go_sem]) hf
        · refine .inl ⟨by kernel_rfl, ?_⟩
          as_aux_lemma =>
            intro w2 hf
            exact .call _ _ w2 (by simp [execOp, Act.eval, go_sem]) ((HSE.out w2 hf).mono fun e w3 h => ⟨h.1, hf.trans h.2⟩)
        · refine .inl ⟨by kernel_rfl, ?_⟩
          as_aux_lemma =>
            intro w2 hf
            exact .val _ (by simp [execOp, Act.eval, go_sem]) hf
        · refine .inl ⟨by kernel_rfl, ?_⟩
          as_aux_lemma =>
            intro w2 hf
            exact .val _ (by simp [execOp, Act.eval, go_sem]) hf
        intro w2 hf
        have HF := Lib.hid (HWF.out.trans hf)
        clear hf
        go_wp2
        go_ret
        exact ⟨by rw [← HRR.out]; simp, HF.out⟩
end Go.Proofs.Ytcdghmidpaeloaa
