/-
  The document's answer for layer 10: Parse, type by type: the stream.
-/
import Derived.Test.YtcdghmidpaeloaaPayU
import Derived.Test.YtcdghmidpaeloaaBlkOp
namespace Go.Proofs.Ytcdghmidpaeloaa
set_option maxRecDepth 100000
set_option linter.unusedVariables false
set_option linter.unusedSimpArgs false
open Go.RowKit
def DocP (ty st f0 : Int) (q : PR × Int × Bool) (w : World) (e : Ending) (w' : World) : Prop :=
  ∃ PA pc, e = .returned (.tuple #[.agg (dI ty st f0 (strB q.1.l) (b2i q.1.en) (b2i q.1.eh) (b2i q.1.ak) q.1.co q.1.la q.1.inc q.1.de q.1.we (b2i q.1.wd) (b2i q.1.ex) PA q.1.ps.length pc), .int .i64 q.2.1, .int .i64 (b2i q.2.2)]) ∧ q.1.ps.length ≤ pc ∧ pc ≤ maxLen ∧ Many pairC 2 w' PA q.1.ps ∧ Fresh w w'
theorem docP_bad {ty st f0 co : Int} {cn : Bool} {w W : World} (hf : Fresh w W) : DocP ty st f0 (PR0, co, cn) w (.returned (.tuple #[.agg #[.int .i64 ty, .int .i64 st, .string ByteArray.empty, .int .i64 0, .int .i64 0, .int .i64 0, .int .i64 f0, .int .i64 0, .int .i64 0, .int .i64 0, .int .i64 0, .int .i64 0, .int .i64 0, .int .i64 0, .slice none 0 0], .int .i64 co, .int .i64 (b2i cn)])) W :=
  ⟨none, 0, rfl, Nat.le_refl _, by simp [maxLen], Many.nil _ _ _ _, hf⟩
theorem docP_ok {ty st f0 : Int} {t : List UInt8} {en eh ak : Bool} {co la inc de we : Int} {wd ex : Bool} {w W : World} (hf : Fresh w W) : DocP ty st f0 (⟨t, en, eh, ak, co, la, inc, de, we, wd, ex, []⟩, 0, false) w (.returned (.tuple #[.agg #[.int .i64 ty, .int .i64 st, .string (strB t), .int .i64 (b2i en), .int .i64 (b2i eh), .int .i64 (b2i ak), .int .i64 f0, .int .i64 co, .int .i64 la, .int .i64 inc, .int .i64 de, .int .i64 we, .int .i64 (b2i wd), .int .i64 (b2i ex), .slice none 0 0], .int .i64 0, .int .i64 0])) W :=
  ⟨none, 0, rfl, Nat.le_refl _, by simp [maxLen], Many.nil _ _ _ _, hf⟩
/-- The document's three items: the result's, the bare one, the one that is laid. -/
structure DX (w W : World) (b c d : Nat) (T1 T2 : Array Value) : Prop where
  fr : Fresh w W
  hb : w.heap.size ≤ b
  bc : b < c
  cd : c < d
  b0 : Blk W b 35 #[.int .i64 0, .int .i64 0, .string ByteArray.empty, .int .i64 0, .int .i64 0, .int .i64 0, .int .i64 0, .int .i64 0, .int .i64 0, .int .i64 0, .int .i64 0, .int .i64 0, .int .i64 0, .int .i64 0, .slice none 0 0]
  b1 : Blk W c 35 T1
  b2 : Blk W d 35 T2
theorem DX.fresh {w W W' : World} {b c d : Nat} {T1 T2 : Array Value} (h : DX w W b c d T1 T2) (hf : Fresh W W') : DX w W' b c d T1 T2 := ⟨h.fr.trans hf, h.hb, h.bc, h.cd, h.b0.fresh hf, h.b1.fresh hf, h.b2.fresh hf⟩
theorem DX.set {w W : World} {b c d : Nat} {T1 T2 : Array Value} (h : DX w W b c d T1 T2) (i : Nat) (v : Value) (T : Array Value) (hT : T2.setIfInBounds i v = T) : DX w (W.setCell ⟨d, i, none⟩ v) b c d T1 T :=
  ⟨h.fr.step _ _ (by have := h.hb; have := h.bc; have := h.cd; simp only; omega), h.hb, h.bc, h.cd, h.b0.far (by have := h.bc; have := h.cd; simp only; omega) _, h.b1.far (by have := h.cd; simp only; omega) _, h.b2.set2 hT⟩
theorem DX.only {w W W' : World} {b c d : Nat} {T1 T2 T : Array Value} (h : DX w W b c d T1 T2) (ho : Only (· = d) W W') (hb : Blk W' d 35 T) : DX w W' b c d T1 T :=
  ⟨Only.fresh ((Only.of_fresh h.fr).trans ho) (fun i hi e => by have := h.hb; have := h.bc; have := h.cd; omega), h.hb, h.bc, h.cd, h.b0.only ho (by have := h.bc; have := h.cd; omega), h.b1.only ho (by have := h.cd; omega), hb⟩
theorem DX.fin {w W W' : World} {b c d : Nat} {T1 T2 : Array Value} (h : DX w W b c d T1 T2) (ho : Only (· = b) W W') : Fresh w W' := Only.fresh ((Only.of_fresh h.fr).trans ho) (fun i hi e => by have := h.hb; omega)
theorem DX.lt {w W : World} {b c d : Nat} {T1 T2 : Array Value} (h : DX w W b c d T1 T2) : d < W.heap.size := h.b2.lt
theorem prs_at {ty fl st : Int} {l : List UInt8} {k k0 : Nat} {q : PR × Int × Bool} (hk : FirstB ty fl st l k) (h : FirstB ty fl st l k0) (hq : prsF ty fl st l k0 = q) : prsF ty fl st l k = q := by rw [hk.eq h, hq]
theorem strE (l : List UInt8) (i j : Nat) : (strB l).extract i j = strB ((l.take j).drop i) := by
  apply ByteArray.ext
  simp [strB, ByteArray.data_extract]
  try rw [List.drop_take]
theorem pd_nums {n A s p r : Nat} (h0 : p + A ≤ n) (hs : n - A = s) (hn : n ≤ 300) (hr : n - p - A = r) : ((s : Int) - (p : Int) = (r : Int)) ∧ IntKind.i64.wrap (r : Int) = (r : Int) ∧ wrap64 (r : Int) = (r : Int) ∧ (r : Int) ≤ (s : Int) ∧ ¬ (s : Int) < (p : Int) ∧ r ≤ s := by
  have e4 : IntKind.i64.wrap (r : Int) = (r : Int) := IntWalk.i64_in _ (by omega)
  refine ⟨by omega, e4, ?_, by omega, by omega, by omega⟩
  rw [IntKind.wrap_i64] at e4
  unfold wrap64
  exact e4
theorem wr_nums {r : Nat} (h : r ≤ 300) : IntKind.i64.wrap (r : Int) = (r : Int) ∧ wrap64 (r : Int) = (r : Int) := by
  have e4 : IntKind.i64.wrap (r : Int) = (r : Int) := IntWalk.i64_in _ (by omega)
  refine ⟨e4, ?_⟩
  rw [IntKind.wrap_i64] at e4
  unfold wrap64
  exact e4
theorem b2i_t (b : Bool) : (b2i b == 1) = b := by cases b <;> rfl
set_option maxHeartbeats 6400000 in
theorem rp_0_st (fl st : Int) (l : List UInt8) (hl : l.length ≤ 300) (w : World) (k : Nat) (hk : FirstB 0 fl st l k) (h0 : 0 ≤ fl) (h1 : fl ≤ 255) (hst : st = 0) :
    Calls Try.prog 10 #[.int .i64 0, .int .i64 fl, .int .i64 st, .string (strB l)] w (DocP 0 st (l.length : Int) (prsF 0 fl st l k) w) := by
  have hp : prsF 0 fl st l k = (PR0, 101, true) := prs_at hk (k0 := 0) ⟨by omega, fun j hj => by omega, fun _ => by simp [lookB, srB, hst]⟩ (by simp [prsF, lkC, lkD])
  rw [hp]
  have HBAD : Hid (∀ W, Fresh w W → DocP 0 st (l.length : Int) (PR0, 101, true) w (.returned (.tuple #[.agg #[.int .i64 0, .int .i64 st, .string ByteArray.empty, .int .i64 0, .int .i64 0, .int .i64 0, .int .i64 ((l.length : Int)), .int .i64 0, .int .i64 0, .int .i64 0, .int .i64 0, .int .i64 0, .int .i64 0, .int .i64 0, .slice none 0 0], .int .i64 101, .int .i64 1])) W) := Lib.hid (fun W h => docP_bad h)
  generalize DocP 0 st (l.length : Int) (PR0, 101, true) w = PP at *
  clear hp hk
  have hz : (strB l).size = l.length := strB_size l
  generalize strB l = S at *
  generalize l.length = n at *
  subst hst
  have HI := Lib.hid (show (Try.prog.info? 35).map (·.size) = some 15 by kernel_rfl)
  have HG := Lib.hid (fun w => (show (isAgg 35).run Try.prog w = .ok true w by simp [isAgg, go_sem]))
  go_enter Try.func10, Try.ntmps10
  go_upto_region 1 with fail
  refine wp_gen (fun W => Blk W w.heap.size 35 #[.int .i64 0, .int .i64 0, .string ByteArray.empty, .int .i64 0, .int .i64 0, .int .i64 0, .int .i64 0, .int .i64 0, .int .i64 0, .int .i64 0, .int .i64 0, .int .i64 0, .int .i64 0, .int .i64 0, .slice none 0 0] ∧ Fresh w W) ⟨Blk.new _ _ _, Fresh.alloc _ _⟩ ?_
  rintro W0 ⟨hz0, hf0⟩
  obtain ⟨b, hb⟩ : ∃ b, w.heap.size = b := ⟨_, rfl⟩
  have HB := Lib.hid hb
  have HF0 := Lib.hid hf0
  rw [hb] at hz0 ⊢
  have HZ0 := Lib.hid hz0
  clear hb hf0 hz0
  go_upto_region 2 with (first | (refine wp_storeB rfl (.tmp 11) (.tmp 17) _ rfl rfl rfl (Blk.new _ _ _) HI.out rfl (by simp [Value.oneCell']) ?_) | fail)
  intro W1 hb1 ho1
  obtain ⟨c, hc⟩ : ∃ c, W0.heap.size = c := ⟨_, rfl⟩
  have HC := Lib.hid hc
  rw [hc] at hb1 ⊢
  have HF1 : Hid (Fresh W0 W1) := Lib.hid (Only.fresh ((Only.of_fresh (Fresh.alloc _ _)).trans ho1) (fun i hi e => by omega))
  have HB1 : Hid (Blk W1 c 35 #[.int .i64 0, .int .i64 0, .string ByteArray.empty, .int .i64 0, .int .i64 0, .int .i64 0, .int .i64 0, .int .i64 0, .int .i64 0, .int .i64 0, .int .i64 0, .int .i64 0, .int .i64 0, .int .i64 0, .slice none 0 0]) := Lib.hid hb1
  clear hb1 ho1 hc
  have yc := HB1.out.cell 6
  have zc := HB1.out.frozen 6
  simp at yc
  go_upto_region 4 with fail
  refine wp_gen (fun W => Blk W c 35 #[.int .i64 0, .int .i64 0, .string ByteArray.empty, .int .i64 0, .int .i64 0, .int .i64 0, .int .i64 (n : Int), .int .i64 0, .int .i64 0, .int .i64 0, .int .i64 0, .int .i64 0, .int .i64 0, .int .i64 0, .slice none 0 0] ∧ Fresh W0 W) ⟨HB1.out.set2 rfl, HF1.out.step _ _ (by have := HC.out; simp only; omega)⟩ ?_
  clear yc zc
  clear HB1 HF1
  rintro W1 ⟨hb1, hf1⟩
  have HB1 := Lib.hid hb1
  have HF1 := Lib.hid hf1
  clear hb1 hf1
  go_upto_region 5 with (first | (refine wp_loadB rfl (.tmp 11) _ rfl rfl HB1.out HI.out HG.out ?_) | (refine wp_storeB rfl (.tmp 12) (.tmp 23) _ rfl rfl rfl (Blk.new _ _ _) HI.out rfl (by simp [Value.oneCell']) ?_) | fail)
  intro W2 hb2 ho2
  obtain ⟨d, hd⟩ : ∃ d, W1.heap.size = d := ⟨_, rfl⟩
  have HD : Hid (DX w W2 b c d #[.int .i64 0, .int .i64 0, .string ByteArray.empty, .int .i64 0, .int .i64 0, .int .i64 0, .int .i64 (n : Int), .int .i64 0, .int .i64 0, .int .i64 0, .int .i64 0, .int .i64 0, .int .i64 0, .int .i64 0, .slice none 0 0] #[.int .i64 0, .int .i64 0, .string ByteArray.empty, .int .i64 0, .int .i64 0, .int .i64 0, .int .i64 (n : Int), .int .i64 0, .int .i64 0, .int .i64 0, .int .i64 0, .int .i64 0, .int .i64 0, .int .i64 0, .slice none 0 0]) := Lib.hid (by
    have hf2 : Fresh W1 W2 := Only.fresh ((Only.of_fresh (Fresh.alloc _ _)).trans ho2) (fun i hi e => by omega)
    exact ⟨HF0.out.trans (HF1.out.trans hf2), Nat.le_of_eq HB.out, by have := HZ0.out.lt; have := HC.out; omega, by have := HB1.out.lt; omega, (HZ0.out.fresh HF1.out).fresh hf2, HB1.out.fresh hf2, by rw [← hd]; exact hb2⟩)
  rw [hd]
  clear hb2 ho2 hd HF0 HF1 HZ0 HB1 HC HB
  go_wp2_with (first | (refine wp_loadB rfl (.tmp 11) _ rfl rfl HD.out.b1 HI.out HG.out ?_) | (refine wp_storeB rfl (.tmp 8) (.tmp 52) _ rfl rfl rfl HD.out.b0 HI.out rfl (by simp [Value.oneCell']) ?_) | fail)
  intro W4 hb4 ho4
  have HB4 := Lib.hid hb4
  have HX := Lib.hid (HBAD.out W4 (HD.out.fin ho4))
  clear hb4 ho4
  go_wp2
  refine bodyPost_ret (results_c2 (fn := Try.f10) rfl rfl rfl rfl HB4.out HI.out HG.out) rfl ?_
  exact HX.out
set_option maxHeartbeats 6400000 in
theorem rp_1_st (fl st : Int) (l : List UInt8) (hl : l.length ≤ 300) (w : World) (k : Nat) (hk : FirstB 1 fl st l k) (h0 : 0 ≤ fl) (h1 : fl ≤ 255) (hst : st = 0) :
    Calls Try.prog 10 #[.int .i64 1, .int .i64 fl, .int .i64 st, .string (strB l)] w (DocP 1 st 0 (prsF 1 fl st l k) w) := by
  have hp : prsF 1 fl st l k = (PR0, 101, true) := prs_at hk (k0 := 0) ⟨by omega, fun j hj => by omega, fun _ => by simp [lookB, srB, hst]⟩ (by simp [prsF, lkC, lkD])
  rw [hp]
  have HBAD : Hid (∀ W, Fresh w W → DocP 1 st 0 (PR0, 101, true) w (.returned (.tuple #[.agg #[.int .i64 1, .int .i64 st, .string ByteArray.empty, .int .i64 0, .int .i64 0, .int .i64 0, .int .i64 0, .int .i64 0, .int .i64 0, .int .i64 0, .int .i64 0, .int .i64 0, .int .i64 0, .int .i64 0, .slice none 0 0], .int .i64 101, .int .i64 1])) W) := Lib.hid (fun W h => docP_bad h)
  generalize DocP 1 st 0 (PR0, 101, true) w = PP at *
  clear hp hk
  have hz : (strB l).size = l.length := strB_size l
  generalize strB l = S at *
  generalize l.length = n at *
  subst hst
  have HI := Lib.hid (show (Try.prog.info? 35).map (·.size) = some 15 by kernel_rfl)
  have HG := Lib.hid (fun w => (show (isAgg 35).run Try.prog w = .ok true w by simp [isAgg, go_sem]))
  go_enter Try.func10, Try.ntmps10
  go_upto_region 1 with fail
  refine wp_gen (fun W => Blk W w.heap.size 35 #[.int .i64 0, .int .i64 0, .string ByteArray.empty, .int .i64 0, .int .i64 0, .int .i64 0, .int .i64 0, .int .i64 0, .int .i64 0, .int .i64 0, .int .i64 0, .int .i64 0, .int .i64 0, .int .i64 0, .slice none 0 0] ∧ Fresh w W) ⟨Blk.new _ _ _, Fresh.alloc _ _⟩ ?_
  rintro W0 ⟨hz0, hf0⟩
  obtain ⟨b, hb⟩ : ∃ b, w.heap.size = b := ⟨_, rfl⟩
  have HB := Lib.hid hb
  have HF0 := Lib.hid hf0
  rw [hb] at hz0 ⊢
  have HZ0 := Lib.hid hz0
  clear hb hf0 hz0
  go_upto_region 2 with (first | (refine wp_storeB rfl (.tmp 11) (.tmp 17) _ rfl rfl rfl (Blk.new _ _ _) HI.out rfl (by simp [Value.oneCell']) ?_) | fail)
  intro W1 hb1 ho1
  obtain ⟨c, hc⟩ : ∃ c, W0.heap.size = c := ⟨_, rfl⟩
  have HC := Lib.hid hc
  rw [hc] at hb1 ⊢
  have HF1 : Hid (Fresh W0 W1) := Lib.hid (Only.fresh ((Only.of_fresh (Fresh.alloc _ _)).trans ho1) (fun i hi e => by omega))
  have HB1 : Hid (Blk W1 c 35 #[.int .i64 1, .int .i64 0, .string ByteArray.empty, .int .i64 0, .int .i64 0, .int .i64 0, .int .i64 0, .int .i64 0, .int .i64 0, .int .i64 0, .int .i64 0, .int .i64 0, .int .i64 0, .int .i64 0, .slice none 0 0]) := Lib.hid hb1
  clear hb1 ho1 hc
  go_upto_region 5 with (first | (refine wp_loadB rfl (.tmp 11) _ rfl rfl HB1.out HI.out HG.out ?_) | (refine wp_storeB rfl (.tmp 12) (.tmp 23) _ rfl rfl rfl (Blk.new _ _ _) HI.out rfl (by simp [Value.oneCell']) ?_) | fail)
  intro W2 hb2 ho2
  obtain ⟨d, hd⟩ : ∃ d, W1.heap.size = d := ⟨_, rfl⟩
  have HD : Hid (DX w W2 b c d #[.int .i64 1, .int .i64 0, .string ByteArray.empty, .int .i64 0, .int .i64 0, .int .i64 0, .int .i64 0, .int .i64 0, .int .i64 0, .int .i64 0, .int .i64 0, .int .i64 0, .int .i64 0, .int .i64 0, .slice none 0 0] #[.int .i64 1, .int .i64 0, .string ByteArray.empty, .int .i64 0, .int .i64 0, .int .i64 0, .int .i64 0, .int .i64 0, .int .i64 0, .int .i64 0, .int .i64 0, .int .i64 0, .int .i64 0, .int .i64 0, .slice none 0 0]) := Lib.hid (by
    have hf2 : Fresh W1 W2 := Only.fresh ((Only.of_fresh (Fresh.alloc _ _)).trans ho2) (fun i hi e => by omega)
    exact ⟨HF0.out.trans (HF1.out.trans hf2), Nat.le_of_eq HB.out, by have := HZ0.out.lt; have := HC.out; omega, by have := HB1.out.lt; omega, (HZ0.out.fresh HF1.out).fresh hf2, HB1.out.fresh hf2, by rw [← hd]; exact hb2⟩)
  rw [hd]
  clear hb2 ho2 hd HF0 HF1 HZ0 HB1 HC HB
  go_wp2_with (first | (refine wp_loadB rfl (.tmp 11) _ rfl rfl HD.out.b1 HI.out HG.out ?_) | (refine wp_storeB rfl (.tmp 8) (.tmp 52) _ rfl rfl rfl HD.out.b0 HI.out rfl (by simp [Value.oneCell']) ?_) | fail)
  intro W4 hb4 ho4
  have HB4 := Lib.hid hb4
  have HX := Lib.hid (HBAD.out W4 (HD.out.fin ho4))
  clear hb4 ho4
  go_wp2
  refine bodyPost_ret (results_c2 (fn := Try.f10) rfl rfl rfl rfl HB4.out HI.out HG.out) rfl ?_
  exact HX.out
set_option maxHeartbeats 6400000 in
theorem rp_2_st (fl st : Int) (l : List UInt8) (hl : l.length ≤ 300) (w : World) (k : Nat) (hk : FirstB 2 fl st l k) (h0 : 0 ≤ fl) (h1 : fl ≤ 255) (hst : st = 0) :
    Calls Try.prog 10 #[.int .i64 2, .int .i64 fl, .int .i64 st, .string (strB l)] w (DocP 2 st 0 (prsF 2 fl st l k) w) := by
  have hp : prsF 2 fl st l k = (PR0, 101, true) := prs_at hk (k0 := 0) ⟨by omega, fun j hj => by omega, fun _ => by simp [lookB, srB, hst]⟩ (by simp [prsF, lkC, lkD])
  rw [hp]
  have HBAD : Hid (∀ W, Fresh w W → DocP 2 st 0 (PR0, 101, true) w (.returned (.tuple #[.agg #[.int .i64 2, .int .i64 st, .string ByteArray.empty, .int .i64 0, .int .i64 0, .int .i64 0, .int .i64 0, .int .i64 0, .int .i64 0, .int .i64 0, .int .i64 0, .int .i64 0, .int .i64 0, .int .i64 0, .slice none 0 0], .int .i64 101, .int .i64 1])) W) := Lib.hid (fun W h => docP_bad h)
  generalize DocP 2 st 0 (PR0, 101, true) w = PP at *
  clear hp hk
  have hz : (strB l).size = l.length := strB_size l
  generalize strB l = S at *
  generalize l.length = n at *
  subst hst
  have HI := Lib.hid (show (Try.prog.info? 35).map (·.size) = some 15 by kernel_rfl)
  have HG := Lib.hid (fun w => (show (isAgg 35).run Try.prog w = .ok true w by simp [isAgg, go_sem]))
  go_enter Try.func10, Try.ntmps10
  go_upto_region 1 with fail
  refine wp_gen (fun W => Blk W w.heap.size 35 #[.int .i64 0, .int .i64 0, .string ByteArray.empty, .int .i64 0, .int .i64 0, .int .i64 0, .int .i64 0, .int .i64 0, .int .i64 0, .int .i64 0, .int .i64 0, .int .i64 0, .int .i64 0, .int .i64 0, .slice none 0 0] ∧ Fresh w W) ⟨Blk.new _ _ _, Fresh.alloc _ _⟩ ?_
  rintro W0 ⟨hz0, hf0⟩
  obtain ⟨b, hb⟩ : ∃ b, w.heap.size = b := ⟨_, rfl⟩
  have HB := Lib.hid hb
  have HF0 := Lib.hid hf0
  rw [hb] at hz0 ⊢
  have HZ0 := Lib.hid hz0
  clear hb hf0 hz0
  go_upto_region 2 with (first | (refine wp_storeB rfl (.tmp 11) (.tmp 17) _ rfl rfl rfl (Blk.new _ _ _) HI.out rfl (by simp [Value.oneCell']) ?_) | fail)
  intro W1 hb1 ho1
  obtain ⟨c, hc⟩ : ∃ c, W0.heap.size = c := ⟨_, rfl⟩
  have HC := Lib.hid hc
  rw [hc] at hb1 ⊢
  have HF1 : Hid (Fresh W0 W1) := Lib.hid (Only.fresh ((Only.of_fresh (Fresh.alloc _ _)).trans ho1) (fun i hi e => by omega))
  have HB1 : Hid (Blk W1 c 35 #[.int .i64 2, .int .i64 0, .string ByteArray.empty, .int .i64 0, .int .i64 0, .int .i64 0, .int .i64 0, .int .i64 0, .int .i64 0, .int .i64 0, .int .i64 0, .int .i64 0, .int .i64 0, .int .i64 0, .slice none 0 0]) := Lib.hid hb1
  clear hb1 ho1 hc
  go_upto_region 5 with (first | (refine wp_loadB rfl (.tmp 11) _ rfl rfl HB1.out HI.out HG.out ?_) | (refine wp_storeB rfl (.tmp 12) (.tmp 23) _ rfl rfl rfl (Blk.new _ _ _) HI.out rfl (by simp [Value.oneCell']) ?_) | fail)
  intro W2 hb2 ho2
  obtain ⟨d, hd⟩ : ∃ d, W1.heap.size = d := ⟨_, rfl⟩
  have HD : Hid (DX w W2 b c d #[.int .i64 2, .int .i64 0, .string ByteArray.empty, .int .i64 0, .int .i64 0, .int .i64 0, .int .i64 0, .int .i64 0, .int .i64 0, .int .i64 0, .int .i64 0, .int .i64 0, .int .i64 0, .int .i64 0, .slice none 0 0] #[.int .i64 2, .int .i64 0, .string ByteArray.empty, .int .i64 0, .int .i64 0, .int .i64 0, .int .i64 0, .int .i64 0, .int .i64 0, .int .i64 0, .int .i64 0, .int .i64 0, .int .i64 0, .int .i64 0, .slice none 0 0]) := Lib.hid (by
    have hf2 : Fresh W1 W2 := Only.fresh ((Only.of_fresh (Fresh.alloc _ _)).trans ho2) (fun i hi e => by omega)
    exact ⟨HF0.out.trans (HF1.out.trans hf2), Nat.le_of_eq HB.out, by have := HZ0.out.lt; have := HC.out; omega, by have := HB1.out.lt; omega, (HZ0.out.fresh HF1.out).fresh hf2, HB1.out.fresh hf2, by rw [← hd]; exact hb2⟩)
  rw [hd]
  clear hb2 ho2 hd HF0 HF1 HZ0 HB1 HC HB
  go_wp2_with (first | (refine wp_loadB rfl (.tmp 11) _ rfl rfl HD.out.b1 HI.out HG.out ?_) | (refine wp_storeB rfl (.tmp 8) (.tmp 52) _ rfl rfl rfl HD.out.b0 HI.out rfl (by simp [Value.oneCell']) ?_) | fail)
  intro W4 hb4 ho4
  have HB4 := Lib.hid hb4
  have HX := Lib.hid (HBAD.out W4 (HD.out.fin ho4))
  clear hb4 ho4
  go_wp2
  refine bodyPost_ret (results_c2 (fn := Try.f10) rfl rfl rfl rfl HB4.out HI.out HG.out) rfl ?_
  exact HX.out
set_option maxHeartbeats 6400000 in
theorem rp_3_st (fl st : Int) (l : List UInt8) (hl : l.length ≤ 300) (w : World) (k : Nat) (hk : FirstB 3 fl st l k) (h0 : 0 ≤ fl) (h1 : fl ≤ 255) (hst : st = 0) :
    Calls Try.prog 10 #[.int .i64 3, .int .i64 fl, .int .i64 st, .string (strB l)] w (DocP 3 st 0 (prsF 3 fl st l k) w) := by
  have hp : prsF 3 fl st l k = (PR0, 101, true) := prs_at hk (k0 := 0) ⟨by omega, fun j hj => by omega, fun _ => by simp [lookB, srB, hst]⟩ (by simp [prsF, lkC, lkD])
  rw [hp]
  have HBAD : Hid (∀ W, Fresh w W → DocP 3 st 0 (PR0, 101, true) w (.returned (.tuple #[.agg #[.int .i64 3, .int .i64 st, .string ByteArray.empty, .int .i64 0, .int .i64 0, .int .i64 0, .int .i64 0, .int .i64 0, .int .i64 0, .int .i64 0, .int .i64 0, .int .i64 0, .int .i64 0, .int .i64 0, .slice none 0 0], .int .i64 101, .int .i64 1])) W) := Lib.hid (fun W h => docP_bad h)
  generalize DocP 3 st 0 (PR0, 101, true) w = PP at *
  clear hp hk
  have hz : (strB l).size = l.length := strB_size l
  generalize strB l = S at *
  generalize l.length = n at *
  subst hst
  have HI := Lib.hid (show (Try.prog.info? 35).map (·.size) = some 15 by kernel_rfl)
  have HG := Lib.hid (fun w => (show (isAgg 35).run Try.prog w = .ok true w by simp [isAgg, go_sem]))
  go_enter Try.func10, Try.ntmps10
  go_upto_region 1 with fail
  refine wp_gen (fun W => Blk W w.heap.size 35 #[.int .i64 0, .int .i64 0, .string ByteArray.empty, .int .i64 0, .int .i64 0, .int .i64 0, .int .i64 0, .int .i64 0, .int .i64 0, .int .i64 0, .int .i64 0, .int .i64 0, .int .i64 0, .int .i64 0, .slice none 0 0] ∧ Fresh w W) ⟨Blk.new _ _ _, Fresh.alloc _ _⟩ ?_
  rintro W0 ⟨hz0, hf0⟩
  obtain ⟨b, hb⟩ : ∃ b, w.heap.size = b := ⟨_, rfl⟩
  have HB := Lib.hid hb
  have HF0 := Lib.hid hf0
  rw [hb] at hz0 ⊢
  have HZ0 := Lib.hid hz0
  clear hb hf0 hz0
  go_upto_region 2 with (first | (refine wp_storeB rfl (.tmp 11) (.tmp 17) _ rfl rfl rfl (Blk.new _ _ _) HI.out rfl (by simp [Value.oneCell']) ?_) | fail)
  intro W1 hb1 ho1
  obtain ⟨c, hc⟩ : ∃ c, W0.heap.size = c := ⟨_, rfl⟩
  have HC := Lib.hid hc
  rw [hc] at hb1 ⊢
  have HF1 : Hid (Fresh W0 W1) := Lib.hid (Only.fresh ((Only.of_fresh (Fresh.alloc _ _)).trans ho1) (fun i hi e => by omega))
  have HB1 : Hid (Blk W1 c 35 #[.int .i64 3, .int .i64 0, .string ByteArray.empty, .int .i64 0, .int .i64 0, .int .i64 0, .int .i64 0, .int .i64 0, .int .i64 0, .int .i64 0, .int .i64 0, .int .i64 0, .int .i64 0, .int .i64 0, .slice none 0 0]) := Lib.hid hb1
  clear hb1 ho1 hc
  go_upto_region 5 with (first | (refine wp_loadB rfl (.tmp 11) _ rfl rfl HB1.out HI.out HG.out ?_) | (refine wp_storeB rfl (.tmp 12) (.tmp 23) _ rfl rfl rfl (Blk.new _ _ _) HI.out rfl (by simp [Value.oneCell']) ?_) | fail)
  intro W2 hb2 ho2
  obtain ⟨d, hd⟩ : ∃ d, W1.heap.size = d := ⟨_, rfl⟩
  have HD : Hid (DX w W2 b c d #[.int .i64 3, .int .i64 0, .string ByteArray.empty, .int .i64 0, .int .i64 0, .int .i64 0, .int .i64 0, .int .i64 0, .int .i64 0, .int .i64 0, .int .i64 0, .int .i64 0, .int .i64 0, .int .i64 0, .slice none 0 0] #[.int .i64 3, .int .i64 0, .string ByteArray.empty, .int .i64 0, .int .i64 0, .int .i64 0, .int .i64 0, .int .i64 0, .int .i64 0, .int .i64 0, .int .i64 0, .int .i64 0, .int .i64 0, .int .i64 0, .slice none 0 0]) := Lib.hid (by
    have hf2 : Fresh W1 W2 := Only.fresh ((Only.of_fresh (Fresh.alloc _ _)).trans ho2) (fun i hi e => by omega)
    exact ⟨HF0.out.trans (HF1.out.trans hf2), Nat.le_of_eq HB.out, by have := HZ0.out.lt; have := HC.out; omega, by have := HB1.out.lt; omega, (HZ0.out.fresh HF1.out).fresh hf2, HB1.out.fresh hf2, by rw [← hd]; exact hb2⟩)
  rw [hd]
  clear hb2 ho2 hd HF0 HF1 HZ0 HB1 HC HB
  go_wp2_with (first | (refine wp_loadB rfl (.tmp 11) _ rfl rfl HD.out.b1 HI.out HG.out ?_) | (refine wp_storeB rfl (.tmp 8) (.tmp 52) _ rfl rfl rfl HD.out.b0 HI.out rfl (by simp [Value.oneCell']) ?_) | fail)
  intro W4 hb4 ho4
  have HB4 := Lib.hid hb4
  have HX := Lib.hid (HBAD.out W4 (HD.out.fin ho4))
  clear hb4 ho4
  go_wp2
  refine bodyPost_ret (results_c2 (fn := Try.f10) rfl rfl rfl rfl HB4.out HI.out HG.out) rfl ?_
  exact HX.out
set_option maxHeartbeats 6400000 in
theorem rp_9_st (fl st : Int) (l : List UInt8) (hl : l.length ≤ 300) (w : World) (k : Nat) (hk : FirstB 9 fl st l k) (h0 : 0 ≤ fl) (h1 : fl ≤ 255) (hst : st = 0) :
    Calls Try.prog 10 #[.int .i64 9, .int .i64 fl, .int .i64 st, .string (strB l)] w (DocP 9 st 0 (prsF 9 fl st l k) w) := by
  have hp : prsF 9 fl st l k = (PR0, 101, true) := prs_at hk (k0 := 0) ⟨by omega, fun j hj => by omega, fun _ => by simp [lookB, srB, hst]⟩ (by simp [prsF, lkC, lkD])
  rw [hp]
  have HBAD : Hid (∀ W, Fresh w W → DocP 9 st 0 (PR0, 101, true) w (.returned (.tuple #[.agg #[.int .i64 9, .int .i64 st, .string ByteArray.empty, .int .i64 0, .int .i64 0, .int .i64 0, .int .i64 0, .int .i64 0, .int .i64 0, .int .i64 0, .int .i64 0, .int .i64 0, .int .i64 0, .int .i64 0, .slice none 0 0], .int .i64 101, .int .i64 1])) W) := Lib.hid (fun W h => docP_bad h)
  generalize DocP 9 st 0 (PR0, 101, true) w = PP at *
  clear hp hk
  have hz : (strB l).size = l.length := strB_size l
  generalize strB l = S at *
  generalize l.length = n at *
  subst hst
  have HI := Lib.hid (show (Try.prog.info? 35).map (·.size) = some 15 by kernel_rfl)
  have HG := Lib.hid (fun w => (show (isAgg 35).run Try.prog w = .ok true w by simp [isAgg, go_sem]))
  go_enter Try.func10, Try.ntmps10
  go_upto_region 1 with fail
  refine wp_gen (fun W => Blk W w.heap.size 35 #[.int .i64 0, .int .i64 0, .string ByteArray.empty, .int .i64 0, .int .i64 0, .int .i64 0, .int .i64 0, .int .i64 0, .int .i64 0, .int .i64 0, .int .i64 0, .int .i64 0, .int .i64 0, .int .i64 0, .slice none 0 0] ∧ Fresh w W) ⟨Blk.new _ _ _, Fresh.alloc _ _⟩ ?_
  rintro W0 ⟨hz0, hf0⟩
  obtain ⟨b, hb⟩ : ∃ b, w.heap.size = b := ⟨_, rfl⟩
  have HB := Lib.hid hb
  have HF0 := Lib.hid hf0
  rw [hb] at hz0 ⊢
  have HZ0 := Lib.hid hz0
  clear hb hf0 hz0
  go_upto_region 2 with (first | (refine wp_storeB rfl (.tmp 11) (.tmp 17) _ rfl rfl rfl (Blk.new _ _ _) HI.out rfl (by simp [Value.oneCell']) ?_) | fail)
  intro W1 hb1 ho1
  obtain ⟨c, hc⟩ : ∃ c, W0.heap.size = c := ⟨_, rfl⟩
  have HC := Lib.hid hc
  rw [hc] at hb1 ⊢
  have HF1 : Hid (Fresh W0 W1) := Lib.hid (Only.fresh ((Only.of_fresh (Fresh.alloc _ _)).trans ho1) (fun i hi e => by omega))
  have HB1 : Hid (Blk W1 c 35 #[.int .i64 9, .int .i64 0, .string ByteArray.empty, .int .i64 0, .int .i64 0, .int .i64 0, .int .i64 0, .int .i64 0, .int .i64 0, .int .i64 0, .int .i64 0, .int .i64 0, .int .i64 0, .int .i64 0, .slice none 0 0]) := Lib.hid hb1
  clear hb1 ho1 hc
  go_upto_region 5 with (first | (refine wp_loadB rfl (.tmp 11) _ rfl rfl HB1.out HI.out HG.out ?_) | (refine wp_storeB rfl (.tmp 12) (.tmp 23) _ rfl rfl rfl (Blk.new _ _ _) HI.out rfl (by simp [Value.oneCell']) ?_) | fail)
  intro W2 hb2 ho2
  obtain ⟨d, hd⟩ : ∃ d, W1.heap.size = d := ⟨_, rfl⟩
  have HD : Hid (DX w W2 b c d #[.int .i64 9, .int .i64 0, .string ByteArray.empty, .int .i64 0, .int .i64 0, .int .i64 0, .int .i64 0, .int .i64 0, .int .i64 0, .int .i64 0, .int .i64 0, .int .i64 0, .int .i64 0, .int .i64 0, .slice none 0 0] #[.int .i64 9, .int .i64 0, .string ByteArray.empty, .int .i64 0, .int .i64 0, .int .i64 0, .int .i64 0, .int .i64 0, .int .i64 0, .int .i64 0, .int .i64 0, .int .i64 0, .int .i64 0, .int .i64 0, .slice none 0 0]) := Lib.hid (by
    have hf2 : Fresh W1 W2 := Only.fresh ((Only.of_fresh (Fresh.alloc _ _)).trans ho2) (fun i hi e => by omega)
    exact ⟨HF0.out.trans (HF1.out.trans hf2), Nat.le_of_eq HB.out, by have := HZ0.out.lt; have := HC.out; omega, by have := HB1.out.lt; omega, (HZ0.out.fresh HF1.out).fresh hf2, HB1.out.fresh hf2, by rw [← hd]; exact hb2⟩)
  rw [hd]
  clear hb2 ho2 hd HF0 HF1 HZ0 HB1 HC HB
  go_wp2_with (first | (refine wp_loadB rfl (.tmp 11) _ rfl rfl HD.out.b1 HI.out HG.out ?_) | (refine wp_storeB rfl (.tmp 8) (.tmp 52) _ rfl rfl rfl HD.out.b0 HI.out rfl (by simp [Value.oneCell']) ?_) | fail)
  intro W4 hb4 ho4
  have HB4 := Lib.hid hb4
  have HX := Lib.hid (HBAD.out W4 (HD.out.fin ho4))
  clear hb4 ho4
  go_wp2
  refine bodyPost_ret (results_c2 (fn := Try.f10) rfl rfl rfl rfl HB4.out HI.out HG.out) rfl ?_
  exact HX.out
set_option maxHeartbeats 6400000 in
theorem rp_4_st (fl st : Int) (l : List UInt8) (hl : l.length ≤ 300) (w : World) (k : Nat) (hk : FirstB 4 fl st l k) (h0 : 0 ≤ fl) (h1 : fl ≤ 255) (hst : ¬ st = 0) :
    Calls Try.prog 10 #[.int .i64 4, .int .i64 fl, .int .i64 st, .string (strB l)] w (DocP 4 st 0 (prsF 4 fl st l k) w) := by
  have hp : prsF 4 fl st l k = (PR0, 101, true) := prs_at hk (k0 := 0) ⟨by omega, fun j hj => by omega, fun _ => by simp [lookB, srB, hst]⟩ (by simp [prsF, lkC, lkD])
  rw [hp]
  have HBAD : Hid (∀ W, Fresh w W → DocP 4 st 0 (PR0, 101, true) w (.returned (.tuple #[.agg #[.int .i64 4, .int .i64 st, .string ByteArray.empty, .int .i64 0, .int .i64 0, .int .i64 0, .int .i64 0, .int .i64 0, .int .i64 0, .int .i64 0, .int .i64 0, .int .i64 0, .int .i64 0, .int .i64 0, .slice none 0 0], .int .i64 101, .int .i64 1])) W) := Lib.hid (fun W h => docP_bad h)
  generalize DocP 4 st 0 (PR0, 101, true) w = PP at *
  clear hp hk
  have hz : (strB l).size = l.length := strB_size l
  generalize strB l = S at *
  generalize l.length = n at *
  have hs1 : (st == 0) = false := by simpa using hst
  have HI := Lib.hid (show (Try.prog.info? 35).map (·.size) = some 15 by kernel_rfl)
  have HG := Lib.hid (fun w => (show (isAgg 35).run Try.prog w = .ok true w by simp [isAgg, go_sem]))
  go_enter Try.func10, Try.ntmps10
  go_upto_region 1 with fail
  refine wp_gen (fun W => Blk W w.heap.size 35 #[.int .i64 0, .int .i64 0, .string ByteArray.empty, .int .i64 0, .int .i64 0, .int .i64 0, .int .i64 0, .int .i64 0, .int .i64 0, .int .i64 0, .int .i64 0, .int .i64 0, .int .i64 0, .int .i64 0, .slice none 0 0] ∧ Fresh w W) ⟨Blk.new _ _ _, Fresh.alloc _ _⟩ ?_
  rintro W0 ⟨hz0, hf0⟩
  obtain ⟨b, hb⟩ : ∃ b, w.heap.size = b := ⟨_, rfl⟩
  have HB := Lib.hid hb
  have HF0 := Lib.hid hf0
  rw [hb] at hz0 ⊢
  have HZ0 := Lib.hid hz0
  clear hb hf0 hz0
  go_upto_region 2 with (first | (refine wp_storeB rfl (.tmp 11) (.tmp 17) _ rfl rfl rfl (Blk.new _ _ _) HI.out rfl (by simp [Value.oneCell']) ?_) | fail)
  intro W1 hb1 ho1
  obtain ⟨c, hc⟩ : ∃ c, W0.heap.size = c := ⟨_, rfl⟩
  have HC := Lib.hid hc
  rw [hc] at hb1 ⊢
  have HF1 : Hid (Fresh W0 W1) := Lib.hid (Only.fresh ((Only.of_fresh (Fresh.alloc _ _)).trans ho1) (fun i hi e => by omega))
  have HB1 : Hid (Blk W1 c 35 #[.int .i64 4, .int .i64 st, .string ByteArray.empty, .int .i64 0, .int .i64 0, .int .i64 0, .int .i64 0, .int .i64 0, .int .i64 0, .int .i64 0, .int .i64 0, .int .i64 0, .int .i64 0, .int .i64 0, .slice none 0 0]) := Lib.hid hb1
  clear hb1 ho1 hc
  go_upto_region 5 with (first | (refine wp_loadB rfl (.tmp 11) _ rfl rfl HB1.out HI.out HG.out ?_) | (refine wp_storeB rfl (.tmp 12) (.tmp 23) _ rfl rfl rfl (Blk.new _ _ _) HI.out rfl (by simp [Value.oneCell']) ?_) | fail)
  intro W2 hb2 ho2
  obtain ⟨d, hd⟩ : ∃ d, W1.heap.size = d := ⟨_, rfl⟩
  have HD : Hid (DX w W2 b c d #[.int .i64 4, .int .i64 st, .string ByteArray.empty, .int .i64 0, .int .i64 0, .int .i64 0, .int .i64 0, .int .i64 0, .int .i64 0, .int .i64 0, .int .i64 0, .int .i64 0, .int .i64 0, .int .i64 0, .slice none 0 0] #[.int .i64 4, .int .i64 st, .string ByteArray.empty, .int .i64 0, .int .i64 0, .int .i64 0, .int .i64 0, .int .i64 0, .int .i64 0, .int .i64 0, .int .i64 0, .int .i64 0, .int .i64 0, .int .i64 0, .slice none 0 0]) := Lib.hid (by
    have hf2 : Fresh W1 W2 := Only.fresh ((Only.of_fresh (Fresh.alloc _ _)).trans ho2) (fun i hi e => by omega)
    exact ⟨HF0.out.trans (HF1.out.trans hf2), Nat.le_of_eq HB.out, by have := HZ0.out.lt; have := HC.out; omega, by have := HB1.out.lt; omega, (HZ0.out.fresh HF1.out).fresh hf2, HB1.out.fresh hf2, by rw [← hd]; exact hb2⟩)
  rw [hd]
  clear hb2 ho2 hd HF0 HF1 HZ0 HB1 HC HB
  go_wp2_with (first | (refine wp_loadB rfl (.tmp 11) _ rfl rfl HD.out.b1 HI.out HG.out ?_) | (refine wp_storeB rfl (.tmp 8) (.tmp 41) _ rfl rfl rfl HD.out.b0 HI.out rfl (by simp [Value.oneCell']) ?_) | fail)
  intro W4 hb4 ho4
  have HB4 := Lib.hid hb4
  have HX := Lib.hid (HBAD.out W4 (HD.out.fin ho4))
  clear hb4 ho4
  go_wp2
  refine bodyPost_ret (results_c2 (fn := Try.f10) rfl rfl rfl rfl HB4.out HI.out HG.out) rfl ?_
  exact HX.out
set_option maxHeartbeats 6400000 in
theorem rp_6_st (fl st : Int) (l : List UInt8) (hl : l.length ≤ 300) (w : World) (k : Nat) (hk : FirstB 6 fl st l k) (h0 : 0 ≤ fl) (h1 : fl ≤ 255) (hst : ¬ st = 0) :
    Calls Try.prog 10 #[.int .i64 6, .int .i64 fl, .int .i64 st, .string (strB l)] w (DocP 6 st 0 (prsF 6 fl st l k) w) := by
  have hp : prsF 6 fl st l k = (PR0, 101, true) := prs_at hk (k0 := 0) ⟨by omega, fun j hj => by omega, fun _ => by simp [lookB, srB, hst]⟩ (by simp [prsF, lkC, lkD])
  rw [hp]
  have HBAD : Hid (∀ W, Fresh w W → DocP 6 st 0 (PR0, 101, true) w (.returned (.tuple #[.agg #[.int .i64 6, .int .i64 st, .string ByteArray.empty, .int .i64 0, .int .i64 0, .int .i64 0, .int .i64 0, .int .i64 0, .int .i64 0, .int .i64 0, .int .i64 0, .int .i64 0, .int .i64 0, .int .i64 0, .slice none 0 0], .int .i64 101, .int .i64 1])) W) := Lib.hid (fun W h => docP_bad h)
  generalize DocP 6 st 0 (PR0, 101, true) w = PP at *
  clear hp hk
  have hz : (strB l).size = l.length := strB_size l
  generalize strB l = S at *
  generalize l.length = n at *
  have hs1 : (st == 0) = false := by simpa using hst
  have HI := Lib.hid (show (Try.prog.info? 35).map (·.size) = some 15 by kernel_rfl)
  have HG := Lib.hid (fun w => (show (isAgg 35).run Try.prog w = .ok true w by simp [isAgg, go_sem]))
  go_enter Try.func10, Try.ntmps10
  go_upto_region 1 with fail
  refine wp_gen (fun W => Blk W w.heap.size 35 #[.int .i64 0, .int .i64 0, .string ByteArray.empty, .int .i64 0, .int .i64 0, .int .i64 0, .int .i64 0, .int .i64 0, .int .i64 0, .int .i64 0, .int .i64 0, .int .i64 0, .int .i64 0, .int .i64 0, .slice none 0 0] ∧ Fresh w W) ⟨Blk.new _ _ _, Fresh.alloc _ _⟩ ?_
  rintro W0 ⟨hz0, hf0⟩
  obtain ⟨b, hb⟩ : ∃ b, w.heap.size = b := ⟨_, rfl⟩
  have HB := Lib.hid hb
  have HF0 := Lib.hid hf0
  rw [hb] at hz0 ⊢
  have HZ0 := Lib.hid hz0
  clear hb hf0 hz0
  go_upto_region 2 with (first | (refine wp_storeB rfl (.tmp 11) (.tmp 17) _ rfl rfl rfl (Blk.new _ _ _) HI.out rfl (by simp [Value.oneCell']) ?_) | fail)
  intro W1 hb1 ho1
  obtain ⟨c, hc⟩ : ∃ c, W0.heap.size = c := ⟨_, rfl⟩
  have HC := Lib.hid hc
  rw [hc] at hb1 ⊢
  have HF1 : Hid (Fresh W0 W1) := Lib.hid (Only.fresh ((Only.of_fresh (Fresh.alloc _ _)).trans ho1) (fun i hi e => by omega))
  have HB1 : Hid (Blk W1 c 35 #[.int .i64 6, .int .i64 st, .string ByteArray.empty, .int .i64 0, .int .i64 0, .int .i64 0, .int .i64 0, .int .i64 0, .int .i64 0, .int .i64 0, .int .i64 0, .int .i64 0, .int .i64 0, .int .i64 0, .slice none 0 0]) := Lib.hid hb1
  clear hb1 ho1 hc
  go_upto_region 5 with (first | (refine wp_loadB rfl (.tmp 11) _ rfl rfl HB1.out HI.out HG.out ?_) | (refine wp_storeB rfl (.tmp 12) (.tmp 23) _ rfl rfl rfl (Blk.new _ _ _) HI.out rfl (by simp [Value.oneCell']) ?_) | fail)
  intro W2 hb2 ho2
  obtain ⟨d, hd⟩ : ∃ d, W1.heap.size = d := ⟨_, rfl⟩
  have HD : Hid (DX w W2 b c d #[.int .i64 6, .int .i64 st, .string ByteArray.empty, .int .i64 0, .int .i64 0, .int .i64 0, .int .i64 0, .int .i64 0, .int .i64 0, .int .i64 0, .int .i64 0, .int .i64 0, .int .i64 0, .int .i64 0, .slice none 0 0] #[.int .i64 6, .int .i64 st, .string ByteArray.empty, .int .i64 0, .int .i64 0, .int .i64 0, .int .i64 0, .int .i64 0, .int .i64 0, .int .i64 0, .int .i64 0, .int .i64 0, .int .i64 0, .int .i64 0, .slice none 0 0]) := Lib.hid (by
    have hf2 : Fresh W1 W2 := Only.fresh ((Only.of_fresh (Fresh.alloc _ _)).trans ho2) (fun i hi e => by omega)
    exact ⟨HF0.out.trans (HF1.out.trans hf2), Nat.le_of_eq HB.out, by have := HZ0.out.lt; have := HC.out; omega, by have := HB1.out.lt; omega, (HZ0.out.fresh HF1.out).fresh hf2, HB1.out.fresh hf2, by rw [← hd]; exact hb2⟩)
  rw [hd]
  clear hb2 ho2 hd HF0 HF1 HZ0 HB1 HC HB
  go_wp2_with (first | (refine wp_loadB rfl (.tmp 11) _ rfl rfl HD.out.b1 HI.out HG.out ?_) | (refine wp_storeB rfl (.tmp 8) (.tmp 41) _ rfl rfl rfl HD.out.b0 HI.out rfl (by simp [Value.oneCell']) ?_) | fail)
  intro W4 hb4 ho4
  have HB4 := Lib.hid hb4
  have HX := Lib.hid (HBAD.out W4 (HD.out.fin ho4))
  clear hb4 ho4
  go_wp2
  refine bodyPost_ret (results_c2 (fn := Try.f10) rfl rfl rfl rfl HB4.out HI.out HG.out) rfl ?_
  exact HX.out
set_option maxHeartbeats 6400000 in
theorem rp_7_st (fl st : Int) (l : List UInt8) (hl : l.length ≤ 300) (w : World) (k : Nat) (hk : FirstB 7 fl st l k) (h0 : 0 ≤ fl) (h1 : fl ≤ 255) (hst : ¬ st = 0) :
    Calls Try.prog 10 #[.int .i64 7, .int .i64 fl, .int .i64 st, .string (strB l)] w (DocP 7 st 0 (prsF 7 fl st l k) w) := by
  have hp : prsF 7 fl st l k = (PR0, 101, true) := prs_at hk (k0 := 0) ⟨by omega, fun j hj => by omega, fun _ => by simp [lookB, srB, hst]⟩ (by simp [prsF, lkC, lkD])
  rw [hp]
  have HBAD : Hid (∀ W, Fresh w W → DocP 7 st 0 (PR0, 101, true) w (.returned (.tuple #[.agg #[.int .i64 7, .int .i64 st, .string ByteArray.empty, .int .i64 0, .int .i64 0, .int .i64 0, .int .i64 0, .int .i64 0, .int .i64 0, .int .i64 0, .int .i64 0, .int .i64 0, .int .i64 0, .int .i64 0, .slice none 0 0], .int .i64 101, .int .i64 1])) W) := Lib.hid (fun W h => docP_bad h)
  generalize DocP 7 st 0 (PR0, 101, true) w = PP at *
  clear hp hk
  have hz : (strB l).size = l.length := strB_size l
  generalize strB l = S at *
  generalize l.length = n at *
  have hs1 : (st == 0) = false := by simpa using hst
  have HI := Lib.hid (show (Try.prog.info? 35).map (·.size) = some 15 by kernel_rfl)
  have HG := Lib.hid (fun w => (show (isAgg 35).run Try.prog w = .ok true w by simp [isAgg, go_sem]))
  go_enter Try.func10, Try.ntmps10
  go_upto_region 1 with fail
  refine wp_gen (fun W => Blk W w.heap.size 35 #[.int .i64 0, .int .i64 0, .string ByteArray.empty, .int .i64 0, .int .i64 0, .int .i64 0, .int .i64 0, .int .i64 0, .int .i64 0, .int .i64 0, .int .i64 0, .int .i64 0, .int .i64 0, .int .i64 0, .slice none 0 0] ∧ Fresh w W) ⟨Blk.new _ _ _, Fresh.alloc _ _⟩ ?_
  rintro W0 ⟨hz0, hf0⟩
  obtain ⟨b, hb⟩ : ∃ b, w.heap.size = b := ⟨_, rfl⟩
  have HB := Lib.hid hb
  have HF0 := Lib.hid hf0
  rw [hb] at hz0 ⊢
  have HZ0 := Lib.hid hz0
  clear hb hf0 hz0
  go_upto_region 2 with (first | (refine wp_storeB rfl (.tmp 11) (.tmp 17) _ rfl rfl rfl (Blk.new _ _ _) HI.out rfl (by simp [Value.oneCell']) ?_) | fail)
  intro W1 hb1 ho1
  obtain ⟨c, hc⟩ : ∃ c, W0.heap.size = c := ⟨_, rfl⟩
  have HC := Lib.hid hc
  rw [hc] at hb1 ⊢
  have HF1 : Hid (Fresh W0 W1) := Lib.hid (Only.fresh ((Only.of_fresh (Fresh.alloc _ _)).trans ho1) (fun i hi e => by omega))
  have HB1 : Hid (Blk W1 c 35 #[.int .i64 7, .int .i64 st, .string ByteArray.empty, .int .i64 0, .int .i64 0, .int .i64 0, .int .i64 0, .int .i64 0, .int .i64 0, .int .i64 0, .int .i64 0, .int .i64 0, .int .i64 0, .int .i64 0, .slice none 0 0]) := Lib.hid hb1
  clear hb1 ho1 hc
  go_upto_region 5 with (first | (refine wp_loadB rfl (.tmp 11) _ rfl rfl HB1.out HI.out HG.out ?_) | (refine wp_storeB rfl (.tmp 12) (.tmp 23) _ rfl rfl rfl (Blk.new _ _ _) HI.out rfl (by simp [Value.oneCell']) ?_) | fail)
  intro W2 hb2 ho2
  obtain ⟨d, hd⟩ : ∃ d, W1.heap.size = d := ⟨_, rfl⟩
  have HD : Hid (DX w W2 b c d #[.int .i64 7, .int .i64 st, .string ByteArray.empty, .int .i64 0, .int .i64 0, .int .i64 0, .int .i64 0, .int .i64 0, .int .i64 0, .int .i64 0, .int .i64 0, .int .i64 0, .int .i64 0, .int .i64 0, .slice none 0 0] #[.int .i64 7, .int .i64 st, .string ByteArray.empty, .int .i64 0, .int .i64 0, .int .i64 0, .int .i64 0, .int .i64 0, .int .i64 0, .int .i64 0, .int .i64 0, .int .i64 0, .int .i64 0, .int .i64 0, .slice none 0 0]) := Lib.hid (by
    have hf2 : Fresh W1 W2 := Only.fresh ((Only.of_fresh (Fresh.alloc _ _)).trans ho2) (fun i hi e => by omega)
    exact ⟨HF0.out.trans (HF1.out.trans hf2), Nat.le_of_eq HB.out, by have := HZ0.out.lt; have := HC.out; omega, by have := HB1.out.lt; omega, (HZ0.out.fresh HF1.out).fresh hf2, HB1.out.fresh hf2, by rw [← hd]; exact hb2⟩)
  rw [hd]
  clear hb2 ho2 hd HF0 HF1 HZ0 HB1 HC HB
  go_wp2_with (first | (refine wp_loadB rfl (.tmp 11) _ rfl rfl HD.out.b1 HI.out HG.out ?_) | (refine wp_storeB rfl (.tmp 8) (.tmp 41) _ rfl rfl rfl HD.out.b0 HI.out rfl (by simp [Value.oneCell']) ?_) | fail)
  intro W4 hb4 ho4
  have HB4 := Lib.hid hb4
  have HX := Lib.hid (HBAD.out W4 (HD.out.fin ho4))
  clear hb4 ho4
  go_wp2
  refine bodyPost_ret (results_c2 (fn := Try.f10) rfl rfl rfl rfl HB4.out HI.out HG.out) rfl ?_
  exact HX.out
set_option maxHeartbeats 6400000 in
theorem rp_5_st (fl st : Int) (l : List UInt8) (hl : l.length ≤ 300) (w : World) (k : Nat) (hk : FirstB 5 fl st l k) (h0 : 0 ≤ fl) (h1 : fl ≤ 255)  :
    Calls Try.prog 10 #[.int .i64 5, .int .i64 fl, .int .i64 st, .string (strB l)] w (DocP 5 st 0 (prsF 5 fl st l k) w) := by
  have hp : prsF 5 fl st l k = (PR0, 101, true) := prs_at hk (k0 := 0) ⟨by omega, fun j hj => by omega, fun _ => by simp [lookB]⟩ (by simp [prsF, lkC, lkD])
  rw [hp]
  have HBAD : Hid (∀ W, Fresh w W → DocP 5 st 0 (PR0, 101, true) w (.returned (.tuple #[.agg #[.int .i64 5, .int .i64 st, .string ByteArray.empty, .int .i64 0, .int .i64 0, .int .i64 0, .int .i64 0, .int .i64 0, .int .i64 0, .int .i64 0, .int .i64 0, .int .i64 0, .int .i64 0, .int .i64 0, .slice none 0 0], .int .i64 101, .int .i64 1])) W) := Lib.hid (fun W h => docP_bad h)
  generalize DocP 5 st 0 (PR0, 101, true) w = PP at *
  clear hp hk
  have hz : (strB l).size = l.length := strB_size l
  generalize strB l = S at *
  generalize l.length = n at *
  have HI := Lib.hid (show (Try.prog.info? 35).map (·.size) = some 15 by kernel_rfl)
  have HG := Lib.hid (fun w => (show (isAgg 35).run Try.prog w = .ok true w by simp [isAgg, go_sem]))
  go_enter Try.func10, Try.ntmps10
  go_upto_region 1 with fail
  refine wp_gen (fun W => Blk W w.heap.size 35 #[.int .i64 0, .int .i64 0, .string ByteArray.empty, .int .i64 0, .int .i64 0, .int .i64 0, .int .i64 0, .int .i64 0, .int .i64 0, .int .i64 0, .int .i64 0, .int .i64 0, .int .i64 0, .int .i64 0, .slice none 0 0] ∧ Fresh w W) ⟨Blk.new _ _ _, Fresh.alloc _ _⟩ ?_
  rintro W0 ⟨hz0, hf0⟩
  obtain ⟨b, hb⟩ : ∃ b, w.heap.size = b := ⟨_, rfl⟩
  have HB := Lib.hid hb
  have HF0 := Lib.hid hf0
  rw [hb] at hz0 ⊢
  have HZ0 := Lib.hid hz0
  clear hb hf0 hz0
  go_upto_region 2 with (first | (refine wp_storeB rfl (.tmp 11) (.tmp 17) _ rfl rfl rfl (Blk.new _ _ _) HI.out rfl (by simp [Value.oneCell']) ?_) | fail)
  intro W1 hb1 ho1
  obtain ⟨c, hc⟩ : ∃ c, W0.heap.size = c := ⟨_, rfl⟩
  have HC := Lib.hid hc
  rw [hc] at hb1 ⊢
  have HF1 : Hid (Fresh W0 W1) := Lib.hid (Only.fresh ((Only.of_fresh (Fresh.alloc _ _)).trans ho1) (fun i hi e => by omega))
  have HB1 : Hid (Blk W1 c 35 #[.int .i64 5, .int .i64 st, .string ByteArray.empty, .int .i64 0, .int .i64 0, .int .i64 0, .int .i64 0, .int .i64 0, .int .i64 0, .int .i64 0, .int .i64 0, .int .i64 0, .int .i64 0, .int .i64 0, .slice none 0 0]) := Lib.hid hb1
  clear hb1 ho1 hc
  go_upto_region 5 with (first | (refine wp_loadB rfl (.tmp 11) _ rfl rfl HB1.out HI.out HG.out ?_) | (refine wp_storeB rfl (.tmp 12) (.tmp 23) _ rfl rfl rfl (Blk.new _ _ _) HI.out rfl (by simp [Value.oneCell']) ?_) | fail)
  intro W2 hb2 ho2
  obtain ⟨d, hd⟩ : ∃ d, W1.heap.size = d := ⟨_, rfl⟩
  have HD : Hid (DX w W2 b c d #[.int .i64 5, .int .i64 st, .string ByteArray.empty, .int .i64 0, .int .i64 0, .int .i64 0, .int .i64 0, .int .i64 0, .int .i64 0, .int .i64 0, .int .i64 0, .int .i64 0, .int .i64 0, .int .i64 0, .slice none 0 0] #[.int .i64 5, .int .i64 st, .string ByteArray.empty, .int .i64 0, .int .i64 0, .int .i64 0, .int .i64 0, .int .i64 0, .int .i64 0, .int .i64 0, .int .i64 0, .int .i64 0, .int .i64 0, .int .i64 0, .slice none 0 0]) := Lib.hid (by
    have hf2 : Fresh W1 W2 := Only.fresh ((Only.of_fresh (Fresh.alloc _ _)).trans ho2) (fun i hi e => by omega)
    exact ⟨HF0.out.trans (HF1.out.trans hf2), Nat.le_of_eq HB.out, by have := HZ0.out.lt; have := HC.out; omega, by have := HB1.out.lt; omega, (HZ0.out.fresh HF1.out).fresh hf2, HB1.out.fresh hf2, by rw [← hd]; exact hb2⟩)
  rw [hd]
  clear hb2 ho2 hd HF0 HF1 HZ0 HB1 HC HB
  go_wp2_with (first | (refine wp_loadB rfl (.tmp 11) _ rfl rfl HD.out.b1 HI.out HG.out ?_) | (refine wp_storeB rfl (.tmp 8) (.tmp 26) _ rfl rfl rfl HD.out.b0 HI.out rfl (by simp [Value.oneCell']) ?_) | fail)
  intro W4 hb4 ho4
  have HB4 := Lib.hid hb4
  have HX := Lib.hid (HBAD.out W4 (HD.out.fin ho4))
  clear hb4 ho4
  go_wp2
  refine bodyPost_ret (results_c2 (fn := Try.f10) rfl rfl rfl rfl HB4.out HI.out HG.out) rfl ?_
  exact HX.out
end Go.Proofs.Ytcdghmidpaeloaa

