/-
  Texts laid together: DecH DecO DecI DecJ DecK DecL DecM DecN DecP EqS DecR.
-/
import Derived.Test.YtginhebfjbhmnaaGreatDecG
import Derived.StillTailTactics
import Derived.Test.YtginhebfjbhmnaaGreatG02
/-
  Package decode: Decode.
-/
namespace Go.Proofs.YtginhebfjbhmnaaGreat
set_option maxRecDepth 100000
set_option maxRecDepth 100000
set_option linter.unusedVariables false
set_option linter.unusedSimpArgs false
open Go.RowKit
theorem de_decode_dead (base d p : Nat) (v : Value) (fs : List FldT) (lim most bound : Int) (A : Option Addr) (n c : Nat) (w : World) (h : DecAt w base d p v fs lim most bound true) :
    Calls Tryz.prog 52 #[.pointer (some ⟨d, 0, none⟩), .slice A n c] w fun e w' => e = .returned (.tuple #[.slice none 0 0, .int .i64 25]) ∧ w = w' := by
  obtain ⟨c0, c1, c2, c3⟩ := h.blk.c4
  clear h
  go_enter Tryz.func52, Tryz.ntmps52
  go_wp2
  go_ret2
  exact ⟨rfl, rfl⟩
theorem BkAt.die {w wr : World} {base d p : Nat} {v v' ov : Value} {fs : List FldT} {lim most bound : Int} {out : List LnD} (h : BkAt w wr base d p v v' ov fs lim most bound false out) : DecAt (wr.setCell ⟨d, 3, none⟩ (.bool true)) base d p v' fs lim most bound true ∧ Only (fun k => k = d ∨ k = p ∨ v.ownBlock = some k) w (wr.setCell ⟨d, 3, none⟩ (.bool true)) := by
  have ho : Only (· = d) wr (wr.setCell ⟨d, 3, none⟩ (.bool true)) := (Only.of_fresh (Fresh.refl _)).step _ _ (.inl rfl)
  refine ⟨⟨h.dec.blk.set 3 _, h.dec.tab.only ho (fun e => h.dp e.symm) h.dv⟩, Only.trans' (Only.trans' (Only.of_fresh (Fresh.refl w)) h.only (fun i _ e => .inr e)) ho (fun i _ e => .inl e)⟩
/-- What Decode does with a decoder that isn't dead. -/
def DecodeP (w : World) (base d p : Nat) (v : Value) (most bound : Int) (R : Nat × List LnD × List FldT × Int) (e : Ending) (W : World) : Prop :=
  (∃ v' A' c', R.1 = 0 ∧ e = .returned (.tuple #[.slice A' R.2.1.length c', .int .i64 0]) ∧ BkAt w W base d p v v' (.slice A' R.2.1.length c') R.2.2.1 R.2.2.2 most bound false R.2.1) ∨
  (∃ v', R.1 ≠ 0 ∧ e = .returned (.tuple #[.slice none 0 0, .int .i64 (R.1 : Int)]) ∧ DecAt W base d p v' R.2.2.1 R.2.2.2 most bound true ∧ (∀ k, v'.ownBlock = some k → v.ownBlock = some k ∨ w.heap.size ≤ k) ∧ (∀ k, v'.ownBlock = some k → k ≠ d) ∧ Only (fun k => k = d ∨ k = p ∨ v.ownBlock = some k) w W)
set_option maxHeartbeats 1600000 in
theorem de_decode (base d p : Nat) (v : Value) (fs : List FldT) (lim most bound : Int) (A : Option Addr) (c : Nat) (l : List UInt8) (w : World) (h : DecAt w base d p v fs lim most bound false) (hbase : base ≤ w.heap.size) (h0 : 0 ≤ lim) (h1 : lim ≤ most) (hmx : most ≤ 65536) (htz : (tz fs : Int) ≤ lim) (hdp : d ≠ p) (hdv : ∀ k, v.ownBlock = some k → k ≠ d) (hb0 : 0 ≤ bound) (hb1 : bound ≤ 16384) (hl : l.length ≤ 100000000) (hlc : l.length ≤ c) (hcm : c ≤ maxLen) (hB : BS w A l) (hNI : NotIn p v A l) :
    Calls Tryz.prog 52 #[.pointer (some ⟨d, 0, none⟩), .slice A l.length c] w (DecodeP w base d p v most bound (blockR most bound l.length fs lim 0 [] l)) := by
  have HBLK := Lib.hid (de_block base d p v fs lim most bound false A c l w h hbase h0 h1 hmx htz hdp hdv hb0 hb1 hl hlc hcm hB hNI)
  obtain ⟨c0, c1, c2, c3⟩ := h.blk.c4
  obtain ⟨R, hR⟩ : ∃ R, blockR most bound l.length fs lim 0 [] l = R := ⟨_, rfl⟩
  rw [hR] at HBLK ⊢
  clear hR h hB hNI htz h0 h1 hmx hbase hdv hl hlc hcm hb0 hb1 hdp
  obtain ⟨er, out, gs, lm⟩ := R
  by_cases her : er = 0
  · subst her
    have HB2 : Hid (Calls Tryz.prog 74 #[.pointer (some ⟨d, 0, none⟩), .slice A l.length c] w fun e W => ∃ v' A' c', e = .returned (.tuple #[.slice A' out.length c', .int .i64 0]) ∧ BkAt w W base d p v v' (.slice A' out.length c') gs lm most bound false out) := Lib.hid (HBLK.out.mono (fun e W hh => by
      rcases hh with ⟨v', A', c', _, e1, e2⟩ | ⟨_, _, _, e1, _⟩
      · exact ⟨v', A', c', e1, e2⟩
      · exact absurd rfl e1))
    clear HBLK
    go_enter Tryz.func52, Tryz.ntmps52
    go_wp2_with fail
    with_reducible refine HB2.out.mono ?_
    rintro e w1 ⟨v', A', c', rfl, hk⟩
    have HK := Lib.hid hk
    clear hk c0 c1 c2 c3
    go_wp2
    go_ret2
    exact .inl ⟨v', A', c', rfl, rfl, HK.out⟩
  · have HB2 : Hid (Calls Tryz.prog 74 #[.pointer (some ⟨d, 0, none⟩), .slice A l.length c] w fun e W => ∃ v' ov o2, e = .returned (.tuple #[.slice none 0 0, .int .i64 (er : Int)]) ∧ BkAt w W base d p v v' ov gs lm most bound false o2) := Lib.hid (HBLK.out.mono (fun e W hh => by
      rcases hh with ⟨v', A', c', e0, e1, e2⟩ | ⟨v', ov, o2, _, e1, e2⟩
      · exact absurd e0 her
      · exact ⟨v', ov, o2, e1, e2⟩))
    clear HBLK
    have h0d : ((er : Int) != 0) = true := by simp; omega
    have h0i : ¬ (er : Int) = 0 := by omega
    go_enter Tryz.func52, Tryz.ntmps52
    go_wp2_with fail
    with_reducible refine HB2.out.mono ?_
    rintro e w1 ⟨v', ov, o2, rfl, hk⟩
    have HK := Lib.hid hk
    obtain ⟨d0, d1, d2, d3⟩ := hk.dec.blk.c4
    have z3 := hk.dec.blk.frozen 3
    clear hk c0 c1 c2 c3
    go_wp2
    go_ret2
    exact .inr ⟨v', her, rfl, HK.out.die.1, HK.out.grow, HK.out.dv, HK.out.die.2⟩
end Go.Proofs.YtginhebfjbhmnaaGreat

/-
  Package dyn: Clone of a row, Copy of a table.
-/
namespace Go.Proofs.YtginhebfjbhmnaaGreat
set_option maxRecDepth 100000
set_option linter.unusedVariables false
set_option linter.unusedSimpArgs false
open Go.RowKit
theorem fld_slice_nil (w : World) (a : Option Addr) (n c : Nat) : (binOp .eql 109 (.slice a n c) (.slice none 0 0)).run Tryz.prog w = .ok (.bool a.isNone) w := Lib.run_eql_slice_nil w _ _ a n c 0 0 Tryz.underlying109
def DynClnP (base : Nat) (fs : List FldT) (w : World) (e : Ending) (w' : World) : Prop := ∃ v', e = .returned v' ∧ Own w' w.heap.size 62 2 v' fs.length (rowD fs) ∧ Fresh w w' ∧ ∀ k, v'.ownBlock = some k → w.heap.size ≤ k
theorem dy_clone (base : Nat) (v : Value) (fs : List FldT) (w : World) (h : Own w base 62 2 v fs.length (rowD fs)) (hb : base ≤ w.heap.size) (hm : fs.length ≤ 1000000) :
    Calls Tryz.prog 54 #[v] w (DynClnP base fs w) := by
  have qn := fld_slice_nil
  rcases h.form with ⟨rfl, h0, _⟩ | ⟨g, c, rfl, hgb, hgl, hnc, hcm, hcell⟩
  · have HX : Hid (fs = []) := Lib.hid (List.length_eq_zero_iff.1 h0)
    clear h h0
    go_enter Tryz.func54, Tryz.ntmps54
    go_wp2
    go_ret
    rw [HX.out]
    exact ⟨_, rfl, Own.nil _ _ _ _, Fresh.refl _, fun k hk => by cases hk⟩
  · obtain ⟨i, hi, hiz, his, hib⟩ := info_parts fld_info
    have hO : Own (w.alloc (.cells #[] 62)) w.heap.size 62 2 (.slice (some ⟨w.heap.size, 0, none⟩) 0 0) 0 [] := Own.lit (Nat.le_refl _) (by unfold maxLen; omega) rfl
    obtain ⟨v', w', hr, ho, hgr, _, hat⟩ := run_append_own_at (P := Tryz.prog) (w.alloc (.cells #[] 62)) w.heap.size 109 109 62 i _ 2 32 Tryz.underlying109 hi hiz his hib rfl (by omega) _ 0 _ hO ⟨g, 0, none⟩ fs.length c (rowD fs) (rowD_length fs)
      (fun j u hj => by
        rw [add_eq _ _ rfl]
        simp only [Nat.zero_add]
        rw [((Fresh.alloc w _).cell (p := ⟨g, j, none⟩) hgl), (hcell j (List.getElem?_eq_some_iff.1 hj).1).1]
        exact hj) (fld_one fs) (by unfold maxLen; omega) (by omega) (by simp)
    obtain ⟨n, hn⟩ : ∃ n, fs.length = n := ⟨_, rfl⟩
    have HFIN : Hid (DynClnP base fs w (.returned v') w') := Lib.hid (by
      have ho' : Own w' w.heap.size 62 2 v' (0 + fs.length) ([] ++ rowD fs) := ho
      rw [Nat.zero_add, List.nil_append] at ho'
      refine ⟨v', rfl, ho', ?_, fun k hk => (ho'.lt k hk).1⟩
      refine Only.fresh (S := fun k => k = w.heap.size) ((Only.of_fresh (Fresh.alloc w (.cells #[] 62))).trans ⟨hgr.os, hgr.tape, hgr.output, hgr.size, fun k hk hne => hgr.block k hk (fun e => hne (by have e2 : some k = some w.heap.size := e; injection e2))⟩) (fun k hk e => by omega))
    rw [hn] at hr hnc ⊢
    have hnm : n ≤ 1000000 := by omega
    clear h hcell ho hgr hat hO hn hm
    go_enter Tryz.func54, Tryz.ntmps54
    go_wp2_with (at_builtin; with_reducible refine wp_app rfl (.tmp 5) (.tmp 6) _ rfl hr rfl (by simp [Act.eval, Act.put]) (by simp [Act.eval, Act.put]) ?_)
    go_ret
    exact HFIN.out
def CpyP (base p : Nat) (fs : List FldT) (lim : Int) (w : World) (e : Ending) (w' : World) : Prop := ∃ p' v', e = .returned (.pointer (some ⟨p', 0, none⟩)) ∧ TabAt w' w.heap.size p' v' fs lim ∧ Fresh w w' ∧ w.heap.size ≤ p' ∧ ∀ k, v'.ownBlock = some k → w.heap.size ≤ k
theorem dy_copy (base p : Nat) (v : Value) (fs : List FldT) (lim : Int) (w : World) (h : TabAt w base p v fs lim) (hb : base ≤ w.heap.size) (hm : fs.length ≤ 1000000) :
    Calls Tryz.prog 46 #[.pointer (some ⟨p, 0, none⟩)] w (CpyP base p fs lim w) := by
  obtain ⟨A, c, rfl, _⟩ := h.own.slice
  have hlt := h.blk.lt
  have HSK : Hid (∀ w', Fresh w w' → w'.cell? ⟨p, 0, none⟩ = some (.slice A fs.length c) ∧ w'.cell? ⟨p, 1, none⟩ = some (.int .i64 (tz fs)) ∧ w'.cell? ⟨p, 2, none⟩ = some (.int .i64 lim) ∧ Fresh w w') := Lib.hid (fun w' hw => ⟨(h.fresh hw).blk.cell 0, (h.fresh hw).blk.cell 1, (h.fresh hw).blk.cell 2, hw⟩)
  have HCL := Lib.hid (fun W (hw : Fresh w W) => dy_clone base _ fs W (h.own.fresh hw) (Nat.le_trans hb hw.size) hm)
  obtain ⟨n, hn⟩ : ∃ n, fs.length = n := ⟨_, rfl⟩
  rw [hn] at HCL HSK
  have HN := Lib.hid hn
  clear h hn hm
  go_enter Tryz.func46, Tryz.ntmps46
  go_wp2_with fail
  go_region_held3 (fun w' => w'.cell? ⟨p, 0, none⟩ = some (.slice A n c) ∧ w'.cell? ⟨p, 1, none⟩ = some (.int .i64 (tz fs)) ∧ w'.cell? ⟨p, 2, none⟩ = some (.int .i64 lim) ∧ Fresh w w')
    ((refine HSK.out _ ?_; repeat (first | with_reducible assumption | with_reducible exact Fresh.drew _ | with_reducible apply Fresh.allocS)))
    (first | (go_at_call 54; (with_reducible refine (HCL.out _ (by first | with_reducible assumption | with_reducible exact Fresh.drew _)).mono ?_); rintro e w2 ⟨v2, rfl, ho2, hf2, hv2⟩; obtain ⟨A2, c2, e2, _⟩ := ho2.slice; rw [HN.out] at e2; subst e2; have hg2 : Fresh w w2 := Fresh.trans (by first | with_reducible assumption | with_reducible exact Fresh.drew _) hf2; have HO2 := Lib.hid (And.intro ho2 (And.intro hf2 hv2)); clear ho2 hf2 hv2))
  all_goals
    go_wp2
    go_ret
    obtain ⟨g1, g2, g3⟩ := HO2.out
    exact ⟨_, .slice A2 n c2, rfl, ⟨Blk.new _ _ _, g1.fresh (Fresh.alloc _ _)⟩, hg2.trans (Fresh.alloc _ _), hg2.size, g3⟩
end Go.Proofs.YtginhebfjbhmnaaGreat

/-
  Package decode: Dead, New, Table.
-/
namespace Go.Proofs.YtginhebfjbhmnaaGreat
set_option maxRecDepth 100000
set_option maxRecDepth 100000
set_option linter.unusedVariables false
set_option linter.unusedSimpArgs false
open Go.RowKit
theorem de_new (most bound : Int) (w : World) (h0 : 0 ≤ most) (h1 : most ≤ 65536) (hb0 : 0 ≤ bound) (hb1 : bound ≤ 16384) :
    Calls Tryz.prog 19 #[.int .i64 most, .int .i64 bound] w fun e w' => ∃ d p, e = .returned (.tuple #[.pointer (some ⟨d, 0, none⟩), .int .i64 0]) ∧ w.heap.size ≤ p ∧ p < d ∧ (∀ base, DecAt w' base d p (.slice none 0 0) [] most most bound false) ∧ Fresh w w' := by
  have HNW := Lib.hid (dy_new most h0 h1 w)
  have e1 : ¬ bound < 0 := by omega
  have e2 : ¬ (16384 : Int) < bound := by omega
  have e1d : decide (bound < 0) = false := decide_eq_false e1
  have e2d : decide ((16384 : Int) < bound) = false := decide_eq_false e2
  go_enter Tryz.func19, Tryz.ntmps19
  go_wp2_with fail
  with_reducible refine HNW.out.mono ?_
  rintro e w1 ⟨p, rfl, hp, ht, hf⟩
  have HP := Lib.hid hp
  have HT := Lib.hid ht
  have HF := Lib.hid hf
  clear hp ht hf
  go_wp2
  go_ret2
  exact ⟨w1.heap.size, p, rfl, HP.out, (HT.out 0).blk.lt, fun base => ⟨Blk.new w1 _ _, (HT.out base).fresh (Fresh.alloc _ _)⟩, HF.out.trans (Fresh.alloc _ _)⟩
end Go.Proofs.YtginhebfjbhmnaaGreat

/-
  Package decode: Copy.
-/
namespace Go.Proofs.YtginhebfjbhmnaaGreat
set_option maxRecDepth 100000
set_option maxRecDepth 100000
set_option linter.unusedVariables false
set_option linter.unusedSimpArgs false
open Go.RowKit
set_option maxHeartbeats 1600000 in
theorem de_copy (base d p : Nat) (v : Value) (fs : List FldT) (lim most bound : Int) (dead : Bool) (w : World) (h : DecAt w base d p v fs lim most bound dead) (hb : base ≤ w.heap.size) (hm : fs.length ≤ 1000000) :
    Calls Tryz.prog 34 #[.pointer (some ⟨d, 0, none⟩)] w fun e w' => ∃ d' p' v', e = .returned (.pointer (some ⟨d', 0, none⟩)) ∧ DecAt w' w.heap.size d' p' v' fs lim most bound dead ∧ w.heap.size ≤ d' ∧ d' < p' ∧ (∀ k, v'.ownBlock = some k → d' < k) ∧ Fresh w w' := by
  obtain ⟨c0, c1, c2, c3⟩ := h.blk.c4
  have H := Lib.hid h
  have HC : Hid (∀ W, Fresh w W → Calls Tryz.prog 46 #[.pointer (some ⟨p, 0, none⟩)] W (CpyP base p fs lim W)) := Lib.hid (fun W hf => dy_copy base p v fs lim W (H.out.tab.fresh hf) (Nat.le_trans hb hf.size) hm)
  clear h
  go_enter Tryz.func34, Tryz.ntmps34
  go_upto_region 2 with fail
  refine wp_gen (fun W => Blk W w.heap.size 90 #[.pointer (some ⟨p, 0, none⟩), .int .i64 most, .int .i64 bound, .bool dead] ∧ Fresh w W) ⟨Blk.new w _ _, Fresh.alloc _ _⟩ ?_
  rintro W1 ⟨hb1, hf1⟩
  have HB1 := Lib.hid hb1
  have HF1 := Lib.hid hf1
  have hlt := hb1.lt
  obtain ⟨y0, y1, y2, y3⟩ := (H.out.blk.fresh hf1).c4
  clear hb1 hf1 c0 c1 c2 c3
  go_wp2_with fail
  with_reducible refine (HC.out _ HF1.out).mono ?_
  rintro e w2 ⟨p', v', rfl, ht, hf, hp, hv⟩
  have HB2 := Lib.hid (HB1.out.fresh hf)
  have HT := Lib.hid ht
  have HF2 := Lib.hid (HF1.out.trans hf)
  have HP := Lib.hid hp
  have HV := Lib.hid hv
  obtain ⟨x0, x1, x2, x3⟩ := HB2.out.c4
  have z0 := HB2.out.frozen 0
  clear ht hf hp hv y0 y1 y2 y3
  go_wp2
  go_ret
  have ho : Only (· = w.heap.size) w2 (w2.setCell ⟨w.heap.size, 0, none⟩ (.pointer (some ⟨p', 0, none⟩))) := (Only.of_fresh (Fresh.refl _)).step _ _ (.inl rfl)
  have htt := HT.out.only ho (by have := HP.out; omega) (fun k hk e => by have := HV.out k hk; omega)
  exact ⟨w.heap.size, p', v', rfl, ⟨HB2.out.set 0 _, ⟨htt.blk, Own.base_le htt.own (by have := HF1.out.size; omega)⟩⟩, Nat.le_refl _, by have := HP.out; omega, fun k hk => by have := HV.out k hk; omega, HF2.out.step _ _ (Nat.le_refl _)⟩
end Go.Proofs.YtginhebfjbhmnaaGreat

/-
  Package decode: New, refused.
-/
namespace Go.Proofs.YtginhebfjbhmnaaGreat
set_option maxRecDepth 100000
set_option maxRecDepth 100000
set_option linter.unusedVariables false
set_option linter.unusedSimpArgs false
open Go.RowKit
theorem de_new_no (most bound : Int) (w : World) (h : most < 0 ∨ 65536 < most ∨ bound < 0 ∨ 16384 < bound) :
    Calls Tryz.prog 19 #[.int .i64 most, .int .i64 bound] w fun e w' => e = .returned (.tuple #[.pointer none, .int .i64 11]) ∧ Fresh w w' := by
  by_cases hm : most < 0 ∨ 65536 < most
  · have HNW := Lib.hid (dy_new_no most hm w)
    go_enter Tryz.func19, Tryz.ntmps19
    go_wp2_with fail
    with_reducible refine HNW.out.mono ?_
    rintro e w1 ⟨rfl, rfl⟩
    go_wp2
    go_ret2
    exact ⟨rfl, Fresh.refl _⟩
  · have HNW := Lib.hid (dy_new most (by omega) (by omega) w)
    by_cases hb : bound < 0
    · have e1d : decide (bound < 0) = true := decide_eq_true hb
      go_enter Tryz.func19, Tryz.ntmps19
      go_wp2_with fail
      with_reducible refine HNW.out.mono ?_
      rintro e w1 ⟨p, rfl, hp, ht, hf⟩
      have HF := Lib.hid hf
      clear hp ht hf
      go_wp2
      go_ret2
      exact ⟨rfl, HF.out⟩
    · have e2 : (16384 : Int) < bound := by omega
      have e1d : decide (bound < 0) = false := decide_eq_false hb
      have e2d : decide ((16384 : Int) < bound) = true := decide_eq_true e2
      go_enter Tryz.func19, Tryz.ntmps19
      go_wp2_with fail
      with_reducible refine HNW.out.mono ?_
      rintro e w1 ⟨p, rfl, hp, ht, hf⟩
      have HF := Lib.hid hf
      clear hp ht hf
      go_wp2
      go_ret2
      exact ⟨rfl, HF.out⟩
end Go.Proofs.YtginhebfjbhmnaaGreat

/-
  The document's bits.
-/
namespace Go.Proofs.YtginhebfjbhmnaaGreat
set_option maxRecDepth 100000
set_option maxRecDepth 100000
set_option linter.unusedVariables false
set_option linter.unusedSimpArgs false
open Go.RowKit
end Go.Proofs.YtginhebfjbhmnaaGreat

/-
  Package decode: Fields.
-/
namespace Go.Proofs.YtginhebfjbhmnaaGreat
set_option maxRecDepth 100000
set_option maxRecDepth 100000
set_option linter.unusedVariables false
set_option linter.unusedSimpArgs false
open Go.RowKit
end Go.Proofs.YtginhebfjbhmnaaGreat

/-
  The document's entry.
-/
namespace Go.Proofs.YtginhebfjbhmnaaGreat
set_option maxRecDepth 100000
set_option maxRecDepth 100000
set_option linter.unusedVariables false
set_option linter.unusedSimpArgs false
open Go.RowKit
def En7P (fs : List FldT) (n : Nat) (w : World) (e : Ending) (w' : World) : Prop := (match entR fs n with
  | some f => e = .returned (.tuple #[.agg #[.string f.1, .string f.2], .int .i64 1])
  | none => e = .returned (.tuple #[nofV, .int .i64 0])) ∧ Fresh w w'
end Go.Proofs.YtginhebfjbhmnaaGreat

/-
  The document's Decode of layer 7: its rows, its state, how a line's texts are read.
-/
namespace Go.Proofs.YtginhebfjbhmnaaGreat
set_option maxRecDepth 100000
set_option maxRecDepth 100000
set_option linter.unusedVariables false
set_option linter.unusedSimpArgs false
open Go.RowKit
def nvI (b : Bool) : Int := if b then 1 else 0
def lnR (x : LnD) : List Value := [.string x.1.1, .string x.1.2, .int .i64 (nvI x.2)]
def rowR (l : List LnD) : List Value := l.flatMap lnR
theorem rowR_length (l : List LnD) : (rowR l).length = l.length * 3 := by
  induction l with
  | nil => rfl
  | cons x r ih => unfold rowR at *; rw [List.flatMap_cons, List.length_append, ih, List.length_cons]; simp [lnR]; omega
theorem rowR_at {x : LnD} {k : Nat} {xs : List LnD} (hf : xs[k]? = some x) : ∀ j, j < 3 → (rowR xs)[k * 3 + j]? = (lnR x)[j]? := by
  intro j hj
  induction xs generalizing k with
  | nil => cases hf
  | cons y r ih =>
    unfold rowR at *
    cases k with
    | zero =>
      simp only [List.getElem?_cons_zero, Option.some.injEq] at hf
      subst hf
      rw [List.flatMap_cons, List.getElem?_append_left (by simp [lnR]; omega)]
      simp
    | succ k =>
      rw [List.flatMap_cons, List.getElem?_append_right (by simp [lnR]; omega)]
      have := ih (k := k) (by simpa using hf)
      rw [show (k + 1) * 3 + j - (lnR y).length = k * 3 + j by simp [lnR]; omega]
      exact this
theorem own_manyR {w : World} {base n c : Nat} {E : TypeId} {A : Option Addr} {xs : List LnD} (h : Own w base E 3 (.slice A n c) n (rowR xs)) : Many lnR 3 w A xs := by
  intro hn
  have hl := h.length
  rw [rowR_length] at hl
  rcases h.form with ⟨_, h0, _⟩ | ⟨g, cap, e, hb, hlt, _, _, hc⟩
  · omega
  · injection e with e1
    refine ⟨g, 0, e1, hlt, fun k hk j hj => ?_⟩
    have := rowR_at (List.getElem?_eq_getElem hk) j hj
    rw [Nat.zero_add, (hc _ (by rw [rowR_length]; omega)).1, this]
/-- How the texts of a line are read, place by place. -/
def inR (kd n : Nat) : Nat → Nat → FldT → List UInt8 → Nat × FldT × List UInt8
  | 0, _, f, l => (0, f, l)
  | m + 1, k, f, l => if kd = 0 ∨ (k = 0 ∧ 0 < n) then inR kd n m (k + 1) f l
    else if (litR l 4096).2.2 ≠ 0 then ((litR l 4096).2.2, f, l)
    else inR kd n m (k + 1) (if k = 0 then (strB (litR l 4096).1, f.2) else (f.1, strB (litR l 4096).1)) (l.drop (litR l 4096).2.1)
theorem inR_line (gs : List FldT) (kd n : Nat) (l : List UInt8) (f0 : FldT) (h : kd = 0 ∨ 0 < n → entR gs n = some f0) :
    (inR kd n 2 0 f0 l).1 = (lineR gs kd n l).1 ∧ ((lineR gs kd n l).1 = 0 → (inR kd n 2 0 f0 l).2.1 = (lineR gs kd n l).2.1 ∧ (inR kd n 2 0 f0 l).2.2 = l.drop (lineR gs kd n l).2.2) := by
  by_cases hk : kd = 0
  · have he := h (.inl hk)
    have h1 : lineR gs kd n l = (0, f0, 0) := by unfold lineR; rw [if_pos hk, he]
    have h2 : inR kd n 2 0 f0 l = (0, f0, l) := by simp [inR, hk]
    rw [h1, h2]
    exact ⟨rfl, fun _ => ⟨rfl, by simp⟩⟩
  · have h1 : lineR gs kd n l = fieldR gs n l := by unfold lineR; rw [if_neg hk]
    rw [h1]
    by_cases hn : 0 < n
    · have he := h (.inr hn)
      rw [fieldR_entry (by omega) he]
      unfold valR
      simp only [List.drop_zero, Nat.zero_add]
      by_cases hz : (litR l 4096).2.2 = 0
      · have h2 : inR kd n 2 0 f0 l = (0, (f0.1, strB (litR l 4096).1), l.drop (litR l 4096).2.1) := by simp [inR, hk, hn, hz]
        rw [h2, if_pos hz]
        exact ⟨rfl, fun _ => ⟨rfl, rfl⟩⟩
      · have h2 : inR kd n 2 0 f0 l = ((litR l 4096).2.2, f0, l) := by simp [inR, hk, hn, hz]
        rw [h2, if_neg hz]
        exact ⟨rfl, fun hh => absurd hh hz⟩
    · obtain rfl : n = 0 := by omega
      by_cases hz : (litR l 4096).2.2 = 0
      · rw [fieldR_text hz]
        unfold valR
        by_cases hz2 : (litR (l.drop (litR l 4096).2.1) 4096).2.2 = 0
        · have h2 : inR kd 0 2 0 f0 l = (0, (strB (litR l 4096).1, strB (litR (l.drop (litR l 4096).2.1) 4096).1), (l.drop (litR l 4096).2.1).drop (litR (l.drop (litR l 4096).2.1) 4096).2.1) := by simp [inR, hk, hz, hz2]
          rw [h2, if_pos hz2]
          exact ⟨rfl, fun _ => ⟨rfl, by rw [List.drop_drop]⟩⟩
        · have h2 : (inR kd 0 2 0 f0 l).1 = (litR (l.drop (litR l 4096).2.1) 4096).2.2 := by simp [inR, hk, hz, hz2]
          rw [h2, if_neg hz2]
          exact ⟨rfl, fun hh => absurd hh hz2⟩
      · rw [fieldR_text_no hz]
        have h2 : inR kd 0 2 0 f0 l = ((litR l 4096).2.2, f0, l) := by simp [inR, hk, hz]
        rw [h2]
        exact ⟨rfl, fun hh => absurd hh hz⟩
theorem inR_skip {kd n m k : Nat} {f : FldT} {l : List UInt8} (h : kd = 0 ∨ (k = 0 ∧ 0 < n)) : inR kd n (m + 1) k f l = inR kd n m (k + 1) f l := by rw [inR, if_pos h]
theorem inR_err {kd n m k : Nat} {f : FldT} {l : List UInt8} (h : ¬ (kd = 0 ∨ (k = 0 ∧ 0 < n))) (he : (litR l 4096).2.2 ≠ 0) : inR kd n (m + 1) k f l = ((litR l 4096).2.2, f, l) := by rw [inR, if_neg h, if_pos he]
theorem inR_read {kd n m k : Nat} {f : FldT} {l : List UInt8} (h : ¬ (kd = 0 ∨ (k = 0 ∧ 0 < n))) (he : ¬ (litR l 4096).2.2 ≠ 0) : inR kd n (m + 1) k f l = inR kd n m (k + 1) (if k = 0 then (strB (litR l 4096).1, f.2) else (f.1, strB (litR l 4096).1)) (l.drop (litR l 4096).2.1) := by rw [inR, if_neg h, if_neg he]
section
variable {w wr W : World} {s0 r0 c : Nat} {A : Option Addr} {gs : List FldT} {lm most bound : Int} {ov : Value} {out : List LnD}
end
end Go.Proofs.YtginhebfjbhmnaaGreat

/-
  '==' between arrays of strings.
-/
namespace Go.Proofs.YtginhebfjbhmnaaGreat
set_option maxRecDepth 100000
set_option linter.unusedVariables false
open Go.RowKit
section
variable {P : Program} {t e : TypeId}
theorem run_eqItems_strs (he : P.underlying e = some .string) (d : Nat) (xs ys : List ByteArray) (w : World) : ∀ (is : List Nat), (∀ i ∈ is, i < xs.length ∧ i < ys.length) →
    (Op.eqItems (d + 1) e 1 (xs.map Value.string).toArray (ys.map Value.string).toArray is).run P w = .ok (is.all fun i => (xs.getD i ByteArray.empty).toList == (ys.getD i ByteArray.empty).toList) w
  | [], _ => by simp [Op.eqItems]
  | i :: is, h => by
    have hi := h i (by simp)
    have hk : P.plainKey e = true := by simp [Program.plainKey, he]
    have p1 := run_part_plain (P := P) w (e := e) hk (xs := (xs.map Value.string).toArray) (off := i * 1) (v := .string (xs.getD i ByteArray.empty)) (by simp [hi.1])
    have p2 := run_part_plain (P := P) w (e := e) hk (xs := (ys.map Value.string).toArray) (off := i * 1) (v := .string (ys.getD i ByteArray.empty)) (by simp [hi.2])
    have ih := run_eqItems_strs he d xs ys w is (fun j hj => h j (by simp [hj]))
    simp only [Op.eqItems, Sem.run_bind, p1, p2, Result.andThen_ok, run_equalIn_string w d e _ _ he, List.all_cons]
    cases hxy : ((xs.getD i ByteArray.empty).toList == (ys.getD i ByteArray.empty).toList) with
    | false => simp
    | true => simpa using ih
theorem run_equalIn_strs {n : Nat} (ht : P.underlying t = some (.array n e)) (he : P.underlying e = some .string) (hinfo : (P.info? e).map (·.size) = some 1) (d : Nat) (xs ys : List ByteArray) (hx : xs.length = n) (hy : ys.length = n) (w : World) :
    (Op.equalIn (d + 2) t (.agg (xs.map Value.string).toArray) (.agg (ys.map Value.string).toArray)).run P w = .ok ((List.range n).all fun i => (xs.getD i ByteArray.empty).toList == (ys.getD i ByteArray.empty).toList) w := by
  obtain ⟨i, hi, hs⟩ : ∃ i, P.info? e = some i ∧ i.size = 1 := by
    cases h : P.info? e with
    | none => rw [h] at hinfo; simp at hinfo
    | some i => rw [h] at hinfo; exact ⟨i, rfl, by simpa using hinfo⟩
  rw [run_equalIn_array w (d + 1) _ _ ht hi]
  have hc : P.cellsOf e = 1 := by simp [Program.cellsOf, hi, hs]
  rw [hc, run_eqItems_strs he d xs ys w _ (fun j hj => by have := List.mem_range.1 hj; omega)]
end
theorem toList_inj {a b : ByteArray} : a.toList = b.toList ↔ a = b := by
  constructor
  · intro h
    rw [ByteArray.toList_eq, ByteArray.toList_eq] at h
    obtain ⟨⟨x⟩⟩ := a
    obtain ⟨⟨y⟩⟩ := b
    have h' : x = y := h
    rw [h']
  · rintro rfl; rfl
end Go.Proofs.YtginhebfjbhmnaaGreat

/-
  Layer 7: what a block's reading keeps; the laws' own lines and table.
-/
namespace Go.Proofs.YtginhebfjbhmnaaGreat
set_option maxRecDepth 100000
set_option maxRecDepth 100000
set_option linter.unusedVariables false
set_option linter.unusedSimpArgs false
open Go.RowKit
/-- What stands of a table and of lines while a block is read. -/
structure Inv7 (most bound : Int) (R : Nat × List LnD × List FldT × Int) : Prop where
  l0 : 0 ≤ R.2.2.2
  l1 : R.2.2.2 ≤ most
  tz : (tz R.2.2.1 : Int) ≤ R.2.2.2
  no : R.1 ≠ 0 → R.2.1 = []
  sum : (Go.Proofs.YtginhebfjbhmnaaGreat.tz (R.2.1.map (·.1)) : Int) ≤ bound
theorem blockR_inv (most bound : Int) (hb : 0 ≤ bound) : ∀ (m : Nat) (fs : List FldT) (lim : Int) (size : Nat) (out : List LnD) (l : List UInt8), 0 ≤ lim → lim ≤ most → (tz fs : Int) ≤ lim → size = tz (out.map (·.1)) → (size : Int) ≤ bound → Inv7 most bound (blockR most bound m fs lim size out l)
  | 0, fs, lim, size, out, l, h0, h1, h2, h3, h4 => by
    rw [show blockR most bound 0 fs lim size out l = (0, out, fs, lim) from by cases l <;> rfl]
    exact ⟨h0, h1, h2, fun h => absurd rfl h, by simp only; rw [← h3]; exact h4⟩
  | m + 1, fs, lim, size, out, [], h0, h1, h2, h3, h4 => by
    rw [blockR_nil]
    exact ⟨h0, h1, h2, fun h => absurd rfl h, by simp only; rw [← h3]; exact h4⟩
  | m + 1, fs, lim, size, out, c :: r, h0, h1, h2, h3, h4 => by
    have hno : ∀ (e : Nat) (gs : List FldT), (tz gs : Int) ≤ lim → Inv7 most bound (e, [], gs, lim) := fun e gs hg => ⟨h0, h1, hg, fun _ => rfl, by simpa [tz] using hb⟩
    rcases decL_casesB (bitsR c.toNat) (by have := bitsR_bd c.toNat; omega) (c :: r) with he | he | ⟨N, u, he, hu1, hu2, _⟩
    · rw [blockR_num (e := 22) he (by omega)]; exact hno _ _ h2
    · rw [blockR_num (e := 16) he (by omega)]; exact hno _ _ h2
    · by_cases hk : kindR c.toNat = 2
      · by_cases hn : 0 < out.length ∨ most < (N : Int)
        · rw [blockR_lim_no he hk hn]; exact hno _ _ h2
        · rw [blockR_lim he hk hn]
          exact blockR_inv most bound hb m _ _ _ _ _ (by omega) (by omega) (tz_gone_nat fs N) h3 h4
      · rw [blockR_line he _ rfl hk _ rfl]
        have hz := tz_fsL fs lim (kindR c.toNat) N ((c :: r).drop u) h0 h2
        split
        · exact hno _ _ hz
        split
        · exact hno _ _ hz
        · rename_i hbd
          refine blockR_inv most bound hb m _ _ _ _ _ h0 h1 hz ?_ (by omega)
          rw [List.map_append, tz_append, ← h3]
          simp [tz]
theorem run_lines_eq (S : ByteArray) : (S.toList == S.toList) = true := beq_self_eq_true _
end Go.Proofs.YtginhebfjbhmnaaGreat

