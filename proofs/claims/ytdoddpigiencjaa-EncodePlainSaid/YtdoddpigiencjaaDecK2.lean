/-
  Texts laid together: DecI DecJ DecK DecL DecM DecN DecP.
-/
import Derived.Test.YtdoddpigiencjaaDecH
import Derived.Test.YtdoddpigiencjaaDecO
/-
  Package decode: Dead, New, Table.
-/
namespace Go.Proofs.Ytdoddpigiencjaa
set_option maxRecDepth 100000
set_option linter.unusedVariables false
set_option linter.unusedSimpArgs false
open Go.RowKit
theorem de_dead (base d p : Nat) (v : Value) (fs : List FldT) (lim most bound : Int) (dead : Bool) (w : World) (h : DecAt w base d p v fs lim most bound dead) :
    Calls Try.prog 17 #[.pointer (some ⟨d, 0, none⟩)] w fun e w' => e = .returned (.bool dead) ∧ w = w' := by
  obtain ⟨c0, c1, c2, c3⟩ := h.blk.c4
  clear h
  go_enter Try.func17, Try.ntmps17
  go_wp2
  go_ret
  exact ⟨rfl, rfl⟩
theorem de_table (base d p : Nat) (v : Value) (fs : List FldT) (lim most bound : Int) (dead : Bool) (w : World) (h : DecAt w base d p v fs lim most bound dead) (hb : base ≤ w.heap.size) (hm : fs.length ≤ 1000000) :
    Calls Try.prog 18 #[.pointer (some ⟨d, 0, none⟩)] w (CpyP base p fs lim w) := by
  obtain ⟨c0, c1, c2, c3⟩ := h.blk.c4
  have HC := Lib.hid (dy_copy base p v fs lim w h.tab hb hm)
  clear h
  unfold CpyP at *
  go_enter Try.func18, Try.ntmps18
  go_wp2_with fail
  with_reducible refine HC.out.mono ?_
  rintro e w1 ⟨p', v', rfl, hh⟩
  have HH := Lib.hid hh
  clear hh c0 c1 c2 c3
  go_wp2
  go_ret
  exact ⟨p', v', rfl, HH.out⟩
theorem de_new (most bound : Int) (w : World) (h0 : 0 ≤ most) (h1 : most ≤ 65536) (hb0 : 0 ≤ bound) (hb1 : bound ≤ 16384) :
    Calls Try.prog 15 #[.int .i64 most, .int .i64 bound] w fun e w' => ∃ d p, e = .returned (.tuple #[.pointer (some ⟨d, 0, none⟩), .int .i64 0]) ∧ w.heap.size ≤ p ∧ p < d ∧ (∀ base, DecAt w' base d p (.slice none 0 0) [] most most bound false) ∧ Fresh w w' := by
  have HNW := Lib.hid (dy_new most h0 h1 w)
  have e1 : ¬ bound < 0 := by omega
  have e2 : ¬ (16384 : Int) < bound := by omega
  have e1d : decide (bound < 0) = false := decide_eq_false e1
  have e2d : decide ((16384 : Int) < bound) = false := decide_eq_false e2
  go_enter Try.func15, Try.ntmps15
  go_wp2_with fail
  with_reducible refine HNW.out.mono ?_
  rintro e w1 ⟨p, rfl, hp, ht, hf⟩
  have HP := Lib.hid hp
  have HT := Lib.hid ht
  have HF := Lib.hid hf
  clear hp ht hf
  go_wp2
  go_ret2
  exact ⟨w1.heap.size, p, rfl, HP.out, (HT.out 0).blk.lt, fun base => ⟨Blk.new w1 _ _, (HT.out base).fresh (Fresh.alloc _ _)⟩, HF.out.trans (Fresh.alloc _ _)⟩
end Go.Proofs.Ytdoddpigiencjaa

/-
  Package decode: Copy.
-/
namespace Go.Proofs.Ytdoddpigiencjaa
set_option maxRecDepth 100000
set_option linter.unusedVariables false
set_option linter.unusedSimpArgs false
open Go.RowKit
end Go.Proofs.Ytdoddpigiencjaa

/-
  Package decode: New, refused.
-/
namespace Go.Proofs.Ytdoddpigiencjaa
set_option maxRecDepth 100000
set_option linter.unusedVariables false
set_option linter.unusedSimpArgs false
open Go.RowKit
theorem de_new_no (most bound : Int) (w : World) (h : most < 0 ∨ 65536 < most ∨ bound < 0 ∨ 16384 < bound) :
    Calls Try.prog 15 #[.int .i64 most, .int .i64 bound] w fun e w' => e = .returned (.tuple #[.pointer none, .int .i64 11]) ∧ Fresh w w' := by
  by_cases hm : most < 0 ∨ 65536 < most
  · have HNW := Lib.hid (dy_new_no most hm w)
    go_enter Try.func15, Try.ntmps15
    go_wp2_with fail
    with_reducible refine HNW.out.mono ?_
    rintro e w1 ⟨rfl, rfl⟩
    go_wp2
    go_ret2
    exact ⟨rfl, Fresh.refl _⟩
  · have HNW := Lib.hid (dy_new most (by omega) (by omega) w)
    by_cases hb : bound < 0
    · have e1d : decide (bound < 0) = true := decide_eq_true hb
      go_enter Try.func15, Try.ntmps15
      go_wp2_with fail
      with_reducible refine HNW.out.mono ?_
      rintro e w1 ⟨p, rfl, hp, ht, hf⟩
      have HF := Lib.hid hf
      clear hp ht hf
      go_wp2
      go_ret2
      exact ⟨rfl, HF.out⟩
    · have e2 : (16384 : Int) < bound := by omega
      have e1d : decide (bound < 0) = false := decide_eq_false hb
      have e2d : decide ((16384 : Int) < bound) = true := decide_eq_true e2
      go_enter Try.func15, Try.ntmps15
      go_wp2_with fail
      with_reducible refine HNW.out.mono ?_
      rintro e w1 ⟨p, rfl, hp, ht, hf⟩
      have HF := Lib.hid hf
      clear hp ht hf
      go_wp2
      go_ret2
      exact ⟨rfl, HF.out⟩
end Go.Proofs.Ytdoddpigiencjaa

/-
  The document's bits.
-/
namespace Go.Proofs.Ytdoddpigiencjaa
set_option maxRecDepth 100000
set_option linter.unusedVariables false
set_option linter.unusedSimpArgs false
open Go.RowKit
set_option maxHeartbeats 1600000 in
theorem rf7_bits (x : UInt8) (w : World) : Calls Try.prog 36 #[.int .u8 (x.toNat : Int)] w fun e w' => e = .returned (.int .i64 (bitsR x.toNat : Int)) ∧ w = w' := by
  obtain ⟨b, hb⟩ : ∃ b, bitsR x.toNat = b := ⟨_, rfl⟩
  have hx := UInt8.toNat_lt x
  rw [hb]
  unfold bitsR at hb
  generalize x.toNat = n at *
  by_cases h1 : 128 ≤ n
  · rw [if_pos h1] at hb
    subst hb
    have e1 : (128 : Int) ≤ (n : Int) := by omega
    go_enter Try.func36, Try.ntmps36
    go_wp2
    go_ret
    exact ⟨rfl, rfl⟩
  rw [if_neg h1] at hb
  have e1 : ¬ (128 : Int) ≤ (n : Int) := by omega
  by_cases h2 : 64 ≤ n
  · rw [if_pos h2] at hb
    subst hb
    have e2 : (64 : Int) ≤ (n : Int) := by omega
    go_enter Try.func36, Try.ntmps36
    go_wp2
    go_ret
    exact ⟨rfl, rfl⟩
  rw [if_neg h2] at hb
  have e2 : ¬ (64 : Int) ≤ (n : Int) := by omega
  by_cases h3 : 32 ≤ n
  · rw [if_pos h3] at hb
    subst hb
    have e3 : (32 : Int) ≤ (n : Int) := by omega
    go_enter Try.func36, Try.ntmps36
    go_wp2
    go_ret
    exact ⟨rfl, rfl⟩
  · rw [if_neg h3] at hb
    subst hb
    have e3 : ¬ (32 : Int) ≤ (n : Int) := by omega
    go_enter Try.func36, Try.ntmps36
    go_wp2
    go_ret
    exact ⟨rfl, rfl⟩
end Go.Proofs.Ytdoddpigiencjaa

/-
  Package decode: Fields.
-/
namespace Go.Proofs.Ytdoddpigiencjaa
set_option maxRecDepth 100000
set_option linter.unusedVariables false
set_option linter.unusedSimpArgs false
open Go.RowKit
end Go.Proofs.Ytdoddpigiencjaa

/-
  The document's entry.
-/
namespace Go.Proofs.Ytdoddpigiencjaa
set_option maxRecDepth 100000
set_option linter.unusedVariables false
set_option linter.unusedSimpArgs false
open Go.RowKit
def En7P (fs : List FldT) (n : Nat) (w : World) (e : Ending) (w' : World) : Prop := (match entR fs n with
  | some f => e = .returned (.tuple #[.agg #[.string f.1, .string f.2], .int .i64 1])
  | none => e = .returned (.tuple #[nofV, .int .i64 0])) ∧ Fresh w w'
set_option maxHeartbeats 1600000 in
theorem rf7_entry (A : Option Addr) (c : Nat) (fs : List FldT) (lim most bound : Int) (dead : Bool) (n : Nat) (w : World) (hm : Many fldD 2 w A fs.reverse) (hl : fs.length ≤ 1000000) (hn : n ≤ 2147483647) :
    Calls Try.prog 38 #[.agg #[.slice A fs.length c, .int .i64 lim, .int .i64 most, .int .i64 bound, .bool dead], .int .i64 (n : Int)] w (En7P fs n w) := by
  have HM := Lib.hid hm
  have HB0 := Lib.hid ((Blk.new w 49 #[.slice A fs.length c, .int .i64 lim, .int .i64 most, .int .i64 bound, .bool dead]).fresh (Fresh.alloc _ (.cells #[.string ⟨#[]⟩, .string ⟨#[]⟩] 77)))
  have HB1 := Lib.hid (Blk.new (w.alloc (.cells #[.slice A fs.length c, .int .i64 lim, .int .i64 most, .int .i64 bound, .bool dead] 49)) 77 #[.string ⟨#[]⟩, .string ⟨#[]⟩])
  have HF0 : Hid (Fresh w ((w.alloc (.cells #[.slice A fs.length c, .int .i64 lim, .int .i64 most, .int .i64 bound, .bool dead] 49)).alloc (.cells #[.string ⟨#[]⟩, .string ⟨#[]⟩] 77))) := Lib.hid ((Fresh.alloc _ _).allocS _)
  clear hm
  by_cases h1 : 1 ≤ n ∧ n ≤ 61
  · obtain ⟨k, rfl⟩ : ∃ k, n = k + 1 := ⟨n - 1, by omega⟩
    have HFIN : Hid (∀ W, Fresh w W → En7P fs (k + 1) w (.returned (.tuple #[.agg #[.string (fldAt k).1, .string (fldAt k).2], .int .i64 1])) W) := Lib.hid (fun W hf => ⟨by rw [entR_static fs (by omega) h1.2]; rfl, hf⟩)
    have HG := Lib.hid (fun W => st_entry k ((k : Int) + 1) W rfl (by omega))
    generalize En7P fs (k + 1) w = EP at *
    rw [show ((k + 1 : Nat) : Int) = (k : Int) + 1 by omega]
    unfold EntP at HG
    generalize (fldAt k).1 = F1 at *
    generalize (fldAt k).2 = F2 at *
    have e1 : (1 : Int) ≤ (k : Int) + 1 := by omega
    have e2 : (k : Int) + 1 ≤ 61 := by omega
    clear h1
    go_enter Try.func38, Try.ntmps38
    go_upto_region 1 with fail
    refine wp_gen (fun W => Blk W (w.heap.size + 1) 77 #[.string ⟨#[]⟩, .string ⟨#[]⟩] ∧ Fresh w W) ⟨by simpa using HB1.out, HF0.out⟩ ?_
    rintro W ⟨hb, hf⟩
    have HB := Lib.hid hb
    have HF := Lib.hid hf
    clear hb hf
    go_wp2_with fail
    with_reducible refine (HG.out _).mono ?_
    rintro e w1 ⟨rfl, hf1⟩
    have HF1 := Lib.hid (HF.out.trans hf1)
    have HB2 := Lib.hid (HB.out.fresh hf1)
    obtain ⟨y0, y1⟩ := HB2.out.c2
    have z0 := HB2.out.frozen 0
    have z1 := HB2.out.frozen 1
    clear hf1
    go_wp2
    refine wx_gen (fun W => Blk W (w.heap.size + 1) 77 #[.string F1, .string F2] ∧ Fresh w W) ⟨(HB2.out.set 0 (.string F1)).set 1 (.string F2), by repeat (first | with_reducible exact HF1.out | (with_reducible refine Fresh.step2 ?_ ?_; focus (simp)))⟩ ?_
    rintro W7 ⟨hb7, hf7⟩
    obtain ⟨r0, r1⟩ := hb7.c2
    exact bodyPost_ret (v := .tuple #[.agg #[.string F1, .string F2], .int .i64 1]) (by simp [results, Try.f38, go_sem, r0, r1]) rfl (HFIN.out _ hf7)
  · have h1d : decide (1 ≤ (n : Int)) = decide (n ≠ 0) := by by_cases h : n = 0 <;> simp [h] <;> omega
    by_cases h2 : 61 < n ∧ n - 61 ≤ fs.length
    · obtain ⟨f, hf⟩ : ∃ f, fs[fs.length - (n - 61)]? = some f := ⟨_, List.getElem?_eq_getElem (by omega)⟩
      have HFIN : Hid (∀ W, Fresh w W → En7P fs n w (.returned (.tuple #[.agg #[.string f.1, .string f.2], .int .i64 1])) W) := Lib.hid (fun W hfr => ⟨by rw [entR_dyn fs h2.1 h2.2, hf], hfr⟩)
      obtain ⟨k, rfl⟩ : ∃ k, n = k + 62 := ⟨n - 62, by omega⟩
      have hrv : fs.reverse[k]? = some f := by
        rw [List.getElem?_reverse (by omega), ← hf]
        congr 1
        omega
      obtain ⟨b, o, rfl, hb, q0, q1⟩ := HM.out.atD2 k f hrv
      have HQ0 := Lib.hid q0
      have HQ1 := Lib.hid q1
      obtain ⟨F1, F2⟩ := f
      simp only at HFIN HQ0 HQ1
      generalize En7P fs (k + 62) w = EP at *
      have hkl : k < fs.length := by omega
      generalize fs.length = m at *
      rw [show ((k + 62 : Nat) : Int) = (k : Int) + 62 by omega]
      have e1 : (1 : Int) ≤ (k : Int) + 62 := by omega
      have e2 : ¬ (k : Int) + 62 ≤ 61 := by omega
      have e3 : (61 : Int) < (k : Int) + 62 := by omega
      have e4 : IntKind.i64.wrap ((k : Int) + 62 - 61) = (k : Int) + 1 := by rw [show (k : Int) + 62 - 61 = (k : Int) + 1 by omega]; exact IntWalk.i64_in _ (by omega)
      have e5 : (k : Int) + 1 ≤ (m : Int) := by omega
      have e6 : IntKind.i64.wrap ((k : Int) + 62 - 62) = (k : Int) := by rw [show (k : Int) + 62 - 62 = (k : Int) by omega]; exact IntWalk.i64_in _ (by omega)
      have e7 : (k : Int) < (m : Int) := by omega
      clear hrv hf h2 h1 h1d q0 q1
      go_enter Try.func38, Try.ntmps38
      go_upto_region 1 with fail
      refine wp_gen (fun W => Blk W w.heap.size 49 #[.slice (some ⟨b, o, none⟩) m c, .int .i64 lim, .int .i64 most, .int .i64 bound, .bool dead] ∧ Blk W (w.heap.size + 1) 77 #[.string ⟨#[]⟩, .string ⟨#[]⟩] ∧ Fresh w W) ⟨HB0.out, by simpa using HB1.out, HF0.out⟩ ?_
      rintro W ⟨hb0, hb1, hf⟩
      have HB2 := Lib.hid hb1
      have HF1 := Lib.hid hf
      have x0 := hb0.cell 0
      simp at x0
      obtain ⟨y0, y1⟩ := hb1.c2
      have z0 := hb1.frozen 0
      have z1 := hb1.frozen 1
      have q0 := (hf.cell (p := ⟨b, o + k * 2, none⟩) hb).trans HQ0.out
      have q1 := (hf.cell (p := ⟨b, o + k * 2 + 1, none⟩) hb).trans HQ1.out
      clear hb0 hb1 hf hb
      go_wp2
      refine wx_gen (fun W => Blk W (w.heap.size + 1) 77 #[.string F1, .string F2] ∧ Fresh w W) ⟨(HB2.out.set 0 (.string F1)).set 1 (.string F2), by repeat (first | with_reducible exact HF1.out | (with_reducible refine Fresh.step2 ?_ ?_; focus (simp)))⟩ ?_
      rintro W7 ⟨hb7, hf7⟩
      obtain ⟨r0, r1⟩ := hb7.c2
      exact bodyPost_ret (v := .tuple #[.agg #[.string F1, .string F2], .int .i64 1]) (by simp [results, Try.f38, go_sem, r0, r1]) rfl (HFIN.out _ hf7)
    · have HFIN : Hid (∀ W, Fresh w W → En7P fs n w (.returned (.tuple #[nofV, .int .i64 0])) W) := Lib.hid (fun W hfr => ⟨by rw [entR_none fs (by omega)], hfr⟩)
      unfold nofV at HFIN
      generalize En7P fs n w = EP at *
      generalize fs.length = m at *
      have hfin : ∀ W, (Blk W w.heap.size 49 #[.slice A m c, .int .i64 lim, .int .i64 most, .int .i64 bound, .bool dead] ∧ Blk W (w.heap.size + 1) 77 #[.string ⟨#[]⟩, .string ⟨#[]⟩] ∧ Fresh w W) → True := fun _ _ => trivial
      by_cases h0 : n = 0
      · subst h0
        clear h1 h2 h1d hfin
        rw [show ((0 : Nat) : Int) = 0 from rfl]
        go_enter Try.func38, Try.ntmps38
        go_upto_region 1 with fail
        refine wp_gen (fun W => Blk W (w.heap.size + 1) 77 #[.string ⟨#[]⟩, .string ⟨#[]⟩] ∧ Fresh w W) ⟨by simpa using HB1.out, HF0.out⟩ ?_
        rintro W ⟨hb1, hf⟩
        have HB2 := Lib.hid hb1
        have HF1 := Lib.hid hf
        obtain ⟨y0, y1⟩ := hb1.c2
        have z0 := hb1.frozen 0
        have z1 := hb1.frozen 1
        clear hb1 hf
        go_wp2
        refine wx_gen (fun W => Blk W (w.heap.size + 1) 77 #[.string ⟨#[]⟩, .string ⟨#[]⟩] ∧ Fresh w W) ⟨(HB2.out.set 0 (.string ⟨#[]⟩)).set 1 (.string ⟨#[]⟩), by repeat (first | with_reducible exact HF1.out | (with_reducible refine Fresh.step2 ?_ ?_; focus (simp)))⟩ ?_
        rintro W7 ⟨hb7, hf7⟩
        obtain ⟨r0, r1⟩ := hb7.c2
        exact bodyPost_ret (v := .tuple #[.agg #[.string ⟨#[]⟩, .string ⟨#[]⟩], .int .i64 0]) (by simp [results, Try.f38, go_sem, r0, r1]) rfl (HFIN.out _ hf7)
      · have e1 : (1 : Int) ≤ (n : Int) := by omega
        have e2 : ¬ (n : Int) ≤ 61 := by omega
        have e3 : (61 : Int) < (n : Int) := by omega
        have e4 : IntKind.i64.wrap ((n : Int) - 61) = (n : Int) - 61 := IntWalk.i64_in _ (by omega)
        have e5 : ¬ (n : Int) - 61 ≤ (m : Int) := by omega
        clear h1 h2 h1d hfin
        go_enter Try.func38, Try.ntmps38
        go_upto_region 1 with fail
        refine wp_gen (fun W => Blk W w.heap.size 49 #[.slice A m c, .int .i64 lim, .int .i64 most, .int .i64 bound, .bool dead] ∧ Blk W (w.heap.size + 1) 77 #[.string ⟨#[]⟩, .string ⟨#[]⟩] ∧ Fresh w W) ⟨HB0.out, by simpa using HB1.out, HF0.out⟩ ?_
        rintro W ⟨hb0, hb1, hf⟩
        have HB2 := Lib.hid hb1
        have HF1 := Lib.hid hf
        have x0 := hb0.cell 0
        simp at x0
        obtain ⟨y0, y1⟩ := hb1.c2
        have z0 := hb1.frozen 0
        have z1 := hb1.frozen 1
        clear hb0 hb1 hf
        go_wp2
        refine wx_gen (fun W => Blk W (w.heap.size + 1) 77 #[.string ⟨#[]⟩, .string ⟨#[]⟩] ∧ Fresh w W) ⟨(HB2.out.set 0 (.string ⟨#[]⟩)).set 1 (.string ⟨#[]⟩), by repeat (first | with_reducible exact HF1.out | (with_reducible refine Fresh.step2 ?_ ?_; focus (simp)))⟩ ?_
        rintro W7 ⟨hb7, hf7⟩
        obtain ⟨r0, r1⟩ := hb7.c2
        exact bodyPost_ret (v := .tuple #[.agg #[.string ⟨#[]⟩, .string ⟨#[]⟩], .int .i64 0]) (by simp [results, Try.f38, go_sem, r0, r1]) rfl (HFIN.out _ hf7)
end Go.Proofs.Ytdoddpigiencjaa

/-
  The document's Decode of layer 7: its rows, its state, how a line's texts are read.
-/
namespace Go.Proofs.Ytdoddpigiencjaa
set_option maxRecDepth 100000
set_option linter.unusedVariables false
set_option linter.unusedSimpArgs false
open Go.RowKit
def nvI (b : Bool) : Int := if b then 1 else 0
def lnR (x : LnD) : List Value := [.string x.1.1, .string x.1.2, .int .i64 (nvI x.2)]
def rowR (l : List LnD) : List Value := l.flatMap lnR
theorem rowR_length (l : List LnD) : (rowR l).length = l.length * 3 := by
  induction l with
  | nil => rfl
  | cons x r ih => unfold rowR at *; rw [List.flatMap_cons, List.length_append, ih, List.length_cons]; simp [lnR]; omega
theorem rowR_at {x : LnD} {k : Nat} {xs : List LnD} (hf : xs[k]? = some x) : ∀ j, j < 3 → (rowR xs)[k * 3 + j]? = (lnR x)[j]? := by
  intro j hj
  induction xs generalizing k with
  | nil => cases hf
  | cons y r ih =>
    unfold rowR at *
    cases k with
    | zero =>
      simp only [List.getElem?_cons_zero, Option.some.injEq] at hf
      subst hf
      rw [List.flatMap_cons, List.getElem?_append_left (by simp [lnR]; omega)]
      simp
    | succ k =>
      rw [List.flatMap_cons, List.getElem?_append_right (by simp [lnR]; omega)]
      have := ih (k := k) (by simpa using hf)
      rw [show (k + 1) * 3 + j - (lnR y).length = k * 3 + j by simp [lnR]; omega]
      exact this
theorem own_manyR {w : World} {base n c : Nat} {E : TypeId} {A : Option Addr} {xs : List LnD} (h : Own w base E 3 (.slice A n c) n (rowR xs)) : Many lnR 3 w A xs := by
  intro hn
  have hl := h.length
  rw [rowR_length] at hl
  rcases h.form with ⟨_, h0, _⟩ | ⟨g, cap, e, hb, hlt, _, _, hc⟩
  · omega
  · injection e with e1
    refine ⟨g, 0, e1, hlt, fun k hk j hj => ?_⟩
    have := rowR_at (List.getElem?_eq_getElem hk) j hj
    rw [Nat.zero_add, (hc _ (by rw [rowR_length]; omega)).1, this]
theorem lnr_info : (Try.prog.info? 84).map (fun i => (i.zero, i.size, i.bytes)) = some (some (.agg #[.string ⟨#[]⟩, .string ⟨#[]⟩, .int .i64 0]), 3, 40) := by kernel_rfl
theorem lnr_push {w : World} {base : Nat} {v : Value} {xs : List LnD} (h : Own w base 84 3 v xs.length (rowR xs)) (hb : base ≤ w.heap.size) (x : LnD) (hn : (xs.length + 1) * 40 ≤ 140737488355328) (g : Nat) (hg : w.heap.size = g) :
    ∃ A' c' w', (Builtin.append_ #[50, 50] 50 #[v, .slice (some ⟨g, 0, none⟩) 1 1]).run Try.prog (w.alloc (.cells #[.string x.1.1, .string x.1.2, .int .i64 (nvI x.2)] 84)) = .ok (.slice A' (xs.length + 1) c') w' ∧ Own w' base 84 3 (.slice A' (xs.length + 1) c') (xs ++ [x]).length (rowR (xs ++ [x])) ∧ Only (fun k => v.ownBlock = some k) w w' := by
  subst hg
  obtain ⟨i, hi, hiz, his, hib⟩ := info_parts3D lnr_info
  obtain ⟨v', w', hr, ho, hgr, _, hat⟩ := run_append_own_at (P := Try.prog) (w.alloc (.cells #[.string x.1.1, .string x.1.2, .int .i64 (nvI x.2)] 84)) base 50 50 84 i _ 3 40 Try.underlying50 hi hiz his hib rfl (by omega) v xs.length _ (h.fresh (Fresh.alloc _ _)) ⟨w.heap.size, 0, none⟩ 1 1 [.string x.1.1, .string x.1.2, .int .i64 (nvI x.2)] rfl
    (fun j u hj => by
      rw [add_eq _ _ rfl]
      simp only [Nat.zero_add]
      rw [(Blk.new w 84 #[.string x.1.1, .string x.1.2, .int .i64 (nvI x.2)]).cell]
      simpa using hj) (by
    intro u hu
    simp only [List.mem_cons, List.not_mem_nil, or_false] at hu
    rcases hu with rfl | rfl | rfl <;> rfl) (by unfold maxLen; omega) hn (by simp; omega)
  obtain ⟨A', c', rfl, _⟩ := Own.slice (show Own w' base _ 3 v' _ _ from ho)
  have hO : Only (fun k => v.ownBlock = some k) (w.alloc (.cells #[.string x.1.1, .string x.1.2, .int .i64 (nvI x.2)] 84)) w' := ⟨hgr.os, hgr.tape, hgr.output, hgr.size, fun k hk hne => hgr.block k hk (fun e => hne e.symm)⟩
  have hO2 : Only (fun k => v.ownBlock = some k) w w' := (Only.of_fresh (Fresh.alloc _ _)).trans hO
  refine ⟨A', c', w', hr, ?_, hO2⟩
  have : Own w' base 84 3 (.slice A' (xs.length + 1) c') (xs.length + 1) _ := ho
  simpa [rowR, lnR] using this
/-- How the texts of a line are read, place by place. -/
def inR (kd n : Nat) : Nat → Nat → FldT → List UInt8 → Nat × FldT × List UInt8
  | 0, _, f, l => (0, f, l)
  | m + 1, k, f, l => if kd = 0 ∨ (k = 0 ∧ 0 < n) then inR kd n m (k + 1) f l
    else if (litR l 4096).2.2 ≠ 0 then ((litR l 4096).2.2, f, l)
    else inR kd n m (k + 1) (if k = 0 then (strB (litR l 4096).1, f.2) else (f.1, strB (litR l 4096).1)) (l.drop (litR l 4096).2.1)
theorem inR_line (gs : List FldT) (kd n : Nat) (l : List UInt8) (f0 : FldT) (h : kd = 0 ∨ 0 < n → entR gs n = some f0) :
    (inR kd n 2 0 f0 l).1 = (lineR gs kd n l).1 ∧ ((lineR gs kd n l).1 = 0 → (inR kd n 2 0 f0 l).2.1 = (lineR gs kd n l).2.1 ∧ (inR kd n 2 0 f0 l).2.2 = l.drop (lineR gs kd n l).2.2) := by
  by_cases hk : kd = 0
  · have he := h (.inl hk)
    have h1 : lineR gs kd n l = (0, f0, 0) := by unfold lineR; rw [if_pos hk, he]
    have h2 : inR kd n 2 0 f0 l = (0, f0, l) := by simp [inR, hk]
    rw [h1, h2]
    exact ⟨rfl, fun _ => ⟨rfl, by simp⟩⟩
  · have h1 : lineR gs kd n l = fieldR gs n l := by unfold lineR; rw [if_neg hk]
    rw [h1]
    by_cases hn : 0 < n
    · have he := h (.inr hn)
      rw [fieldR_entry (by omega) he]
      unfold valR
      simp only [List.drop_zero, Nat.zero_add]
      by_cases hz : (litR l 4096).2.2 = 0
      · have h2 : inR kd n 2 0 f0 l = (0, (f0.1, strB (litR l 4096).1), l.drop (litR l 4096).2.1) := by simp [inR, hk, hn, hz]
        rw [h2, if_pos hz]
        exact ⟨rfl, fun _ => ⟨rfl, rfl⟩⟩
      · have h2 : inR kd n 2 0 f0 l = ((litR l 4096).2.2, f0, l) := by simp [inR, hk, hn, hz]
        rw [h2, if_neg hz]
        exact ⟨rfl, fun hh => absurd hh hz⟩
    · obtain rfl : n = 0 := by omega
      by_cases hz : (litR l 4096).2.2 = 0
      · rw [fieldR_text hz]
        unfold valR
        by_cases hz2 : (litR (l.drop (litR l 4096).2.1) 4096).2.2 = 0
        · have h2 : inR kd 0 2 0 f0 l = (0, (strB (litR l 4096).1, strB (litR (l.drop (litR l 4096).2.1) 4096).1), (l.drop (litR l 4096).2.1).drop (litR (l.drop (litR l 4096).2.1) 4096).2.1) := by simp [inR, hk, hz, hz2]
          rw [h2, if_pos hz2]
          exact ⟨rfl, fun _ => ⟨rfl, by rw [List.drop_drop]⟩⟩
        · have h2 : (inR kd 0 2 0 f0 l).1 = (litR (l.drop (litR l 4096).2.1) 4096).2.2 := by simp [inR, hk, hz, hz2]
          rw [h2, if_neg hz2]
          exact ⟨rfl, fun hh => absurd hh hz2⟩
      · rw [fieldR_text_no hz]
        have h2 : inR kd 0 2 0 f0 l = ((litR l 4096).2.2, f0, l) := by simp [inR, hk, hz]
        rw [h2]
        exact ⟨rfl, fun hh => absurd hh hz⟩
theorem inR_skip {kd n m k : Nat} {f : FldT} {l : List UInt8} (h : kd = 0 ∨ (k = 0 ∧ 0 < n)) : inR kd n (m + 1) k f l = inR kd n m (k + 1) f l := by rw [inR, if_pos h]
theorem inR_err {kd n m k : Nat} {f : FldT} {l : List UInt8} (h : ¬ (kd = 0 ∨ (k = 0 ∧ 0 < n))) (he : (litR l 4096).2.2 ≠ 0) : inR kd n (m + 1) k f l = ((litR l 4096).2.2, f, l) := by rw [inR, if_neg h, if_pos he]
theorem inR_read {kd n m k : Nat} {f : FldT} {l : List UInt8} (h : ¬ (kd = 0 ∨ (k = 0 ∧ 0 < n))) (he : ¬ (litR l 4096).2.2 ≠ 0) : inR kd n (m + 1) k f l = inR kd n m (k + 1) (if k = 0 then (strB (litR l 4096).1, f.2) else (f.1, strB (litR l 4096).1)) (l.drop (litR l 4096).2.1) := by rw [inR, if_neg h, if_neg he]
/-- The document's list of fields, the newest first. -/
structure Li7 (w : World) (A : Option Addr) (c : Nat) (fs : List FldT) : Prop where
  le : fs.length ≤ c
  max : c ≤ maxLen
  rows : Many fldD 2 w A fs.reverse
  row : PrRow w A fs.length
theorem Li7.fresh {w w' : World} {A : Option Addr} {c : Nat} {fs : List FldT} (h : Li7 w A c fs) (hf : Fresh w w') : Li7 w' A c fs := ⟨h.le, h.max, h.rows.fresh hf, h.row.fresh hf⟩
theorem Li7.nil (w : World) : Li7 w none 0 [] := ⟨by simp, by simp [maxLen], Many.nil _ _ _ _, PrRow.nil _ _⟩
theorem Li7.only {S : Nat → Prop} {w w' : World} {A : Option Addr} {c : Nat} {fs : List FldT} (h : Li7 w A c fs) (ho : Only S w w') (hs : ∀ g cs, Blk w g 77 cs → ¬ S g) : Li7 w' A c fs := by
  refine ⟨h.le, h.max, fun hn => ?_, fun hn => ?_⟩
  · obtain ⟨b, o, e, hb, hc⟩ := h.rows hn
    obtain ⟨g, cs, e', hg⟩ := h.row (by simpa using hn)
    rw [e] at e'
    simp at e'
    obtain ⟨rfl, rfl⟩ := e'
    exact ⟨b, 0, e, by have := ho.size; omega, fun k hk j hj => (ho.cell (p := ⟨b, _, none⟩) hb (hs b cs hg)).trans (hc k hk j hj)⟩
  · obtain ⟨g, cs, e, hg⟩ := h.row hn
    exact ⟨g, cs, e, hg.only ho (hs g cs hg)⟩
/-- The document's state and lines, while a block is read. -/
structure D7 (w wr : World) (s0 r0 : Nat) (A : Option Addr) (c : Nat) (gs : List FldT) (lm most bound : Int) (ov : Value) (out : List LnD) : Prop where
  st : Blk wr s0 49 #[.slice A gs.length c, .int .i64 lm, .int .i64 most, .int .i64 bound, .bool false]
  rs : Blk wr r0 49 #[.slice none 0 0, .int .i64 0, .int .i64 0, .int .i64 0, .bool false]
  fr : Fresh w wr
  li : Li7 wr A c gs
  own : Own wr (r0 + 1) 84 3 ov out.length (rowR out)
  hs : s0 = w.heap.size
  hr : r0 = w.heap.size + 1
/-- Lines that the document tells. -/
structure Lnr (w : World) (A : Option Addr) (xs : List LnD) : Prop where
  rows : Many lnR 3 w A xs
  row : 0 < xs.length → ∃ g cs, A = some ⟨g, 0, none⟩ ∧ Blk w g 84 cs
theorem Lnr.nil (w : World) (A : Option Addr) : Lnr w A [] := ⟨Many.nil _ _ _ _, fun h => by simp at h⟩
theorem Lnr.fresh {w w' : World} {A : Option Addr} {xs : List LnD} (h : Lnr w A xs) (hf : Fresh w w') : Lnr w' A xs := ⟨h.rows.fresh hf, fun hn => by
  obtain ⟨g, cs, e, hb⟩ := h.row hn
  exact ⟨g, cs, e, hb.fresh hf⟩⟩
theorem Lnr.only {w w' : World} {A : Option Addr} {xs : List LnD} {S : Nat → Prop} (ho : Only S w w') (hs : ∀ g cs, Blk w g 84 cs → ¬ S g) (h : Lnr w A xs) : Lnr w' A xs := by
  refine ⟨fun hn => ?_, fun hn => ?_⟩
  · obtain ⟨b, o, e, hb, hc⟩ := h.rows hn
    obtain ⟨g, cs, e', hg⟩ := h.row hn
    rw [e] at e'
    simp at e'
    obtain ⟨rfl, rfl⟩ := e'
    exact ⟨b, 0, e, by have := ho.size; omega, fun k hk j hj => (ho.cell (p := ⟨b, _, none⟩) hb (hs _ _ hg)).trans (hc k hk j hj)⟩
  · obtain ⟨g, cs, e, hg⟩ := h.row hn
    exact ⟨g, cs, e, hg.only ho (hs _ _ hg)⟩
/-- What the document's Decode tells. -/
def Ref7P (w : World) (most bound : Int) (R : Nat × List LnD × List FldT × Int) (e : Ending) (w' : World) : Prop :=
  ∃ A c A2 c2, e = .returned (.tuple #[.agg #[.slice A R.2.2.1.length c, .int .i64 R.2.2.2, .int .i64 most, .int .i64 bound, .bool (decide (R.1 ≠ 0))], .slice A2 R.2.1.length c2, .int .i64 (R.1 : Int)]) ∧ Li7 w' A c R.2.2.1 ∧ Lnr w' A2 R.2.1 ∧ Fresh w w'
section
variable {w wr W : World} {s0 r0 c : Nat} {A : Option Addr} {gs : List FldT} {lm most bound : Int} {ov : Value} {out : List LnD}
theorem D7.fresh (h : D7 w wr s0 r0 A c gs lm most bound ov out) (hf : Fresh wr W) : D7 w W s0 r0 A c gs lm most bound ov out :=
  { h with st := h.st.fresh hf, rs := h.rs.fresh hf, fr := h.fr.trans hf, li := h.li.fresh hf, own := h.own.fresh hf }
theorem D7.lt (h : D7 w wr s0 r0 A c gs lm most bound ov out) : s0 < wr.heap.size ∧ r0 < wr.heap.size := ⟨h.st.lt, h.rs.lt⟩
theorem D7.apart (h : D7 w wr s0 r0 A c gs lm most bound ov out) : ∀ g cs, Blk wr g 77 cs → g ≠ s0 ∧ g ≠ r0 := fun g cs hb => ⟨hb.ne h.st (by decide), hb.ne h.rs (by decide)⟩
/-- The table is another. -/
theorem D7.tab {A2 : Option Addr} {c2 : Nat} {g2 : List FldT} {l2 : Int} (h : D7 w wr s0 r0 A c gs lm most bound ov out) (hl : Li7 wr A2 c2 g2) (ho : Only (· = s0) wr W) (hb : Blk W s0 49 #[.slice A2 g2.length c2, .int .i64 l2, .int .i64 most, .int .i64 bound, .bool false]) : D7 w W s0 r0 A2 c2 g2 l2 most bound ov out := by
  have hs := h.hs
  have hr := h.hr
  refine ⟨hb, h.rs.only ho (by omega), Below.trans h.fr (Only.below ho h.fr.size (fun k e => by omega)), hl.only ho (fun g cs hg e => (h.apart g cs hg).1 e), h.own.only ho (fun k hk e => ?_), hs, hr⟩
  have := (h.own.lt k hk).1
  omega
/-- One line more. -/
theorem D7.push {A' : Option Addr} {c' : Nat} {x : LnD} (h : D7 w wr s0 r0 A c gs lm most bound ov out) (h2 : Own W (r0 + 1) 84 3 (.slice A' (out.length + 1) c') (out ++ [x]).length (rowR (out ++ [x]))) (ho : Only (fun k => ov.ownBlock = some k) wr W) : D7 w W s0 r0 A c gs lm most bound (.slice A' (out.length + 1) c') (out ++ [x]) := by
  have hs := h.hs
  have hr := h.hr
  have hlt : ∀ k, ov.ownBlock = some k → r0 + 1 ≤ k := fun k hk => (h.own.lt k hk).1
  have hty : ∀ k, ov.ownBlock = some k → ∃ cs, Blk wr k 84 cs := fun k hk => ownBlkD h.own hk
  refine ⟨h.st.only ho (fun e => by have := hlt _ e; omega), h.rs.only ho (fun e => by have := hlt _ e; omega), Below.trans h.fr (Only.below ho h.fr.size (fun k e => by have := hlt _ e; omega)), h.li.only ho (fun g cs hg e => ?_), h2, hs, hr⟩
  obtain ⟨cs', hb⟩ := hty g e
  exact hg.ne hb (by decide) rfl
/-- What is told with an error. -/
theorem D7.die {e : Nat} (h : D7 w wr s0 r0 A c gs lm most bound ov out) (ho : Only (fun k => k = s0 ∨ k = r0) wr W) (he : e ≠ 0) : Ref7P w most bound (e, [], gs, lm) (.returned (.tuple #[.agg #[.slice A gs.length c, .int .i64 lm, .int .i64 most, .int .i64 bound, .bool true], .slice none 0 0, .int .i64 (e : Int)])) W := by
  have hs := h.hs
  have hr := h.hr
  refine ⟨A, c, none, 0, by simp [he], h.li.only ho (fun g cs hg e => ?_), Lnr.nil _ _, Below.trans h.fr (Only.below ho h.fr.size (fun k e => by omega))⟩
  have := h.apart g cs hg
  omega
/-- What is told at the end. -/
theorem D7.end_ {O : Option Addr} {oc : Nat} (h : D7 w wr s0 r0 A c gs lm most bound (.slice O out.length oc) out) (ho : Only (fun k => k = s0 ∨ k = r0) wr W) : Ref7P w most bound (0, out, gs, lm) (.returned (.tuple #[.agg #[.slice A gs.length c, .int .i64 lm, .int .i64 most, .int .i64 bound, .bool false], .slice O out.length oc, .int .i64 0])) W := by
  have hs := h.hs
  have hr := h.hr
  refine ⟨A, c, O, oc, by simp, h.li.only ho (fun g cs hg e => ?_), ⟨own_manyR (h.own.only ho (fun k hk e => ?_)), fun hn => ?_⟩, Below.trans h.fr (Only.below ho h.fr.size (fun k e => by omega))⟩
  · have := h.apart g cs hg
    omega
  · have := (h.own.lt k hk).1
    omega
  · obtain ⟨g, e, hg, _, _, _, cur, hb⟩ := h.own.pos hn
    exact ⟨g, cur, e, hb.only ho (fun e => by omega)⟩
end
end Go.Proofs.Ytdoddpigiencjaa

