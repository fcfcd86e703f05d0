/-
  Texts laid together: Dyn9 DecA DecB.
-/
import Derived.Test.YtginhebfjbhmnaaGreatG30
import Derived.Test.YtginhebfjbhmnaaGreatG05
import Derived.Test.YtginhebfjbhmnaaGreatG24
import Derived.Test.YtginhebfjbhmnaaGreatG25
import Derived.Test.YtginhebfjbhmnaaGreatG03
/-
  The document's Add to a list of fields.
-/
namespace Go.Proofs.YtginhebfjbhmnaaGreat
set_option maxRecDepth 100000
set_option linter.unusedVariables false
set_option linter.unusedSimpArgs false
open Go.RowKit
theorem own_many {w : World} {base n c : Nat} {E : TypeId} {A : Option Addr} {xs : List FldT} (h : Own w base E 2 (.slice A n c) n (rowD xs)) : Many fldD 2 w A xs := by
  intro hn
  have hl := h.length
  rw [rowD_length] at hl
  rcases h.form with ⟨_, h0, _⟩ | ⟨g, cap, e, hb, hlt, _, _, hc⟩
  · omega
  · injection e with e1
    refine ⟨g, 0, e1, hlt, fun k hk j hj => ?_⟩
    obtain ⟨r0, r1⟩ := rowD_at (List.getElem?_eq_getElem hk)
    have hj' : j = 0 ∨ j = 1 := by omega
    rcases hj' with rfl | rfl
    · rw [Nat.zero_add, Nat.add_zero, (hc _ (by rw [rowD_length]; omega)).1, r0]; rfl
    · rw [Nat.zero_add, (hc _ (by rw [rowD_length]; omega)).1, r1]; rfl
theorem goneN_neg (l : List FldT) (room : Int) (h : room < 0) : goneN l room = l.length := by
  induction l with
  | nil => rfl
  | cons f r ih => rw [goneN, if_pos (by omega), ih]; rfl
theorem addF_no (fs : List FldT) (lim : Int) (f : FldT) (h : lim < (fz f : Int)) : addF fs lim f = [] := by
  unfold addF
  rw [if_neg (by omega), goneN_neg _ _ (by omega), List.drop_length]
end Go.Proofs.YtginhebfjbhmnaaGreat

/-
  Layer 7: what a block says. No Go in sight.
-/
namespace Go.Proofs.YtginhebfjbhmnaaGreat
set_option maxRecDepth 100000
set_option maxRecDepth 100000
set_option linter.unusedVariables false
open Go.RowKit
/-- The field of a number, the table's fields the oldest first. -/
def entR (fs : List FldT) (n : Nat) : Option FldT :=
  if 1 ≤ n ∧ n ≤ 61 then some (fldAt (n - 1)) else if 61 < n ∧ n - 61 ≤ fs.length then fs[fs.length - (n - 61)]? else none
theorem entR_static (fs : List FldT) {n : Nat} (h1 : 1 ≤ n) (h2 : n ≤ 61) : entR fs n = some (fldAt (n - 1)) := by
  unfold entR; rw [if_pos ⟨h1, h2⟩]
theorem entR_dyn (fs : List FldT) {n : Nat} (h1 : 61 < n) (h2 : n - 61 ≤ fs.length) : entR fs n = fs[fs.length - (n - 61)]? := by
  unfold entR; rw [if_neg (by omega), if_pos ⟨h1, h2⟩]
theorem entR_none (fs : List FldT) {n : Nat} (h : n = 0 ∨ (61 < n ∧ fs.length < n - 61)) : entR fs n = none := by
  unfold entR
  rw [if_neg (by omega), if_neg (by omega)]
/-- A form's kind by its first byte: 0 a whole entry, 1 added, 2 a limit, 3 never, 4 without; and its bits. -/
def kindR (x : Nat) : Nat := if 128 ≤ x then 0 else if 64 ≤ x then 1 else if 32 ≤ x then 2 else if 16 ≤ x then 3 else 4
def bitsR (x : Nat) : Nat := if 128 ≤ x then 7 else if 64 ≤ x then 6 else if 32 ≤ x then 5 else 4
theorem bitsR_bd (x : Nat) : 4 ≤ bitsR x ∧ bitsR x ≤ 7 := by unfold bitsR; (repeat' split) <;> omega
theorem kindR_bd (x : Nat) : kindR x ≤ 4 := by unfold kindR; (repeat' split) <;> omega
/-- A field whose value is written out: an error's number, or the field, and how many bytes its texts have. -/
def fieldR (fs : List FldT) (n : Nat) (l : List UInt8) : Nat × FldT × Nat :=
  let nm : Nat × ByteArray × Nat := if n = 0 then (if (litR l 4096).2.2 = 0 then (0, strB (litR l 4096).1, (litR l 4096).2.1) else ((litR l 4096).2.2, strB [], 0))
    else match entR fs n with
      | some f => (0, f.1, 0)
      | none => (23, strB [], 0)
  if nm.1 = 0 then (if (litR (l.drop nm.2.2) 4096).2.2 = 0 then (0, (nm.2.1, strB (litR (l.drop nm.2.2) 4096).1), nm.2.2 + (litR (l.drop nm.2.2) 4096).2.1) else ((litR (l.drop nm.2.2) 4096).2.2, (strB [], strB []), 0))
  else (nm.1, (strB [], strB []), 0)
/-- A line of a form of a kind. -/
def lineR (fs : List FldT) (k n : Nat) (l : List UInt8) : Nat × FldT × Nat :=
  if k = 0 then (match entR fs n with
    | some f => (0, f, 0)
    | none => (23, (strB [], strB []), 0))
  else fieldR fs n l
end Go.Proofs.YtginhebfjbhmnaaGreat

/-
  Package decode: which, entry.
-/
namespace Go.Proofs.YtginhebfjbhmnaaGreat
set_option maxRecDepth 100000
set_option maxRecDepth 100000
set_option linter.unusedVariables false
set_option linter.unusedSimpArgs false
open Go.RowKit
set_option maxHeartbeats 1600000 in
theorem de_which (x : UInt8) (w : World) : Calls Tryz.prog 79 #[.int .u8 (x.toNat : Int)] w fun e w' => e = .returned (.tuple #[.int .i64 (kindR x.toNat : Int), .int .i64 (bitsR x.toNat : Int)]) ∧ w = w' := by
  obtain ⟨k, hk⟩ : ∃ k, kindR x.toNat = k := ⟨_, rfl⟩
  obtain ⟨b, hb⟩ : ∃ b, bitsR x.toNat = b := ⟨_, rfl⟩
  have hx := UInt8.toNat_lt x
  rw [hk, hb]
  unfold kindR at hk
  unfold bitsR at hb
  generalize x.toNat = n at *
  by_cases h1 : 128 ≤ n
  · rw [if_pos h1] at hk hb
    subst hk hb
    have e1 : (128 : Int) ≤ (n : Int) := by omega
    go_enter Tryz.func79, Tryz.ntmps79
    go_wp2
    go_ret2
    exact ⟨rfl, rfl⟩
  rw [if_neg h1] at hk hb
  have e1 : ¬ (128 : Int) ≤ (n : Int) := by omega
  by_cases h2 : 64 ≤ n
  · rw [if_pos h2] at hk hb
    subst hk hb
    have e2 : (64 : Int) ≤ (n : Int) := by omega
    go_enter Tryz.func79, Tryz.ntmps79
    go_wp2
    go_ret2
    exact ⟨rfl, rfl⟩
  rw [if_neg h2] at hk hb
  have e2 : ¬ (64 : Int) ≤ (n : Int) := by omega
  by_cases h3 : 32 ≤ n
  · rw [if_pos h3] at hk hb
    subst hk hb
    have e3 : (32 : Int) ≤ (n : Int) := by omega
    go_enter Tryz.func79, Tryz.ntmps79
    go_wp2
    go_ret2
    exact ⟨rfl, rfl⟩
  rw [if_neg h3] at hk hb
  have e3 : ¬ (32 : Int) ≤ (n : Int) := by omega
  by_cases h4 : 16 ≤ n
  · rw [if_pos h4] at hk
    subst hk hb
    have e4 : (16 : Int) ≤ (n : Int) := by omega
    go_enter Tryz.func79, Tryz.ntmps79
    go_wp2
    go_ret2
    exact ⟨rfl, rfl⟩
  · rw [if_neg h4] at hk
    subst hk hb
    have e4 : ¬ (16 : Int) ≤ (n : Int) := by omega
    go_enter Tryz.func79, Tryz.ntmps79
    go_wp2
    go_ret2
    exact ⟨rfl, rfl⟩
/-- A decoder, its table's fields the oldest first. -/
structure DecAt (w : World) (base d p : Nat) (v : Value) (fs : List FldT) (lim most bound : Int) (dead : Bool) : Prop where
  blk : Blk w d 90 #[.pointer (some ⟨p, 0, none⟩), .int .i64 most, .int .i64 bound, .bool dead]
  tab : TabAt w base p v fs lim
theorem DecAt.fresh {w w' : World} {base d p : Nat} {v : Value} {fs : List FldT} {lim most bound : Int} {dead : Bool} (h : DecAt w base d p v fs lim most bound dead) (hf : Fresh w w') : DecAt w' base d p v fs lim most bound dead := ⟨h.blk.fresh hf, h.tab.fresh hf⟩
def nofV : Value := .agg #[.string ByteArray.empty, .string ByteArray.empty]
/-- An entry, or none. -/
def EnP (fs : List FldT) (n : Nat) (w : World) (e : Ending) (w' : World) : Prop := (match entR fs n with
  | some f => e = .returned (.tuple #[.agg #[.string f.1, .string f.2], .int .i64 0])
  | none => e = .returned (.tuple #[nofV, .int .i64 23])) ∧ Fresh w w'
set_option maxHeartbeats 1600000 in
theorem de_entry (base d p : Nat) (v : Value) (fs : List FldT) (lim most bound : Int) (dead : Bool) (n : Nat) (w : World) (h : DecAt w base d p v fs lim most bound dead) (hm : fs.length ≤ 1000000) (hn : n ≤ 2147483647) :
    Calls Tryz.prog 87 #[.pointer (some ⟨d, 0, none⟩), .int .i64 (n : Int)] w (EnP fs n w) := by
  have H := Lib.hid h
  obtain ⟨c0, c1, c2, c3⟩ := h.blk.c4
  by_cases h61 : n ≤ 61
  · have h1 : (n : Int) ≤ 61 := by omega
    by_cases h0 : n = 0
    · subst h0
      have HG := Lib.hid (fun W => st_get_no 0 W (by omega))
      have HFIN : Hid (∀ W, Fresh w W → EnP fs 0 w (.returned (.tuple #[nofV, .int .i64 23])) W) := Lib.hid (fun W hf => ⟨by rw [entR_none fs (.inl rfl)], hf⟩)
      generalize EnP fs 0 w = EP at *
      rw [show ((0 : Nat) : Int) = 0 from rfl] at h1 ⊢
      go_enter Tryz.func87, Tryz.ntmps87
      go_wp2_with fail
      with_reducible refine (HG.out _).mono ?_
      rintro e w1 ⟨rfl, hf1⟩
      have hb1 := (Blk.new w 62 #[.string ByteArray.empty, .string ByteArray.empty]).fresh hf1
      obtain ⟨d0, d1⟩ := hb1.c2
      have z0 := hb1.frozen 0
      have z1 := hb1.frozen 1
      have HF1 := Lib.hid (Fresh.tA hf1)
      have HB1 := Lib.hid hb1
      clear hf1 hb1 c0 c1 c2 c3
      go_wp2
      refine wx_gen (fun W => Blk W w.heap.size 62 #[.string ⟨#[]⟩, .string ⟨#[]⟩] ∧ Fresh w W) ⟨(HB1.out.set 0 (.string ⟨#[]⟩)).set 1 (.string ⟨#[]⟩), by repeat (first | with_reducible exact HF1.out | (with_reducible refine Fresh.step2 ?_ ?_; focus (exact Nat.le_refl _)))⟩ ?_
      rintro W ⟨hbw, hfw⟩
      obtain ⟨r0, r1⟩ := hbw.c2
      exact bodyPost_ret (v := .tuple #[.agg #[.string ⟨#[]⟩, .string ⟨#[]⟩], .int .i64 23]) (by simp [results, Tryz.f87, go_sem, r0, r1]) rfl (HFIN.out W hfw)
    · obtain ⟨k, rfl⟩ : ∃ k, n = k + 1 := ⟨n - 1, by omega⟩
      have HG := Lib.hid (fun W => st_get k ((k : Int) + 1) W rfl (by omega))
      have HFIN : Hid (∀ W, Fresh w W → EnP fs (k + 1) w (.returned (.tuple #[.agg #[.string (fldAt k).1, .string (fldAt k).2], .int .i64 0])) W) := Lib.hid (fun W hf => ⟨by rw [entR_static fs (by omega) h61]; rfl, hf⟩)
      generalize EnP fs (k + 1) w = EP at *
      rw [show ((k + 1 : Nat) : Int) = (k : Int) + 1 by omega] at h1 ⊢
      generalize (fldAt k).1 = F1 at *
      generalize (fldAt k).2 = F2 at *
      clear h61 h0
      go_enter Tryz.func87, Tryz.ntmps87
      go_wp2_with fail
      with_reducible refine (HG.out _).mono ?_
      rintro e w1 ⟨rfl, hf1⟩
      have hb1 := (Blk.new w 62 #[.string ByteArray.empty, .string ByteArray.empty]).fresh hf1
      obtain ⟨d0, d1⟩ := hb1.c2
      have z0 := hb1.frozen 0
      have z1 := hb1.frozen 1
      have HF1 := Lib.hid (Fresh.tA hf1)
      have HB1 := Lib.hid hb1
      clear hf1 hb1 c0 c1 c2 c3
      go_wp2
      refine wx_gen (fun W => Blk W w.heap.size 62 #[.string F1, .string F2] ∧ Fresh w W) ⟨(HB1.out.set 0 (.string F1)).set 1 (.string F2), by repeat (first | with_reducible exact HF1.out | (with_reducible refine Fresh.step2 ?_ ?_; focus (exact Nat.le_refl _)))⟩ ?_
      rintro W ⟨hbw, hfw⟩
      obtain ⟨r0, r1⟩ := hbw.c2
      exact bodyPost_ret (v := .tuple #[.agg #[.string F1, .string F2], .int .i64 0]) (by simp [results, Tryz.f87, go_sem, r0, r1]) rfl (HFIN.out W hfw)
  · have h1 : ¬ (n : Int) ≤ 61 := by omega
    have hsub : IntKind.i64.wrap ((n : Int) - 61) = (n : Int) - 61 := IntWalk.i64_in _ (by omega)
    by_cases hlen : n - 61 ≤ fs.length
    · obtain ⟨f, hf⟩ : ∃ f, fs[fs.length - (n - 61)]? = some f := ⟨_, List.getElem?_eq_getElem (by omega)⟩
      have HG : Hid (∀ W, Fresh w W → Calls Tryz.prog 92 #[.pointer (some ⟨p, 0, none⟩), .int .i64 ((n : Int) - 61)] W fun e w' => e = .returned (.tuple #[.agg #[.string f.1, .string f.2], .int .i64 0]) ∧ Fresh W w') := Lib.hid (fun W hfr => dy_get ((n : Int) - 61) (fs.length - (n - 61)) f (h.tab.fresh hfr) hf (by omega) hm)
      have HFIN : Hid (∀ W, Fresh w W → EnP fs n w (.returned (.tuple #[.agg #[.string f.1, .string f.2], .int .i64 0])) W) := Lib.hid (fun W hfr => ⟨by rw [entR_dyn fs (by omega) hlen, hf], hfr⟩)
      generalize EnP fs n w = EP at *
      obtain ⟨F1, F2⟩ := f
      simp only at HG HFIN
      have e0 := ((Blk.alloc h.blk (.cells #[.string ⟨#[]⟩, .string ⟨#[]⟩] 62)).c4).1
      clear hf hlen h c0 c1 c2 c3
      go_enter Tryz.func87, Tryz.ntmps87
      go_wp2_with fail
      with_reducible refine (HG.out _ (Fresh.alloc _ _)).mono ?_
      rintro e w1 ⟨rfl, hf1⟩
      have hb1 := (Blk.new w 62 #[.string ByteArray.empty, .string ByteArray.empty]).fresh hf1
      obtain ⟨d0, d1⟩ := hb1.c2
      have z0 := hb1.frozen 0
      have z1 := hb1.frozen 1
      have HF1 := Lib.hid (Fresh.tA hf1)
      have HB1 := Lib.hid hb1
      clear hf1 hb1 e0
      go_wp2
      refine wx_gen (fun W => Blk W w.heap.size 62 #[.string F1, .string F2] ∧ Fresh w W) ⟨(HB1.out.set 0 (.string F1)).set 1 (.string F2), by repeat (first | with_reducible exact HF1.out | (with_reducible refine Fresh.step2 ?_ ?_; focus (exact Nat.le_refl _)))⟩ ?_
      rintro W ⟨hbw, hfw⟩
      obtain ⟨r0, r1⟩ := hbw.c2
      exact bodyPost_ret (v := .tuple #[.agg #[.string F1, .string F2], .int .i64 0]) (by simp [results, Tryz.f87, go_sem, r0, r1]) rfl (HFIN.out W hfw)
    · have HG : Hid (∀ W, Fresh w W → Calls Tryz.prog 92 #[.pointer (some ⟨p, 0, none⟩), .int .i64 ((n : Int) - 61)] W fun e w' => e = .returned (.tuple #[nofV, .int .i64 23]) ∧ Fresh W w') := Lib.hid (fun W hfr => dy_get_no ((n : Int) - 61) (h.tab.fresh hfr) (.inr (by omega)))
      have HFIN : Hid (∀ W, Fresh w W → EnP fs n w (.returned (.tuple #[nofV, .int .i64 23])) W) := Lib.hid (fun W hfr => ⟨by rw [entR_none fs (.inr ⟨by omega, by omega⟩)], hfr⟩)
      generalize EnP fs n w = EP at *
      have e0 := ((Blk.alloc h.blk (.cells #[.string ⟨#[]⟩, .string ⟨#[]⟩] 62)).c4).1
      unfold nofV at HG HFIN
      clear hlen h c0 c1 c2 c3
      go_enter Tryz.func87, Tryz.ntmps87
      go_wp2_with fail
      with_reducible refine (HG.out _ (Fresh.alloc _ _)).mono ?_
      rintro e w1 ⟨rfl, hf1⟩
      have hb1 := (Blk.new w 62 #[.string ByteArray.empty, .string ByteArray.empty]).fresh hf1
      obtain ⟨d0, d1⟩ := hb1.c2
      have z0 := hb1.frozen 0
      have z1 := hb1.frozen 1
      have HF1 := Lib.hid (Fresh.tA hf1)
      have HB1 := Lib.hid hb1
      clear hf1 hb1 e0
      go_wp2
      refine wx_gen (fun W => Blk W w.heap.size 62 #[.string ⟨#[]⟩, .string ⟨#[]⟩] ∧ Fresh w W) ⟨(HB1.out.set 0 (.string ⟨#[]⟩)).set 1 (.string ⟨#[]⟩), by repeat (first | with_reducible exact HF1.out | (with_reducible refine Fresh.step2 ?_ ?_; focus (exact Nat.le_refl _)))⟩ ?_
      rintro W ⟨hbw, hfw⟩
      obtain ⟨r0, r1⟩ := hbw.c2
      exact bodyPost_ret (v := .tuple #[.agg #[.string ⟨#[]⟩, .string ⟨#[]⟩], .int .i64 23]) (by simp [results, Tryz.f87, go_sem, r0, r1]) rfl (HFIN.out W hfw)
end Go.Proofs.YtginhebfjbhmnaaGreat

