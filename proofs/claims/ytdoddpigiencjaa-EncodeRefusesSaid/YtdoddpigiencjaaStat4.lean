/-
  Contracts of package static: Get, Name, Find, Size.
-/
import Derived.Test.YtdoddpigiencjaaStat3
import Derived.Test.YtdoddpigiencjaaChain
import Derived.Test.YtdoddpigiencjaaMake
import Derived.Deep.Draws
import Derived.BigQuiet
namespace Go.Proofs.Ytdoddpigiencjaa
set_option linter.unusedVariables false
open Go.RowKit

theorem st_name1 (p : Fld) (cb : Nat) (nm : ByteArray) (w : World) (hb : Blk w cb 9 #[.string nm]) :
    Calls Try.prog 63 #[.agg #[.string p.1, .string p.2], .pointer (some ⟨cb, 0, none⟩)] w fun e w' => e = .returned (.bool (p.1.toList == nm.toList)) ∧ Fresh w w' := by
  have h0 := hb.c1
  have hlt := hb.lt
  go_enter Try.func63, Try.ntmps63
  go_wp2
  go_ret
  exact ⟨rfl, by repeat (first | with_reducible exact Fresh.refl _ | with_reducible apply Fresh.drewS | with_reducible apply Fresh.allocS)⟩
theorem st_find1 (p q : Fld) (cb : Nat) (w : World) (hb : Blk w cb 26 #[.string q.1, .string q.2]) :
    Calls Try.prog 42 #[.agg #[.string p.1, .string p.2], .pointer (some ⟨cb, 0, none⟩)] w fun e w' => e = .returned (.bool (p.1.toList == q.1.toList && p.2.toList == q.2.toList)) ∧ Fresh w w' := by
  obtain ⟨h0, h1⟩ := hb.c2
  have hlt := hb.lt
  go_enter Try.func42, Try.ntmps42
  go_wp2
  all_goals
    go_ret
    exact ⟨by simp_all, by repeat (first | with_reducible exact Fresh.refl _ | with_reducible apply Fresh.drewS | with_reducible apply Fresh.allocS)⟩
theorem st_size (p : Fld) (w : World) (h1 : p.1.size ≤ 4611686018427387000) (h2 : p.2.size ≤ 4611686018427387000) :
    Calls Try.prog 55 #[.agg #[.string p.1, .string p.2]] w fun e w' => e = .returned (.int .i64 ((p.1.size : Int) + (p.2.size : Int) + 32)) ∧ Fresh w w' := by
  have e1 : IntKind.i64.wrap ((p.1.size : Int) + (p.2.size : Int)) = (p.1.size : Int) + (p.2.size : Int) := by rw [IntKind.wrap_i64]; omega
  have e2 : IntKind.i64.wrap ((p.1.size : Int) + (p.2.size : Int) + 32) = (p.1.size : Int) + (p.2.size : Int) + 32 := by rw [IntKind.wrap_i64]; omega
  go_enter Try.func55, Try.ntmps55
  go_wp2
  go_ret
  exact ⟨rfl, Fresh.alloc _ _⟩
theorem st_get_no (i : Int) (w : World) (h : i < 1 ∨ 61 < i) :
    Calls Try.prog 81 #[.int .i64 i] w fun e w' => e = .returned (.tuple #[.agg #[.string ⟨#[]⟩, .string ⟨#[]⟩], .int .i64 23]) ∧ Fresh w w' := by
  rcases h with h | h
  · go_enter Try.func81, Try.ntmps81
    go_wp2
    go_returns
    exact ⟨rfl, by repeat (first | with_reducible exact Fresh.refl _ | with_reducible apply Fresh.drewS | with_reducible apply Fresh.allocS)⟩
  · have h0 : decide (i < 1) = false := by simp; omega
    go_enter Try.func81, Try.ntmps81
    go_wp2
    go_returns
    exact ⟨rfl, by repeat (first | with_reducible exact Fresh.refl _ | with_reducible apply Fresh.drewS | with_reducible apply Fresh.allocS)⟩
theorem st_get (k : Nat) (i : Int) (w : World) (h : i = (k : Int) + 1) (hk : k < 61) :
    Calls Try.prog 81 #[.int .i64 i] w fun e w' => e = .returned (.tuple #[.agg #[.string (fldAt k).1, .string (fldAt k).2], .int .i64 0]) ∧ Fresh w w' := by
  subst h
  have d0 : decide ((k : Int) + 1 < 1) = false := by simp; omega
  have d1 : decide ((61 : Int) < (k : Int) + 1) = false := by simp; omega
  have hw : IntKind.i64.wrap ((k : Int) + 1 - 1) = (k : Int) := by rw [IntKind.wrap_i64]; omega
  have HIX := Lib.hid (ix_tbl k hk)
  generalize fldAt k = fk at *
  go_enter Try.func81, Try.ntmps81
  go_wp2_with fail
  with_reducible refine (st_table _).mono ?_
  rintro e w1 ⟨rfl, hf1⟩
  have HF := Lib.hid hf1
  have hb := (Blk.new w 26 #[.string ⟨#[]⟩, .string ⟨#[]⟩]).fresh hf1
  obtain ⟨y0, y1⟩ := hb.c2
  have z0 := hb.frozen 0
  have z1 := hb.frozen 1
  have hix := HIX.out
  clear hf1 hb
  go_wp2
  refine bodyPost_ret (v := .tuple #[.agg #[.string fk.1, .string fk.2], .int .i64 0]) (by simp [results, Try.results81, go_sem, y0, y1]) rfl ⟨rfl, ?_⟩
  have := (Fresh.alloc w (.cells #[.string ⟨#[]⟩, .string ⟨#[]⟩] 26)).trans HF.out
  repeat (first | with_reducible exact this | (with_reducible refine Fresh.step2 (Nat.le_refl _) ?_))
def NmP (nm : ByteArray) (w : World) (e : Ending) (w' : World) : Prop := ∃ z, e = .returned (.int .i64 z) ∧ FstIx (fun p => p.1.toList == nm.toList) z ∧ Fresh w w'
theorem st_name (nm : ByteArray) (w : World) : Calls Try.prog 43 #[.string nm] w (NmP nm w) := by
  have HF := Lib.hid (st_first 63 #[.pointer (some ⟨w.heap.size, 0, none⟩)] (fun p => p.1.toList == nm.toList) (w.alloc (.cells #[.string nm] 9)) Try.call63
    (fun p W hB => st_name1 p _ nm W ((Blk.new w 9 #[.string nm]).fresh hB)))
  go_enter Try.func43, Try.ntmps43
  go_wp2_with fail
  with_reducible refine HF.out.mono ?_
  rintro e w1 ⟨z, rfl, hz, hf⟩
  have H1 := Lib.hid (And.intro hz hf)
  clear hz hf HF
  go_wp2_with fail
  go_ret
  exact ⟨z, rfl, H1.out.1, Fresh.tA H1.out.2⟩
def prF (q : Fld) (p : Fld) : Bool := p.1.toList == q.1.toList && p.2.toList == q.2.toList
def FindP (q : Fld) (w : World) (e : Ending) (w' : World) : Prop :=
  ∃ z ex, e = .returned (.tuple #[.int .i64 z, .bool ex]) ∧ ((∃ k : Nat, k < 61 ∧ z = (k : Int) + 1 ∧ ex = true ∧ prF q (fldAt k) = true ∧ ∀ j, j < k → prF q (fldAt j) = false) ∨ (ex = false ∧ (∀ j, j < 61 → prF q (fldAt j) = false) ∧ FstIx (fun p => p.1.toList == q.1.toList) z)) ∧ Fresh w w'
theorem st_find (q : Fld) (w : World) : Calls Try.prog 24 #[.agg #[.string q.1, .string q.2]] w (FindP q w) := by
  have HF := Lib.hid (st_first 42 #[.pointer (some ⟨w.heap.size, 0, none⟩)] (prF q) (w.alloc (.cells #[.string q.1, .string q.2] 26)) Try.call42
    (fun p W hB => st_find1 p q _ W ((Blk.new w 26 #[.string q.1, .string q.2]).fresh hB)))
  go_enter Try.func24, Try.ntmps24
  go_wp2_with fail
  with_reducible refine HF.out.mono ?_
  rintro e w1 ⟨z, rfl, hz, hf⟩
  rcases hz with ⟨rfl, hno⟩ | ⟨k, hk, rfl, hy, hno⟩
  · have H1 := Lib.hid (And.intro hno hf)
    obtain ⟨c0, c1⟩ := ((Blk.new w 26 #[.string q.1, .string q.2]).fresh hf).c2
    clear hno hf HF
    go_wp2_with fail
    with_reducible refine (st_name q.1 _).mono ?_
    rintro e w2 ⟨z, rfl, hz, hf⟩
    have H2 := Lib.hid (And.intro hz hf)
    clear hz hf
    go_wp2_with fail
    go_ret2
    exact ⟨z, false, rfl, .inr ⟨rfl, H1.out.1, H2.out.1⟩, (Fresh.tA H1.out.2).trans H2.out.2⟩
  · have H1 := Lib.hid (And.intro hk (And.intro hy (And.intro hno hf)))
    have d0 : decide ((0 : Int) < (k : Int) + 1) = true := decide_eq_true (by omega)
    clear hk hy hno hf HF
    go_wp2_with fail
    go_ret2
    obtain ⟨hk, hy, hno, hf⟩ := H1.out
    exact ⟨(k : Int) + 1, true, rfl, .inl ⟨k, hk, rfl, rfl, hy, hno⟩, Fresh.tA hf⟩
theorem FstIx.at {pr : Fld → Bool} {z : Int} (h : FstIx pr z) (k : Nat) (hk : k < 61) (hy : pr (fldAt k) = true) (hn : ∀ j, j < k → pr (fldAt j) = false) : z = (k : Int) + 1 := by
  rcases h with ⟨_, hno⟩ | ⟨k', hk', rfl, hy', hn'⟩
  · rw [hno k hk] at hy; cases hy
  · rcases Nat.lt_trichotomy k k' with h | h | h
    · rw [hn' k h] at hy; cases hy
    · rw [h]
    · rw [hn k' h] at hy'; cases hy'
theorem toList_data (a : ByteArray) : a.toList = a.data.toList := ByteArray.toList_eq ..
def eqD (a b : ByteArray) : Bool := decide (a.data.toList = b.data.toList)
theorem eqD_eq (a b : ByteArray) : (a.toList == b.toList) = eqD a b := by
  rw [toList_data, toList_data, eqD]
  rw [Bool.eq_iff_iff]
  simp only [beq_iff_eq, decide_eq_true_eq]
end Go.Proofs.Ytdoddpigiencjaa

