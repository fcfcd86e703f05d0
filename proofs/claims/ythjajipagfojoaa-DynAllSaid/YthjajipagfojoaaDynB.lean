/-
  Opening fields and rows of calls; DynNew.
-/
import Derived.Test.YthjajipagfojoaaDynA
import Derived.Test.YthjajipagfojoaaShapeW
namespace Go.Proofs.Ythjajipagfojoaa
set_option linter.unusedVariables false
set_option linter.unusedSimpArgs false
open Go.RowKit Go.ChangeShapes Go.WideShapes Go.Deep
theorem opens_fieldD : OpensW Try.prog 31 (fun w cs => ∃ p : FldT, cs = fldD p ∧ fz p ≤ 1000000000000000) :=
  (opensW_struct (sz := 2) [(0, 1, QStrW), (1, 1, QStrW)] Try.underlying31 (by kernel_rfl) (by
    intro p hp
    simp only [List.mem_cons, List.not_mem_nil, or_false] at hp
    rcases hp with rfl | rfl
    · exact ⟨0, _, rfl, rfl, by kernel_rfl, opensW_str Try.underlying9⟩
    · exact ⟨1, _, rfl, rfl, by kernel_rfl, opensW_str Try.underlying9⟩)).mono (by
    intro w cs ⟨hl, h⟩
    match cs, hl with
    | [c0, c1], _ =>
      obtain ⟨s0, e0, l0⟩ := h _ (List.mem_cons_self ..)
      obtain ⟨s1, e1, l1⟩ := h _ (List.mem_cons_of_mem _ (List.mem_cons_self ..))
      simp at e0 e1
      subst e0 e1
      exact ⟨(s0, s1), rfl, by unfold fz; simp only; omega⟩)
/-- A call. -/
structure OpT where
  (k n : Int) (f : FldT)
def OpT.cells (o : OpT) : List Value := [.int .i64 o.k, .int .i64 o.n, .string o.f.1, .string o.f.2]
structure OpT.Ok (o : OpT) : Prop where
  n0 : -9223372036854775808 ≤ o.n
  n1 : o.n ≤ 9223372036854775807
  f1 : fz o.f ≤ 1000000000000000
theorem opens_op : OpensW Try.prog 33 (fun w cs => ∃ o : OpT, cs = o.cells ∧ o.Ok) :=
  (opensW_struct (sz := 4) [(0, 1, QInt .i64), (1, 1, QInt .i64), (2, 2, fun w cs => ∃ p : FldT, cs = fldD p ∧ fz p ≤ 1000000000000000)] Try.underlying33 (by kernel_rfl) (by
    intro p hp
    simp only [List.mem_cons, List.not_mem_nil, or_false] at hp
    rcases hp with rfl | rfl | rfl
    · exact ⟨0, _, rfl, rfl, by kernel_rfl, (opens_int Try.underlying3).w⟩
    · exact ⟨1, _, rfl, rfl, by kernel_rfl, (opens_int Try.underlying3).w⟩
    · exact ⟨2, _, rfl, rfl, by kernel_rfl, opens_fieldD⟩)).mono (by
    intro w cs ⟨hl, h⟩
    match cs, hl with
    | [c0, c1, c2, c3], _ =>
      obtain ⟨k, e0, l0⟩ := h _ (List.mem_cons_self ..)
      obtain ⟨n, e1, l1⟩ := h _ (List.mem_cons_of_mem _ (List.mem_cons_self ..))
      obtain ⟨f, e2, l2⟩ := h _ (List.mem_cons_of_mem _ (List.mem_cons_of_mem _ (List.mem_cons_self ..)))
      simp [fldD] at e0 e1 e2
      obtain ⟨rfl, rfl⟩ := e2
      subst e0 e1
      have := wf_i64_bd l1
      exact ⟨⟨k, n, f⟩, rfl, this.1, this.2, l2⟩)
structure OpsV where
  (A : Option Addr) (c : Nat) (xs : List OpT)
structure OpsV.Ok (w : World) (s : OpsV) : Prop where
  le : s.xs.length ≤ s.c
  max : s.c ≤ maxLen
  rows : Many OpT.cells 4 w s.A s.xs
  ok : ∀ x ∈ s.xs, x.Ok
theorem OpsV.Ok.fresh {w w' : World} {s : OpsV} (h : s.Ok w) (hf : Fresh w w') : s.Ok w' := ⟨h.le, h.max, h.rows.fresh hf, h.ok⟩
def OpsV.v (s : OpsV) : Value := .slice s.A s.xs.length s.c
theorem qops {w : World} {cs : List Value} (h : QSl 4 (fun w cs => ∃ o : OpT, cs = o.cells ∧ o.Ok) w cs) : ∃ s : OpsV, cs = [s.v] ∧ s.Ok w := by
  obtain ⟨A, xs, c, e, h1, h2, h3, h4⟩ := h.rows (R := fun _ (x : OpT) => x.Ok) (f := OpT.cells) (fun _ hq => hq)
  exact ⟨⟨A, c, xs⟩, e, h1, h2, h3, h4⟩
section
variable {H : Type} {enc : TypeId × Value → H} {w : World} {base : Nat} {held : Bool} {v : Value} {d : DataW H} {p : List MemPlace} {r : Reach} {b0 : Nat}
theorem open_fieldD (hv : Value.okWide Try.prog w r b0 31 v) (hd : DataW.Trod enc Try.prog w base (fun _ => true) held 31 v d p) (hw : ∀ m ∈ d.weights Try.prog 31, m ≤ reachBytes) :
    ∃ q : FldT, v = .agg #[.string q.1, .string q.2] ∧ fz q ≤ 1000000000000000 := by
  obtain ⟨cs, rfl, f, hc, hf⟩ := opens_fieldD.agg Try.underlying31 hv hd hw
  refine ⟨f, ?_, hf⟩
  congr 1
  apply Array.toList_inj.1
  rw [hc]
  rfl
theorem open_opsV (hv : Value.okWide Try.prog w r b0 22 v) (hd : DataW.Trod enc Try.prog w base (fun _ => true) held 22 v d p) (hw : ∀ m ∈ d.weights Try.prog 22, m ≤ reachBytes) :
    ∃ s : OpsV, v = s.v ∧ s.Ok w := by
  have h := (opensW_slice (sz := 4) (bytes := 48) Try.underlying22 opens_op (by kernel_rfl) (by omega) (by kernel_rfl)).sl Try.underlying22 hv hd hw
  obtain ⟨s, e, ho⟩ := qops h.sl
  simp at e
  exact ⟨s, e, ho⟩
end
def LwP (w : World) (e : Ending) (w' : World) : Prop := e = .returned (.bool true) ∧ Below w.heap.size w w'
section
variable {w : World}
theorem new_low (lim : Int) (f : FldT) (h : lim < 0) : Calls Try.prog 6 #[.int .i64 lim, .agg #[.string f.1, .string f.2]] w (LwP w) := by
  go_enter Try.func6, Try.ntmps6
  go_wp2_with fail
  with_reducible refine (dy_new_no lim (.inl h) _).mono ?_
  rintro e w1 ⟨rfl, rfl⟩
  go_wp2_with fail
  with_reducible refine (dy_awake _).mono ?_
  rintro e w2 ⟨rfl, hf⟩
  have HF := Lib.hid hf
  clear hf
  go_wp2
  go_ret
  exact ⟨rfl, (Fresh.alloc _ _).trans HF.out⟩
theorem new_high (lim : Int) (f : FldT) (h : 65536 < lim) : Calls Try.prog 6 #[.int .i64 lim, .agg #[.string f.1, .string f.2]] w (LwP w) := by
  have h0 : ¬ lim < 0 := by omega
  go_enter Try.func6, Try.ntmps6
  go_wp2_with fail
  with_reducible refine (dy_new_no lim (.inr h) _).mono ?_
  rintro e w1 ⟨rfl, rfl⟩
  go_wp2_with fail
  with_reducible refine (dy_awake _).mono ?_
  rintro e w2 ⟨rfl, hf⟩
  have HF := Lib.hid hf
  clear hf
  go_wp2
  go_ret
  exact ⟨rfl, (Fresh.alloc _ _).trans HF.out⟩
set_option maxHeartbeats 1600000 in
theorem new_ok (lim : Int) (f : FldT) (h0 : 0 ≤ lim) (h1 : lim ≤ 65536) (hf1 : fz f ≤ 1000000000000000) : Calls Try.prog 6 #[.int .i64 lim, .agg #[.string f.1, .string f.2]] w (LwP w) := by
  have HZ := Lib.hid hf1
  clear hf1
  have n0 : ¬ lim < 0 := by omega
  have n1 : ¬ 65536 < lim := by omega
  go_enter Try.func6, Try.ntmps6
  go_upto_region 1 with fail
  refine wp_gen (fun W => Fresh w W ∧ Blk W w.heap.size 31 #[.string f.1, .string f.2]) ⟨Fresh.alloc _ _, Blk.new _ _ _⟩ ?_
  rintro W ⟨hf, hb⟩
  have HF := Lib.hid hf
  have HB := Lib.hid hb
  clear hf hb
  go_wp2_with fail
  with_reducible refine (dyL_new lim h0 h1 W _ (Fresh.refl _)).mono ?_
  rintro e w1 ⟨p, rfl, ht, hf1⟩
  have HT := Lib.hid ht
  obtain ⟨c0, c1⟩ := (HB.out.fresh hf1).c2
  have HF1 := Lib.hid (HB.out.fresh hf1)
  clear ht hf1
  go_wp2_with fail
  with_reducible refine (dyL_len HT.out).mono ?_
  rintro e w2 ⟨rfl, rfl⟩
  go_wp2_with fail
  with_reducible refine (dyL_size HT.out).mono ?_
  rintro e w2 ⟨rfl, rfl⟩
  rw [show (tz [] : Int) = 0 from rfl]
  go_wp2_with fail
  with_reducible refine (dyL_limit HT.out).mono ?_
  rintro e w2 ⟨rfl, rfl⟩
  obtain ⟨gn, hgn⟩ : ∃ gn, goneN ([] : List FldT) (lim - fz f) = gn := ⟨_, rfl⟩
  have hg0 : gn = 0 := by rw [← hgn]; rfl
  have HA := Lib.hid (dyL_add f HT.out (by have := HZ.out; simp [tz]; omega) (by simp))
  rw [hgn, hg0] at HA
  clear hgn hg0 gn
  have HS := Lib.hid (fun W => dy_size f W (by have := HZ.out; omega))
  go_wp2_with fail
  with_reducible refine HA.out.mono ?_
  rintro e w3 ⟨rfl, ht3⟩
  have HT3 := Lib.hid ht3
  have HF3 : Hid (Fresh W w3) := Lib.hid ht3.fr
  obtain ⟨c0, c1⟩ := (HB.out.fresh ht3.fr).c2
  have HB3 := Lib.hid (HB.out.fresh ht3.fr)
  clear ht3 HA
  rw [show ((0 : Nat) : Int) = 0 from rfl]
  go_wp2_with fail
  with_reducible refine (HS.out _).mono ?_
  rintro e w4 ⟨rfl, hf4⟩
  have HT4 := Lib.hid (HT3.out.fresh hf4)
  clear hf4 c0 c1
  by_cases hfit : (fz f : Int) ≤ lim
  · have HL : Hid ((addF [] lim f).length = 1) := Lib.hid (by unfold addF; rw [if_pos hfit]; rfl)
    have HLEN := Lib.hid (dyL_len HT4.out)
    rw [HL.out] at HLEN
    go_wp2_with fail
    with_reducible refine HLEN.out.mono ?_
    rintro e w5 ⟨rfl, rfl⟩
    rw [show ((1 : Nat) : Int) = 1 from rfl]
    go_wp2_with fail
    with_reducible refine (dy_awake _).mono ?_
    rintro e w6 ⟨rfl, hf6⟩
    have HF6 := Lib.hid hf6
    clear hf6
    go_wp2
    go_ret
    exact ⟨rfl, HF.out.trans (HT4.out.fr.trans HF6.out)⟩
  · have HL : Hid ((addF [] lim f).length = 0) := Lib.hid (by unfold addF; rw [if_neg hfit]; rfl)
    have HLEN := Lib.hid (dyL_len HT4.out)
    rw [HL.out] at HLEN
    go_wp2_with fail
    with_reducible refine HLEN.out.mono ?_
    rintro e w5 ⟨rfl, rfl⟩
    rw [show ((0 : Nat) : Int) = 0 from rfl]
    go_wp2_with fail
    with_reducible refine (dy_awake _).mono ?_
    rintro e w6 ⟨rfl, hf6⟩
    have HF6 := Lib.hid hf6
    clear hf6
    go_wp2
    go_ret
    exact ⟨rfl, HF.out.trans (HT4.out.fr.trans HF6.out)⟩
end
theorem DynNew_any (lim : Int) (f : FldT) (w : World) (_ : -9223372036854775808 ≤ lim ∧ lim ≤ 9223372036854775807) (hf : fz f ≤ 1000000000000000) : Calls Try.prog 6 #[.int .i64 lim, .agg #[.string f.1, .string f.2]] w fun e w' => e = .returned (.bool true) ∧ Below w.heap.size w w' := by
  show Calls _ _ _ _ (LwP w)
  by_cases h0 : lim < 0
  · exact new_low lim f h0
  · by_cases h1 : 65536 < lim
    · exact new_high lim f h1
    · exact new_ok lim f (by omega) (by omega) hf
end Go.Proofs.Ythjajipagfojoaa
