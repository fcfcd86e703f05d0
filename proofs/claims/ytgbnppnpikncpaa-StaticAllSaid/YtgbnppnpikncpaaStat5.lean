/-
  The law StaticSizes.
-/
import Derived.Test.YtgbnppnpikncpaaStat4
import Derived.Test.YtgbnppnpikncpaaShapeW
import Derived.Deep.RegionHeld3
namespace Go.Proofs.Ytgbnppnpikncpaa
set_option linter.unusedVariables false
open Go.RowKit Go.ChangeShapes Go.WideShapes Go.Deep

theorem opens_field : Opens Try.prog 23 (fun w cs => ∃ p : Fld, cs = fldC p ∧ p.1.size ≤ maxLen ∧ p.2.size ≤ maxLen) :=
  (opens_struct (sz := 2) [(0, 1, QStr), (1, 1, QStr)] Try.underlying23 (by kernel_rfl) (by
    intro p hp
    simp only [List.mem_cons, List.not_mem_nil, or_false] at hp
    rcases hp with rfl | rfl
    · exact ⟨0, _, rfl, rfl, by kernel_rfl, opens_str Try.underlying9⟩
    · exact ⟨1, _, rfl, rfl, by kernel_rfl, opens_str Try.underlying9⟩)).mono (by
    intro w cs ⟨hl, h⟩
    match cs, hl with
    | [c0, c1], _ =>
      obtain ⟨s0, e0, l0⟩ := h _ (List.mem_cons_self ..)
      obtain ⟨s1, e1, l1⟩ := h _ (List.mem_cons_of_mem _ (List.mem_cons_self ..))
      simp at e0 e1
      subst e0 e1
      exact ⟨(s0, s1), rfl, l0, l1⟩)
structure FldsV where
  (A : Option Addr) (c : Nat) (xs : List Fld)
structure FldsV.Ok (w : World) (s : FldsV) : Prop where
  le : s.xs.length ≤ s.c
  max : s.c ≤ maxLen
  rows : Many fldC 2 w s.A s.xs
section
variable {H : Type} {enc : TypeId × Value → H} {w : World} {base : Nat} {spare : Nat → Bool} {held : Bool} {v : Value} {d : DataW H} {p : List MemPlace} {r : Reach} {b0 : Nat}
theorem open_field (hv : Value.okWide Try.prog w r b0 23 v) (hd : DataW.Trod enc Try.prog w base spare held 23 v d p) :
    ∃ q : Fld, v = .agg #[.string q.1, .string q.2] ∧ q.1.size ≤ maxLen ∧ q.2.size ≤ maxLen := by
  obtain ⟨cs, rfl, f, hc, hf⟩ := opens_field.agg Try.underlying23 hv hd
  refine ⟨f, ?_, hf⟩
  congr 1
  apply Array.toList_inj.1
  rw [hc]
  rfl
theorem open_fields (hv : Value.okWide Try.prog w r b0 41 v) (hd : DataW.Trod enc Try.prog w base spare held 41 v d p) :
    ∃ s : FldsV, v = .slice s.A s.xs.length s.c ∧ s.Ok w := by
  have h := (opens_slice (sz := 2) Try.underlying41 opens_field (by kernel_rfl) (by omega)).sl Try.underlying41 hv hd
  obtain ⟨A, xs, c, e, h1, h2, h3, _⟩ := h.rows (R := fun _ _ => True) (f := fldC) (fun _ ⟨q, e, _⟩ => ⟨q, e, trivial⟩)
  simp at e
  exact ⟨⟨A, c, xs⟩, e, h1, h2, h3⟩
end
theorem Many.at2 {w : World} {A : Option Addr} {xs : List Fld} (h : Many fldC 2 w A xs) (k : Nat) (x : Fld) (hx : xs[k]? = some x) :
    ∃ b o, A = some ⟨b, o, none⟩ ∧ b < w.heap.size ∧ w.cell? ⟨b, o + k * 2, none⟩ = some (.string x.1) ∧ w.cell? ⟨b, o + k * 2 + 1, none⟩ = some (.string x.2) := by
  obtain ⟨hk, rfl⟩ := List.getElem?_eq_some_iff.1 hx
  obtain ⟨b, o, e, hb, hc⟩ := h (by omega)
  exact ⟨b, o, e, hb, hc k hk 0 (by omega), hc k hk 1 (by omega)⟩
theorem wrap_eq64 (n : Int) : IntKind.i64.wrap n = wrap64 n := by
  unfold wrap64
  exact IntKind.wrap_i64 n
def szF (p : Fld) : Int := wrap64 (wrap64 ((p.1.size : Int) + (p.2.size : Int)) + 32)
theorem st_sizeW (p : Fld) (z : Int) (hz : szF p = z) (w : World) :
    Calls Try.prog 16 #[.agg #[.string p.1, .string p.2]] w fun e w' => e = .returned (.int .i64 z) ∧ Fresh w w' := by
  subst hz
  unfold szF
  go_enter Try.func16, Try.ntmps16
  go_wp2
  go_ret
  exact ⟨rfl, Fresh.alloc _ _⟩
def sumF (xs : List Fld) : Int := xs.foldl (fun n p => wrap64 (n + szF p)) 0
theorem sumF_succ (xs : List Fld) (k : Nat) (p : Fld) (h : xs[k]? = some p) : sumF (xs.take (k + 1)) = wrap64 (sumF (xs.take k) + szF p) := by
  obtain ⟨hk, rfl⟩ := List.getElem?_eq_some_iff.1 h
  rw [List.take_succ_eq_append_getElem hk, sumF, List.foldl_append]
  rfl
theorem st_sum (A : Option Addr) (xs : List Fld) (c : Nat) (w : World) (hm : Many fldC 2 w A xs) (hn : xs.length ≤ 1000) :
    Calls Try.prog 17 #[.slice A xs.length c] w fun e w' => e = .returned (.int .i64 (sumF xs)) ∧ Fresh w w' := by
  have HM := Lib.hid hm
  clear hm
  go_enter Try.func17, Try.ntmps17
  go_wp2_with fail
  go_loopw [3, 8] (fun s i wr => ∃ (k : Nat), k ≤ xs.length ∧ s = .int .i64 (sumF (xs.take k)) ∧ i = .int .i64 (k : Int) ∧ Fresh w wr) (fun _ i _ => xs.length - (intOf i).toNat)
  case atStart => exact ⟨0, by omega, rfl, rfl, Fresh.refl _⟩
  case round =>
    obtain ⟨k, hk, rfl, rfl, hf⟩ := hrel
    have HF := Lib.hid hf
    by_cases hlt : k < xs.length
    · have hlt' : (k : Int) < (xs.length : Int) := by omega
      obtain ⟨p, hy⟩ : ∃ y, xs[k]? = some y := ⟨_, List.getElem?_eq_getElem hlt⟩
      obtain ⟨b, o, rfl, hbw, hc0, hc1⟩ := HM.out.at2 k p hy
      have e0 := (hf.cell (p := ⟨b, o + k * 2, none⟩) hbw).trans hc0
      have e1 := (hf.cell (p := ⟨b, o + k * 2 + 1, none⟩) hbw).trans hc1
      have HS := Lib.hid (sumF_succ xs k p hy)
      obtain ⟨z, hz⟩ : ∃ z, szF p = z := ⟨_, rfl⟩
      have HZ := Lib.hid (fun w => st_sizeW p z hz w)
      have HZE := Lib.hid hz
      clear hc0 hc1 hy hf hz
      generalize sumF (xs.take k) = s at *
      go_wp2_with fail
      with_reducible refine (HZ.out _).mono ?_
      rintro e w2 ⟨rfl, hf2⟩
      have HF2 := Lib.hid (HF.out.trans (Fresh.tA hf2))
      clear hf2
      go_wp2_with fail
      go_roundw
      case rel => exact ⟨k + 1, by omega, by rw [HS.out, HZE.out], by go_num, HF2.out⟩
      case measure => simp [intOf]; omega
    · obtain rfl : k = xs.length := by omega
      rw [List.take_length]
      clear hf
      go_wp2_with fail
      go_ret
      exact ⟨rfl, HF.out⟩
def LwP (w : World) (e : Ending) (w' : World) : Prop := e = .returned (.bool true) ∧ Fresh w w'
set_option maxRecDepth 100000 in
set_option maxHeartbeats 3200000 in
theorem sizes_long (A : Option Addr) (xs : List Fld) (c : Nat) (w : World) (hn : 100 < xs.length) : Calls Try.prog 6 #[.slice A xs.length c] w (LwP w) := by
  have d0 : (100 : Int) < (xs.length : Int) := by omega
  go_enter Try.func6, Try.ntmps6
  go_wp2_with fail
  with_reducible refine (st_awake _).mono ?_
  rintro e w1 ⟨rfl, hf⟩
  have HF := Lib.hid hf
  clear hf
  go_wp2_with fail
  go_ret
  exact ⟨rfl, HF.out⟩
set_option maxRecDepth 100000 in
set_option maxHeartbeats 3200000 in
theorem sizes_all (A : Option Addr) (xs : List Fld) (c : Nat) (w : World) (hm : Many fldC 2 w A xs) (hn : xs.length ≤ 100) : Calls Try.prog 6 #[.slice A xs.length c] w (LwP w) := by
  have d0 : decide ((100 : Int) < (xs.length : Int)) = false := by simp; omega
  have HM := Lib.hid hm
  clear hm
  go_enter Try.func6, Try.ntmps6
  go_wp2_with fail
  go_loopw [3, 12] (fun s i wr => ∃ (k : Nat), k ≤ xs.length ∧ s = .int .i64 (sumF (xs.take k)) ∧ i = .int .i64 (k : Int) ∧ Fresh w wr) (fun _ i _ => xs.length - (intOf i).toNat)
  case atStart => exact ⟨0, by omega, rfl, rfl, Fresh.refl _⟩
  case round =>
    obtain ⟨k, hk, rfl, rfl, hf⟩ := hrel
    have HF := Lib.hid hf
    by_cases hlt : k < xs.length
    · have hlt' : (k : Int) < (xs.length : Int) := by omega
      obtain ⟨p, hy⟩ : ∃ y, xs[k]? = some y := ⟨_, List.getElem?_eq_getElem hlt⟩
      obtain ⟨b, o, rfl, hbw, hc0, hc1⟩ := HM.out.at2 k p hy
      have e0 := (hf.cell (p := ⟨b, o + k * 2, none⟩) hbw).trans hc0
      have e1 := (hf.cell (p := ⟨b, o + k * 2 + 1, none⟩) hbw).trans hc1
      have HS := Lib.hid (sumF_succ xs k p hy)
      obtain ⟨z, hz⟩ : ∃ z, szF p = z := ⟨_, rfl⟩
      have HZ := Lib.hid (fun w => st_sizeW p z hz w)
      have HZE := Lib.hid hz
      unfold szF at hz
      have hzz : (z != z) = false := by simp
      clear hc0 hc1 hy hf
      generalize sumF (xs.take k) = s at *
      obtain ⟨p1, p2⟩ := p
      simp only at hz e0 e1 HZ
      have hz' : IntKind.i64.wrap (IntKind.i64.wrap ((p1.size : Int) + (p2.size : Int)) + 32) = z := by
        rw [wrap_eq64, wrap_eq64]
        exact hz
      go_upto_region 7 with fail
      have hb := Blk.new wr 23 #[.string p1, .string p2]
      refine wp_gen (fun W => Blk W wr.heap.size 23 #[.string p1, .string p2] ∧ Fresh wr W) ⟨hb, Fresh.alloc _ _⟩ ?_
      clear hb
      intro W ⟨hb, hfw⟩
      generalize wr.heap.size = g at *
      have HSK : Hid (∀ w', Fresh W w' → w'.cell? ⟨g, 0, none⟩ = some (.string p1) ∧ w'.cell? ⟨g, 1, none⟩ = some (.string p2) ∧ Fresh W w') := Lib.hid (fun w' hw => ⟨(hb.fresh hw).cell 0, (hb.fresh hw).cell 1, hw⟩)
      have HFW := Lib.hid (HF.out.trans hfw)
      clear hb hfw
      go_region_held3 (fun w' => w'.cell? ⟨g, 0, none⟩ = some (.string p1) ∧ w'.cell? ⟨g, 1, none⟩ = some (.string p2) ∧ Fresh W w')
        ((refine HSK.out _ ?_; first | with_reducible assumption | with_reducible exact Fresh.drew _))
        (first | (go_at_call 16; (with_reducible refine (HZ.out _).mono ?_); rintro e w2 ⟨rfl, hf2⟩; have hg2 : Fresh W w2 := Fresh.trans (by first | with_reducible assumption | with_reducible exact Fresh.drew _) hf2; have hq0 := (HSK.out _ hg2).1; have hq1 := (HSK.out _ hg2).2.1; clear hf2))
      all_goals
        go_wp2_with fail
        go_roundw
        case rel => exact ⟨k + 1, by omega, by rw [HS.out, HZE.out], by go_num, HFW.out.trans hg2⟩
        case measure => simp [intOf]; omega
    · obtain rfl : k = xs.length := by omega
      rw [List.take_length]
      have HSM := Lib.hid (st_sum A xs c wr (HM.out.fresh hf) (by omega))
      have hss : (sumF xs == sumF xs) = true := by simp
      generalize sumF xs = s at *
      clear hf
      go_wp2_with fail
      with_reducible refine HSM.out.mono ?_
      rintro e w2 ⟨rfl, hf2⟩
      have HF2 := Lib.hid (HF.out.trans hf2)
      clear hf2
      go_wp2_with fail
      with_reducible refine (st_awake _).mono ?_
      rintro e w3 ⟨rfl, hf3⟩
      have HF3 := Lib.hid (HF2.out.trans hf3)
      clear hf3
      go_wp2_with fail
      go_ret
      exact ⟨rfl, HF3.out⟩
theorem StaticSizes_any (s : FldsV) (w : World) (hs : s.Ok w) :
    Calls Try.prog 6 #[.slice s.A s.xs.length s.c] w fun e w' => e = .returned (.bool true) ∧ Below w.heap.size w w' := by
  obtain ⟨A, c, xs⟩ := s
  obtain ⟨_, _, hm⟩ := hs
  simp only at *
  show Calls _ _ _ _ (LwP w)
  by_cases hn : 100 < xs.length
  · exact sizes_long A xs c w hn
  · exact sizes_all A xs c w hm (by omega)
end Go.Proofs.Ytgbnppnpikncpaa
