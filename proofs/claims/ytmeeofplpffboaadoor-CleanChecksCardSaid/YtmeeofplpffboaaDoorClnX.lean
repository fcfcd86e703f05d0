/-
  Package clean: values.
-/
import Derived.Test.YtmeeofplpffboaaDoorClnW
namespace Go.Proofs.YtmeeofplpffboaaDoor
set_option maxRecDepth 100000
set_option linter.unusedVariables false
set_option linter.unusedSimpArgs false
open Go.RowKit
/-! Plain words: what the document says of values. -/
def badC (c : UInt8) : Bool := [0, 10, 13].contains c
def blkC (c : UInt8) : Bool := [32, 9].contains c
def valB (l : List UInt8) : Bool := decide (l.length ≤ 4096) && (!Lib.containsAny l [0, 10, 13] && (Lib.trimS l [32, 9] == l))
theorem dw_same {p : UInt8 → Bool} {l : List UInt8} : l.dropWhile p = l ↔ ∀ x, l[0]? = some x → p x = false := by
  cases l with
  | nil => simp
  | cons a t =>
    rw [List.dropWhile_cons]
    constructor
    · intro h x hx
      simp at hx
      subst hx
      cases hp : p a
      · rfl
      · rw [if_pos hp] at h
        have h1 := congrArg List.length h
        have h2 := (List.dropWhile_suffix p (l := t)).length_le
        simp at h1
        omega
    · intro h
      have := h a rfl
      rw [if_neg (by simp [this])]
theorem dw_len {p : UInt8 → Bool} {l : List UInt8} (h : l.length ≤ (l.dropWhile p).length) : l.dropWhile p = l :=
  (List.dropWhile_suffix p (l := l)).eq_of_length (by have := (List.dropWhile_suffix p (l := l)).length_le; omega)
theorem trim_same {l : List UInt8} : Lib.trimS l [32, 9] = l ↔ ∀ (j : Nat) x, l[j]? = some x → (j = 0 ∨ j + 1 = l.length) → blkC x = false := by
  have hr : Lib.trimRightS l [32, 9] = l ↔ ∀ x, l.reverse[0]? = some x → blkC x = false := by
    unfold Lib.trimRightS
    constructor
    · intro h
      have h2 : l.reverse.dropWhile ([32, 9].contains ·) = l.reverse := by
        have := congrArg List.reverse h
        rwa [List.reverse_reverse] at this
      exact fun x hx => dw_same.1 h2 x hx
    · intro h
      rw [show l.reverse.dropWhile ([32, 9].contains ·) = l.reverse from dw_same.2 (fun x hx => h x hx), List.reverse_reverse]
  have hl : Lib.trimLeftS l [32, 9] = l ↔ ∀ x, l[0]? = some x → blkC x = false := dw_same
  have hlast : ∀ x, l.reverse[0]? = some x ↔ 0 < l.length ∧ l[l.length - 1]? = some x := fun x => by
    by_cases h0 : 0 < l.length
    · rw [List.getElem?_reverse (by omega)]
      simp [h0]
    · have : l = [] := List.length_eq_zero_iff.1 (by omega)
      subst this
      simp
  constructor
  · intro h
    have h1 : l.length ≤ (Lib.trimRightS l [32, 9]).length := by
      have := congrArg List.length h
      unfold Lib.trimS Lib.trimLeftS at this
      have h3 := (List.dropWhile_suffix ([32, 9].contains ·) (l := Lib.trimRightS l [32, 9])).length_le
      omega
    have h2 : Lib.trimRightS l [32, 9] = l := by
      unfold Lib.trimRightS at h1 ⊢
      rw [List.length_reverse] at h1
      rw [dw_len (by rw [List.length_reverse]; exact h1), List.reverse_reverse]
    have h4 : Lib.trimLeftS l [32, 9] = l := by
      unfold Lib.trimS at h
      rwa [h2] at h
    intro j x hx hj
    rcases hj with rfl | hj
    · exact hl.1 h4 x hx
    · exact hr.1 h2 x ((hlast x).2 ⟨by omega, by rw [← hj, Nat.add_sub_cancel]; exact hx⟩)
  · intro h
    unfold Lib.trimS
    rw [hr.2 (fun x hx => by
      obtain ⟨h0, h1⟩ := (hlast x).1 hx
      exact h _ x h1 (.inr (by omega))), hl.2 (fun x hx => h 0 x hx (.inl rfl))]
theorem any_no {l : List UInt8} : Lib.containsAny l [0, 10, 13] = false ↔ ∀ (j : Nat) x, l[j]? = some x → badC x = false := by
  unfold Lib.containsAny
  constructor
  · intro h j x hx
    cases hb : badC x with
    | false => rfl
    | true =>
      exfalso
      have hex : ∃ j, ∃ x, l[j]? = some x ∧ badC x = true := ⟨j, x, hx, hb⟩
      have : ∀ m : Nat, (∃ x, l[m]? = some x ∧ badC x = true) → ∃ m, Lib.NoAny l [0, 10, 13] m ∧ ∃ x, l[m]? = some x ∧ badC x = true := by
        intro m
        induction m using Nat.strongRecOn with
        | ind m ih =>
          intro hm
          by_cases hq : ∃ k, k < m ∧ ∃ x, l[k]? = some x ∧ badC x = true
          · obtain ⟨k, hk, h⟩ := hq
            exact ih k hk h
          · refine ⟨m, fun k b hk hb => ?_, hm⟩
            cases hc : badC b with
            | false => exact hc
            | true => exact absurd ⟨k, hk, b, hb, hc⟩ hq
      obtain ⟨m, hno, y, hy, hyb⟩ := this j ⟨x, hx, hb⟩
      have h1 := Lib.indexAny_hit hno hy hyb
      rw [h1] at h
      have := of_decide_eq_false h
      omega
  · intro h
    rw [Lib.indexAny_none (fun j b _ hb => h j b hb)]
    rfl
theorem valB_len {l : List UInt8} (h : 4096 < l.length) : valB l = false := by unfold valB; rw [decide_eq_false (by omega)]; rfl
theorem valB_bad {l : List UInt8} {j : Nat} {x : UInt8} (hx : l[j]? = some x) (hb : badC x = true) : valB l = false := by
  unfold valB
  have : Lib.containsAny l [0, 10, 13] = true := by
    cases h : Lib.containsAny l [0, 10, 13] with
    | true => rfl
    | false => rw [any_no.1 h j x hx] at hb; cases hb
  rw [this]
  simp
theorem valB_edge {l : List UInt8} {j : Nat} {x : UInt8} (hx : l[j]? = some x) (hj : j = 0 ∨ j + 1 = l.length) (hb : blkC x = true) : valB l = false := by
  unfold valB
  have : (Lib.trimS l [32, 9] == l) = false := by
    rw [beq_eq_false_iff_ne]
    intro h
    rw [trim_same.1 h j x hx hj] at hb
    cases hb
  rw [this]
  simp
theorem valB_all {l : List UInt8} (h0 : l.length ≤ 4096) (h : ∀ (j : Nat) x, l[j]? = some x → badC x = false ∧ ((j = 0 ∨ j + 1 = l.length) → blkC x = false)) : valB l = true := by
  unfold valB
  rw [decide_eq_true h0, any_no.2 (fun j x hx => (h j x hx).1), beq_iff_eq.2 (trim_same.2 (fun j x hx hj => (h j x hx).2 hj))]
  rfl
theorem ends_ascii : ∀ (j : Nat) b, (⟨#[0, 10, 13]⟩ : ByteArray).data.toList[j]? = some b → b.toNat < 128 := ascii_of_all (by decide)
theorem set116 : (Tryd.prog.info? (lays150_ren.t 116)).map (fun i => (i.zero, i.size)) = some (some (.agg (Array.replicate 256 (.bool false))), 256) := by kernel_rfl
theorem ia_any (s : ByteArray) (w : World) (hs : s.size ≤ 1000000) :
    Calls Tryd.prog 27 #[.string s, .string ⟨#[0, 10, 13]⟩] w fun e w' => e = .returned (.int .i64 (Lib.indexAny s.data.toList [0, 10, 13])) ∧ Fresh w w' := by
  by_cases h8 : s.size ≤ 8
  · exact ia_short s ⟨#[0, 10, 13]⟩ w (by decide) h8 ends_ascii
  · have h : Calls Tryd.prog 27 #[.string s, .string ⟨#[0, 10, 13]⟩] w _ := Any.strings_IndexAny_long { lays150 with } (zero_of_info set116).1 (zero_of_info set116).2 s ⟨#[0, 10, 13]⟩ w (by decide) (by omega) (by omega) (by decide) ends_ascii
    refine h.mono ?_
    rintro e w' ⟨rfl, hw⟩
    subst hw
    exact ⟨rfl, (Fresh.alloc _ _).trans (Fresh.alloc _ _)⟩
theorem ca_any (s : ByteArray) (w : World) (hs : s.size ≤ 1000000) (r : Bool) (hr : Lib.containsAny s.data.toList [0, 10, 13] = r) :
    Calls Tryd.prog 23 #[.string s, .string ⟨#[0, 10, 13]⟩] w fun e w' => e = .returned (.bool r) ∧ Fresh w w' := by
  have HI := Lib.hid (fun w => ia_any s w hs)
  unfold Lib.containsAny at hr
  generalize Lib.indexAny s.data.toList [0, 10, 13] = q at *
  go_enter Tryd.func23, Tryd.ntmps23
  go_wp2_with fail
  with_reducible refine (HI.out _).mono ?_
  rintro e w1 ⟨rfl, hf⟩
  go_wp2_with fail
  go_ret
  exact ⟨by rw [← hr]; rfl, hf⟩
theorem blanks_ascii : ∀ (j : Nat) b, (⟨#[32, 9]⟩ : ByteArray).data.toList[j]? = some b → b.toNat < 128 := ascii_of_all (by decide)
theorem tr_any (s : ByteArray) (w : World) (hs : s.size ≤ 1000000) (r : Bool) (hr : (Lib.trimS s.data.toList [32, 9] == s.data.toList) = r) :
    Calls Tryd.prog 24 #[.string s, .string ⟨#[32, 9]⟩] w fun e w' => ∃ T : ByteArray, e = .returned (.string T) ∧ (T.toList == s.toList) = r ∧ Fresh w w' := by
  have h : Calls Tryd.prog 24 #[.string s, .string ⟨#[32, 9]⟩] w _ := Any.strings_Trim_laid lays160 (by kernel_rfl) s ⟨#[32, 9]⟩ w (by omega) (by decide) blanks_ascii
  refine h.mono ?_
  rintro e w' ⟨rfl, hf⟩
  refine ⟨_, rfl, ?_, hf⟩
  rw [← hr, ByteArray.toList_mk, Lib.toList_data]
set_option maxHeartbeats 3200000 in
theorem cl_value (s : ByteArray) (w : World) (hs : s.size ≤ 1000000) :
    Calls Tryd.prog 11 #[.string s] w fun e w' => e = .returned (.bool (valB s.data.toList)) ∧ Fresh w w' := by
  obtain ⟨r, hr⟩ : ∃ r, valB s.data.toList = r := ⟨_, rfl⟩
  rw [hr]
  unfold valB at hr
  rw [← Lib.size_eq] at hr
  obtain ⟨q, hq⟩ : ∃ q, Lib.containsAny s.data.toList [0, 10, 13] = q := ⟨_, rfl⟩
  obtain ⟨u, hu⟩ : ∃ u, (Lib.trimS s.data.toList [32, 9] == s.data.toList) = u := ⟨_, rfl⟩
  rw [hq, hu] at hr
  have HC := Lib.hid (fun w => ca_any s w hs q hq)
  have HT := Lib.hid (fun w => tr_any s w hs u hu)
  clear hq hu
  by_cases h0 : s.size ≤ 4096
  · rw [decide_eq_true h0, Bool.true_and] at hr
    have d0 : (s.size : Int) ≤ 4096 := by omega
    clear h0
    cases q
    · simp only [Bool.not_false, Bool.true_and] at hr
      subst hr
      go_enter Tryd.func11, Tryd.ntmps11
      go_wp2_with (first | (go_at_call 23; with_reducible refine (HC.out _).mono ?_; rintro e w1 ⟨rfl, hf1⟩; have HF1 := Lib.hid hf1; clear hf1) | (go_at_call 24; with_reducible refine (HT.out _).mono ?_; rintro e w2 ⟨T, rfl, hT, hf2⟩; have HF2 := Lib.hid hf2; clear hf2) | fail)
      go_ret
      exact ⟨by rw [← hT]; rfl, HF1.out.trans HF2.out⟩
    · simp only [Bool.not_true, Bool.false_and] at hr
      subst hr
      go_enter Tryd.func11, Tryd.ntmps11
      go_wp2_with (first | (go_at_call 23; with_reducible refine (HC.out _).mono ?_; rintro e w1 ⟨rfl, hf1⟩; have HF1 := Lib.hid hf1; clear hf1) | fail)
      go_ret
      exact ⟨rfl, HF1.out⟩
  · rw [decide_eq_false h0, Bool.false_and] at hr
    subst hr
    have d0 : decide ((s.size : Int) ≤ 4096) = false := decide_eq_false (by omega)
    clear h0
    go_enter Tryd.func11, Tryd.ntmps11
    go_wp2
    go_ret
    exact ⟨rfl, Fresh.refl _⟩
end Go.Proofs.YtmeeofplpffboaaDoor

