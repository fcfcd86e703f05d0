/-
  The document's Drop, Cut.
-/
import Derived.Test.YthfifeclmikbgaaQueF
namespace Go.Proofs.Ythfifeclmikbgaa
set_option linter.unusedVariables false
set_option linter.unusedSimpArgs false
open Go.RowKit
def dropS (num : Int) : List SI → List SI
  | [] => []
  | x :: r => if x.1 = num then r else x :: dropS num r
def hasN (num : Int) (l : List SI) : Bool := l.any fun x => decide (x.1 = num)
theorem dropS_snoc (num : Int) (l : List SI) (x : SI) : dropS num (l ++ [x]) = if hasN num l = false ∧ x.1 = num then dropS num l else dropS num l ++ [x] := by
  induction l with
  | nil => by_cases h : x.1 = num <;> simp [dropS, hasN, h]
  | cons y r ih =>
    simp only [List.cons_append, dropS]
    by_cases h1 : y.1 = num
    · simp [h1, hasN]
    · simp only [h1, if_false, ih]
      have h2 : hasN num (y :: r) = hasN num r := by simp [hasN, h1]
      rw [h2]
      by_cases h3 : hasN num r = false ∧ x.1 = num
      · simp [h3]
      · simp only [h3, if_false, List.cons_append]
theorem hasN_snoc (num : Int) (l : List SI) (x : SI) : hasN num (l ++ [x]) = (hasN num l || decide (x.1 = num)) := by simp [hasN]
theorem dropS_len (num : Int) (l : List SI) : (dropS num l).length ≤ l.length := by
  induction l with
  | nil => simp [dropS]
  | cons x r ih => unfold dropS; split <;> simp <;> omega
def DropSP (num : Int) (l : List SI) (w : World) (e : Ending) (w' : World) : Prop := ∃ A' c', e = .returned (.slice A' (dropS num l).length c') ∧ LS w' A' c' (dropS num l) ∧ Fresh w w'
set_option maxRecDepth 100000 in
set_option maxHeartbeats 3200000 in
theorem rs_drop (A : Option Addr) (c : Nat) (l : List SI) (num : Int) (w : World) (h : LS w A c l) (hl : l.length ≤ 10000) :
    Calls Try.prog 25 #[.slice A l.length c, .int .i64 num] w (DropSP num l w) := by
  have H := Lib.hid h
  have hle := h.le
  have hmx := h.max
  simp only [maxLen] at hmx
  obtain ⟨n, hn⟩ : ∃ n, l.length = n := ⟨_, rfl⟩
  have HN := Lib.hid hn
  rw [hn] at hle hl ⊢
  clear h hn
  go_enter Try.func25, Try.ntmps25
  go_wp2
  go_loopw [5, 6, 7] (fun o d i wr => ∃ (k m : Nat) (A' : Option Addr) (c' : Nat), k ≤ n ∧ i = .int .i64 (k : Int) ∧ d = .bool (hasN num (l.take k)) ∧ o = .slice A' m c' ∧ m = (dropS num (l.take k)).length ∧ Own wr w.heap.size 45 3 (.slice A' m c') m (rowS (dropS num (l.take k))) ∧ Fresh w wr) (fun _ _ i _ => n - (intOf i).toNat)
  case atStart => exact ⟨0, 0, none, 0, by omega, rfl, rfl, rfl, rfl, Own.nil _ _ _ _, Fresh.refl _⟩
  case round =>
    obtain ⟨k, m, A', c', hk, rfl, rfl, rfl, hm, ho, hf⟩ := hrel
    have HO := Lib.hid ho
    have HF := Lib.hid hf
    have HM := Lib.hid hm
    by_cases hlt : k < n
    · have hlt' : (k : Int) < (n : Int) := by omega
      obtain ⟨x, hx⟩ : ∃ x, l[k]? = some x := ⟨_, List.getElem?_eq_getElem (by rw [HN.out]; exact hlt)⟩
      obtain ⟨b, o, hA, hb, y0, y1, y2⟩ := (H.out.rows.fresh hf).at3 k x hx
      subst hA
      have htk : l.take (k + 1) = l.take k ++ [x] := by
        obtain ⟨hq, rfl⟩ := List.getElem?_eq_some_iff.1 hx
        rw [List.take_succ_eq_append_getElem hq]
      have HD := Lib.hid (dropS_snoc num (l.take k) x)
      have HH := Lib.hid (hasN_snoc num (l.take k) x)
      rw [← htk] at HD HH
      have hml : m ≤ 10000 := by rw [hm]; have := dropS_len num (l.take k); rw [List.length_take] at this; omega
      obtain ⟨A2, c2, w5, hap, ho5, hon5⟩ := si_push x m ho hf.size (by omega)
      have hf5 : Fresh w w5 := Below.trans hf (Only.below hon5 hf.size (fun q e => (Own.lt ho q e).1))
      have HX5 := Lib.hid (And.intro ho5 hf5)
      obtain ⟨bd, hbd⟩ : ∃ bd, hasN num (l.take k) = bd := ⟨_, rfl⟩
      have HBD := Lib.hid hbd
      rw [hbd] at HD HH ⊢
      clear hx htk hm ho hf ho5 hon5 hf5 hbd
      cases bd
      · by_cases hxn : x.1 = num
        · have HD2 : Hid (dropS num (l.take (k + 1)) = dropS num (l.take k)) := Lib.hid (by rw [HD.out, if_pos ⟨rfl, hxn⟩])
          have HH2 : Hid (hasN num (l.take (k + 1)) = true) := Lib.hid (by rw [HH.out]; simp [hxn])
          rw [hxn] at y0
          clear hxn hap
          go_wp2
          go_roundw
          case rel => exact ⟨k + 1, m, A', c', by omega, by go_num, by rw [HH2.out], rfl, by rw [HD2.out]; exact HM.out, by rw [HD2.out]; exact HO.out, HF.out⟩
          case measure => simp [intOf]; omega
        · have hxb : (x.1 == num) = false := by simpa using hxn
          have HD2 : Hid (dropS num (l.take (k + 1)) = dropS num (l.take k) ++ [x]) := Lib.hid (by rw [HD.out, if_neg (fun h => hxn h.2)])
          have HH2 : Hid (hasN num (l.take (k + 1)) = false) := Lib.hid (by rw [HH.out]; simp [hxn])
          clear hxn
          go_wp2_with (at_builtin; with_reducible refine wp_app rfl (.tmp 25) (.tmp 30) _ rfl hap rfl rfl rfl ?_)
          go_roundw
          case rel => exact ⟨k + 1, m + 1, A2, c2, by omega, by go_num, by rw [HH2.out], rfl, by rw [HD2.out, List.length_append, ← HM.out]; rfl, by rw [HD2.out]; exact HX5.out.1, HX5.out.2⟩
          case measure => simp [intOf]; omega
      · have HD2 : Hid (dropS num (l.take (k + 1)) = dropS num (l.take k) ++ [x]) := Lib.hid (by rw [HD.out, if_neg (fun h => by cases h.1)])
        have HH2 : Hid (hasN num (l.take (k + 1)) = true) := Lib.hid (by rw [HH.out]; rfl)
        go_wp2_with (at_builtin; with_reducible refine wp_app rfl (.tmp 25) (.tmp 30) _ rfl hap rfl rfl rfl ?_)
        go_roundw
        case rel => exact ⟨k + 1, m + 1, A2, c2, by omega, by go_num, by rw [HH2.out], rfl, by rw [HD2.out, List.length_append, ← HM.out]; rfl, by rw [HD2.out]; exact HX5.out.1, HX5.out.2⟩
        case measure => simp [intOf]; omega
    · obtain rfl : k = n := by omega
      have HFIN : Hid (DropSP num l w (.returned (.slice A' m c')) wr) := Lib.hid (by
        have e : l.take k = l := List.take_of_length_le (by rw [HN.out]; exact Nat.le_refl _)
        rw [e] at hm ho
        subst hm
        exact ⟨A', c', rfl, LS.of ho rfl, hf⟩)
      clear hm ho hf
      go_wp2
      go_ret
      exact HFIN.out
end Go.Proofs.Ythfifeclmikbgaa
