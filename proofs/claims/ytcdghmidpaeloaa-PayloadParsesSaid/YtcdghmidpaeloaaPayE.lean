/-
  Contracts of package payload: slices.Equal of pairs, Known, OK.
-/
import Derived.Test.YtcdghmidpaeloaaPay90
import Derived.BigQuiet
namespace Go.Proofs.Ytcdghmidpaeloaa
set_option linter.unusedVariables false
open Go.RowKit

theorem take_eq_succ {α : Type} {xs ys : List α} {k : Nat} {x y : α} (hx : xs[k]? = some x) (hy : ys[k]? = some y) (h : xs.take k = ys.take k) : (xs.take (k + 1) = ys.take (k + 1)) ↔ x = y := by
  obtain ⟨h1, e1⟩ := List.getElem?_eq_some_iff.1 hx
  obtain ⟨h2, e2⟩ := List.getElem?_eq_some_iff.1 hy
  rw [List.take_succ_eq_append_getElem h1, List.take_succ_eq_append_getElem h2, h, e1, e2]
  simp
set_option maxHeartbeats 3200000 in
theorem sequal (A B : Option Addr) (xs ys : List (Int × Int)) (c d : Nat) (w : World) (hA : Many pairC 2 w A xs) (hB : Many pairC 2 w B ys) (hx : xs.length ≤ 1000000) (hy : ys.length ≤ 1000000) :
    Calls Try.prog 24 #[.slice A xs.length c, .slice B ys.length d] w fun e w' => e = .returned (.bool (decide (xs = ys))) ∧ Fresh w w' := by
  have HA := Lib.hid hA
  have HB := Lib.hid hB
  clear hA hB
  by_cases hl : xs.length = ys.length
  · obtain ⟨n, hn⟩ : ∃ n, ys.length = n := ⟨_, rfl⟩
    rw [hn] at hl hy ⊢
    rw [hl] at hx ⊢
    obtain ⟨r, hr⟩ : ∃ r, decide (xs = ys) = r := ⟨_, rfl⟩
    rw [hr]
    have HR := Lib.hid hr
    have HL := Lib.hid (And.intro hl hn)
    clear hr hl hn
    go_enter Try.func24, Try.ntmps24
    go_wp2_with fail
    go_loopw [5, 13] (fun _ i wr => ∃ (k : Nat), k ≤ n ∧ i = .int .i64 (k : Int) ∧ xs.take k = ys.take k ∧ Fresh w wr) (fun _ i _ => n - (intOf i).toNat)
    case atStart => exact ⟨0, by omega, rfl, by simp, Fresh.refl _⟩
    case round =>
      obtain ⟨k, hk, rfl, ht, hf⟩ := hrel
      have HF := Lib.hid hf
      have HT := Lib.hid ht
      clear hf ht
      by_cases hlt : k < n
      · have hlt' : (k : Int) < (n : Int) := by omega
        obtain ⟨hl, hn⟩ := HL.out
        obtain ⟨⟨a, b⟩, hxk⟩ : ∃ x, xs[k]? = some x := ⟨_, List.getElem?_eq_getElem (by omega)⟩
        obtain ⟨⟨a', b'⟩, hyk⟩ : ∃ y, ys[k]? = some y := ⟨_, List.getElem?_eq_getElem (by omega)⟩
        obtain ⟨g, o, rfl, hg, hcc⟩ := HA.out.at k (a, b) hxk
        obtain ⟨g', o', rfl, hg', hcc'⟩ := HB.out.at k (a', b') hyk
        have q0 := (HF.out.cell (p := ⟨g, o + k * 2 + 0, none⟩) hg).trans (hcc 0 (by omega))
        have q1 := (HF.out.cell (p := ⟨g, o + k * 2 + 1, none⟩) hg).trans (hcc 1 (by omega))
        have r0 := (HF.out.cell (p := ⟨g', o' + k * 2 + 0, none⟩) hg').trans (hcc' 0 (by omega))
        have r1 := (HF.out.cell (p := ⟨g', o' + k * 2 + 1, none⟩) hg').trans (hcc' 1 (by omega))
        simp only [pairC, List.getElem?_cons_zero, List.getElem?_cons_succ, Nat.add_zero] at q0 q1 r0 r1
        have HTS := Lib.hid (take_eq_succ hxk hyk HT.out)
        have hE : ∀ W, (Op.equalIn 10000 52 (.agg #[.int .i64 a, .int .i64 b]) (.agg #[.int .i64 a', .int .i64 b'])).run Try.prog W = .ok (decide ([a, b] = [a', b'])) W := fun W =>
          run_equalIn_ints (P := Try.prog) Try.underlying52 Try.underlying3 (by kernel_rfl) 9998 [a, b] [a', b'] rfl rfl W
        have HXK := Lib.hid (And.intro hxk hyk)
        clear hcc hcc' hxk hyk hl hn
        by_cases hq : (a, b) = (a', b')
        · have e1 : decide ([a, b] = [a', b']) = true := decide_eq_true (by cases hq; rfl)
          rw [e1] at hE
          have HQ := Lib.hid hq
          clear hq e1
          go_wp2_with fail
          go_quiet (fail)
          go_wp2_with fail
          go_roundw
          case rel => exact ⟨k + 1, by omega, by first | rfl | simp, HTS.out.2 HQ.out, HF.out.trans (Fresh.drewN _ _)⟩
          case measure => simp only [intOf]; omega
        · have e1 : decide ([a, b] = [a', b']) = false := decide_eq_false (fun h => hq (by simp at h; simp [h]))
          rw [e1] at hE
          have HQ := Lib.hid hq
          clear hq e1
          go_wp2_with fail
          go_quiet (fail)
          go_wp2_with fail
          go_ret
          refine ⟨?_, HF.out.trans (Fresh.drewN _ _)⟩
          rw [← HR.out, decide_eq_false (fun h => HQ.out (HTS.out.1 (by rw [h])))]
          rfl
      · obtain rfl : k = n := by omega
        go_wp2_with fail
        go_ret
        refine ⟨?_, HF.out⟩
        obtain ⟨hl, hn⟩ := HL.out
        have := HT.out
        rw [List.take_of_length_le (by omega), List.take_of_length_le (by omega)] at this
        rw [← HR.out, decide_eq_true this]
        rfl
  · have e1 : decide (xs = ys) = false := decide_eq_false (fun h => hl (by rw [h]))
    have hl' : ¬ (xs.length : Int) = (ys.length : Int) := by omega
    rw [e1]
    clear e1
    go_enter Try.func24, Try.ntmps24
    go_wp2_with fail
    go_ret
    exact ⟨rfl, Fresh.refl _⟩
theorem pknown (k : Int) (w : World) : Calls Try.prog 13 #[.int .i64 k] w fun e w' => e = .returned (.bool (decide (0 ≤ k ∧ k ≤ 9))) ∧ w = w' := by
  by_cases h : 0 ≤ k
  · go_enter Try.func13, Try.ntmps13
    go_wp2_with fail
    go_ret
    exact ⟨by simp [h], rfl⟩
  · have e : decide (0 ≤ k ∧ k ≤ 9) = false := decide_eq_false (by omega)
    rw [e]
    go_enter Try.func13, Try.ntmps13
    go_wp2_with fail
    go_ret
    exact ⟨rfl, rfl⟩
end Go.Proofs.Ytcdghmidpaeloaa

