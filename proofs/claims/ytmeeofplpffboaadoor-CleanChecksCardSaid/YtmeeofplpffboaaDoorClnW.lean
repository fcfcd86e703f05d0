/-
  strings.IndexAny, ContainsAny and Trim at what package clean asks, for bytes of every kind.
-/
import Derived.Test.YtmeeofplpffboaaDoorClnV
namespace Go.Proofs.YtmeeofplpffboaaDoor
set_option maxRecDepth 100000
set_option linter.unusedVariables false
set_option linter.unusedSimpArgs false
open Go.RowKit
theorem next_at {P : Program} {wr : World} {b : Nat} {s : ByteArray} {pos c n : Nat} (hb : wr.heap[b]? = some (.stringIter s pos)) (h : pos < s.size) (hd : Utf8.decode s pos = (c, n)) :
    ∃ W', (∀ ty, (Instr.next (.pointer (some ⟨b, 0, none⟩)) true ty).run P wr = .ok (.tuple #[.bool true, .int .i64 pos, .int .i32 c]) W') ∧ W'.heap[b]? = some (.stringIter s (pos + n)) ∧ ∀ w, Fresh w wr → w.heap.size ≤ b → Fresh w W' := by
  have hlt : b < wr.heap.size := (Array.getElem?_eq_some_iff.1 hb).1
  refine ⟨{ wr with heap := wr.heap.setIfInBounds b (.stringIter s (pos + n)) }, fun ty => ?_, ?_, fun w hf hwb => ?_⟩
  · simp only [Instr.next, getObj, setObj, Sem.run_bind, Sem.run, hb, Result.andThen, h, if_true, hd]
    simp [goInt, Sem.run, hb]
  · simp [hlt]
  · refine ⟨hf.os, hf.tape, hf.output, ?_, ?_⟩
    · have := Below.size hf
      simpa using this
    · intro k hk
      have := Below.block hf k hk
      simp only [Array.getElem?_setIfInBounds]
      rw [if_neg (by omega)]
      exact this
theorem next_end {P : Program} {wr : World} {b : Nat} {s : ByteArray} {pos : Nat} (hb : wr.heap[b]? = some (.stringIter s pos)) (h : ¬ pos < s.size) (ty : TypeId) :
    (Instr.next (.pointer (some ⟨b, 0, none⟩)) true ty).run P wr = .ok (.tuple #[.bool false]) wr := by
  simp [Instr.next, getObj, Sem.run, hb, h]
theorem iter_fresh {wr w' : World} {b : Nat} {s : ByteArray} {pos : Nat} (hb : wr.heap[b]? = some (.stringIter s pos)) (hf : Fresh wr w') : w'.heap[b]? = some (.stringIter s pos) :=
  (Below.block hf b (Array.getElem?_eq_some_iff.1 hb).1).trans hb
theorem ir_ascii (s : ByteArray) (x : UInt8) (hx : x.toNat < 128) (w : World) :
    Calls Tryd.prog 36 #[.string s, .int .i32 (x.toNat : Int)] w fun e w' => e = .returned (.int .i64 (Lib.indexByte s.data.toList x)) ∧ Fresh w w' := by
  have h : Calls Tryd.prog 36 #[.string s, .int .i32 (x.toNat : Int)] w _ := Any.strings_IndexRune_ascii { lays150 with } s (x.toNat : Int) w (by omega) (by omega)
  refine h.mono ?_
  rintro e w' ⟨rfl, hw⟩
  subst hw
  exact ⟨by simp, Fresh.refl _⟩
theorem ir_big (s : ByteArray) (hA : ∀ (j : Nat) b, s.data.toList[j]? = some b → b.toNat < 128) (c : Nat) (h : Rn c) (w : World) :
    Calls Tryd.prog 36 #[.string s, .int .i32 (c : Int)] w fun e w' => e = .returned (.int .i64 (-1)) ∧ Fresh w w' := by
  by_cases e : c = 65533
  · subst e
    exact ir_error s hA w
  · exact ir_other s hA c h e w
theorem sh_use (n : Int) (w : World) : Calls Tryd.prog 37 #[.int .i64 n] w fun e w' => e = .returned (.bool (decide (8 < n))) ∧ w' = w := by
  have h : Calls Tryd.prog 37 #[.int .i64 n] w _ := Any.strings_shouldUseASCIISet { lays150 with } n w
  exact h
set_option maxHeartbeats 8000000 in
theorem ia_short (s chars : ByteArray) (w : World) (h2 : 2 ≤ chars.size) (h8 : s.size ≤ 8) (hac : ∀ (j : Nat) b, chars.data.toList[j]? = some b → b.toNat < 128) :
    Calls Tryd.prog 27 #[.string s, .string chars] w fun e w' => e = .returned (.int .i64 (Lib.indexAny s.data.toList chars.data.toList)) ∧ Fresh w w' := by
  have hemp : chars.toList.isEmpty = false := by
    rw [Lib.toList_data]
    cases h : chars.data.toList with
    | nil => have := Lib.size_eq chars; rw [h, List.length_nil] at this; omega
    | cons _ _ => rfl
  have hn1 : ((chars.size : Int) == 1) = false := beq_eq_false_iff_ne.2 (by omega)
  have h8z : decide ((8 : Int) < (s.size : Int)) = false := decide_eq_false (by omega)
  have HAC := Lib.hid hac
  have HBIG := Lib.hid (fun c h w => ir_big chars hac c h w)
  clear hac
  obtain ⟨LS, hLS⟩ : ∃ LS, s.data.toList = LS := ⟨_, rfl⟩
  obtain ⟨LC, hLC⟩ : ∃ LC, chars.data.toList = LC := ⟨_, rfl⟩
  rw [hLS, hLC]
  rw [hLC] at HAC
  have HLS := Lib.hid hLS
  have HLC := Lib.hid hLC
  clear hLS hLC
  have HSH := Lib.hid (fun w => sh_use (s.size : Int) w)
  rw [h8z] at HSH
  obtain ⟨b, hb⟩ : ∃ b, w.heap.size = b := ⟨_, rfl⟩
  have HB := Lib.hid hb
  clear hb
  go_enter Tryd.func27, Tryd.ntmps27
  go_wp2_with (first | (go_at_call 37; with_reducible refine (HSH.out _).mono ?_; rintro e w' ⟨rfl, hw⟩; obtain rfl : w = w' := hw.symm) | fail)
  rw [HB.out]
  go_loopg [9, 10] s.size (fun g _ _ wx => ∃ i : Nat, i + g = s.size ∧ wx.heap[b]? = some (.stringIter s i) ∧ Fresh w wx ∧ Lib.NoAny LS LC i)
  case atStart => exact ⟨0, by omega, by rw [← HB.out]; exact World.iter_heap _ _ _, Fresh.alloc _ _, Lib.NoAny.zero _ _⟩
  case round =>
    obtain ⟨i, hig, hit, hfr, hno⟩ := hrel
    have HN := Lib.hid hno
    have HIT := Lib.hid hit
    have HFR := Lib.hid hfr
    clear hno hit hfr
    cases gk with
    | zero =>
      obtain rfl : i = s.size := by omega
      have hnx := next_end (P := Tryd.prog) HIT.out (by omega)
      go_wp2
      go_ret
      exact ⟨by rw [Lib.indexAny_none (by rw [← HLS.out, ← Lib.size_eq]; rw [HLS.out]; exact HN.out)]; rfl, HFR.out⟩
    | succ g =>
      have hi : i < s.size := by omega
      obtain ⟨x, hx⟩ : ∃ x : UInt8, s[i]'hi = x := ⟨_, rfl⟩
      have hxl : LS[i]? = some x := by rw [← HLS.out, ← hx]; exact Lib.data_getElem? s i hi
      have Hx := Lib.hid hxl
      clear hxl
      by_cases hx128 : x.toNat < 128
      · obtain ⟨W1, hnx, hW1, hF1⟩ := next_at (P := Tryd.prog) HIT.out hi (decode_ascii s i hi (by rw [hx]; exact hx128))
        rw [hx] at hnx
        have HW1 := Lib.hid hW1
        have HF1 := Lib.hid (hF1 w HFR.out (by rw [HB.out]; omega))
        have HIR := Lib.hid (fun w => ir_ascii chars x hx128 w)
        rw [HLC.out] at HIR
        have hcon := Lib.contains_iff_indexByte LC x
        obtain ⟨q, hq⟩ : ∃ q, Lib.indexByte LC x = q := ⟨_, rfl⟩
        rw [hq] at hcon HIR
        clear hW1 hF1 hx hq
        cases hin : LC.contains x
        · rw [hin] at hcon
          have hlt : decide ((0 : Int) ≤ q) = false := hcon.symm
          have HIN := Lib.hid hin
          clear hcon hin
          go_wp2_with (first | (go_at_call 36; with_reducible refine (HIR.out _).mono ?_; rintro e w' ⟨rfl, hw⟩; have HW := Lib.hid hw; clear hw) | fail)
          go_roundg g
          case measure => omega
          case rel => exact ⟨i + 1, by omega, iter_fresh HW1.out HW.out, HF1.out.trans HW.out, HN.out.succ Hx.out HIN.out⟩
        · rw [hin] at hcon
          have hge : (0 : Int) ≤ q := of_decide_eq_true hcon.symm
          have HIN := Lib.hid hin
          clear hcon hin
          go_wp2_with (first | (go_at_call 36; with_reducible refine (HIR.out _).mono ?_; rintro e w' ⟨rfl, hw⟩; have HW := Lib.hid hw; clear hw) | fail)
          go_ret
          exact ⟨by rw [Lib.indexAny_hit HN.out Hx.out HIN.out]; rfl, HF1.out.trans HW.out⟩
      · obtain ⟨c, n, hd, hrn, hn, hin, hal⟩ := dec_big s i hi (by rw [hx]; omega)
        obtain ⟨W1, hnx, hW1, hF1⟩ := next_at (P := Tryd.prog) HIT.out hi hd
        have HW1 := Lib.hid hW1
        have HF1 := Lib.hid (hF1 w HFR.out (by rw [HB.out]; omega))
        have HIR := Lib.hid (fun w => HBIG.out c hrn w)
        have HNN : Hid (Lib.NoAny LS LC (i + n)) := Lib.hid (fun j y hj hy => by
          by_cases hji : j < i
          · exact HN.out j y hji hy
          · rw [← HLS.out] at hy
            have hjs : j < s.size := by omega
            have h1 := Lib.data_getElem? s j hjs
            rw [h1] at hy
            cases hy
            have h2 := hal j hjs (by omega) hj
            rw [List.contains_eq_mem, decide_eq_false_iff_not]
            intro hm
            obtain ⟨m, hm⟩ := List.getElem?_of_mem hm
            have := HAC.out m _ hm
            omega)
        clear hW1 hF1 hx hal hd hrn
        go_wp2_with (first | (go_at_call 36; with_reducible refine (HIR.out _).mono ?_; rintro e w' ⟨rfl, hw⟩; have HW := Lib.hid hw; clear hw) | fail)
        go_roundg (s.size - (i + n))
        case measure => omega
        case rel => exact ⟨i + n, by omega, iter_fresh HW1.out HW.out, HF1.out.trans HW.out, HNN.out⟩
end Go.Proofs.YtmeeofplpffboaaDoor

