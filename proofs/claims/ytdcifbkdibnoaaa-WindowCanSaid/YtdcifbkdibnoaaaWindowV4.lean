/-
  The laws WindowNever and WindowCan: their walks.
-/
import Derived.Test.YtdcifbkdibnoaaaWindowV3
namespace Go.Proofs.Ytdcifbkdibnoaaa
set_option linter.unusedVariables false
open Go.RowKit

theorem step_grow (s a c : Int) : (stepF s 1 a c).2 = 0 ∧ (stepF s 1 a c).1 = s + a ∧ 1 ≤ a ∧ a ≤ 2147483647 ∨ ¬ (stepF s 1 a c).2 = 0 ∧ (stepF s 1 a c).1 = s := by
  unfold stepF
  repeat' split
  all_goals (first | (left; refine ⟨rfl, rfl, ?_, ?_⟩ <;> omega) | (right; refine ⟨by simp, rfl⟩) | omega)
theorem step_spend (s a c : Int) (hs : 0 ≤ s) : (stepF s 2 a c).2 = 0 ∧ (stepF s 2 a c).1 = s - a ∧ 0 ≤ a ∧ a ≤ s ∨ ¬ (stepF s 2 a c).2 = 0 ∧ (stepF s 2 a c).1 = s := by
  unfold stepF
  repeat' split
  all_goals (first | (left; refine ⟨rfl, rfl, ?_, ?_⟩ <;> omega) | (right; refine ⟨by simp, rfl⟩) | omega)

set_option maxHeartbeats 1600000 in
theorem WindowNever_any (n : Int) (A : Option Addr) (len cap : Nat) (R : Nat → Nat → Int) (w : World) (_ : (Lit.int .i64 n).wf = true) (hlen : len ≤ maxLen) (hA : IntRows w 3 A len R) :
    Calls Try.prog 5 #[.int .i64 n, .slice A len cap] w fun e w' => e = .returned (.bool true) ∧ Below w.heap.size w w' := by
  unfold maxLen at hlen
  by_cases hn : 0 ≤ n ∧ n ≤ 2147483647
  · obtain ⟨h0, h1⟩ := hn
    by_cases hl : len ≤ 200
    · have hld : decide ((200 : Int) < (len : Int)) = false := by simp; omega
      go_enter Try.func5, Try.ntmps5
      go_wp2_with fail
      refine (wnew_yes n _ h0 h1).mono ?_
      rintro e w1 ⟨rfl, hf1⟩
      have hW := new_win hf1 n (by omega) h1
      have hP : PlayRel w w1.heap.size n 3 len A R (w1.alloc (.cells #[.int .i64 n] 25)) := ⟨hW, hA.fresh (hf1.trans (Fresh.alloc _ _)), hf1.trans (Fresh.alloc _ _), hf1.size⟩
      have HP := Lib.hid hP
      clear hP hW
      go_wp2_with fail
      go_loopw [7, 8, 27] (fun sp gr i wr => ∃ (k : Nat) (p g : Int), k ≤ len ∧ i = .int .i64 k ∧ sp = .int .i64 p ∧ gr = .int .i64 g ∧ 0 ≤ p ∧ p ≤ g ∧ g ≤ 2147483647 + k * 2147483647 ∧ PlayRel w w1.heap.size (g - p) 3 len A R wr) (fun _ _ i _ => len - (intOf i).toNat)
      case atStart => exact ⟨0, 0, n, by omega, rfl, rfl, rfl, by omega, by omega, by omega, by rw [Int.sub_zero]; exact HP.out⟩
      case round =>
        obtain ⟨k, p, g, hk, rfl, rfl, rfl, hp0, hpg, hg, hR⟩ := hrel
        by_cases hlt : k < len
        · obtain ⟨bb, oo, rfl, hbb, hcells⟩ := hR.rows.1 (by omega)
          have c0 := hcells k 0 hlt (by omega)
          have c1 := hcells k 1 hlt (by omega)
          have c2 := hcells k 2 hlt (by omega)
          simp only [Nat.add_zero] at c0
          have bs0 := hR.win.2.1
          have bs1 := hR.win.2.2
          clear hcells
          generalize hk0 : R k 0 = kk at *
          generalize hk1 : R k 1 = aa at *
          generalize hk2 : R k 2 = cc at *
          clear hk0 hk1 hk2
          have HR := Lib.hid hR
          clear hR
          have HO : Hid (PlayRel w w1.heap.size (g - p) 3 len (some ⟨bb, oo, none⟩) R (wr.alloc (.cells #[.int .i64 kk, .int .i64 aa, .int .i64 cc] 31))) := HR.out.fresh (Fresh.alloc _ _)
          have HB : Hid (Blk (wr.alloc (.cells #[.int .i64 kk, .int .i64 aa, .int .i64 cc] 31)) wr.heap.size 31 #[.int .i64 kk, .int .i64 aa, .int .i64 cc]) := Blk.new _ _ _
          have hbw : w1.heap.size < wr.heap.size := HR.out.win.1.lt
          have hg2 : g ≤ 431644213247 := by
            have : (k : Int) * 2147483647 ≤ 200 * 2147483647 := Int.mul_le_mul_of_nonneg_right (by omega) (by omega)
            omega
          by_cases hq1 : kk = 1
          · subst hq1
            have HC := Lib.hid (grow_w w1.heap.size (g - p) aa cc _ HO.out.win)
            rcases step_grow (g - p) aa cc with ⟨q1, q2, q3, q4⟩ | ⟨q1, q2⟩
            · have Q : Hid (stepF (g - p) 1 aa cc = (g + aa - p, 0)) := Prod.ext (by rw [q2]; omega) q1
              clear q1 q2
              rw [Q.out] at HC
              go_wp2_with fail
              refine HC.out.mono ?_
              intro e wx hpost
              have HP2 : Hid (PlayRel w w1.heap.size (g + aa - p) 3 len (some ⟨bb, oo, none⟩) R wx) := HO.out.post hA hpost
              have hBx := HB.out.only hpost.2.2 (by omega)
              obtain ⟨rfl, hwx, hox⟩ := hpost
              have d0 := hBx.cell 0
              have d1 := hBx.cell 1
              have dw := hwx.cell
              simp at d0 d1
              clear hBx hwx hox
              go_wp2_with fail
              refine (wsize_any (g + aa - p) _).mono ?_
              rintro e wy ⟨rfl, hfy⟩
              clear d0 d1 dw
              go_wp2_with fail
              go_roundw
              case rel => exact ⟨k + 1, p, g + aa, by omega, by go_num, rfl, rfl, hp0, by omega, by omega, HP2.out.fresh hfy⟩
              case measure => simp [intOf]; omega
            · have HP1 : Hid (stepF (g - p) 1 aa cc = (g - p, (stepF (g - p) 1 aa cc).2)) := Prod.ext q2 rfl
              have q1' : ((stepF (g - p) 1 aa cc).2 == 0) = false := by simpa using q1
              rw [HP1.out] at HC
              generalize (stepF (g - p) 1 aa cc).2 = er at *
              clear HP1 q1 q2
              go_wp2_with fail
              refine HC.out.mono ?_
              intro e wx hpost
              have HP2 : Hid (PlayRel w w1.heap.size (g - p) 3 len (some ⟨bb, oo, none⟩) R wx) := HO.out.post hA hpost
              have hBx := HB.out.only hpost.2.2 (by omega)
              obtain ⟨rfl, hwx, hox⟩ := hpost
              have d0 := hBx.cell 0
              have d1 := hBx.cell 1
              have dw := hwx.cell
              simp at d0 d1
              clear hBx hwx hox
              go_wp2_with fail
              refine (wsize_any (g - p) _).mono ?_
              rintro e wy ⟨rfl, hfy⟩
              clear d0 d1 dw
              go_wp2_with fail
              go_roundw
              case rel => exact ⟨k + 1, p, g, by omega, by go_num, rfl, rfl, hp0, by omega, by omega, HP2.out.fresh hfy⟩
              case measure => simp [intOf]; omega
          · have hq1' : (kk == 1) = false := by simpa using hq1
            by_cases hq2 : kk = 2
            · subst hq2
              have HC := Lib.hid (spend_w w1.heap.size (g - p) aa cc _ HO.out.win)
              rcases step_spend (g - p) aa cc (by omega) with ⟨q1, q2, q3, q4⟩ | ⟨q1, q2⟩
              · have Q : Hid (stepF (g - p) 2 aa cc = (g - (p + aa), 0)) := Prod.ext (by rw [q2]; omega) q1
                clear q1 q2
                rw [Q.out] at HC
                go_wp2_with fail
                refine HC.out.mono ?_
                intro e wx hpost
                have HP2 : Hid (PlayRel w w1.heap.size (g - (p + aa)) 3 len (some ⟨bb, oo, none⟩) R wx) := HO.out.post hA hpost
                have hBx := HB.out.only hpost.2.2 (by omega)
                obtain ⟨rfl, hwx, hox⟩ := hpost
                have d0 := hBx.cell 0
                have d1 := hBx.cell 1
                have dw := hwx.cell
                simp at d0 d1
                clear hBx hwx hox
                go_wp2_with fail
                refine (wsize_any (g - (p + aa)) _).mono ?_
                rintro e wy ⟨rfl, hfy⟩
                clear d0 d1 dw
                go_wp2_with fail
                go_roundw
                case rel => exact ⟨k + 1, p + aa, g, by omega, by go_num, rfl, rfl, by omega, by omega, by omega, HP2.out.fresh hfy⟩
                case measure => simp [intOf]; omega
              · have HP1 : Hid (stepF (g - p) 2 aa cc = (g - p, (stepF (g - p) 2 aa cc).2)) := Prod.ext q2 rfl
                have q1' : ((stepF (g - p) 2 aa cc).2 == 0) = false := by simpa using q1
                rw [HP1.out] at HC
                generalize (stepF (g - p) 2 aa cc).2 = er at *
                clear HP1 q1 q2
                go_wp2_with fail
                refine HC.out.mono ?_
                intro e wx hpost
                have HP2 : Hid (PlayRel w w1.heap.size (g - p) 3 len (some ⟨bb, oo, none⟩) R wx) := HO.out.post hA hpost
                have hBx := HB.out.only hpost.2.2 (by omega)
                obtain ⟨rfl, hwx, hox⟩ := hpost
                have d0 := hBx.cell 0
                have d1 := hBx.cell 1
                have dw := hwx.cell
                simp at d0 d1
                clear hBx hwx hox
                go_wp2_with fail
                refine (wsize_any (g - p) _).mono ?_
                rintro e wy ⟨rfl, hfy⟩
                clear d0 d1 dw
                go_wp2_with fail
                go_roundw
                case rel => exact ⟨k + 1, p, g, by omega, by go_num, rfl, rfl, hp0, by omega, by omega, HP2.out.fresh hfy⟩
                case measure => simp [intOf]; omega
            · have hq2' : (kk == 2) = false := by simpa using hq2
              clear hq1 hq2
              have dw := HO.out.win.cell
              go_wp2_with fail
              refine (wsize_any (g - p) _).mono ?_
              rintro e wy ⟨rfl, hfy⟩
              clear dw
              go_wp2_with fail
              go_roundw
              case rel => exact ⟨k + 1, p, g, by omega, by go_num, rfl, rfl, hp0, by omega, by omega, HO.out.fresh hfy⟩
              case measure => simp [intOf]; omega
        · have HR := Lib.hid hR
          have hke : k = len := by omega
          clear hR hke
          go_wp2_with fail
          refine (awake_true _).mono ?_
          rintro e wz ⟨rfl, hfz⟩
          go_wp2_with fail
          go_ret
          exact ⟨rfl, (HR.out.fresh hfz).below⟩
    · have hl' : (200 : Int) < (len : Int) := by omega
      go_enter Try.func5, Try.ntmps5
      go_wp2_with fail
      refine (wnew_yes n _ h0 h1).mono ?_
      rintro e w1 ⟨rfl, hf1⟩
      go_wp2_with fail
      refine (awake_true _).mono ?_
      rintro e wz ⟨rfl, hfz⟩
      go_wp2_with fail
      go_ret
      exact ⟨rfl, (hf1.trans (Fresh.alloc _ _)).trans hfz⟩
  · have HN := Lib.hid (fun w => wnew_no n w hn)
    clear hn
    go_enter Try.func5, Try.ntmps5
    go_wp2_with fail
    refine (HN.out _).mono ?_
    rintro e w1 ⟨rfl, hf1⟩
    go_wp2_with fail
    refine (awake_true _).mono ?_
    rintro e wz ⟨rfl, hfz⟩
    go_wp2_with fail
    go_ret
    exact ⟨rfl, (hf1.trans (Fresh.alloc _ _)).trans hfz⟩
end Go.Proofs.Ytdcifbkdibnoaaa
