/-
  The laws WindowCan, WindowPlays, WindowNever: their walks.
-/
import Derived.Test.YtdcifbkdibnoaaaWindowV
namespace Go.Proofs.Ytdcifbkdibnoaaa
set_option linter.unusedVariables false
open Go.RowKit

theorem IntRows.below {w w' : World} {m n : Nat} {A : Option Addr} {R : Nat → Nat → Int} (h : IntRows w m A n R) (hf : Below w.heap.size w w') : IntRows w' m A n R := IntRows.fresh h hf

/-- The loop's state: the window's block b, its size s. -/
structure PlayRel (w : World) (b : Nat) (s : Int) (m n : Nat) (A : Option Addr) (R : Nat → Nat → Int) (wr : World) : Prop where
  win : WIs wr b s
  rows : IntRows wr m A n R
  below : Below w.heap.size w wr
  hb : w.heap.size ≤ b

theorem PlayRel.fresh {w : World} {b : Nat} {s : Int} {m n : Nat} {A : Option Addr} {R : Nat → Nat → Int} {wr wx : World} (h : PlayRel w b s m n A R wr) (hf : Fresh wr wx) : PlayRel w b s m n A R wx :=
  ⟨h.win.fresh hf, h.rows.fresh hf, h.below.trans (Below.mono hf (Below.size h.below)), h.hb⟩
theorem PlayRel.post {w : World} {b : Nat} {s : Int} {m n : Nat} {A : Option Addr} {R : Nat → Nat → Int} {wr wx : World} {r : Int × Int} {e : Ending} (h : PlayRel w b s m n A R wr) (hw : IntRows w m A n R) (hp : WPost b wr r e wx) : PlayRel w b r.1 m n A R wx := by
  have hbl : Below w.heap.size w wx := h.below.trans (hp.2.2.below (Below.size h.below) (fun k hk => by rw [hk]; exact h.hb))
  exact ⟨hp.2.1, hw.below hbl, hbl, h.hb⟩

set_option maxHeartbeats 1600000 in
theorem WindowPlays_any (n : Int) (A : Option Addr) (len cap : Nat) (R : Nat → Nat → Int) (w : World) (_ : (Lit.int .i64 n).wf = true) (hlen : len ≤ maxLen) (hA : IntRows w 3 A len R) :
    Calls Try.prog 3 #[.int .i64 n, .slice A len cap] w fun e w' => e = .returned (.bool true) ∧ Below w.heap.size w w' := by
  unfold maxLen at hlen
  by_cases hl : len ≤ 200
  · by_cases hn : 0 ≤ n ∧ n ≤ 2147483647
    · obtain ⟨h0, h1⟩ := hn
      go_enter Try.func3, Try.ntmps3
      go_wp2_with fail
      refine (wnew_yes n _ h0 h1).mono ?_
      rintro e w1 ⟨rfl, hf1⟩
      go_wp2_with fail
      have hW := new_win hf1 n (by omega) h1
      refine (wsize_any n _).mono ?_
      rintro e w2 ⟨rfl, hf2⟩
      have hP : PlayRel w w1.heap.size n 3 len A R w2 := ⟨hW.fresh hf2, hA.fresh (hf1.trans ((Fresh.alloc _ _).trans hf2)), hf1.trans ((Fresh.alloc _ _).trans hf2), hf1.size⟩
      have HP := Lib.hid hP
      clear hP hW hf2
      generalize w1.heap.size = b at *
      go_wp2_with fail
      go_loopw [0, 46] (fun m i wr => ∃ (k : Nat) (s : Int), k ≤ len ∧ i = .int .i64 k ∧ m = .int .i64 s ∧ PlayRel w b s 3 len A R wr) (fun _ i _ => len - (intOf i).toNat)
      case atStart => exact ⟨0, n, by omega, rfl, rfl, HP.out⟩
      case round =>
        obtain ⟨k, s, hk, rfl, rfl, hR⟩ := hrel
        by_cases hlt : k < len
        · obtain ⟨bb, oo, rfl, hbb, hcells⟩ := hR.rows.1 (by omega)
          have c0 := hcells k 0 hlt (by omega)
          have c1 := hcells k 1 hlt (by omega)
          have c2 := hcells k 2 hlt (by omega)
          simp only [Nat.add_zero] at c0
          have bs0 := hR.win.2.1
          have bs1 := hR.win.2.2
          clear hcells
          generalize hk0 : R k 0 = kk at *
          generalize hk1 : R k 1 = aa at *
          generalize hk2 : R k 2 = cc at *
          clear hk0 hk1 hk2
          have HR := Lib.hid hR
          clear hR
          have HO : Hid (PlayRel w b s 3 len (some ⟨bb, oo, none⟩) R (wr.alloc (.cells #[.int .i64 kk, .int .i64 aa, .int .i64 cc] 31))) := HR.out.fresh (Fresh.alloc _ _)
          have HB : Hid (Blk (wr.alloc (.cells #[.int .i64 kk, .int .i64 aa, .int .i64 cc] 31)) wr.heap.size 31 #[.int .i64 kk, .int .i64 aa, .int .i64 cc]) := Blk.new _ _ _
          have hbw : b < wr.heap.size := HR.out.win.1.lt
          by_cases hq1 : kk = 1
          · subst hq1
            have HC := Lib.hid (grow_w b s aa cc _ HO.out.win)
            have HREF := Lib.hid (fun w => ref_step s 1 aa cc w bs0 bs1)
            have HBD := stepF_bd s 1 aa cc bs0 bs1
            generalize stepF s 1 aa cc = r at *
            obtain ⟨r1, r2⟩ := r
            obtain ⟨hr0, hr1⟩ := HBD
            simp only at hr0 hr1
            go_wp2_with fail
            refine HC.out.mono ?_
            intro e wx hpost
            have HP2 : Hid (PlayRel w b r1 3 len (some ⟨bb, oo, none⟩) R wx) := HO.out.post hA hpost
            have hBx := HB.out.only hpost.2.2 (by omega)
            obtain ⟨rfl, hwx, hox⟩ := hpost
            have d0 := hBx.cell 0
            have d1 := hBx.cell 1
            have d2 := hBx.cell 2
            have dw := hwx.cell
            simp at d0 d1 d2
            clear hBx hwx hox
            go_wp2_with fail
            refine (HREF.out _).mono ?_
            rintro e wy ⟨rfl, rfl⟩
            go_wp2_with fail
            refine (wsize_any r1 _).mono ?_
            rintro e wy ⟨rfl, hfy⟩
            clear d0 d1 d2 dw
            go_wp2_with fail
            go_roundw
            case rel => exact ⟨k + 1, r1, by omega, by go_num, rfl, HP2.out.fresh hfy⟩
            case measure => simp [intOf]; omega
          · have hq1' : (kk == 1) = false := by simpa using hq1
            by_cases hq2 : kk = 2
            · subst hq2
              have HC := Lib.hid (spend_w b s aa cc _ HO.out.win)
              have HREF := Lib.hid (fun w => ref_step s 2 aa cc w bs0 bs1)
              have HBD := stepF_bd s 2 aa cc bs0 bs1
              generalize stepF s 2 aa cc = r at *
              obtain ⟨r1, r2⟩ := r
              obtain ⟨hr0, hr1⟩ := HBD
              simp only at hr0 hr1
              go_wp2_with fail
              refine HC.out.mono ?_
              intro e wx hpost
              have HP2 : Hid (PlayRel w b r1 3 len (some ⟨bb, oo, none⟩) R wx) := HO.out.post hA hpost
              have hBx := HB.out.only hpost.2.2 (by omega)
              obtain ⟨rfl, hwx, hox⟩ := hpost
              have d0 := hBx.cell 0
              have d1 := hBx.cell 1
              have d2 := hBx.cell 2
              have dw := hwx.cell
              simp at d0 d1 d2
              clear hBx hwx hox
              go_wp2_with fail
              refine (HREF.out _).mono ?_
              rintro e wy ⟨rfl, rfl⟩
              go_wp2_with fail
              refine (wsize_any r1 _).mono ?_
              rintro e wy ⟨rfl, hfy⟩
              clear d0 d1 d2 dw
              go_wp2_with fail
              go_roundw
              case rel => exact ⟨k + 1, r1, by omega, by go_num, rfl, HP2.out.fresh hfy⟩
              case measure => simp [intOf]; omega
            · have hq2' : (kk == 2) = false := by simpa using hq2
              by_cases hq3 : kk = 3
              · subst hq3
                have HC := Lib.hid (shift_w b s aa cc _ HO.out.win)
                have HREF := Lib.hid (fun w => ref_step s 3 aa cc w bs0 bs1)
                have HBD := stepF_bd s 3 aa cc bs0 bs1
                generalize stepF s 3 aa cc = r at *
                obtain ⟨r1, r2⟩ := r
                obtain ⟨hr0, hr1⟩ := HBD
                simp only at hr0 hr1
                go_wp2_with fail
                refine HC.out.mono ?_
                intro e wx hpost
                have HP2 : Hid (PlayRel w b r1 3 len (some ⟨bb, oo, none⟩) R wx) := HO.out.post hA hpost
                have hBx := HB.out.only hpost.2.2 (by omega)
                obtain ⟨rfl, hwx, hox⟩ := hpost
                have d0 := hBx.cell 0
                have d1 := hBx.cell 1
                have d2 := hBx.cell 2
                have dw := hwx.cell
                simp at d0 d1 d2
                clear hBx hwx hox
                go_wp2_with fail
                refine (HREF.out _).mono ?_
                rintro e wy ⟨rfl, rfl⟩
                go_wp2_with fail
                refine (wsize_any r1 _).mono ?_
                rintro e wy ⟨rfl, hfy⟩
                clear d0 d1 d2 dw
                go_wp2_with fail
                go_roundw
                case rel => exact ⟨k + 1, r1, by omega, by go_num, rfl, HP2.out.fresh hfy⟩
                case measure => simp [intOf]; omega
              · have hq3' : (kk == 3) = false := by simpa using hq3
                clear hq1 hq2 hq3
                go_wp2_with fail
                go_roundw
                case rel => exact ⟨k + 1, s, by omega, by go_num, rfl, HO.out⟩
                case measure => simp [intOf]; omega
        · obtain rfl : k = len := by omega
          have HR := Lib.hid hR
          clear hR
          go_wp2_with fail
          refine (awake_true _).mono ?_
          rintro e wz ⟨rfl, hfz⟩
          go_wp2_with fail
          go_ret
          exact ⟨rfl, (HR.out.fresh hfz).below⟩
    · have HN := Lib.hid (fun w => wnew_no n w hn)
      by_cases c1 : n < 0
      · clear hn
        go_enter Try.func3, Try.ntmps3
        go_wp2_with fail
        refine (HN.out _).mono ?_
        rintro e w1 ⟨rfl, hf1⟩
        go_wp2_with fail
        refine (wsize_any 0 _).mono ?_
        rintro e w2 ⟨rfl, hf2⟩
        go_wp2_with fail
        refine (awake_true _).mono ?_
        rintro e wz ⟨rfl, hfz⟩
        go_wp2_with fail
        go_ret
        exact ⟨rfl, (hf1.trans ((Fresh.alloc _ _).trans hf2)).trans hfz⟩
      · have c2 : 2147483647 < n := by omega
        clear hn
        go_enter Try.func3, Try.ntmps3
        go_wp2_with fail
        refine (HN.out _).mono ?_
        rintro e w1 ⟨rfl, hf1⟩
        go_wp2_with fail
        refine (wsize_any 0 _).mono ?_
        rintro e w2 ⟨rfl, hf2⟩
        go_wp2_with fail
        refine (awake_true _).mono ?_
        rintro e wz ⟨rfl, hfz⟩
        go_wp2_with fail
        go_ret
        exact ⟨rfl, (hf1.trans ((Fresh.alloc _ _).trans hf2)).trans hfz⟩
  · have hl' : (200 : Int) < (len : Int) := by omega
    go_enter Try.func3, Try.ntmps3
    go_wp2_with fail
    refine (awake_true _).mono ?_
    rintro e wz ⟨rfl, hfz⟩
    go_wp2_with fail
    go_ret
    exact ⟨rfl, hfz⟩
end Go.Proofs.Ytdcifbkdibnoaaa
