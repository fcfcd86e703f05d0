/-
  The law StateSteps: its walk.
-/
import Derived.Test.YtdmcinndpkcjjaaDoorStateA
namespace Go.Proofs.YtdmcinndpkcjjaaDoor
set_option linter.unusedVariables false
open Go.RowKit Go.ChangeShapes Go.WideShapes Go.Deep
theorem steps_send : ∀ s : Fin 5, ∀ e : Fin 4, (refW (atX s.val) e.val = 0 ∧ sendE s.val e.val = 0 ∧ sendS s.val e.val = (refX (atX s.val) e.val).N ∧ mayB s.val e.val = true) ∨ (refW (atX s.val) e.val = 1 ∧ sendE s.val e.val = 25 ∧ sendS s.val e.val = 0 ∧ mayB s.val e.val = false) := by decide
theorem steps_get : ∀ s : Fin 5, ∀ e : Fin 9, 4 ≤ e.val → (refW (atX s.val) e.val = 0 ∧ getS s.val e.val = (refX (atX s.val) e.val).N ∧ getC s.val e.val = 0 ∧ getB s.val e.val = false ∧ mayB s.val e.val = true) ∨
    (refW (atX s.val) e.val = 2 ∧ getS s.val e.val = s.val ∧ getC s.val e.val = 101 ∧ getB s.val e.val = true ∧ mayB s.val e.val = false) ∨ (refW (atX s.val) e.val = 3 ∧ getS s.val e.val = 4 ∧ getC s.val e.val = 105 ∧ getB s.val e.val = false ∧ mayB s.val e.val = false) := by decide
theorem send_out {s e : Int} (h : ¬ (0 ≤ s ∧ s ≤ 4 ∧ 0 ≤ e ∧ e ≤ 3)) : sendS s e = 0 ∧ sendE s e = 11 := ⟨if_neg h, if_neg h⟩
theorem get_out {s e : Int} (h : ¬ (0 ≤ s ∧ s ≤ 4 ∧ 4 ≤ e ∧ e ≤ 8)) : getS s e = 4 ∧ getC s e = 102 ∧ getB s e = true := ⟨if_neg h, if_neg h, by unfold getB; rw [decide_eq_true h, Bool.true_or]⟩
theorem may_out {s e : Int} (h : s < 0 ∨ 4 < s ∨ e < 0 ∨ 8 < e) : mayB s e = false := by
  unfold mayB
  split
  · rw [(send_out (s := s) (e := e) (by omega)).2]; rfl
  · rw [(get_out (s := s) (e := e) (by omega)).2.1]; rfl

theorem ref_numV (x : RS) (w : World) (hx : x ∈ rsL) : Calls Tryd.prog 13 #[.agg #[.int .i64 x.b, .int .i64 x.w, .int .i64 x.t, .int .i64 x.r]] w fun en w' => en = .returned (.int .i64 x.N) ∧ Fresh w w' := ref_num x w hx
set_option maxRecDepth 100000 in
set_option maxHeartbeats 12800000 in
theorem StateSteps_any (s e : Int) (w : World) (hs : (Lit.int .i64 s).wf = true) (he : (Lit.int .i64 e).wf = true) (hT : Tbl w) :
    Calls Tryd.prog 3 #[.int .i64 s, .int .i64 e] w fun en w' => en = .returned (.bool true) ∧ Below w.heap.size w w' := by
  have hTT := Lib.hid hT
  clear hT hs he
  by_cases hin : 0 ≤ s ∧ s ≤ 4 ∧ 0 ≤ e ∧ e ≤ 8
  · obtain ⟨s0, s4, e0, e8⟩ := hin
    obtain ⟨x, hx⟩ : ∃ x, x = atX s := ⟨_, rfl⟩
    have hrs : x ∈ rsL := by
      have := (at_rs ⟨s.toNat, by omega⟩).1
      rw [hx]
      rwa [show ((s.toNat : Nat) : Int) = s by omega] at this
    have HX := Lib.hid hx
    have HRS := Lib.hid hrs
    by_cases h3 : e ≤ 3
    · have key := steps_send ⟨s.toNat, by omega⟩ ⟨e.toNat, by omega⟩
      simp only [show ((s.toNat : Nat) : Int) = s by omega, show ((e.toNat : Nat) : Int) = e by omega] at key
      rw [← hx] at key
      obtain ⟨g1, g2, g3⟩ := get_out (s := s) (e := e) (by omega)
      have G1 := Lib.hid g1
      have G2 := Lib.hid g2
      have G3 := Lib.hid g3
      have hRX := Lib.hid (show refX x e ∈ rsL by
        have := rs_closed x hrs ⟨e.toNat, by omega⟩
        rwa [show ((e.toNat : Nat) : Int) = e by omega] at this)
      have h4 : e < 4 := by omega
      have h3' : ¬ 3 < e := by omega
      clear g1 g2 g3 hx hrs
      rcases key with ⟨k1, k2, k3, k4⟩ | ⟨k1, k2, k3, k4⟩
      all_goals
        have K1 := Lib.hid k1
        have K2 := Lib.hid k2
        have K3 := Lib.hid k3
        have K4 := Lib.hid k4
        clear k1 k2 k3 k4
        generalize hn : (refX x e).N = n at *
        have HN := Lib.hid hn
        clear hn
        go_enter Tryd.func3, Tryd.ntmps3
        go_wp2_with fail
        with_reducible refine (ssendV s e _ _ _ hTT.out K3.out K2.out).mono ?_
        rintro en w1 ⟨rfl, rfl⟩
        go_wp2_with fail
        with_reducible refine (sgetV s e _ _ _ _ hTT.out G1.out G2.out G3.out).mono ?_
        rintro en w1 ⟨rfl, hf1⟩
        have HF1 := Lib.hid (hf1.allocS (.cells #[.int .i64 102, .bool true] 28))
        have HT1 := Lib.hid (hTT.out.fresh HF1.out)
        clear hf1
        go_wp2_with fail
        with_reducible refine (ref_at s _ s0 s4).mono ?_
        rintro en w2 ⟨rfl, hf2⟩
        have HF2 := Lib.hid (HF1.out.trans hf2)
        clear hf2
        rw [← HX.out]
        go_wp2_with fail
        with_reducible refine (ref_do x e _ HRS.out e0 e8).mono ?_
        rintro en w3 ⟨rfl, hf3⟩
        rw [K1.out]
        have HF3 := Lib.hid (HF2.out.trans hf3)
        clear hf3
        simp only [RS.v]
        go_wp2_with fail
        with_reducible refine (ref_numV (refX x e) _ hRX.out).mono ?_
        rintro en w4 ⟨rfl, hf4⟩
        rw [HN.out]
        have HF4 := Lib.hid ((HF3.out.allocS _).trans hf4)
        clear hf4
        go_wp2_with fail
        with_reducible refine (smayV s e _ _ (hTT.out.fresh HF4.out) K4.out).mono ?_
        rintro en w5 ⟨rfl, hf5⟩
        have HF5 := Lib.hid (HF4.out.trans hf5)
        clear hf5
        go_wp2_with (go_at_call 14; go_in)
        with_reducible refine (state_awake _ (hTT.out.fresh HF5.out)).mono ?_
        rintro en w6 ⟨rfl, hf6⟩
        have HF6 := Lib.hid (HF5.out.trans hf6)
        clear hf6
        go_wp2
        go_ret
        exact ⟨rfl, HF6.out⟩
    · have key := steps_get ⟨s.toNat, by omega⟩ ⟨e.toNat, by omega⟩ (by show 4 ≤ e.toNat; omega)
      simp only [show ((s.toNat : Nat) : Int) = s by omega, show ((e.toNat : Nat) : Int) = e by omega] at key
      rw [← hx] at key
      obtain ⟨g1, g2⟩ := send_out (s := s) (e := e) (by omega)
      have G1 := Lib.hid g1
      have G2 := Lib.hid g2
      have hRX := Lib.hid (show refX x e ∈ rsL by
        have := rs_closed x hrs ⟨e.toNat, by omega⟩
        rwa [show ((e.toNat : Nat) : Int) = e by omega] at this)
      have h4 : ¬ e < 4 := by omega
      have h3' : 3 < e := by omega
      have h3'' : decide (e ≤ 3) = false := decide_eq_false (by omega)
      clear g1 g2 hx hrs
      rcases key with ⟨k1, k3, k2, k5, k4⟩ | ⟨k1, k3, k2, k5, k4⟩ | ⟨k1, k3, k2, k5, k4⟩
      all_goals
        have K1 := Lib.hid k1
        have K2 := Lib.hid k2
        have K3 := Lib.hid k3
        have K4 := Lib.hid k4
        have K5 := Lib.hid k5
        clear k1 k2 k3 k4 k5
        generalize hn : (refX x e).N = n at *
        have HN := Lib.hid hn
        clear hn
        go_enter Tryd.func3, Tryd.ntmps3
        go_wp2_with fail
        with_reducible refine (ssendV s e _ _ _ hTT.out G1.out G2.out).mono ?_
        rintro en w1 ⟨rfl, rfl⟩
        go_wp2_with fail
        with_reducible refine (sgetV s e _ _ _ _ hTT.out K3.out K2.out K5.out).mono ?_
        rintro en w1 ⟨rfl, hf1⟩
        have HF1 := Lib.hid (hf1)
        have HT1 := Lib.hid (hTT.out.fresh HF1.out)
        clear hf1
        go_wp2_with fail
        with_reducible refine (ref_at s _ s0 s4).mono ?_
        rintro en w2 ⟨rfl, hf2⟩
        have HF2 := Lib.hid ((HF1.out.allocS _).trans hf2)
        have HG2 := Lib.hid hf2
        clear hf2
        rw [← HX.out]
        go_wp2_with fail
        with_reducible refine (ref_do x e _ HRS.out e0 e8).mono ?_
        rintro en w3 ⟨rfl, hf3⟩
        rw [K1.out]
        have HF3 := Lib.hid (HF2.out.trans hf3)
        have HG3 := Lib.hid (HG2.out.trans hf3)
        clear hf3
        simp only [RS.v]
        go_wp2_with fail
        with_reducible refine (ref_numV (refX x e) _ hRX.out).mono ?_
        rintro en w4 ⟨rfl, hf4⟩
        rw [HN.out]
        have HF4 := Lib.hid ((HF3.out.allocS _).trans hf4)
        have HG4 := Lib.hid ((HG3.out.allocS _).trans hf4)
        clear hf4
        go_wp2_with fail
        with_reducible refine (smayV s e _ _ (hTT.out.fresh HF4.out) K4.out).mono ?_
        rintro en w5 ⟨rfl, hf5⟩
        have HF5 := Lib.hid (HF4.out.trans hf5)
        obtain ⟨r0, r1⟩ := ((Blk.new w1 28 _).fresh (HG4.out.trans hf5)).c2
        clear hf5
        go_wp2_with (first | (go_at_call 14; go_in) | (go_at_call 15; go_in))
        with_reducible refine (state_awake _ (by first | exact hTT.out.fresh HF5.out | exact hTT.out.fresh (HF5.out.allocS _))).mono ?_
        rintro en w6 ⟨rfl, hf6⟩
        have HF6 : Hid (Fresh w w6) := Lib.hid (by first | exact HF5.out.trans hf6 | exact (HF5.out.allocS _).trans hf6)
        clear hf6
        go_wp2
        go_ret
        exact ⟨rfl, HF6.out⟩
  · have hm := may_out (s := s) (e := e) (by omega)
    obtain ⟨g1, g2⟩ := send_out (s := s) (e := e) (by omega)
    obtain ⟨g3, g4, g5⟩ := get_out (s := s) (e := e) (by omega)
    have HM := Lib.hid hm
    have G1 := Lib.hid g1
    have G2 := Lib.hid g2
    have G3 := Lib.hid g3
    have G4 := Lib.hid g4
    have G5 := Lib.hid g5
    have key : s < 0 ∨ (0 ≤ s ∧ 4 < s ∧ decide (s ≤ 4) = false) ∨ (0 ≤ s ∧ s ≤ 4 ∧ e < 0) ∨ (0 ≤ s ∧ s ≤ 4 ∧ 0 ≤ e ∧ 3 < e ∧ ¬ e < 4 ∧ 8 < e) := by
      by_cases h8 : s ≤ 4
      · omega
      · have := decide_eq_false h8
        by_cases a : s < 0
        · exact .inl a
        · exact .inr (.inl ⟨by omega, by omega, this⟩)
    clear hm g1 g2 g3 g4 g5 hin
    rcases key with h | ⟨h, h', h''⟩ | ⟨h, h', h''⟩ | ⟨h, h', h'', h3, h4, h5⟩
    all_goals
      go_enter Tryd.func3, Tryd.ntmps3
      go_wp2_with fail
      with_reducible refine (ssendV s e _ _ _ hTT.out G1.out G2.out).mono ?_
      rintro en w1 ⟨rfl, rfl⟩
      go_wp2_with fail
      with_reducible refine (sgetV s e _ _ _ _ hTT.out G3.out G4.out G5.out).mono ?_
      rintro en w1 ⟨rfl, hf1⟩
      have HF1 := Lib.hid (hf1.allocS (.cells #[.int .i64 102, .bool true] 28))
      have HT1 := Lib.hid (hTT.out.fresh HF1.out)
      clear hf1
      go_wp2_with fail
      with_reducible refine (smayV s e _ _ HT1.out HM.out).mono ?_
      rintro en w2 ⟨rfl, hf2⟩
      have HF2 := Lib.hid (HF1.out.trans hf2)
      clear hf2
      go_wp2_with fail
      with_reducible refine (state_awake _ (hTT.out.fresh HF2.out)).mono ?_
      rintro en w3 ⟨rfl, hf3⟩
      have HF3 := Lib.hid (HF2.out.trans hf3)
      clear hf3
      go_wp2
      go_ret
      exact ⟨rfl, HF3.out⟩
end Go.Proofs.YtdmcinndpkcjjaaDoor
