/-
  The laws FrameFlags and FrameSame: their walks.
-/
import Derived.Test.YtplpaobbgfdinaaFrameL
namespace Go.Proofs.Ytplpaobbgfdinaa
set_option linter.unusedVariables false
open Go.RowKit

/-- One of the first k bits. -/
def oneK (k : Nat) (z : Int) : Bool := decide (∃ j, j < k ∧ z = ((2 ^ j : Nat) : Int))
theorem oneK_succ (k : Nat) (z : Int) : oneK (k + 1) z = (oneK k z || z == ((2 ^ k : Nat) : Int)) := by
  unfold oneK
  rw [Bool.eq_iff_iff]
  simp only [decide_eq_true_eq, Bool.or_eq_true, beq_iff_eq]
  constructor
  · rintro ⟨j, hj, rfl⟩
    by_cases h : j < k
    · exact .inl ⟨j, h, rfl⟩
    · exact .inr (by rw [show j = k by omega])
  · rintro (⟨j, hj, rfl⟩ | rfl)
    · exact ⟨j, by omega, rfl⟩
    · exact ⟨k, by omega, rfl⟩
theorem oneK_zero (z : Int) : oneK 0 z = false := by simp [oneK]
theorem oneK_8 (z : Int) : oneK 8 z = oneP z := by
  simp only [oneK_succ, oneK_zero, oneP]
  rw [Bool.eq_iff_iff]
  simp
  omega

set_option maxRecDepth 100000 in
set_option maxHeartbeats 3200000 in
theorem FrameFlags_any (f : FrV) (flag : Int) (w : World) (hf : f.Ok w) (_ : (Lit.int .i64 flag).wf = true) :
    Calls Try.prog 6 #[.agg #[.int .i64 f.ty, .int .i64 f.fl, .int .i64 f.st, .slice f.A f.l.length f.c], .int .i64 flag] w fun e w' => e = .returned (.bool true) ∧ Below w.heap.size w w' := by
  obtain ⟨ty, fl, st, A, c, l⟩ := f
  simp only []
  clear hf
  have HW := Lib.hid awake_true
  have HH := Lib.hid (fun W => fhas ty fl st A l.length c flag W)
  have HB := Lib.hid (Blk.new w 24 #[.int .i64 ty, .int .i64 fl, .int .i64 st, .slice A l.length c])
  go_enter Try.func6, Try.ntmps6
  go_wp2
  go_loop [5, 7] (fun one i => ∃ (k : Nat), k ≤ 8 ∧ i = .int .i64 k ∧ one = .bool (oneK k flag)) (fun _ i => 8 - (intOf i).toNat)
  case atStart => exact ⟨0, by omega, rfl, by rw [oneK_zero]⟩
  case round =>
    obtain ⟨k, hk, rfl, rfl⟩ := hrel
    by_cases hlt : k < 8
    · have HS := Lib.hid (oneK_succ k flag)
      have hc : k = 0 ∨ k = 1 ∨ k = 2 ∨ k = 3 ∨ k = 4 ∨ k = 5 ∨ k = 6 ∨ k = 7 := by omega
      rcases hc with rfl | rfl | rfl | rfl | rfl | rfl | rfl | rfl
      · cases hb : oneK 0 flag with
        | true =>
          have HBB := Lib.hid hb
          go_wp2
          go_round
          case rel => exact ⟨1, by omega, rfl, by rw [HS.out, HBB.out]; rfl⟩
          case measure => simp [intOf]
        | false =>
          have HBB := Lib.hid hb
          by_cases hq : flag = 1
          · have HQ : Hid ((flag == ((2 ^ 0 : Nat) : Int)) = true) := beq_iff_eq.2 hq
            have hqb : (flag == 1) = true := beq_iff_eq.2 hq
            clear hq
            go_wp2
            go_round
            case rel => exact ⟨1, by omega, rfl, by rw [HS.out, HBB.out, HQ.out]; rfl⟩
            case measure => simp [intOf]
          · have HQ : Hid ((flag == ((2 ^ 0 : Nat) : Int)) = false) := beq_eq_false_iff_ne.2 hq
            have hqb : (flag == 1) = false := beq_eq_false_iff_ne.2 hq
            clear hq
            go_wp2
            go_round
            case rel => exact ⟨1, by omega, rfl, by rw [HS.out, HBB.out, HQ.out]; rfl⟩
            case measure => simp [intOf]
      · cases hb : oneK 1 flag with
        | true =>
          have HBB := Lib.hid hb
          go_wp2
          go_round
          case rel => exact ⟨2, by omega, rfl, by rw [HS.out, HBB.out]; rfl⟩
          case measure => simp [intOf]
        | false =>
          have HBB := Lib.hid hb
          by_cases hq : flag = 2
          · have HQ : Hid ((flag == ((2 ^ 1 : Nat) : Int)) = true) := beq_iff_eq.2 hq
            have hqb : (flag == 2) = true := beq_iff_eq.2 hq
            clear hq
            go_wp2
            go_round
            case rel => exact ⟨2, by omega, rfl, by rw [HS.out, HBB.out, HQ.out]; rfl⟩
            case measure => simp [intOf]
          · have HQ : Hid ((flag == ((2 ^ 1 : Nat) : Int)) = false) := beq_eq_false_iff_ne.2 hq
            have hqb : (flag == 2) = false := beq_eq_false_iff_ne.2 hq
            clear hq
            go_wp2
            go_round
            case rel => exact ⟨2, by omega, rfl, by rw [HS.out, HBB.out, HQ.out]; rfl⟩
            case measure => simp [intOf]
      · cases hb : oneK 2 flag with
        | true =>
          have HBB := Lib.hid hb
          go_wp2
          go_round
          case rel => exact ⟨3, by omega, rfl, by rw [HS.out, HBB.out]; rfl⟩
          case measure => simp [intOf]
        | false =>
          have HBB := Lib.hid hb
          by_cases hq : flag = 4
          · have HQ : Hid ((flag == ((2 ^ 2 : Nat) : Int)) = true) := beq_iff_eq.2 hq
            have hqb : (flag == 4) = true := beq_iff_eq.2 hq
            clear hq
            go_wp2
            go_round
            case rel => exact ⟨3, by omega, rfl, by rw [HS.out, HBB.out, HQ.out]; rfl⟩
            case measure => simp [intOf]
          · have HQ : Hid ((flag == ((2 ^ 2 : Nat) : Int)) = false) := beq_eq_false_iff_ne.2 hq
            have hqb : (flag == 4) = false := beq_eq_false_iff_ne.2 hq
            clear hq
            go_wp2
            go_round
            case rel => exact ⟨3, by omega, rfl, by rw [HS.out, HBB.out, HQ.out]; rfl⟩
            case measure => simp [intOf]
      · cases hb : oneK 3 flag with
        | true =>
          have HBB := Lib.hid hb
          go_wp2
          go_round
          case rel => exact ⟨4, by omega, rfl, by rw [HS.out, HBB.out]; rfl⟩
          case measure => simp [intOf]
        | false =>
          have HBB := Lib.hid hb
          by_cases hq : flag = 8
          · have HQ : Hid ((flag == ((2 ^ 3 : Nat) : Int)) = true) := beq_iff_eq.2 hq
            have hqb : (flag == 8) = true := beq_iff_eq.2 hq
            clear hq
            go_wp2
            go_round
            case rel => exact ⟨4, by omega, rfl, by rw [HS.out, HBB.out, HQ.out]; rfl⟩
            case measure => simp [intOf]
          · have HQ : Hid ((flag == ((2 ^ 3 : Nat) : Int)) = false) := beq_eq_false_iff_ne.2 hq
            have hqb : (flag == 8) = false := beq_eq_false_iff_ne.2 hq
            clear hq
            go_wp2
            go_round
            case rel => exact ⟨4, by omega, rfl, by rw [HS.out, HBB.out, HQ.out]; rfl⟩
            case measure => simp [intOf]
      · cases hb : oneK 4 flag with
        | true =>
          have HBB := Lib.hid hb
          go_wp2
          go_round
          case rel => exact ⟨5, by omega, rfl, by rw [HS.out, HBB.out]; rfl⟩
          case measure => simp [intOf]
        | false =>
          have HBB := Lib.hid hb
          by_cases hq : flag = 16
          · have HQ : Hid ((flag == ((2 ^ 4 : Nat) : Int)) = true) := beq_iff_eq.2 hq
            have hqb : (flag == 16) = true := beq_iff_eq.2 hq
            clear hq
            go_wp2
            go_round
            case rel => exact ⟨5, by omega, rfl, by rw [HS.out, HBB.out, HQ.out]; rfl⟩
            case measure => simp [intOf]
          · have HQ : Hid ((flag == ((2 ^ 4 : Nat) : Int)) = false) := beq_eq_false_iff_ne.2 hq
            have hqb : (flag == 16) = false := beq_eq_false_iff_ne.2 hq
            clear hq
            go_wp2
            go_round
            case rel => exact ⟨5, by omega, rfl, by rw [HS.out, HBB.out, HQ.out]; rfl⟩
            case measure => simp [intOf]
      · cases hb : oneK 5 flag with
        | true =>
          have HBB := Lib.hid hb
          go_wp2
          go_round
          case rel => exact ⟨6, by omega, rfl, by rw [HS.out, HBB.out]; rfl⟩
          case measure => simp [intOf]
        | false =>
          have HBB := Lib.hid hb
          by_cases hq : flag = 32
          · have HQ : Hid ((flag == ((2 ^ 5 : Nat) : Int)) = true) := beq_iff_eq.2 hq
            have hqb : (flag == 32) = true := beq_iff_eq.2 hq
            clear hq
            go_wp2
            go_round
            case rel => exact ⟨6, by omega, rfl, by rw [HS.out, HBB.out, HQ.out]; rfl⟩
            case measure => simp [intOf]
          · have HQ : Hid ((flag == ((2 ^ 5 : Nat) : Int)) = false) := beq_eq_false_iff_ne.2 hq
            have hqb : (flag == 32) = false := beq_eq_false_iff_ne.2 hq
            clear hq
            go_wp2
            go_round
            case rel => exact ⟨6, by omega, rfl, by rw [HS.out, HBB.out, HQ.out]; rfl⟩
            case measure => simp [intOf]
      · cases hb : oneK 6 flag with
        | true =>
          have HBB := Lib.hid hb
          go_wp2
          go_round
          case rel => exact ⟨7, by omega, rfl, by rw [HS.out, HBB.out]; rfl⟩
          case measure => simp [intOf]
        | false =>
          have HBB := Lib.hid hb
          by_cases hq : flag = 64
          · have HQ : Hid ((flag == ((2 ^ 6 : Nat) : Int)) = true) := beq_iff_eq.2 hq
            have hqb : (flag == 64) = true := beq_iff_eq.2 hq
            clear hq
            go_wp2
            go_round
            case rel => exact ⟨7, by omega, rfl, by rw [HS.out, HBB.out, HQ.out]; rfl⟩
            case measure => simp [intOf]
          · have HQ : Hid ((flag == ((2 ^ 6 : Nat) : Int)) = false) := beq_eq_false_iff_ne.2 hq
            have hqb : (flag == 64) = false := beq_eq_false_iff_ne.2 hq
            clear hq
            go_wp2
            go_round
            case rel => exact ⟨7, by omega, rfl, by rw [HS.out, HBB.out, HQ.out]; rfl⟩
            case measure => simp [intOf]
      · cases hb : oneK 7 flag with
        | true =>
          have HBB := Lib.hid hb
          go_wp2
          go_round
          case rel => exact ⟨8, by omega, rfl, by rw [HS.out, HBB.out]; rfl⟩
          case measure => simp [intOf]
        | false =>
          have HBB := Lib.hid hb
          by_cases hq : flag = 128
          · have HQ : Hid ((flag == ((2 ^ 7 : Nat) : Int)) = true) := beq_iff_eq.2 hq
            have hqb : (flag == 128) = true := beq_iff_eq.2 hq
            clear hq
            go_wp2
            go_round
            case rel => exact ⟨8, by omega, rfl, by rw [HS.out, HBB.out, HQ.out]; rfl⟩
            case measure => simp [intOf]
          · have HQ : Hid ((flag == ((2 ^ 7 : Nat) : Int)) = false) := beq_eq_false_iff_ne.2 hq
            have hqb : (flag == 128) = false := beq_eq_false_iff_ne.2 hq
            clear hq
            go_wp2
            go_round
            case rel => exact ⟨8, by omega, rfl, by rw [HS.out, HBB.out, HQ.out]; rfl⟩
            case measure => simp [intOf]
    · obtain rfl : k = 8 := by omega
      obtain ⟨c0, c1, c2, c3⟩ := HB.out.c4
      rw [oneK_8]
      cases ho : oneP flag with
      | false =>
        rw [ho] at HH
        have HO := Lib.hid ho
        clear ho
        go_wp2_with fail
        with_reducible refine (HH.out _).mono ?_
        rintro e w2 ⟨rfl, hf2⟩
        have HF2 := Lib.hid hf2.tA
        clear hf2 c0 c1 c2 c3
        go_wp2_with fail
        with_reducible refine (HW.out _).mono ?_
        rintro e w3 ⟨rfl, hf3⟩
        have HF3 := Lib.hid (HF2.out.trans hf3)
        clear hf3
        go_wp2
        go_ret
        exact ⟨rfl, HF3.out⟩
      | true =>
        rw [ho] at HH
        have HO := Lib.hid ho
        clear ho
        cases hz : (bits .and .i64 fl flag == 0) with
        | false =>
          rw [hz] at HH
          have hz' : (bits .and .i64 fl flag != 0) = true := by simp [bne, hz]
          go_wp2_with fail
          with_reducible refine (HH.out _).mono ?_
          rintro e w2 ⟨rfl, hf2⟩
          have HF2 := Lib.hid hf2.tA
          obtain ⟨d0, d1, d2, d3⟩ := (HB.out.fresh hf2).c4
          clear hf2 c0 c1 c2 c3
          go_wp2_with fail
          with_reducible refine (HW.out _).mono ?_
          rintro e w3 ⟨rfl, hf3⟩
          have HF3 := Lib.hid (HF2.out.trans hf3)
          clear hf3
          go_wp2
          go_ret
          exact ⟨rfl, HF3.out⟩
        | true =>
          rw [hz] at HH
          have hz' : (bits .and .i64 fl flag != 0) = false := by simp [bne, hz]
          go_wp2_with fail
          with_reducible refine (HH.out _).mono ?_
          rintro e w2 ⟨rfl, hf2⟩
          have HF2 := Lib.hid hf2.tA
          obtain ⟨d0, d1, d2, d3⟩ := (HB.out.fresh hf2).c4
          clear hf2 c0 c1 c2 c3
          go_wp2_with fail
          with_reducible refine (HW.out _).mono ?_
          rintro e w3 ⟨rfl, hf3⟩
          have HF3 := Lib.hid (HF2.out.trans hf3)
          clear hf3
          go_wp2
          go_ret
          exact ⟨rfl, HF3.out⟩

theorem frEq_symm (ty fl st ty' fl' st' : Int) (l m : List UInt8) : frEq ty' fl' st' ty fl st m l = frEq ty fl st ty' fl' st' l m := by
  unfold frEq
  rw [decide_eq_decide]
  constructor
  · rintro ⟨a, b, c, d⟩; exact ⟨a.symm, b.symm, c.symm, d.symm⟩
  · rintro ⟨a, b, c, d⟩; exact ⟨a.symm, b.symm, c.symm, d.symm⟩

set_option maxRecDepth 100000 in
set_option maxHeartbeats 3200000 in
theorem FrameSame_any (f g : FrV) (w : World) (hf : f.Ok w) (hg : g.Ok w) :
    Calls Try.prog 7 #[.agg #[.int .i64 f.ty, .int .i64 f.fl, .int .i64 f.st, .slice f.A f.l.length f.c], .agg #[.int .i64 g.ty, .int .i64 g.fl, .int .i64 g.st, .slice g.A g.l.length g.c]] w fun e w' => e = .returned (.bool true) ∧ Below w.heap.size w w' := by
  obtain ⟨ty, fl, st, A, c, l⟩ := f
  obtain ⟨ty', fl', st', A', c', l'⟩ := g
  simp only []
  have hA := hf.bs
  have hA' := hg.bs
  simp only [] at hA hA'
  clear hf hg
  have HW := Lib.hid awake_true
  have HT := Lib.hid (TwoFr.start w ty fl st (.slice A l.length c) ty' fl' st' (.slice A' l'.length c') 24)
  by_cases h1 : 300 < l.length
  · have h1' : (300 : Int) < (l.length : Int) := by omega
    go_enter Try.func7, Try.ntmps7
    go_wp2_with fail
    with_reducible refine (HW.out _).mono ?_
    rintro e w3 ⟨rfl, hf3⟩
    have HF3 := Lib.hid (HT.out.fr.trans hf3)
    clear hf3
    go_wp2
    go_ret
    exact ⟨rfl, HF3.out⟩
  · have h1' : ¬ (300 : Int) < (l.length : Int) := by omega
    by_cases h2 : 300 < l'.length
    · have h2' : (300 : Int) < (l'.length : Int) := by omega
      go_enter Try.func7, Try.ntmps7
      go_wp2_with fail
      with_reducible refine (HW.out _).mono ?_
      rintro e w3 ⟨rfl, hf3⟩
      have HF3 := Lib.hid (HT.out.fr.trans hf3)
      clear hf3
      go_wp2
      go_ret
      exact ⟨rfl, HF3.out⟩
    · have h2' : ¬ (300 : Int) < (l'.length : Int) := by omega
      have HE1 := Lib.hid (fun W (h : Fresh w W) => fequal ty fl st A l c ty' fl' st' A' l' c' W (hA.fresh h) (hA'.fresh h))
      have HE2 := Lib.hid (fun W (h : Fresh w W) => fequal ty' fl' st' A' l' c' ty fl st A l c W (hA'.fresh h) (hA.fresh h))
      rw [frEq_symm] at HE2
      have hs1 := run_str (P := Try.prog) (hA.fresh HT.out.fr) 22 9 5 Try.underlying22 Try.underlying5 Try.underlying9 c
      have hs2 := run_str (P := Try.prog) (hA'.fresh HT.out.fr) 22 9 5 Try.underlying22 Try.underlying5 Try.underlying9 c'
      obtain ⟨t0, t1, t2, t3, t4, t5, t6, t7, t8, t9⟩ := HT.out
      clear t9 hA hA'
      have hll : ((strB l).toList == (strB l').toList) = (l == l') := by rw [strB_toList, strB_toList]
      have hbb : frEq ty fl st ty' fl' st' l l' = (ty == ty' && fl == fl' && st == st' && l == l') := by
        unfold frEq
        rw [Bool.eq_iff_iff]
        simp [and_assoc]
      rw [hbb] at HE1 HE2
      clear hbb
      cases b1 : (ty == ty') with
      | false =>
        rw [b1] at HE1 HE2
        go_enter Try.func7, Try.ntmps7
        go_wp2_with fail
        with_reducible refine (HE1.out _ HT.out.fr).mono ?_
        rintro e w3 ⟨rfl, hf3⟩
        have HT3 := Lib.hid (HT.out.fresh hf3)
        clear t0 t1 t2 t3 t4 t5 t6 t7 t8 hf3 hs1 hs2
        obtain ⟨t0, t1, t2, t3, t4, t5, t6, t7, t8, t9⟩ := HT3.out
        clear t9
        go_wp2_with fail
        with_reducible refine (HE2.out _ HT3.out.fr).mono ?_
        rintro e w4 ⟨rfl, hf4⟩
        have HT4 := Lib.hid (HT3.out.fr.trans hf4)
        clear hf4 t0 t1 t2 t3 t4 t5 t6 t7 t8
        go_wp2_with fail
        with_reducible refine (HW.out _).mono ?_
        rintro e w5 ⟨rfl, hf5⟩
        have HF5 := Lib.hid (HT4.out.trans hf5)
        clear hf5
        go_wp2
        go_ret
        exact ⟨rfl, HF5.out⟩
      | true =>
        rw [b1] at HE1 HE2
        cases b2 : (fl == fl') with
        | false =>
          rw [b2] at HE1 HE2
          go_enter Try.func7, Try.ntmps7
          go_wp2_with fail
          with_reducible refine (HE1.out _ HT.out.fr).mono ?_
          rintro e w3 ⟨rfl, hf3⟩
          have HT3 := Lib.hid (HT.out.fresh hf3)
          clear t0 t1 t2 t3 t4 t5 t6 t7 t8 hf3 hs1 hs2
          obtain ⟨t0, t1, t2, t3, t4, t5, t6, t7, t8, t9⟩ := HT3.out
          clear t9
          go_wp2_with fail
          with_reducible refine (HE2.out _ HT3.out.fr).mono ?_
          rintro e w4 ⟨rfl, hf4⟩
          have HT4 := Lib.hid (HT3.out.fr.trans hf4)
          clear hf4 t0 t1 t2 t3 t4 t5 t6 t7 t8
          go_wp2_with fail
          with_reducible refine (HW.out _).mono ?_
          rintro e w5 ⟨rfl, hf5⟩
          have HF5 := Lib.hid (HT4.out.trans hf5)
          clear hf5
          go_wp2
          go_ret
          exact ⟨rfl, HF5.out⟩
        | true =>
          rw [b2] at HE1 HE2
          cases b3 : (st == st') with
          | false =>
            rw [b3] at HE1 HE2
            go_enter Try.func7, Try.ntmps7
            go_wp2_with fail
            with_reducible refine (HE1.out _ HT.out.fr).mono ?_
            rintro e w3 ⟨rfl, hf3⟩
            have HT3 := Lib.hid (HT.out.fresh hf3)
            clear t0 t1 t2 t3 t4 t5 t6 t7 t8 hf3 hs1 hs2
            obtain ⟨t0, t1, t2, t3, t4, t5, t6, t7, t8, t9⟩ := HT3.out
            clear t9
            go_wp2_with fail
            with_reducible refine (HE2.out _ HT3.out.fr).mono ?_
            rintro e w4 ⟨rfl, hf4⟩
            have HT4 := Lib.hid (HT3.out.fr.trans hf4)
            clear hf4 t0 t1 t2 t3 t4 t5 t6 t7 t8
            go_wp2_with fail
            with_reducible refine (HW.out _).mono ?_
            rintro e w5 ⟨rfl, hf5⟩
            have HF5 := Lib.hid (HT4.out.trans hf5)
            clear hf5
            go_wp2
            go_ret
            exact ⟨rfl, HF5.out⟩
          | true =>
            rw [b3] at HE1 HE2
            cases b4 : (l == l') with
            | false =>
              rw [b4] at HE1 HE2
              rw [b4] at hll
              go_enter Try.func7, Try.ntmps7
              go_wp2_with fail
              with_reducible refine (HE1.out _ HT.out.fr).mono ?_
              rintro e w3 ⟨rfl, hf3⟩
              have HT3 := Lib.hid (HT.out.fresh hf3)
              clear t0 t1 t2 t3 t4 t5 t6 t7 t8 hf3 hs1 hs2
              obtain ⟨t0, t1, t2, t3, t4, t5, t6, t7, t8, t9⟩ := HT3.out
              clear t9
              go_wp2_with fail
              with_reducible refine (HE2.out _ HT3.out.fr).mono ?_
              rintro e w4 ⟨rfl, hf4⟩
              have HT4 := Lib.hid (HT3.out.fr.trans hf4)
              clear hf4 t0 t1 t2 t3 t4 t5 t6 t7 t8
              go_wp2_with fail
              with_reducible refine (HW.out _).mono ?_
              rintro e w5 ⟨rfl, hf5⟩
              have HF5 := Lib.hid (HT4.out.trans hf5)
              clear hf5
              go_wp2
              go_ret
              exact ⟨rfl, HF5.out⟩
            | true =>
              rw [b4] at HE1 HE2
              rw [b4] at hll
              go_enter Try.func7, Try.ntmps7
              go_wp2_with fail
              with_reducible refine (HE1.out _ HT.out.fr).mono ?_
              rintro e w3 ⟨rfl, hf3⟩
              have HT3 := Lib.hid (HT.out.fresh hf3)
              clear t0 t1 t2 t3 t4 t5 t6 t7 t8 hf3 hs1 hs2
              obtain ⟨t0, t1, t2, t3, t4, t5, t6, t7, t8, t9⟩ := HT3.out
              clear t9
              go_wp2_with fail
              with_reducible refine (HE2.out _ HT3.out.fr).mono ?_
              rintro e w4 ⟨rfl, hf4⟩
              have HT4 := Lib.hid (HT3.out.fr.trans hf4)
              clear hf4 t0 t1 t2 t3 t4 t5 t6 t7 t8
              go_wp2_with fail
              with_reducible refine (HW.out _).mono ?_
              rintro e w5 ⟨rfl, hf5⟩
              have HF5 := Lib.hid (HT4.out.trans hf5)
              clear hf5
              go_wp2
              go_ret
              exact ⟨rfl, HF5.out⟩
end Go.Proofs.Ytplpaobbgfdinaa
