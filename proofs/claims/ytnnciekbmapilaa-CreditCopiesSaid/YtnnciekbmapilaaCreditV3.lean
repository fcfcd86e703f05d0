/-
  The law CreditFair: its walk.
-/
import Derived.Test.YtnnciekbmapilaaCreditV2
import Derived.Test.YtnnciekbmapilaaInts
namespace Go.Proofs.Ytnnciekbmapilaa
set_option linter.unusedVariables false
open Go.RowKit

structure FaR (w : World) (c g k n : Nat) (x : IntSl) (m : Nat) (wr : World) : Prop where
  two : ∃ f t, Cr wr c g k n f t ∧ ∀ i j, i < n → j < n → f i - f j ≤ (m : Int) + 1
  row : x.Ok wr
  fr : Fresh w wr
theorem FaR.fresh {w wr wx : World} {c g k n m : Nat} {x : IntSl} (h : FaR w c g k n x m wr) (hf : Fresh wr wx) : FaR w c g k n x m wx := by
  obtain ⟨⟨f, t, a, b⟩, hr, hfr⟩ := h
  exact ⟨⟨f, t, a.fresh hf, b⟩, hr.fresh hf, hfr.trans hf⟩
set_option maxRecDepth 100000 in
set_option maxHeartbeats 6400000 in
theorem CreditFair_any (n : Int) (x : IntSl) (w : World) (_ : (Lit.int .i64 n).wf = true) (hx : x.Ok w) :
    Calls Try.prog 5 #[.int .i64 n, x.val] w fun e w' => e = .returned (.bool true) ∧ Below w.heap.size w w' := by
  have hle := hx.le
  have hmx := hx.max
  unfold maxLen at hmx
  obtain ⟨A, cap, xs⟩ := x
  simp only [IntSl.val] at *
  obtain ⟨len, hlen⟩ : ∃ len, xs.length = len := ⟨_, rfl⟩
  rw [hlen] at hle ⊢
  by_cases hall : len ≤ 100 ∧ 1 ≤ n ∧ n ≤ 64
  · obtain ⟨hl, h1, h2⟩ := hall
    obtain ⟨N, rfl⟩ : ∃ N : Nat, n = (N : Int) := ⟨n.toNat, by omega⟩
    have n1 : 1 ≤ N := by omega
    have n2 : N ≤ 64 := by omega
    have HX := Lib.hid hx
    have HL := Lib.hid hlen
    clear hx h1 h2 hlen
    have a0 : decide (100 < (len : Int)) = false := by simp; omega
    have a1 : decide ((N : Int) < 1) = false := by simp; omega
    have a2 : decide (64 < (N : Int)) = false := by simp; omega
    go_enter Try.func5, Try.ntmps5
    go_wp2_with fail
    with_reducible refine (cr_new_yes N _ n1 n2).mono ?_
    rintro e w1 ⟨c, g, k, rfl, hc, hg, hcr, hf1⟩
    have HR : Hid (FaR w c g k N ⟨A, cap, xs⟩ 0 w1) := Lib.hid ⟨⟨_, _, hcr, fun i j _ _ => by have := part_near 65535 N i j; simp; omega⟩, HX.out.fresh hf1, hf1⟩
    have HCG := Lib.hid (And.intro hc hg)
    clear hcr hf1 hc hg
    go_wp2_with fail
    go_loopw [7, 40] (fun m i wr => ∃ j M : Nat, j ≤ len ∧ M ≤ j ∧ i = .int .i64 j ∧ m = .int .i64 (M : Int) ∧ FaR w c g k N ⟨A, cap, xs⟩ M wr) (fun _ i _ => len - (intOf i).toNat)
    case atStart => exact ⟨0, 0, by omega, by omega, rfl, rfl, HR.out⟩
    case round =>
      obtain ⟨j, M, hj, hM, rfl, rfl, hR⟩ := hrel
      clear HR
      by_cases hlt : j < len
      · obtain ⟨bb, oo, hAe, hbb, hcell⟩ := hR.row.at (j := j) (by rw [HL.out]; exact hlt)
        simp only at hAe
        have HAe := Lib.hid hAe
        subst hAe
        generalize xs[j]'(by rw [HL.out]; exact hlt) = x at hcell
        obtain ⟨f, t, hC, hF⟩ := hR.two
        obtain ⟨r, f', t', hr, hG, _⟩ := grant_pair hC.ok x
        have HG := Lib.hid (hG c g k wr hC)
        have HRR := Lib.hid hr
        have HR := Lib.hid hR
        have HF := Lib.hid hF
        clear hR hC hF hG hr
        go_wp2_with fail
        refine HG.out.mono ?_
        rintro e w2 ⟨rfl, hc2, ho2⟩
        obtain ⟨M', hM1, hM2, hF2⟩ : ∃ M' : Nat, M' ≤ j + 1 ∧ (M' : Int) = (if r = 0 then (M : Int) + 1 else M) ∧ ∀ i j, i < N → j < N → f' i - f' j ≤ (M' : Int) + 1 := by
          rcases HRR.out with ⟨rfl, _, rfl, _⟩ | ⟨h0, _, rfl⟩
          · refine ⟨M + 1, by omega, by simp, fun i j hi hj => ?_⟩
            have := HF.out i j hi hj
            have := part_near x N (bckN N t i) (bckN N t j)
            unfold grantF
            omega
          · refine ⟨M, by omega, by simp [h0], HF.out⟩
        have HC2 := Lib.hid hc2
        have HF2 := Lib.hid hF2
        have HFR : Hid (Fresh w w2) := Lib.hid (Only.fresh (S := fun i => w.heap.size ≤ i) ((Only.of_fresh HR.out.fr).trans (ho2.mono (fun i e => by have := HCG.out; omega))) (fun i hi e => by omega))
        clear hc2 ho2 hF2 HG hcell
        by_cases hr0 : r = 0
        · subst hr0
          simp only [if_true] at hM2
          have HM := Lib.hid hM2
          clear hM2
          clear HRR
          go_wp2_with fail
          refine (cr_parts c g k N t' f' _ HC2.out).mono ?_
          rintro e w3 ⟨p, rfl, hp, hi3, hf3⟩
          have HI3 := Lib.hid hi3
          have HFR3 := Lib.hid (HFR.out.trans hf3)
          have HC3 := Lib.hid (HC2.out.fresh hf3)
          have p0 := hi3.cell (j := 0) (by omega)
          have hx3 := HX.out.fresh HFR3.out
          have HX3 := Lib.hid hx3
          have i0 : (0 : Int) < (N : Int) := by omega
          generalize hf0 : f' 0 = y0 at p0
          have HF0 := Lib.hid hf0
          clear hp hi3 hf3 hx3 hf0
          go_wp2_with fail
          go_quiet (fail)
          have HFR4 := Lib.hid (HFR3.out.trans (Fresh.drewN w3 nq))
          have HC4 := Lib.hid (HC3.out.fresh (Fresh.drewN w3 nq))
          have HX4 := Lib.hid (HX3.out.fresh (Fresh.drewN w3 nq))
          have HI4 := Lib.hid (HI3.out.fresh (Fresh.drewN w3 nq))
          clear p0
          obtain ⟨w4, hw4⟩ : ∃ w4, w3.drewN nq = w4 := ⟨_, rfl⟩
          rw [hw4] at HFR4 HC4 HX4 HI4 ⊢
          clear hw4
          go_wp2_with fail
          go_loop [11, 12, 60] (fun lo hi i => ∃ z a b : Nat, z ≤ N ∧ a < N ∧ b < N ∧ i = .int .i64 z ∧ lo = .int .i64 (f' a) ∧ hi = .int .i64 (f' b)) (fun _ _ i => N - (intOf i).toNat)
          case atStart => exact ⟨0, 0, 0, by omega, by omega, by omega, rfl, by rw [HF0.out], by rw [HF0.out]⟩
          case round =>
            obtain ⟨z, a, b, hz, ha, hb, rfl, rfl, rfl⟩ := hrel
            by_cases hzl : z < N
            · have pz := HI4.out.cell hzl
              obtain ⟨ya, hya⟩ : ∃ ya, f' a = ya := ⟨_, rfl⟩
              obtain ⟨yb, hyb⟩ : ∃ yb, f' b = yb := ⟨_, rfl⟩
              obtain ⟨yz, hyz⟩ : ∃ yz, f' z = yz := ⟨_, rfl⟩
              rw [hya, hyb]
              rw [hyz] at pz
              have HYA := Lib.hid hya
              have HYB := Lib.hid hyb
              have HYZ := Lib.hid hyz
              clear hya hyb hyz
              rcases Int.lt_trichotomy ya yz with t1 | t1 | t1 <;> rcases Int.lt_trichotomy yb yz with t2 | t2 | t2
              all_goals
                (try subst t1)
                (try subst t2)
                go_wp2_with fail
                go_round
                case rel => first | exact ⟨z + 1, a, b, by omega, by assumption, by assumption, by go_num, congrArg _ HYA.out.symm, congrArg _ HYB.out.symm⟩ | exact ⟨z + 1, a, z, by omega, by assumption, by assumption, by go_num, congrArg _ HYA.out.symm, congrArg _ HYZ.out.symm⟩ | exact ⟨z + 1, z, b, by omega, by assumption, by assumption, by go_num, congrArg _ HYZ.out.symm, congrArg _ HYB.out.symm⟩ | exact ⟨z + 1, z, z, by omega, by assumption, by assumption, by go_num, congrArg _ HYZ.out.symm, congrArg _ HYZ.out.symm⟩
                case measure => simp [intOf]; omega
            · obtain rfl : z = N := by omega
              have hd := HF2.out b a hb ha
              have hpb := HC4.out.pos b hb
              have hpa := HC4.out.pos a ha
              have hmb := sumN_ge HC4.out.pos hb
              have hma := sumN_ge HC4.out.pos ha
              have hmx2 := HC4.out.mx
              have hX : Hid (FaR w c g k z ⟨some ⟨bb, oo, none⟩, cap, xs⟩ M' w4) := Lib.hid ⟨⟨f', t', HC4.out, HF2.out⟩, HX4.out, HFR4.out⟩
              have ub1 : f' a ≤ 2147483647 := by omega
              have ub2 : f' b ≤ 2147483647 := by omega
              clear hma hmb
              generalize f' a = ya at *
              generalize f' b = yb at *
              rw [HM.out] at hd
              have hdec : decide ((M : Int) + 1 + 1 < yb - ya) = false := by simp; omega
              go_wp2_with fail
              go_roundw
              case rel => exact ⟨j + 1, M', by omega, hM1, by go_num, by rw [HM.out], hX.out⟩
              case measure => simp [intOf]; omega
        · simp only [hr0, if_false] at hM2
          have HM := Lib.hid hM2
          clear hM2
          have hr1 : (r == 0) = false := by simpa using hr0
          clear HRR hr0
          go_wp2_with fail
          refine (cr_parts c g k N t' f' _ HC2.out).mono ?_
          rintro e w3 ⟨p, rfl, hp, hi3, hf3⟩
          have HI3 := Lib.hid hi3
          have HFR3 := Lib.hid (HFR.out.trans hf3)
          have HC3 := Lib.hid (HC2.out.fresh hf3)
          have p0 := hi3.cell (j := 0) (by omega)
          have hx3 := HX.out.fresh HFR3.out
          have HX3 := Lib.hid hx3
          have i0 : (0 : Int) < (N : Int) := by omega
          generalize hf0 : f' 0 = y0 at p0
          have HF0 := Lib.hid hf0
          clear hp hi3 hf3 hx3 hf0
          go_wp2_with fail
          go_quiet (fail)
          have HFR4 := Lib.hid (HFR3.out.trans (Fresh.drewN w3 nq))
          have HC4 := Lib.hid (HC3.out.fresh (Fresh.drewN w3 nq))
          have HX4 := Lib.hid (HX3.out.fresh (Fresh.drewN w3 nq))
          have HI4 := Lib.hid (HI3.out.fresh (Fresh.drewN w3 nq))
          clear p0
          obtain ⟨w4, hw4⟩ : ∃ w4, w3.drewN nq = w4 := ⟨_, rfl⟩
          rw [hw4] at HFR4 HC4 HX4 HI4 ⊢
          clear hw4
          go_wp2_with fail
          go_loop [11, 12, 60] (fun lo hi i => ∃ z a b : Nat, z ≤ N ∧ a < N ∧ b < N ∧ i = .int .i64 z ∧ lo = .int .i64 (f' a) ∧ hi = .int .i64 (f' b)) (fun _ _ i => N - (intOf i).toNat)
          case atStart => exact ⟨0, 0, 0, by omega, by omega, by omega, rfl, by rw [HF0.out], by rw [HF0.out]⟩
          case round =>
            obtain ⟨z, a, b, hz, ha, hb, rfl, rfl, rfl⟩ := hrel
            by_cases hzl : z < N
            · have pz := HI4.out.cell hzl
              obtain ⟨ya, hya⟩ : ∃ ya, f' a = ya := ⟨_, rfl⟩
              obtain ⟨yb, hyb⟩ : ∃ yb, f' b = yb := ⟨_, rfl⟩
              obtain ⟨yz, hyz⟩ : ∃ yz, f' z = yz := ⟨_, rfl⟩
              rw [hya, hyb]
              rw [hyz] at pz
              have HYA := Lib.hid hya
              have HYB := Lib.hid hyb
              have HYZ := Lib.hid hyz
              clear hya hyb hyz
              rcases Int.lt_trichotomy ya yz with t1 | t1 | t1 <;> rcases Int.lt_trichotomy yb yz with t2 | t2 | t2
              all_goals
                (try subst t1)
                (try subst t2)
                go_wp2_with fail
                go_round
                case rel => first | exact ⟨z + 1, a, b, by omega, by assumption, by assumption, by go_num, congrArg _ HYA.out.symm, congrArg _ HYB.out.symm⟩ | exact ⟨z + 1, a, z, by omega, by assumption, by assumption, by go_num, congrArg _ HYA.out.symm, congrArg _ HYZ.out.symm⟩ | exact ⟨z + 1, z, b, by omega, by assumption, by assumption, by go_num, congrArg _ HYZ.out.symm, congrArg _ HYB.out.symm⟩ | exact ⟨z + 1, z, z, by omega, by assumption, by assumption, by go_num, congrArg _ HYZ.out.symm, congrArg _ HYZ.out.symm⟩
                case measure => simp [intOf]; omega
            · obtain rfl : z = N := by omega
              have hd := HF2.out b a hb ha
              have hpb := HC4.out.pos b hb
              have hpa := HC4.out.pos a ha
              have hmb := sumN_ge HC4.out.pos hb
              have hma := sumN_ge HC4.out.pos ha
              have hmx2 := HC4.out.mx
              have hX : Hid (FaR w c g k z ⟨some ⟨bb, oo, none⟩, cap, xs⟩ M' w4) := Lib.hid ⟨⟨f', t', HC4.out, HF2.out⟩, HX4.out, HFR4.out⟩
              have ub1 : f' a ≤ 2147483647 := by omega
              have ub2 : f' b ≤ 2147483647 := by omega
              clear hma hmb
              generalize f' a = ya at *
              generalize f' b = yb at *
              rw [HM.out] at hd
              have hdec : decide ((M : Int) + 1 < yb - ya) = false := by simp; omega
              go_wp2_with fail
              go_roundw
              case rel => exact ⟨j + 1, M', by omega, hM1, by go_num, by rw [HM.out], hX.out⟩
              case measure => simp [intOf]; omega
      · obtain rfl : j = len := by omega
        have HF := Lib.hid hR.fr
        clear hR
        go_wp2_with fail
        refine (cr_awake _).mono ?_
        rintro e w5 ⟨rfl, hf5⟩
        go_wp2_with fail
        go_ret
        exact ⟨rfl, HF.out.trans hf5⟩
  · clear hx hlen
    by_cases c1 : n < 1
    · clear hall
      go_enter Try.func5, Try.ntmps5
      go_wp2_with fail
      refine (cr_awake _).mono ?_
      rintro e w5 ⟨rfl, hf5⟩
      go_wp2_with fail
      go_ret
      exact ⟨rfl, hf5⟩
    · have d1 : decide (n < 1) = false := by simpa using c1
      by_cases c2 : 64 < n
      · clear hall
        go_enter Try.func5, Try.ntmps5
        go_wp2_with fail
        refine (cr_awake _).mono ?_
        rintro e w5 ⟨rfl, hf5⟩
        go_wp2_with fail
        go_ret
        exact ⟨rfl, hf5⟩
      · have d2 : decide (64 < n) = false := by simpa using c2
        have c3 : (100 : Int) < len := by omega
        clear hall
        go_enter Try.func5, Try.ntmps5
        go_wp2_with fail
        refine (cr_awake _).mono ?_
        rintro e w5 ⟨rfl, hf5⟩
        go_wp2_with fail
        go_ret
        exact ⟨rfl, hf5⟩
end Go.Proofs.Ytnnciekbmapilaa
