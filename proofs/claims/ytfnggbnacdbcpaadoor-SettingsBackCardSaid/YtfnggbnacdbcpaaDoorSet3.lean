/-
  Layer 16: the fixed answer; the law SettingsShares.
-/
import Derived.Test.YtfnggbnacdbcpaaDoorSet2
import Derived.Test.YtfnggbnacdbcpaaDoorShapeW
namespace Go.Proofs.YtfnggbnacdbcpaaDoor
set_option linter.unusedVariables false
open Go.RowKit Go.ChangeShapes Go.WideShapes Go.Deep
/-- A slice of pairs that came in. -/
structure PsV where
  (A : Option Addr) (c : Nat) (ps : List (Int × Int))
structure PsV.Ok (w : World) (x : PsV) : Prop where
  le : x.ps.length ≤ x.c
  max : x.c ≤ maxLen
  row : Many pairC 2 w x.A x.ps
  bd : ∀ p ∈ x.ps, (-9223372036854775808 ≤ p.1 ∧ p.1 ≤ 9223372036854775807) ∧ (-9223372036854775808 ≤ p.2 ∧ p.2 ≤ 9223372036854775807)
theorem PsV.Ok.fresh {w w' : World} {x : PsV} (h : x.Ok w) (hf : Fresh w w') : x.Ok w' := ⟨h.le, h.max, h.row.fresh hf, h.bd⟩
section
variable {H : Type} {enc : TypeId × Value → H} {w : World} {base : Nat} {spare : Nat → Bool} {held : Bool} {v : Value} {d : DataW H} {p : List MemPlace} {r : Reach} {b0 : Nat}
theorem open_pairs (hv : Value.okWide Tryd.prog w r b0 23 v) (hd : DataW.Trod enc Tryd.prog w base spare held 23 v d p) :
    ∃ x : PsV, v = .slice x.A x.ps.length x.c ∧ x.Ok w := by
  have h := (opens_slice (sz := 2) Tryd.underlying23 (opens_array (sz := 1) Tryd.underlying31 (by kernel_rfl) (by kernel_rfl) (opens_int Tryd.underlying3)) (by kernel_rfl) (by omega)).sl Tryd.underlying23 hv hd
  obtain ⟨A, ps, c, e, h1, h2, h3, h4⟩ := h.rows (R := fun _ (p : Int × Int) => (Lit.int .i64 p.1).wf = true ∧ (Lit.int .i64 p.2).wf = true) (f := pairC) (fun cs ⟨hl, hq⟩ => by
    match cs, hl with
    | [a, b], _ =>
      obtain ⟨x, ex, wx⟩ := hq 0 (by omega)
      obtain ⟨y, ey, wy⟩ := hq 1 (by omega)
      simp at ex ey
      subst ex ey
      exact ⟨(x, y), rfl, wx, wy⟩)
  simp at e
  exact ⟨⟨A, c, ps⟩, e, h1, h2, h3, fun p hp => ⟨wf_i64_bd (h4 p hp).1, wf_i64_bd (h4 p hp).2⟩⟩
end
theorem set_applyN (ta pu sm wi fr li : Int) (A : Option Addr) (ps : List (Int × Int)) (n c : Nat) (w : World) (r : SetV × Int × Int × Int) (hR : Rul w) (hn : ps.length = n) (hle : n ≤ c) (hmax : c ≤ maxLen) (hm : Many pairC 2 w A ps) (hr : applyR ⟨ta, pu, sm, wi, fr, li⟩ ps = r) :
    Calls Tryd.prog 13 #[.agg #[.int .i64 ta, .int .i64 pu, .int .i64 sm, .int .i64 wi, .int .i64 fr, .int .i64 li], .slice A n c] w fun en w' => en = .returned (.tuple #[r.1.val, .agg #[.int .i64 r.2.1, .int .i64 r.2.2.1], fltC r.2.2.2]) ∧ Fresh w w' := by
  subst hn
  exact set_apply ⟨ta, pu, sm, wi, fr, li⟩ A ps c w r hR hle hmax hm hr
theorem Many.pr2 {w : World} {g : Nat} {t : TypeId} {a b c d : Int} (h : Blk w g t #[.int .i64 a, .int .i64 b, .int .i64 c, .int .i64 d]) : Many pairC 2 w (some ⟨g, 0, none⟩) [(a, b), (c, d)] := by
  intro _
  refine ⟨_, 0, rfl, h.lt, fun k hk j hj => ?_⟩
  rw [h.cell]
  simp only [List.length_cons, List.length_nil] at hk
  have hk' : k = 0 ∨ k = 1 := by omega
  have hj' : j = 0 ∨ j = 1 := by omega
  rcases hk' with rfl | rfl <;> rcases hj' with rfl | rfl <;> rfl
theorem Many.pr1 {w : World} {g : Nat} {t : TypeId} {a b : Int} (h : Blk w g t #[.int .i64 a, .int .i64 b]) : Many pairC 2 w (some ⟨g, 0, none⟩) [(a, b)] := by
  intro _
  refine ⟨_, 0, rfl, h.lt, fun k hk j hj => ?_⟩
  rw [h.cell]
  simp only [List.length_cons, List.length_nil] at hk
  have hk' : k = 0 := by omega
  have hj' : j = 0 ∨ j = 1 := by omega
  rcases hk' with rfl
  rcases hj' with rfl | rfl <;> rfl
theorem fld_frame1 (W : World) (a b c : Int) (d : Value) : (Instr.field 44 (.agg #[.int .i64 a, .int .i64 b, .int .i64 c, d]) 1).run Tryd.prog W = .ok (.int .i64 b) W := by
  simp [Instr.field, run_underlying Tryd.underlying44, run_underlying Tryd.underlying3, asAgg, part, isAgg, go_sem]
set_option maxRecDepth 100000 in
set_option maxHeartbeats 3200000 in
theorem set_awake (w : World) (hR : Rul w) : Calls Tryd.prog 8 #[] w fun en w' => en = .returned (.bool true) ∧ Fresh w w' := by
  have HR := Lib.hid hR
  clear hR
  go_enter Tryd.func8, Tryd.ntmps8
  go_wp2_with fail
  with_reducible refine (set_first _).mono ?_
  rintro e w1 ⟨rfl, hf1⟩
  have HF1 := Lib.hid hf1
  clear hf1
  dsimp only [firstV, SetV.val]
  go_wp2_with fail
  with_reducible refine (set_applyN 4096 1 4294967295 65535 16384 4294967295 _ [(4, 100), (3, 10)] 2 2 _ (⟨4096, 1, 10, 100, 16384, 4294967295⟩, 65535, 100, 0) ((HR.out.fresh HF1.out).fresh (Fresh.alloc _ _)) rfl (by decide) (by decide) (Many.pr2 (Blk.new _ _ _)) (by simp [applyR, codeS, wrongC, setsS, set1])).mono ?_
  rintro e w2 ⟨rfl, hf2⟩
  have HF2 := Lib.hid (HF1.out.trans ((Fresh.alloc _ _).trans hf2))
  clear hf2
  dsimp only [SetV.val, fltC]
  have hd1 : decide ((0 : Int) ≠ 0) = false := rfl
  have hd2 : decide ((101 : Int) ≠ 0) = true := rfl
  rw [hd1]
  clear hd1
  obtain ⟨X, hX⟩ : ∃ X, X = (((w2.alloc (.cells #[.int .i64 4096, .int .i64 1, .int .i64 10, .int .i64 100, .int .i64 16384, .int .i64 4294967295] 26)).alloc (.cells #[.int .i64 65535, .int .i64 100] 35)).alloc (.cells #[.int .i64 0, .bool false] 38)) := ⟨_, rfl⟩
  have HX : Hid (Fresh w2 X ∧ X.heap.size = w2.heap.size + 1 + 1 + 1 ∧ Blk X w2.heap.size 26 #[.int .i64 4096, .int .i64 1, .int .i64 10, .int .i64 100, .int .i64 16384, .int .i64 4294967295] ∧ Blk X (w2.heap.size + 1) 35 #[.int .i64 65535, .int .i64 100] ∧ Blk X (w2.heap.size + 1 + 1) 38 #[.int .i64 0, .bool false]) := Lib.hid (by
    rw [hX]
    refine ⟨?_, by simp, ?_, ?_, ?_⟩
    · repeat (first | with_reducible exact Fresh.refl _ | with_reducible apply Fresh.allocS)
    all_goals repeat (first | (with_reducible refine Blk.mkAt ?_; (simp; done)) | with_reducible apply Blk.alloc))
  have HXE := Lib.hid hX
  clear hX
  go_wp2_with fail
  have HAP := Lib.hid (set_applyN 4096 1 10 100 16384 4294967295 (some ⟨w2.heap.size + 1 + 1 + 1, 0, none⟩) [(2, 2)] 1 1 (X.alloc (.cells #[.int .i64 2, .int .i64 2] 31)) (⟨4096, 1, 10, 100, 16384, 4294967295⟩, 0, 0, 101) ((HR.out.fresh HF2.out).fresh (HX.out.1.trans (Fresh.alloc _ _))) rfl (by decide) (by decide) (Many.pr1 (Blk.mkAt HX.out.2.1)) (by rfl))
  rw [HXE.out] at HAP
  with_reducible refine HAP.out.mono ?_
  rintro e w3 ⟨rfl, hf3⟩
  dsimp only [SetV.val, fltC]
  rw [hd2]
  rw [← HXE.out] at hf3
  have hf3' : Fresh X w3 := (Fresh.alloc _ _).trans hf3
  have HF3 := Lib.hid (HF2.out.trans (HX.out.1.trans hf3'))
  have B1 := Lib.hid (HX.out.2.2.1.fresh hf3')
  have B2 := Lib.hid (HX.out.2.2.2.1.fresh hf3')
  have B3 := Lib.hid (HX.out.2.2.2.2.fresh hf3')
  clear hf3 hf3' HAP HX HXE hd2
  go_upto_region 3 with fail
  refine wp_gen (fun W => Fresh w3 W ∧ Blk W (w3.heap.size + 1 + 1) 38 #[.int .i64 101, .bool true]) ⟨?_, ?_⟩ ?_
  · repeat (first | with_reducible exact Fresh.refl _ | with_reducible apply Fresh.allocS)
  · repeat (first | (with_reducible refine Blk.mkAt ?_; (simp; done)) | with_reducible apply Blk.alloc)
  intro W ⟨hf, hb⟩
  have b1 := B1.out.fresh hf
  have b2 := B2.out.fresh hf
  have b3 := B3.out.fresh hf
  obtain ⟨x0, x1, x2, x3, x4, x5⟩ := b1.c6
  obtain ⟨y0, y1⟩ := b2.c2
  obtain ⟨z0, z1⟩ := b3.c2
  obtain ⟨v0, v1⟩ := hb.c2
  have HB := Lib.hid hb
  have HB1 := Lib.hid b1
  have HFW := Lib.hid (HF3.out.trans hf)
  clear hf hb b1 b2 b3 B1 B2 B3 HF3 HF2 HF1
  have HSH := Lib.hid (set_share ⟨4096, 1, 10, 100, 16384, 4294967295⟩ 4 W (by decide) (by decide))
  have hsh : shareC 10 4 = 2 := by decide
  dsimp only [SetV.val] at HSH
  rw [hsh] at HSH
  clear hsh
  go_wp2_with fail
  with_reducible refine HSH.out.mono ?_
  rintro e w4 ⟨rfl, hf4⟩
  have b0 := HB.out.fresh hf4
  obtain ⟨v0, v1⟩ := b0.c2
  obtain ⟨x0, x1, x2, x3, x4, x5⟩ := (HB1.out.fresh hf4).c6
  have HF4 := Lib.hid (HFW.out.trans hf4)
  clear hf4 b0 HSH
  have HPA := Lib.hid (set_pairs ⟨4096, 1, 10, 100, 16384, 4294967295⟩ w4)
  dsimp only [SetV.val] at HPA
  go_wp2_with fail
  with_reducible refine HPA.out.mono ?_
  rintro e w5 ⟨g, rfl, _, hf5⟩
  have HF5 := Lib.hid (HF4.out.trans hf5)
  clear hf5 HPA
  go_wp2_with fail
  with_reducible refine (set_ack _).mono ?_
  rintro e w6 ⟨rfl, hf6⟩
  have HF6 := Lib.hid (HF5.out.trans hf6)
  clear hf6
  have fld := fld_frame1
  go_wp2
  go_ret
  exact ⟨rfl, HF6.out⟩
theorem set1_sm (s : SetV) (n v : Int) (h0 : 0 ≤ s.sm) (h1 : s.sm ≤ 4294967295) (hv : wrongC n v = 0) : 0 ≤ (set1 s n v).sm ∧ (set1 s n v).sm ≤ 4294967295 := by
  have hv2 : 0 ≤ v ∧ v ≤ 4294967295 := by
    unfold wrongC at hv
    by_cases a : v < 0
    · rw [if_pos a] at hv; omega
    · by_cases b : 4294967295 < v
      · rw [if_neg a, if_pos b] at hv; omega
      · omega
  unfold set1
  split
  · exact ⟨h0, h1⟩
  split
  · exact ⟨h0, h1⟩
  split
  · exact hv2
  split
  · exact ⟨h0, h1⟩
  split
  · exact ⟨h0, h1⟩
  split
  · exact ⟨h0, h1⟩
  exact ⟨h0, h1⟩
theorem setsS_sm : ∀ (ps : List (Int × Int)) (s : SetV), 0 ≤ s.sm → s.sm ≤ 4294967295 → (∀ p ∈ ps, wrongC p.1 p.2 = 0) → 0 ≤ (setsS s ps).sm ∧ (setsS s ps).sm ≤ 4294967295
  | [], s, h0, h1, _ => ⟨h0, h1⟩
  | (n, v) :: r, s, h0, h1, h => by
    have h2 := set1_sm s n v h0 h1 (h (n, v) (by simp))
    exact setsS_sm r (set1 s n v) h2.1 h2.2 (fun p hp => h p (by simp [hp]))
theorem applyR_sm (ps : List (Int × Int)) (s : SetV) (h0 : 0 ≤ s.sm) (h1 : s.sm ≤ 4294967295) : 0 ≤ (applyR s ps).1.sm ∧ (applyR s ps).1.sm ≤ 4294967295 := by
  unfold applyR
  split
  · rename_i h
    exact setsS_sm ps s h0 h1 (codeS_good.1 h)
  · exact ⟨h0, h1⟩
theorem shareC_facts (sm t : Int) (h0 : 0 ≤ sm) (h1 : sm ≤ 4294967295) (t1 : 1 ≤ t) (t2 : t ≤ 64) : 0 ≤ shareC sm t ∧ shareC sm t ≤ 65536 ∧ shareC sm t * t ≤ sm ∧ (shareC sm t = 65536 ∨ sm < (shareC sm t + 1) * t) := by
  have hr : ¬ Int.tmod sm t < 0 := by have := Int.tmod_nonneg t h0; omega
  have e : shareC sm t = min (sm / t) 65536 := by
    unfold shareC
    rw [if_neg (by omega), if_neg hr, Int.tdiv_eq_ediv_of_nonneg h0]
  rw [e]
  have d0 := Int.ediv_mul_le sm (show t ≠ 0 by omega)
  have d1 := Int.lt_ediv_add_one_mul_self sm (show 0 < t by omega)
  have d2 := Int.ediv_nonneg h0 (show 0 ≤ t by omega)
  generalize sm / t = q at *
  by_cases hq : q ≤ 65536
  · rw [Int.min_eq_left hq]
    exact ⟨d2, hq, d0, .inr d1⟩
  · rw [Int.min_eq_right (by omega)]
    refine ⟨by omega, by omega, ?_, .inl rfl⟩
    have : 65536 * t ≤ q * t := Int.mul_le_mul_of_nonneg_right (by omega) (by omega)
    omega
set_option maxRecDepth 100000 in
set_option maxHeartbeats 3200000 in
theorem SettingsShares_any (x : PsV) (t : Int) (w : World) (hx : x.Ok w) (ht : (Lit.int .i64 t).wf = true) (hR : Rul w) :
    Calls Tryd.prog 6 #[.slice x.A x.ps.length x.c, .int .i64 t] w fun en w' => en = .returned (.bool true) ∧ Below w.heap.size w w' := by
  have htb := wf_i64_bd ht
  obtain ⟨A, c, ps⟩ := x
  have hle := hx.le
  have hmax := hx.max
  have HX := Lib.hid hx
  have HR := Lib.hid hR
  simp only at hle hmax ⊢
  unfold maxLen at hmax
  have HAW := Lib.hid (fun W (h : Fresh w W) => set_awake W (HR.out.fresh h))
  clear hx hR ht
  by_cases hl : 100 < ps.length
  · have hl' : (100 : Int) < (ps.length : Int) := by omega
    go_enter Tryd.func6, Tryd.ntmps6
    go_wp2_with fail
    with_reducible refine (HAW.out _ (Fresh.refl _)).mono ?_
    rintro e w1 ⟨rfl, hf1⟩
    have HF1 := Lib.hid hf1
    clear hf1
    go_wp2
    go_ret
    exact ⟨rfl, HF1.out⟩
  have hl' : ¬ (100 : Int) < (ps.length : Int) := by omega
  obtain ⟨r, hr⟩ : ∃ r, applyR firstV ps = r := ⟨_, rfl⟩
  have hsm := applyR_sm ps firstV (by decide) (by decide)
  rw [hr] at hsm
  have HRR := Lib.hid hr
  clear hr
  obtain ⟨⟨ta, pu, sm, wi, fr, li⟩, c1, c2, cc⟩ := r
  simp only at hsm
  obtain ⟨hs0, hs1⟩ := hsm
  go_enter Tryd.func6, Tryd.ntmps6
  go_wp2_with fail
  with_reducible refine (set_first _).mono ?_
  rintro e w1 ⟨rfl, hf1⟩
  have HF1 := Lib.hid hf1
  have HAP := Lib.hid (set_apply firstV A ps c w1 (⟨ta, pu, sm, wi, fr, li⟩, c1, c2, cc) (HR.out.fresh hf1) HX.out.le HX.out.max (HX.out.fresh hf1).row HRR.out)
  clear hf1
  dsimp only [firstV, SetV.val, fltC] at HAP ⊢
  generalize decide (cc ≠ 0) = cb at HAP
  go_wp2_with fail
  with_reducible refine HAP.out.mono ?_
  rintro e w2 ⟨rfl, hf2⟩
  have HF2 := Lib.hid (HF1.out.trans hf2)
  clear hf2 HAP
  go_upto_region 4 with fail
  refine wp_gen (fun W => Fresh w2 W ∧ Blk W w2.heap.size 26 #[.int .i64 ta, .int .i64 pu, .int .i64 sm, .int .i64 wi, .int .i64 fr, .int .i64 li]) ⟨?_, ?_⟩ ?_
  · repeat (first | with_reducible exact Fresh.refl _ | with_reducible apply Fresh.allocS)
  · repeat (first | (with_reducible refine Blk.mkAt ?_; (simp; done)) | with_reducible apply Blk.alloc)
  intro W ⟨hf, hb⟩
  obtain ⟨x0, x1, x2, x3, x4, x5⟩ := hb.c6
  have HB := Lib.hid hb
  have HFW := Lib.hid (HF2.out.trans hf)
  clear hf hb
  have HSH := Lib.hid (set_share ⟨ta, pu, sm, wi, fr, li⟩ t W hs0 (by simp only []; omega))
  dsimp only [SetV.val] at HSH
  go_wp2_with fail
  with_reducible refine HSH.out.mono ?_
  rintro e w4 ⟨rfl, hf4⟩
  have HB4 := Lib.hid (HB.out.fresh hf4)
  have HF4 := Lib.hid (HFW.out.trans hf4)
  clear hf4 HSH x0 x1 x2 x3 x4 x5
  have fin : ∀ W, Fresh w W → Calls Tryd.prog 8 #[] W fun en w' => en = .returned (.bool true) ∧ Fresh w w' := fun W h => (HAW.out W h).mono fun e w' h2 => ⟨h2.1, h.trans h2.2⟩
  have FIN := Lib.hid fin
  clear fin
  by_cases h1 : t < 1
  · have hs : shareC sm t = 0 := by simp [shareC, h1]
    rw [hs]
    clear hs
    go_wp2_with fail
    with_reducible refine (FIN.out _ HF4.out).mono ?_
    rintro e w5 ⟨rfl, hf5⟩
    have HF5 := Lib.hid hf5
    clear hf5
    go_wp2
    go_ret
    exact ⟨rfl, HF5.out⟩
  by_cases h2 : 64 < t
  · have hs : shareC sm t = 0 := by simp [shareC, h2]
    rw [hs]
    clear hs
    go_wp2_with fail
    with_reducible refine (FIN.out _ HF4.out).mono ?_
    rintro e w5 ⟨rfl, hf5⟩
    have HF5 := Lib.hid hf5
    clear hf5
    go_wp2
    go_ret
    exact ⟨rfl, HF5.out⟩
  obtain ⟨f0, f1, f2, f3⟩ := shareC_facts sm t hs0 hs1 (by omega) (by omega)
  generalize shareC sm t = q at *
  have x2 : w4.cell? ⟨w2.heap.size, 2, none⟩ = some (.int .i64 sm) := HB4.out.cell 2
  have hw1 : IntKind.i64.wrap (q * t) = q * t := IntWalk.i64_in _ (by
    have : q * t ≤ 65536 * 64 := by
      have a1 := Int.mul_le_mul_of_nonneg_right f1 (show 0 ≤ t by omega)
      have a2 := Int.mul_le_mul_of_nonneg_left (show t ≤ 64 by omega) (show (0 : Int) ≤ 65536 by omega)
      omega
    have := Int.mul_nonneg f0 (show 0 ≤ t by omega)
    omega)
  have hw2 : IntKind.i64.wrap (q + 1) = q + 1 := IntWalk.i64_in _ (by omega)
  have hw3 : IntKind.i64.wrap ((q + 1) * t) = (q + 1) * t := IntWalk.i64_in _ (by
    have : (q + 1) * t ≤ 65537 * 64 := by
      have a1 := Int.mul_le_mul_of_nonneg_right (show q + 1 ≤ 65537 by omega) (show 0 ≤ t by omega)
      have a2 := Int.mul_le_mul_of_nonneg_left (show t ≤ 64 by omega) (show (0 : Int) ≤ 65537 by omega)
      omega
    have := Int.mul_nonneg (show 0 ≤ q + 1 by omega) (show 0 ≤ t by omega)
    omega)
  by_cases hq : q = 65536
  · subst hq
    go_wp2_with fail
    with_reducible refine (FIN.out _ HF4.out).mono ?_
    rintro e w5 ⟨rfl, hf5⟩
    have HF5 := Lib.hid hf5
    clear hf5
    go_wp2
    go_ret
    exact ⟨rfl, HF5.out⟩
  · have hqb : (q == 65536) = false := by simpa using hq
    have f4 : sm < (q + 1) * t := by omega
    clear f3
    go_wp2_with fail
    with_reducible refine (FIN.out _ HF4.out).mono ?_
    rintro e w5 ⟨rfl, hf5⟩
    have HF5 := Lib.hid hf5
    clear hf5
    go_wp2
    go_ret
    exact ⟨rfl, HF5.out⟩
end Go.Proofs.YtfnggbnacdbcpaaDoor
