/-
  Layer 16: the laws SettingsLast, SettingsBack.
-/
import Derived.Test.YtfnggbnacdbcpaaDoorSet3
namespace Go.Proofs.YtfnggbnacdbcpaaDoor
set_option linter.unusedVariables false
open Go.RowKit Go.ChangeShapes Go.WideShapes Go.Deep
section
variable {H : Type} {enc : TypeId × Value → H} {w : World} {base : Nat} {spare : Nat → Bool} {held : Bool} {v : Value} {d : DataW H} {p : List MemPlace} {r : Reach} {b0 : Nat}
theorem open_pair (hv : Value.okWide Tryd.prog w r b0 31 v) (hd : DataW.Trod enc Tryd.prog w base spare held 31 v d p) :
    ∃ x : Int × Int, v = .agg #[.int .i64 x.1, .int .i64 x.2] ∧ True := by
  obtain ⟨cs, rfl, hl, hq⟩ := Opens.arr (opens_array (sz := 1) Tryd.underlying31 (by kernel_rfl) (by kernel_rfl) (opens_int Tryd.underlying3)) Tryd.underlying31 hv hd
  obtain ⟨x, ex, _⟩ := hq 0 (by omega)
  obtain ⟨y, ey, _⟩ := hq 1 (by omega)
  obtain ⟨l⟩ := cs
  match l, hl with
  | [p, q], _ =>
    simp at ex ey
    exact ⟨(x, y), by rw [ex, ey], trivial⟩
end
/-- A set, a change, a fault, laid one behind the other. -/
structure Trip (g : Nat) (s : SetV) (a b c : Int) (f : Bool) (W : World) : Prop where
  hs : Blk W g 26 s.cells
  hc : Blk W (g + 1) 35 #[.int .i64 a, .int .i64 b]
  hf : Blk W (g + 1 + 1) 38 #[.int .i64 c, .bool f]
theorem Trip.fresh {g : Nat} {s : SetV} {a b c : Int} {f : Bool} {W W' : World} (h : Trip g s a b c f W) (hf : Fresh W W') : Trip g s a b c f W' := ⟨h.hs.fresh hf, h.hc.fresh hf, h.hf.fresh hf⟩
theorem Trip.mk' (w : World) (s : SetV) (a b c : Int) (f : Bool) : Trip w.heap.size s a b c f (((w.alloc (.cells s.cells 26)).alloc (.cells #[.int .i64 a, .int .i64 b] 35)).alloc (.cells #[.int .i64 c, .bool f] 38)) := by
  refine ⟨?_, ?_, ?_⟩
  · exact ((Blk.mkAt rfl).alloc _).alloc _
  · exact (Blk.mkAt (by simp)).alloc _
  · exact Blk.mkAt (by simp)
theorem set1_same (s : SetV) (n v u : Int) : set1 (set1 s n v) n u = set1 s n u := by
  obtain ⟨a, b, c, d, e, f⟩ := s
  have key : (n = 1 ∨ n = 2 ∨ n = 3 ∨ n = 4 ∨ n = 5 ∨ n = 6) ∨ (¬ n = 1 ∧ ¬ n = 2 ∧ ¬ n = 3 ∧ ¬ n = 4 ∧ ¬ n = 5 ∧ ¬ n = 6) := by omega
  rcases key with (rfl | rfl | rfl | rfl | rfl | rfl) | ⟨n1, n2, n3, n4, n5, n6⟩ <;> (simp [set1, *]; done)
theorem set1_comm (s : SetV) (n m v u : Int) (h : n ≠ m) : set1 (set1 s n v) m u = set1 (set1 s m u) n v := by
  obtain ⟨a, b, c, d, e, f⟩ := s
  have key : ∀ k : Int, (k = 1 ∨ k = 2 ∨ k = 3 ∨ k = 4 ∨ k = 5 ∨ k = 6) ∨ (¬ k = 1 ∧ ¬ k = 2 ∧ ¬ k = 3 ∧ ¬ k = 4 ∧ ¬ k = 5 ∧ ¬ k = 6) := fun k => by omega
  rcases key n with (rfl | rfl | rfl | rfl | rfl | rfl) | ⟨n1, n2, n3, n4, n5, n6⟩ <;> rcases key m with (rfl | rfl | rfl | rfl | rfl | rfl) | ⟨m1, m2, m3, m4, m5, m6⟩ <;> first | exact absurd rfl h | (simp [set1, *]; done)
theorem codeS_two {p q : Int × Int} : codeS [p, q] = 0 ↔ wrongC p.1 p.2 = 0 ∧ wrongC q.1 q.2 = 0 := by
  rw [codeS_good]; simp
theorem codeS_one {p : Int × Int} : codeS [p] = 0 ↔ wrongC p.1 p.2 = 0 := by
  rw [codeS_good]; simp
theorem applyR_code {s : SetV} {ps : List (Int × Int)} {r : SetV × Int × Int × Int} (h : applyR s ps = r) (hc : r.2.2.2 = 0) : codeS ps = 0 ∧ r = (setsS s ps, s.wi, (setsS s ps).wi, 0) := by
  unfold applyR at h
  by_cases hz : codeS ps = 0
  · rw [if_pos hz] at h
    exact ⟨hz, h.symm⟩
  · rw [if_neg hz] at h
    subst h
    exact absurd hc hz
theorem okT (w : World) : Calls Tryd.prog 17 #[.agg #[.int .i64 0, .bool false]] w fun e w' => e = .returned (.bool true) ∧ Fresh w w' := by
  go_enter Tryd.func17, Tryd.ntmps17
  go_wp2
  go_ret
  exact ⟨rfl, by repeat (first | with_reducible exact Fresh.refl _ | with_reducible apply Fresh.drewS | with_reducible apply Fresh.allocS)⟩
theorem okF (c : Int) (f : Bool) (w : World) (h : (c == 0) = false) : Calls Tryd.prog 17 #[.agg #[.int .i64 c, .bool f]] w fun e w' => e = .returned (.bool false) ∧ Fresh w w' := by
  go_enter Tryd.func17, Tryd.ntmps17
  go_wp2
  go_ret
  exact ⟨rfl, by repeat (first | with_reducible exact Fresh.refl _ | with_reducible apply Fresh.drewS | with_reducible apply Fresh.allocS)⟩
set_option maxRecDepth 100000 in
set_option maxHeartbeats 6400000 in
theorem SettingsLast_any (x : PsV) (a b : Int × Int) (w : World) (hx : x.Ok w) (ha : True) (hb : True) (hR : Rul w) :
    Calls Tryd.prog 7 #[.slice x.A x.ps.length x.c, .agg #[.int .i64 a.1, .int .i64 a.2], .agg #[.int .i64 b.1, .int .i64 b.2]] w fun en w' => en = .returned (.bool true) ∧ Below w.heap.size w w' := by
  obtain ⟨A, c, ps⟩ := x
  obtain ⟨a0, a1⟩ := a
  obtain ⟨b0, b1⟩ := b
  have hle := hx.le
  have hmax := hx.max
  have HX := Lib.hid hx
  have HR := Lib.hid hR
  simp only at hle hmax ⊢
  unfold maxLen at hmax
  have fin : ∀ W, Fresh w W → Calls Tryd.prog 8 #[] W fun en w' => en = .returned (.bool true) ∧ Fresh w w' := fun W h => (set_awake W (HR.out.fresh h)).mono fun e w' h2 => ⟨h2.1, h.trans h2.2⟩
  have FIN := Lib.hid fin
  clear fin
  clear hx hR ha hb
  by_cases hl : 100 < ps.length
  · have hl' : (100 : Int) < (ps.length : Int) := by omega
    go_enter Tryd.func7, Tryd.ntmps7
    go_wp2_with fail
    with_reducible refine (FIN.out _ ((Fresh.alloc _ _).allocS _)).mono ?_
    rintro e w1 ⟨rfl, hf1⟩
    have HF1 := Lib.hid hf1
    clear hf1
    go_wp2
    go_ret
    exact ⟨rfl, HF1.out⟩
  have hl' : ¬ (100 : Int) < (ps.length : Int) := by omega
  obtain ⟨r, hr⟩ : ∃ r, applyR firstV ps = r := ⟨_, rfl⟩
  have HRR := Lib.hid hr
  clear hr
  obtain ⟨⟨ta, pu, sm, wi, fr, li⟩, c1, c2, cc⟩ := r
  obtain ⟨rx, hrx⟩ : ∃ r, applyR ⟨ta, pu, sm, wi, fr, li⟩ [(a0, a1), (b0, b1)] = r := ⟨_, rfl⟩
  obtain ⟨ry, hry⟩ : ∃ r, applyR ⟨ta, pu, sm, wi, fr, li⟩ [(b0, b1), (a0, a1)] = r := ⟨_, rfl⟩
  obtain ⟨rz, hrz⟩ : ∃ r, applyR ⟨ta, pu, sm, wi, fr, li⟩ [(b0, b1)] = r := ⟨_, rfl⟩
  have HRX := Lib.hid hrx
  have HRY := Lib.hid hry
  have HRZ := Lib.hid hrz
  clear hrx hry hrz
  obtain ⟨⟨x1, x2, x3, x4, x5, x6⟩, xa, xb, xc⟩ := rx
  obtain ⟨⟨y1, y2, y3, y4, y5, y6⟩, ya, yb, yc⟩ := ry
  obtain ⟨⟨z1, z2, z3, z4, z5, z6⟩, za, zb, zc⟩ := rz
  go_enter Tryd.func7, Tryd.ntmps7
  go_upto_region 1 with fail
  refine wp_gen (fun W => Fresh w W ∧ Blk W w.heap.size 31 #[.int .i64 a0, .int .i64 a1] ∧ Blk W (w.heap.size + 1) 31 #[.int .i64 b0, .int .i64 b1]) ⟨(Fresh.alloc _ _).allocS _, (Blk.mkAt rfl).alloc _, Blk.mkAt (by simp)⟩ ?_
  intro W0 ⟨hf0, hba, hbb⟩
  have HF0 := Lib.hid hf0
  have HBA := Lib.hid hba
  have HBB := Lib.hid hbb
  clear hf0 hba hbb
  go_wp2_with fail
  with_reducible refine (set_first _).mono ?_
  rintro e w1 ⟨rfl, hf1⟩
  have HF1 := Lib.hid (HF0.out.trans hf1)
  have HAP := Lib.hid (set_apply firstV A ps c w1 (⟨ta, pu, sm, wi, fr, li⟩, c1, c2, cc) (HR.out.fresh HF1.out) HX.out.le HX.out.max (HX.out.fresh HF1.out).row HRR.out)
  have HA1 := Lib.hid (HBA.out.fresh hf1)
  have HB1 := Lib.hid (HBB.out.fresh hf1)
  clear hf1 HBA HBB HF0
  dsimp only [firstV, SetV.val, fltC] at HAP ⊢
  obtain ⟨cb, hcb⟩ : ∃ cb, decide (cc ≠ 0) = cb := ⟨_, rfl⟩
  rw [hcb] at HAP
  have HCB := Lib.hid hcb
  clear hcb
  go_wp2_with fail
  with_reducible refine HAP.out.mono ?_
  rintro e w2 ⟨rfl, hf2⟩
  have HF2 := Lib.hid (HF1.out.trans hf2)
  have HA2 := Lib.hid (HA1.out.fresh hf2)
  have HB2 := Lib.hid (HB1.out.fresh hf2)
  clear hf2 HAP HA1 HB1 HF1
  go_upto_region 4 with fail
  refine wp_gen (fun W => Fresh w2 W ∧ Trip w2.heap.size ⟨ta, pu, sm, wi, fr, li⟩ c1 c2 cc cb W) ⟨((Fresh.alloc _ _).allocS _).allocS _, Trip.mk' _ _ _ _ _ _⟩ ?_
  intro W1 ⟨hf, hT⟩
  have HG1 := Lib.hid (HF2.out.trans hf)
  have HT1 := Lib.hid hT
  have HA3 := Lib.hid (HA2.out.fresh hf)
  have HB3 := Lib.hid (HB2.out.fresh hf)
  obtain ⟨f0, f1⟩ := hT.hf.c2
  clear hf hT HA2 HB2 HF2
  by_cases hcc : cc = 0
  rotate_left
  · have hc0 : (cc == 0) = false := by simpa using hcc
    have hcbt : cb = true := by rw [← HCB.out]; simpa using hcc
    subst hcbt
    clear hcc
    go_wp2_with (go_at_call 17; go_in)
    with_reducible refine (FIN.out _ (by repeat (first | with_reducible exact HG1.out | with_reducible apply Fresh.drewS | with_reducible apply Fresh.allocS))).mono ?_
    rintro e w1 ⟨rfl, hf1⟩
    have HF1 := Lib.hid hf1
    clear hf1
    go_wp2
    go_ret
    exact ⟨rfl, HF1.out⟩
  subst hcc
  have hcbf : cb = false := by rw [← HCB.out]; rfl
  subst hcbf
  go_upto_region 6 with (go_at_call 17; go_in)
  refine wp_gen (fun W => Fresh W1 W) (by repeat (first | with_reducible exact Fresh.refl _ | with_reducible apply Fresh.drewS | with_reducible apply Fresh.allocS)) ?_
  intro W2 hf
  have HG := Lib.hid (HG1.out.trans hf)
  replace HT1 := Lib.hid (HT1.out.fresh hf)
  replace HA3 := Lib.hid (HA3.out.fresh hf)
  replace HB3 := Lib.hid (HB3.out.fresh hf)
  clear hf HG1 f0 f1
  have HAP := Lib.hid (set_applyN ta pu sm wi fr li (some ⟨W2.heap.size, 0, none⟩) [(a0, a1), (b0, b1)] 2 2 (W2.alloc (.cells #[.int .i64 a0, .int .i64 a1, .int .i64 b0, .int .i64 b1] 31)) (⟨x1, x2, x3, x4, x5, x6⟩, xa, xb, xc) ((HR.out.fresh HG.out).fresh (Fresh.alloc _ _)) rfl (by decide) (by decide) (Many.pr2 (Blk.new _ _ _)) HRX.out)
  dsimp only [SetV.val, fltC] at HAP
  obtain ⟨xf, hcb⟩ : ∃ cb, decide (xc ≠ 0) = cb := ⟨_, rfl⟩
  rw [hcb] at HAP
  have HCX := Lib.hid hcb
  clear hcb
  obtain ⟨k0, k1, k2, k3, k4, k5⟩ := HT1.out.hs.c6
  obtain ⟨p0, p1⟩ := HA3.out.c2
  obtain ⟨q0, q1⟩ := HB3.out.c2
  go_wp2_with fail
  with_reducible refine HAP.out.mono ?_
  rintro e w5 ⟨rfl, hf5⟩
  have hfn := (Fresh.alloc _ _).trans hf5
  clear hf5 HAP k0 k1 k2 k3 k4 k5 p0 p1 q0 q1
  go_upto_region 7 with fail
  refine wp_gen (fun W => Fresh w5 W ∧ Trip w5.heap.size ⟨x1, x2, x3, x4, x5, x6⟩ xa xb xc xf W) ⟨((Fresh.alloc _ _).allocS _).allocS _, Trip.mk' _ _ _ _ _ _⟩ ?_
  intro WX ⟨hf, hT⟩
  have hfn := hfn.trans hf
  replace HG := Lib.hid (HG.out.trans hfn)
  replace HT1 := Lib.hid (HT1.out.fresh hfn)
  replace HA3 := Lib.hid (HA3.out.fresh hfn)
  replace HB3 := Lib.hid (HB3.out.fresh hfn)
  have HTX := Lib.hid hT
  clear hf hT hfn
  have HAP := Lib.hid (set_applyN ta pu sm wi fr li (some ⟨WX.heap.size, 0, none⟩) [(b0, b1), (a0, a1)] 2 2 (WX.alloc (.cells #[.int .i64 b0, .int .i64 b1, .int .i64 a0, .int .i64 a1] 31)) (⟨y1, y2, y3, y4, y5, y6⟩, ya, yb, yc) ((HR.out.fresh HG.out).fresh (Fresh.alloc _ _)) rfl (by decide) (by decide) (Many.pr2 (Blk.new _ _ _)) HRY.out)
  dsimp only [SetV.val, fltC] at HAP
  obtain ⟨yf, hcb⟩ : ∃ cb, decide (yc ≠ 0) = cb := ⟨_, rfl⟩
  rw [hcb] at HAP
  have HCY := Lib.hid hcb
  clear hcb
  obtain ⟨k0, k1, k2, k3, k4, k5⟩ := HT1.out.hs.c6
  obtain ⟨p0, p1⟩ := HA3.out.c2
  obtain ⟨q0, q1⟩ := HB3.out.c2
  go_wp2_with fail
  with_reducible refine HAP.out.mono ?_
  rintro e w5 ⟨rfl, hf5⟩
  have hfn := (Fresh.alloc _ _).trans hf5
  clear hf5 HAP k0 k1 k2 k3 k4 k5 p0 p1 q0 q1
  go_upto_region 8 with fail
  refine wp_gen (fun W => Fresh w5 W ∧ Trip w5.heap.size ⟨y1, y2, y3, y4, y5, y6⟩ ya yb yc yf W) ⟨((Fresh.alloc _ _).allocS _).allocS _, Trip.mk' _ _ _ _ _ _⟩ ?_
  intro WY ⟨hf, hT⟩
  have hfn := hfn.trans hf
  replace HG := Lib.hid (HG.out.trans hfn)
  replace HT1 := Lib.hid (HT1.out.fresh hfn)
  replace HA3 := Lib.hid (HA3.out.fresh hfn)
  replace HB3 := Lib.hid (HB3.out.fresh hfn)
  replace HTX := Lib.hid (HTX.out.fresh hfn)
  have HTY := Lib.hid hT
  clear hf hT hfn
  have HAP := Lib.hid (set_applyN ta pu sm wi fr li (some ⟨WY.heap.size, 0, none⟩) [(b0, b1)] 1 1 (WY.alloc (.cells #[.int .i64 b0, .int .i64 b1] 31)) (⟨z1, z2, z3, z4, z5, z6⟩, za, zb, zc) ((HR.out.fresh HG.out).fresh (Fresh.alloc _ _)) rfl (by decide) (by decide) (Many.pr1 (Blk.new _ _ _)) HRZ.out)
  dsimp only [SetV.val, fltC] at HAP
  obtain ⟨zf, hcb⟩ : ∃ cb, decide (zc ≠ 0) = cb := ⟨_, rfl⟩
  rw [hcb] at HAP
  have HCZ := Lib.hid hcb
  clear hcb
  obtain ⟨k0, k1, k2, k3, k4, k5⟩ := HT1.out.hs.c6
  obtain ⟨p0, p1⟩ := HA3.out.c2
  obtain ⟨q0, q1⟩ := HB3.out.c2
  go_wp2_with fail
  with_reducible refine HAP.out.mono ?_
  rintro e w5 ⟨rfl, hf5⟩
  have hfn := (Fresh.alloc _ _).trans hf5
  clear hf5 HAP k0 k1 k2 k3 k4 k5 p0 p1 q0 q1
  go_upto_region 9 with fail
  refine wp_gen (fun W => Fresh w5 W ∧ Trip w5.heap.size ⟨z1, z2, z3, z4, z5, z6⟩ za zb zc zf W) ⟨((Fresh.alloc _ _).allocS _).allocS _, Trip.mk' _ _ _ _ _ _⟩ ?_
  intro WZ ⟨hf, hT⟩
  have hfn := hfn.trans hf
  replace HG := Lib.hid (HG.out.trans hfn)
  replace HT1 := Lib.hid (HT1.out.fresh hfn)
  replace HA3 := Lib.hid (HA3.out.fresh hfn)
  replace HB3 := Lib.hid (HB3.out.fresh hfn)
  replace HTX := Lib.hid (HTX.out.fresh hfn)
  replace HTY := Lib.hid (HTY.out.fresh hfn)
  have HTZ := Lib.hid hT
  clear hf hT hfn
  obtain ⟨f0, f1⟩ := HTX.out.hf.c2
  have key : ((xc == 0) = false ∧ xf = true) ∨ (xc = 0 ∧ xf = false) := by
    rw [← HCX.out]
    by_cases a : xc = 0 <;> simp [a]
  rcases key with ⟨e1, rfl⟩ | ⟨rfl, rfl⟩
  · go_wp2_with fail
    with_reducible refine (okF xc true _ e1).mono ?_
    rintro e wa ⟨rfl, hfa⟩
    replace HG := Lib.hid (HG.out.trans hfa)
    clear hfa f0 f1
    go_wp2_with fail
    with_reducible refine (FIN.out _ HG.out).mono ?_
    rintro e w1 ⟨rfl, hf1⟩
    have HF1 := Lib.hid hf1
    clear hf1
    go_wp2
    go_ret
    exact ⟨rfl, HF1.out⟩
  go_wp2_with fail
  with_reducible refine (okT _).mono ?_
  rintro e wXk ⟨rfl, hfa⟩
  replace HG := Lib.hid (HG.out.trans hfa)
  replace HA3 := Lib.hid (HA3.out.fresh hfa)
  replace HB3 := Lib.hid (HB3.out.fresh hfa)
  replace HTX := Lib.hid (HTX.out.fresh hfa)
  replace HTY := Lib.hid (HTY.out.fresh hfa)
  replace HTZ := Lib.hid (HTZ.out.fresh hfa)
  clear hfa f0 f1
  obtain ⟨f0, f1⟩ := HTY.out.hf.c2
  have key : ((yc == 0) = false ∧ yf = true) ∨ (yc = 0 ∧ yf = false) := by
    rw [← HCY.out]
    by_cases a : yc = 0 <;> simp [a]
  rcases key with ⟨e1, rfl⟩ | ⟨rfl, rfl⟩
  · go_wp2_with fail
    with_reducible refine (okF yc true _ e1).mono ?_
    rintro e wa ⟨rfl, hfa⟩
    replace HG := Lib.hid (HG.out.trans hfa)
    clear hfa f0 f1
    go_wp2_with fail
    with_reducible refine (FIN.out _ HG.out).mono ?_
    rintro e w1 ⟨rfl, hf1⟩
    have HF1 := Lib.hid hf1
    clear hf1
    go_wp2
    go_ret
    exact ⟨rfl, HF1.out⟩
  go_wp2_with fail
  with_reducible refine (okT _).mono ?_
  rintro e wYk ⟨rfl, hfa⟩
  replace HG := Lib.hid (HG.out.trans hfa)
  replace HA3 := Lib.hid (HA3.out.fresh hfa)
  replace HB3 := Lib.hid (HB3.out.fresh hfa)
  replace HTX := Lib.hid (HTX.out.fresh hfa)
  replace HTY := Lib.hid (HTY.out.fresh hfa)
  replace HTZ := Lib.hid (HTZ.out.fresh hfa)
  clear hfa f0 f1
  obtain ⟨f0, f1⟩ := HTZ.out.hf.c2
  have key : ((zc == 0) = false ∧ zf = true) ∨ (zc = 0 ∧ zf = false) := by
    rw [← HCZ.out]
    by_cases a : zc = 0 <;> simp [a]
  rcases key with ⟨e1, rfl⟩ | ⟨rfl, rfl⟩
  · go_wp2_with fail
    with_reducible refine (okF zc true _ e1).mono ?_
    rintro e wa ⟨rfl, hfa⟩
    replace HG := Lib.hid (HG.out.trans hfa)
    clear hfa f0 f1
    go_wp2_with fail
    with_reducible refine (FIN.out _ HG.out).mono ?_
    rintro e w1 ⟨rfl, hf1⟩
    have HF1 := Lib.hid hf1
    clear hf1
    go_wp2
    go_ret
    exact ⟨rfl, HF1.out⟩
  go_wp2_with fail
  with_reducible refine (okT _).mono ?_
  rintro e wZk ⟨rfl, hfa⟩
  replace HG := Lib.hid (HG.out.trans hfa)
  replace HA3 := Lib.hid (HA3.out.fresh hfa)
  replace HB3 := Lib.hid (HB3.out.fresh hfa)
  replace HTX := Lib.hid (HTX.out.fresh hfa)
  replace HTY := Lib.hid (HTY.out.fresh hfa)
  replace HTZ := Lib.hid (HTZ.out.fresh hfa)
  clear hfa f0 f1
  have hX := (applyR_code HRX.out rfl).2
  have hY := (applyR_code HRY.out rfl).2
  have hZ := (applyR_code HRZ.out rfl).2
  simp only [setsS, List.foldl] at hX hY hZ
  obtain ⟨p0, p1⟩ := HA3.out.c2
  obtain ⟨q0, q1⟩ := HB3.out.c2
  obtain ⟨i0, i1, i2, i3, i4, i5⟩ := HTX.out.hs.c6
  obtain ⟨j0, j1, j2, j3, j4, j5⟩ := HTY.out.hs.c6
  obtain ⟨k0, k1, k2, k3, k4, k5⟩ := HTZ.out.hs.c6
  by_cases hab : a0 = b0
  · subst hab
    have hxz : SetV.mk x1 x2 x3 x4 x5 x6 = SetV.mk z1 z2 z3 z4 z5 z6 := by
      have e1 := congrArg Prod.fst hX
      have e2 := congrArg Prod.fst hZ
      simp only [] at e1 e2
      rw [e1, e2, set1_same]
    simp only [SetV.mk.injEq] at hxz
    obtain ⟨rfl, rfl, rfl, rfl, rfl, rfl⟩ := hxz
    clear hX hY hZ
    have haa : (a0 == a0) = true := by simp
    go_wp2_with fail
    with_reducible refine (FIN.out _ HG.out).mono ?_
    rintro e w1 ⟨rfl, hf1⟩
    have HF1 := Lib.hid hf1
    clear hf1
    go_wp2
    go_ret
    exact ⟨rfl, HF1.out⟩
  · have hab' : (a0 == b0) = false := by simpa using hab
    have hxy : SetV.mk x1 x2 x3 x4 x5 x6 = SetV.mk y1 y2 y3 y4 y5 y6 := by
      have e1 := congrArg Prod.fst hX
      have e2 := congrArg Prod.fst hY
      simp only [] at e1 e2
      rw [e1, e2]
      exact set1_comm _ _ _ _ _ hab
    simp only [SetV.mk.injEq] at hxy
    obtain ⟨rfl, rfl, rfl, rfl, rfl, rfl⟩ := hxy
    clear hX hY hZ hab
    go_wp2_with fail
    with_reducible refine (FIN.out _ HG.out).mono ?_
    rintro e w1 ⟨rfl, hf1⟩
    have HF1 := Lib.hid hf1
    clear hf1
    go_wp2
    go_ret
    exact ⟨rfl, HF1.out⟩
end Go.Proofs.YtfnggbnacdbcpaaDoor
