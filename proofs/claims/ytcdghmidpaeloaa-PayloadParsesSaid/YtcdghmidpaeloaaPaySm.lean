/-
  The laws of layer 10: same.
-/
import Derived.Test.YtcdghmidpaeloaaPayV
import Derived.Test.YtcdghmidpaeloaaPayG
import Derived.Test.YtcdghmidpaeloaaPayI
import Derived.BigQuiet
import Derived.Deep.RegionHeld3
namespace Go.Proofs.Ytcdghmidpaeloaa
set_option maxRecDepth 100000
set_option linter.unusedVariables false
set_option linter.unusedSimpArgs false
open Go.RowKit
theorem l10_number (x : Bool) (w : World) : Calls Try.prog 20 #[.bool x] w fun e w' => e = .returned (.int .i64 (b2i x)) ∧ w' = w := by
  cases x
  · go_enter Try.func20, Try.ntmps20
    go_wp2
    go_ret
    exact ⟨rfl, rfl⟩
  · go_enter Try.func20, Try.ntmps20
    go_wp2
    go_ret
    exact ⟨rfl, rfl⟩
structure TS (w : World) (b : Nat) (xs ys : Array Value) (W : World) : Prop where
  b1 : Blk W b 28 xs
  b2 : Blk W (b + 1) 35 ys
  fr : Fresh w W
theorem TS.fresh {w : World} {b : Nat} {xs ys : Array Value} {W W' : World} (h : TS w b xs ys W) (hf : Fresh W W') : TS w b xs ys W' := ⟨h.b1.fresh hf, h.b2.fresh hf, h.fr.trans hf⟩
set_option maxHeartbeats 6400000 in
theorem l10_same (ty st : Int) (A : Option Addr) (c : Nat) (l : List UInt8) (en eh ak : Bool) (fl co la inc de we : Int) (wd ex : Bool) (PA : Option Addr) (pc : Nat) (ps : List (Int × Int)) (QA : Option Addr) (qc n : Nat) (w : World) (hA : BS w A l) (hP : Many pairC 2 w PA ps) (hQ : Many pairC 2 w QA ps) (hn : ps.length = n) (hm : n ≤ 1000) :
    Calls Try.prog 12 #[.agg #[.int .i64 ty, .int .i64 st, .slice A l.length c, .bool en, .bool eh, .bool ak, .int .i64 fl, .int .i64 co, .int .i64 la, .int .i64 inc, .int .i64 de, .int .i64 we, .bool wd, .bool ex, .slice PA n pc], .agg (dI ty st fl (strB l) (b2i en) (b2i eh) (b2i ak) co la inc de we (b2i wd) (b2i ex) QA n qc)] w (EqP true w) := by
  have HA := Lib.hid hA
  have HP := Lib.hid hP
  have HQ := Lib.hid hQ
  have HN := Lib.hid hn
  have HSL : Hid (∀ W, BS W A l → (convert 22 9 (.slice A l.length c)).run Try.prog W = .ok (.string (strB l)) W) := Lib.hid (fun W h => run_str h _ _ _ Try.underlying22 Try.underlying5 Try.underlying9 c)
  clear hA hP hQ hn
  generalize strB l = S at *
  unfold dI
  go_enter Try.func12, Try.ntmps12
  go_upto_region 1 with fail
  refine wp_gen (TS w w.heap.size #[.int .i64 ty, .int .i64 st, .slice A l.length c, .bool en, .bool eh, .bool ak, .int .i64 fl, .int .i64 co, .int .i64 la, .int .i64 inc, .int .i64 de, .int .i64 we, .bool wd, .bool ex, .slice PA n pc] #[.int .i64 ty, .int .i64 st, .string S, .int .i64 (b2i en), .int .i64 (b2i eh), .int .i64 (b2i ak), .int .i64 fl, .int .i64 co, .int .i64 la, .int .i64 inc, .int .i64 de, .int .i64 we, .int .i64 (b2i wd), .int .i64 (b2i ex), .slice QA n qc]) ⟨(Blk.new _ _ _).alloc _, Blk.mkAt (by simp), (Fresh.alloc _ _).allocS _⟩ ?_
  intro W0 hW
  obtain ⟨b, hb⟩ : ∃ b, w.heap.size = b := ⟨_, rfl⟩
  have HB := Lib.hid hb
  rw [hb] at hW ⊢
  have HW := Lib.hid hW
  clear hW hb
  have x14 := HW.out.b1.cell 14
  have y14 := HW.out.b2.cell 14
  simp only [List.getElem?_toArray, List.getElem?_cons_zero, List.getElem?_cons_succ] at x14 y14
  go_upto_region 4 with fail
  go_loopw [19] (fun i wr => ∃ k : Nat, k ≤ n ∧ i = .int .i64 (k : Int) ∧ Fresh W0 wr) (fun i _ => n - (intOf i).toNat)
  case atStart => exact ⟨0, by omega, rfl, Fresh.refl _⟩
  case round =>
    obtain ⟨k, hk, rfl, hf⟩ := hrel
    have HF := Lib.hid hf
    clear hf x14 y14
    have HW2 := Lib.hid (HW.out.fresh HF.out)
    have x14 := HW2.out.b1.cell 14
    have y14 := HW2.out.b2.cell 14
    simp only [List.getElem?_toArray, List.getElem?_cons_zero, List.getElem?_cons_succ] at x14 y14
    by_cases hlt : k < n
    · have hlt' : (k : Int) < (n : Int) := by omega
      obtain ⟨⟨a, a2⟩, hxk⟩ : ∃ x, ps[k]? = some x := ⟨_, List.getElem?_eq_getElem (by rw [HN.out]; exact hlt)⟩
      obtain ⟨g, o, rfl, hg, hcc⟩ := HP.out.at k (a, a2) hxk
      obtain ⟨g', o', rfl, hg', hcc'⟩ := HQ.out.at k (a, a2) hxk
      have hfw := HW2.out.fr
      have q0 := (hfw.cell (p := ⟨g, o + k * 2 + 0, none⟩) hg).trans (hcc 0 (by omega))
      have q1 := (hfw.cell (p := ⟨g, o + k * 2 + 1, none⟩) hg).trans (hcc 1 (by omega))
      have r0 := (hfw.cell (p := ⟨g', o' + k * 2 + 0, none⟩) hg').trans (hcc' 0 (by omega))
      have r1 := (hfw.cell (p := ⟨g', o' + k * 2 + 1, none⟩) hg').trans (hcc' 1 (by omega))
      simp only [pairC, List.getElem?_cons_zero, List.getElem?_cons_succ, Nat.add_zero] at q0 q1 r0 r1
      have hE : ∀ W, (Op.equalIn 10000 52 (.agg #[.int .i64 a, .int .i64 a2]) (.agg #[.int .i64 a, .int .i64 a2])).run Try.prog W = .ok true W := fun W => by
        have := run_equalIn_ints (P := Try.prog) Try.underlying52 Try.underlying3 (by kernel_rfl) 9998 [a, a2] [a, a2] rfl rfl W
        rwa [decide_eq_true rfl] at this
      clear hcc hcc' hxk hg hg' hfw
      go_wp2_with fail
      go_quiet (fail)
      go_wp2_with fail
      go_roundw
      case rel => exact ⟨k + 1, by omega, by go_num, HF.out.trans (Fresh.drewN _ _)⟩
      case measure => simp only [intOf]; omega
    · obtain rfl : k = n := by omega
      clear x14 y14
      have hx := HW2.out.b1.cell
      have hy := HW2.out.b2.cell
      have x0 := hx 0
      have y0 := hy 0
      have x1 := hx 1
      have y1 := hy 1
      have x6 := hx 6
      have y6 := hy 6
      have x7 := hx 7
      have y7 := hy 7
      have x8 := hx 8
      have y8 := hy 8
      have x9 := hx 9
      have y9 := hy 9
      have x10 := hx 10
      have y10 := hy 10
      have x11 := hx 11
      have y11 := hy 11
      simp only [List.getElem?_toArray, List.getElem?_cons_zero, List.getElem?_cons_succ] at x0 y0 x1 y1 x6 y6 x7 y7 x8 y8 x9 y9 x10 y10 x11 y11
      clear hx hy
      go_upto_region 10 with (first | (refine wp_storeB rfl (.tmp 6) (.tmp 50) _ rfl rfl rfl (Blk.new _ _ _) (by kernel_rfl) rfl (by simp [Value.oneCell']) ?_) | fail)
      intro W6 hb6 ho6
      have hf6 : Fresh wr W6 := Only.fresh ((Only.of_fresh (Fresh.alloc _ _)).trans ho6) (fun i hi e => by omega)
      have HB6 := Lib.hid hb6
      obtain ⟨p6, hp6⟩ : ∃ p, wr.heap.size = p := ⟨_, rfl⟩
      rw [hp6] at HB6 ⊢
      have HW3 := Lib.hid (HW2.out.fresh hf6)
      clear hb6 ho6 hf6 hp6 x0 y0 x1 y1 x6 y6 x7 y7 x8 y8 x9 y9 x10 y10 x11 y11
      have hx := HW3.out.b1.cell
      have hy := HW3.out.b2.cell
      have x0 := hx 0
      have y0 := hy 0
      have x1 := hx 1
      have y1 := hy 1
      have x6 := hx 6
      have y6 := hy 6
      have x7 := hx 7
      have y7 := hy 7
      have x8 := hx 8
      have y8 := hy 8
      have x9 := hx 9
      have y9 := hy 9
      have x10 := hx 10
      have y10 := hy 10
      have x11 := hx 11
      have y11 := hy 11
      simp only [List.getElem?_toArray, List.getElem?_cons_zero, List.getElem?_cons_succ] at x0 y0 x1 y1 x6 y6 x7 y7 x8 y8 x9 y9 x10 y10 x11 y11
      clear hx hy
      go_upto_region 11 with (first | (refine wp_storeB rfl (.tmp 7) (.tmp 67) _ rfl rfl rfl (Blk.new _ _ _) (by kernel_rfl) rfl (by simp [Value.oneCell']) ?_) | fail)
      intro W7 hb7 ho7
      have hf7 : Fresh W6 W7 := Only.fresh ((Only.of_fresh (Fresh.alloc _ _)).trans ho7) (fun i hi e => by omega)
      have HB7 := Lib.hid hb7
      obtain ⟨p7, hp7⟩ : ∃ p, W6.heap.size = p := ⟨_, rfl⟩
      rw [hp7] at HB7 ⊢
      have HB6 := Lib.hid (HB6.out.fresh hf7)
      have HW4 := Lib.hid (HW3.out.fresh hf7)
      clear hb7 ho7 hf7 hp7 HW3 x0 y0 x1 y1 x6 y6 x7 y7 x8 y8 x9 y9 x10 y10 x11 y11
      have HSK : Hid (∀ w', Fresh W7 w' → w'.cell? ⟨b, 3, none⟩ = some (.bool en) ∧ w'.cell? ⟨b, 4, none⟩ = some (.bool eh) ∧ w'.cell? ⟨b, 5, none⟩ = some (.bool ak) ∧ w'.cell? ⟨b, 12, none⟩ = some (.bool wd) ∧ w'.cell? ⟨b, 13, none⟩ = some (.bool ex) ∧ Fresh W7 w') := Lib.hid (fun w' hw => ⟨(HW4.out.b1.fresh hw).cell 3, (HW4.out.b1.fresh hw).cell 4, (HW4.out.b1.fresh hw).cell 5, (HW4.out.b1.fresh hw).cell 12, (HW4.out.b1.fresh hw).cell 13, hw⟩)
      obtain ⟨x3, x4, x5, x12, x13, _⟩ := HSK.out W7 (Fresh.refl _)
      go_upto_region 11 with fail
      go_region_held3 (fun w' => w'.cell? ⟨b, 3, none⟩ = some (.bool en) ∧ w'.cell? ⟨b, 4, none⟩ = some (.bool eh) ∧ w'.cell? ⟨b, 5, none⟩ = some (.bool ak) ∧ w'.cell? ⟨b, 12, none⟩ = some (.bool wd) ∧ w'.cell? ⟨b, 13, none⟩ = some (.bool ex) ∧ Fresh W7 w')
        ((refine HSK.out _ ?_; repeat (first | with_reducible exact Fresh.refl _ | with_reducible assumption | with_reducible refine Fresh.drewS ?_ | with_reducible refine Fresh.allocS ?_ _)))
        (first | (go_at_call 20; (with_reducible refine (l10_number _ _).mono ?_); rintro e w2 ⟨rfl, rfl⟩))
      all_goals
        refine wx_gen (fun W => Fresh W7 W ∧ Blk W W7.heap.size 55 #[.int .i64 (b2i en), .int .i64 (b2i eh), .int .i64 (b2i ak), .int .i64 (b2i wd), .int .i64 (b2i ex)]) ⟨by repeat (first | with_reducible exact Fresh.refl _ | with_reducible refine Fresh.drewS ?_ | with_reducible refine Fresh.allocS ?_ _), (Blk.new _ _ _).drew⟩ ?_
        rintro W8 ⟨hf8, hb8⟩
        obtain ⟨p8, hp8⟩ : ∃ p, W7.heap.size = p := ⟨_, rfl⟩
        rw [hp8] at hb8 ⊢
        have HF8 := Lib.hid hf8
        have HB8 := Lib.hid hb8
        have HWZ := Lib.hid (HW4.out.fresh hf8)
        have hb6 := HB6.out.fresh hf8
        have hb7 := HB7.out.fresh hf8
        clear hp8 hf8
        obtain ⟨z0, z1, z2, z3, z4⟩ := hb8.c5
        have hx := HWZ.out.b1.cell
        have hy := HWZ.out.b2.cell
        have x2 := hx 2
        have y2 := hy 2
        have y3 := hy 3
        have y4 := hy 4
        have y5 := hy 5
        have y12 := hy 12
        have y13 := hy 13
        simp only [List.getElem?_toArray, List.getElem?_cons_zero, List.getElem?_cons_succ] at x2 y2 y3 y4 y5 y12 y13
        clear hx hy
        have st1 := HSL.out W8 (HA.out.fresh HWZ.out.fr)
        have hNN : ∀ W, (Op.equalIn 10000 53 (.agg #[.int .i64 ty, .int .i64 st, .int .i64 fl, .int .i64 co, .int .i64 la, .int .i64 inc, .int .i64 de, .int .i64 we]) (.agg #[.int .i64 ty, .int .i64 st, .int .i64 fl, .int .i64 co, .int .i64 la, .int .i64 inc, .int .i64 de, .int .i64 we])).run Try.prog W = .ok true W := fun W => by
          have := run_equalIn_ints (P := Try.prog) Try.underlying53 Try.underlying3 (by kernel_rfl) 9998 [ty, st, fl, co, la, inc, de, we] [ty, st, fl, co, la, inc, de, we] rfl rfl W
          rwa [decide_eq_true rfl] at this
        have hMM : ∀ W, (Op.equalIn 10000 55 (.agg #[.int .i64 (b2i en), .int .i64 (b2i eh), .int .i64 (b2i ak), .int .i64 (b2i wd), .int .i64 (b2i ex)]) (.agg #[.int .i64 (b2i en), .int .i64 (b2i eh), .int .i64 (b2i ak), .int .i64 (b2i wd), .int .i64 (b2i ex)])).run Try.prog W = .ok true W := fun W => by
          have := run_equalIn_ints (P := Try.prog) Try.underlying55 Try.underlying3 (by kernel_rfl) 9998 [b2i en, b2i eh, b2i ak, b2i wd, b2i ex] [b2i en, b2i eh, b2i ak, b2i wd, b2i ex] rfl rfl W
          rwa [decide_eq_true rfl] at this
        clear hb8 x3 x4 x5 x12 x13
        go_wp2_with (first | (refine wp_loadB rfl (.tmp 6) _ rfl rfl hb6 (by kernel_rfl) (fun w => by simp [isAgg, go_sem]) ?_) | (refine wp_loadB rfl (.tmp 7) _ rfl rfl hb7 (by kernel_rfl) (fun w => by simp [isAgg, go_sem]) ?_) | fail)
        go_ret
        exact ⟨rfl, HWZ.out.fr⟩
end Go.Proofs.Ytcdghmidpaeloaa

