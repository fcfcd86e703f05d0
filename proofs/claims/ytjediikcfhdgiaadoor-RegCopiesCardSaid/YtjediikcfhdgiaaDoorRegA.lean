/-
  The document's Open and Do of layer 14.
-/
import Derived.Test.YtjediikcfhdgiaaDoorReg9
import Derived.Deep.RegionLaw
namespace Go.Proofs.YtjediikcfhdgiaaDoor
set_option maxRecDepth 100000
set_option linter.unusedVariables false
set_option linter.unusedSimpArgs false
open Go.RowKit
def cntD (l : List DSt) (o : Nat) : Nat := l.countP fun d => decide (d.o = o)
theorem cntD_take (l : List DSt) (o k : Nat) (d : DSt) (h : l[k]? = some d) : cntD (l.take (k + 1)) o = cntD (l.take k) o + (if d.o = o then 1 else 0) := by
  obtain ⟨hk, rfl⟩ := List.getElem?_eq_some_iff.1 h
  rw [List.take_succ_eq_append_getElem hk]
  unfold cntD
  rw [List.countP_append]
  simp [List.countP_cons]
theorem cntD_le (l : List DSt) (o : Nat) : cntD l o ≤ l.length := List.countP_le_length
def ROpP (A : Option Addr) (c : Nat) (l : List DSt) (n : Nat) (q last t : Int) (w : World) (e : Ending) (w' : World) : Prop :=
  Fresh w w' ∧ ((2 * t + 1 ≤ last ∧ e = .returned (.tuple #[.slice A l.length c, .int .i64 25])) ∨
    (last < 2 * t + 1 ∧ q ≤ (cntD l (tenI n t) : Int) ∧ e = .returned (.tuple #[.slice A l.length c, .int .i64 33])) ∨
    (last < 2 * t + 1 ∧ (cntD l (tenI n t) : Int) < q ∧ ∃ A' c', e = .returned (.tuple #[.slice A' (l.length + 1) c', .int .i64 0]) ∧ LD w' A' c' (l ++ [⟨2 * t + 1, tenI n t, ⟨1, 1, 1, 0⟩⟩])))
set_option maxHeartbeats 6400000 in
theorem rf_open (A : Option Addr) (c : Nat) (l : List DSt) (n : Nat) (q last t : Int) (w : World) (h : LD w A c l) (hl : l.length ≤ 10000) (h0 : 0 ≤ t) (h1 : t ≤ 1073741823) (hn1 : 1 ≤ n) (hn2 : n ≤ 64) :
    Calls Tryd.prog 23 #[.slice A l.length c, .int .i64 (n : Int), .int .i64 q, .int .i64 last, .int .i64 t] w (ROpP A c l n q last t w) := by
  have H := Lib.hid h
  have hten := ten_lt (n := n) t hn1
  have hrem : t.tmod (n : Int) = (tenI n t : Int) := by rw [Int.tmod_eq_emod_of_nonneg h0]; exact hten.2
  have HF1 : Hid (∀ W, 2 * t + 1 ≤ last → Fresh w W → ROpP A c l n q last t w (.returned (.tuple #[.slice A l.length c, .int .i64 25])) W) := Lib.hid (fun W a b => ⟨b, .inl ⟨a, rfl⟩⟩)
  have HF2 : Hid (∀ W, last < 2 * t + 1 → q ≤ (cntD l (tenI n t) : Int) → Fresh w W → ROpP A c l n q last t w (.returned (.tuple #[.slice A l.length c, .int .i64 33])) W) := Lib.hid (fun W a b d => ⟨d, .inr (.inl ⟨a, b, rfl⟩)⟩)
  have HF3 : Hid (∀ W A' c', last < 2 * t + 1 → (cntD l (tenI n t) : Int) < q → LD W A' c' (l ++ [⟨2 * t + 1, tenI n t, ⟨1, 1, 1, 0⟩⟩]) → Fresh w W → ROpP A c l n q last t w (.returned (.tuple #[.slice A' (l.length + 1) c', .int .i64 0])) W) := Lib.hid (fun W A' c' a b d e => ⟨e, .inr (.inr ⟨a, b, A', c', rfl, d⟩)⟩)
  have HCL := Lib.hid (cntD_le l (tenI n t))
  have hw1 : IntKind.i64.wrap (2 * t) = 2 * t := IntWalk.i64_in _ (by omega)
  have hw2 : IntKind.i64.wrap (2 * t + 1) = 2 * t + 1 := IntWalk.i64_in _ (by omega)
  have hn0 : ¬ (n : Int) = 0 := by omega
  have hn0b : ((n : Int) == 0) = false := beq_eq_false_iff_ne.2 hn0
  have hn0n : ¬ n = 0 := by omega
  have hle := h.le
  have hmx := h.max
  unfold maxLen at hmx
  obtain ⟨m, hm⟩ : ∃ m, l.length = m := ⟨_, rfl⟩
  have HM := Lib.hid hm
  rw [hm] at HF1 HF2 HF3 HCL hle hl ⊢
  have HMOR := Lib.hid (fun W (hf : Fresh w W) => ds_more (h.fresh hf).rows hm (by omega) hle)
  clear h hm hten h0 h1 hn1 hn2
  generalize hPP : ROpP A c l n q last t w = PP at *
  clear hPP
  generalize hto : tenI n t = o at *
  have HTO := Lib.hid hto
  clear hto
  by_cases hlast : 2 * t + 1 ≤ last
  · have HX := Lib.hid (HF1.out w hlast (Fresh.refl _))
    go_enter Tryd.func23, Tryd.ntmps23
    go_wp2
    exact HX.out
  have dl : decide (2 * t + 1 ≤ last) = false := decide_eq_false hlast
  have HLT : Hid (last < 2 * t + 1) := Lib.hid (by omega)
  clear hlast HF1
  go_enter Tryd.func23, Tryd.ntmps23
  go_wp2
  go_loopw [13, 14] (fun nv iv wr => ∃ k : Nat, k ≤ m ∧ iv = .int .i64 (k : Int) ∧ nv = .int .i64 (cntD (l.take k) o : Int) ∧ Fresh w wr) (fun _ iv _ => m - (intOf iv).toNat)
  case atStart => exact ⟨0, by omega, rfl, by simp [cntD], Fresh.refl _⟩
  case round =>
    obtain ⟨k, hk, rfl, rfl, hf⟩ := hrel
    have HF := Lib.hid hf
    by_cases hlt : k < m
    · have hlt' : (k : Int) < (m : Int) := by omega
      obtain ⟨d, hx⟩ : ∃ d, l[k]? = some d := ⟨_, List.getElem?_eq_getElem (by rw [HM.out]; exact hlt)⟩
      have HCT := Lib.hid (cntD_take l o k d hx)
      have HCK : Hid (cntD (l.take k) o ≤ 10000) := Lib.hid (by
        have h1 := cntD_le (l.take k) o
        rw [List.length_take] at h1
        omega)
      obtain ⟨b, f, rfl, hb, y0, y1, y2, y3, y4, y5⟩ := H.out.at hx
      have e1 := (hf.cell (p := ⟨b, f + k * 6 + 1, none⟩) hb).trans y1
      clear y0 y1 y2 y3 y4 y5 hb hx hf
      obtain ⟨z, hz⟩ : ∃ z, cntD (l.take k) o = z := ⟨_, rfl⟩
      rw [hz] at HCT HCK ⊢
      clear hz
      obtain ⟨_, d0, _⟩ := d
      simp only at e1 HCT
      have hwz : IntKind.i64.wrap ((z : Int) + 1) = (z : Int) + 1 := IntWalk.i64_in _ (by have := HCK.out; omega)
      by_cases hd : d0 = o
      · have hdd : ((d0 : Int) == (o : Int)) = true := by rw [hd]; simp
        have hdd2 : (d0 : Int) = (o : Int) := by rw [hd]
        have HC2 : Hid (cntD (l.take (k + 1)) o = z + 1) := Lib.hid (by rw [HCT.out, if_pos hd])
        clear hd HCT
        go_upto_region 8 with fail
        go_quiet (fail)
        all_goals
          go_wp2_with fail
          go_roundw
          case rel => exact ⟨k + 1, by omega, by go_num, by rw [HC2.out]; go_num, by first | exact HF.out | exact HF.out.trans (Fresh.drewN _ _) | exact HF.out.trans (Fresh.drew _)⟩
          case measure => simp [intOf]; omega
      · have hdd : ((d0 : Int) == (o : Int)) = false := beq_eq_false_iff_ne.2 (by omega)
        have hdd2 : ¬ (d0 : Int) = (o : Int) := by omega
        have hdd3 : ¬ d0 = o := hd
        have HC2 : Hid (cntD (l.take (k + 1)) o = z) := Lib.hid (by rw [HCT.out, if_neg hd, Nat.add_zero])
        clear hd HCT
        go_upto_region 8 with fail
        go_quiet (fail)
        all_goals
          go_wp2_with fail
          go_roundw
          case rel => exact ⟨k + 1, by omega, by go_num, by rw [HC2.out], by first | exact HF.out | exact HF.out.trans (Fresh.drewN _ _) | exact HF.out.trans (Fresh.drew _)⟩
          case measure => simp [intOf]; omega
    · obtain rfl : k = m := by omega
      have hnk : ¬ (k : Int) < (k : Int) := by omega
      have hfull : l.take k = l := List.take_of_length_le (by rw [HM.out]; exact Nat.le_refl _)
      rw [hfull]
      obtain ⟨z, hz⟩ : ∃ z, cntD l o = z := ⟨_, rfl⟩
      rw [hz] at HF2 HF3 HCL ⊢
      clear hz hf hfull
      by_cases hq : q ≤ (z : Int)
      · have HX := Lib.hid (HF2.out wr HLT.out hq HF.out)
        go_wp2
        exact HX.out
      · have dq : decide (q ≤ (z : Int)) = false := decide_eq_false hq
        have HQ : Hid ((z : Int) < q) := Lib.hid (by omega)
        obtain ⟨A1, c1, w1, hap, hown, hf1⟩ := HMOR.out wr HF.out
        have HF1 := Lib.hid (HF.out.trans hf1)
        have HOW := Lib.hid hown
        have HF11 := Lib.hid hf1
        clear hq hown hf1
        go_upto_region 14 with (at_builtin; refine wp_app rfl (.tmp 46) (.tmp 47) _ rfl hap rfl rfl rfl ?_)
        clear hap
        go_wp2_with fail
        with_reducible refine (ref_new _).mono ?_
        rintro e w2 ⟨rfl, hf2⟩
        have HF2' := Lib.hid (HF11.out.trans hf2)
        have HRD : Hid (∀ W, Calls Tryd.prog 38 #[.agg #[.int .i64 0, .int .i64 1, .int .i64 1, .int .i64 0], .int .i64 0] W fun en w' => en = .returned (.tuple #[.agg #[.int .i64 1, .int .i64 1, .int .i64 1, .int .i64 0], .int .i64 0]) ∧ Fresh W w') := Lib.hid (fun W => ref_do ⟨0, 1, 1, 0⟩ 0 W (by decide) (by decide) (by decide))
        have HO2 := Lib.hid (HOW.out.fresh hf2)
        clear hf2
        unfold RS.v
        go_wp2_with fail
        with_reducible refine (HRD.out _).mono ?_
        rintro e w3 ⟨rfl, hf3⟩
        have HF3' := Lib.hid (HF2'.out.trans hf3)
        have HO3 := Lib.hid (HO2.out.fresh hf3)
        clear hf3
        go_upto_region 15 with fail
        obtain ⟨sb, hsb⟩ : ∃ sb, w3.heap.size = sb := ⟨_, rfl⟩
        rw [hsb]
        refine wp_gen (fun W => Fresh w3 W ∧ Blk W sb 46 #[.int .i64 1, .int .i64 1, .int .i64 1, .int .i64 0]) ⟨Fresh.alloc _ _, Blk.mkAt hsb⟩ ?_
        clear hsb
        rintro W4 ⟨hf4, hb4⟩
        obtain ⟨s0, s1, s2, s3⟩ := hb4.c4
        have hO4 := (HO3.out.fresh hf4).fresh (Fresh.drew W4)
        have HF4 := Lib.hid ((HF.out.trans HF3'.out).trans hf4)
        have hbase : wr.heap.size ≤ W4.drew.heap.size := Nat.le_trans HF3'.out.size (Nat.le_trans hf4.size (Fresh.drew W4).size)
        obtain ⟨A5, c5, w5, hap, hown5, ho5⟩ := ds_push ⟨2 * t + 1, o, ⟨1, 1, 1, 0⟩⟩ k hO4 hbase (by omega)
        have hap' : (Builtin.append_ #[31, 31] 31 #[.slice A1 k c1, .slice (some ⟨W4.heap.size, 0, none⟩) 1 1]).run Tryd.prog (W4.alloc (.cells #[.int .i64 (2 * t + 1), .int .i64 (o : Int), .int .i64 1, .int .i64 1, .int .i64 1, .int .i64 0] 48)).drew = .ok (.slice A5 (k + 1) c5) w5 := hap
        have HLD : Hid (LD w5 A5 c5 (l ++ [⟨2 * t + 1, o, ⟨1, 1, 1, 0⟩⟩])) := Lib.hid (LD.of hown5 (by rw [List.length_append, HM.out]; rfl))
        have HF5 : Hid (Fresh w w5) := Lib.hid (Below.trans (HF4.out.trans (Fresh.drew W4)) (Only.below ho5 (HF4.out.trans (Fresh.drew W4)).size (fun b e => by
          have := (hO4.lt b e).1
          have := HF.out.size
          omega)))
        have HX := Lib.hid (HF3.out w5 A5 c5 HLT.out HQ.out HLD.out HF5.out)
        clear hap hown5 ho5 hO4 hbase hf4 hb4
        obtain ⟨hs4, hhs4⟩ : ∃ z, W4.heap.size = z := ⟨_, rfl⟩
        rw [hhs4] at hap'
        go_region_law (with_reducible refine step_app rfl (.tmp 54) (.tmp 61) _ rfl hap' rfl (by simp [Act.eval, Act.put]) (by simp [Act.eval, Act.put]) ?_)
        all_goals
          go_wp2_with fail
          first | exact HX.out | (go_ret2; exact HX.out)
end Go.Proofs.YtjediikcfhdgiaaDoor

