/-
  The laws of layer 22: small, own; RequestTrailers.
-/
import Derived.Test.YtapikjhfgcbifaaGreatDoorReqH
import Derived.Test.YtapikjhfgcbifaaGreatDoorClnJ
import Derived.Test.YtapikjhfgcbifaaGreatDoorLnEq
namespace Go.Proofs.YtapikjhfgcbifaaGreatDoor
set_option maxRecDepth 100000
set_option linter.unusedVariables false
set_option linter.unusedSimpArgs false
open Go.RowKit
def SmlQ (l : List FldT) (w : World) (e : Ending) (w' : World) : Prop := ∃ r : Bool, e = .returned (.bool r) ∧ (r = true → sum21 l ≤ 1000) ∧ Fresh w w'
def RqQ (w : World) (e : Ending) (w' : World) : Prop := e = .returned (.bool true) ∧ Fresh w w'
set_option maxHeartbeats 6400000 in
theorem l22_small (A0 : Option Addr) (c0 : Nat) (l : List FldT) (w : World) (hm : Many fldD 2 w A0 l) (hl : l.length ≤ 140737488351232) (hok : ∀ f ∈ l, FldT.Ok w f) :
    Calls Tryz.prog 23 #[.slice A0 l.length c0] w (SmlQ l w) := by
  have HM := Lib.hid hm
  have HO := Lib.hid hok
  have HYES : Hid (∀ w', sum21 l ≤ 1000 → Fresh w w' → SmlQ l w (.returned (.bool true)) w') := Lib.hid (fun w' h hf => ⟨true, rfl, fun _ => h, hf⟩)
  have HNO : Hid (∀ w', Fresh w w' → SmlQ l w (.returned (.bool false)) w') := Lib.hid (fun w' hf => ⟨false, rfl, (fun h => by cases h), hf⟩)
  clear hm hok
  generalize SmlQ l w = FP at *
  go_enter Tryz.func23, Tryz.ntmps23
  go_wp2_with fail
  go_loopw [3, 8] (fun s i wr => ∃ k : Nat, k ≤ l.length ∧ i = .int .i64 (k : Int) ∧ s = .int .i64 (sum21 (l.take k) : Int) ∧ sum21 (l.take k) ≤ 1000 ∧ Fresh w wr) (fun _ i _ => l.length - (intOf i).toNat)
  case atStart => exact ⟨0, by omega, rfl, rfl, by simp [sum21], Fresh.refl _⟩
  case round =>
    obtain ⟨k, hk, rfl, rfl, hs, hfr⟩ := hrel
    have HFR := Lib.hid hfr
    by_cases hlt : k < l.length
    · obtain ⟨f, hx⟩ : ∃ f, l[k]? = some f := ⟨_, List.getElem?_eq_getElem hlt⟩
      obtain ⟨b, o, rfl, hb, g0, g1⟩ := HM.out.fdAt k f hx
      have e0 := (hfr.cell (p := ⟨b, o + k * 2, none⟩) hb).trans g0
      have e1 := (hfr.cell (p := ⟨b, o + k * 2 + 1, none⟩) hb).trans g1
      have HT := Lib.hid (sum21_take hx)
      obtain ⟨o1, o2⟩ := HO.out f (List.mem_of_getElem? hx)
      obtain ⟨n1, n2, n3, n4, n5, n6⟩ := sm_nums (show sum21 (l.take k) ≤ 2000 by omega) o1 o2 hlt hl
      have HN4 := Lib.hid n4
      unfold sz5 at HT
      have HS := Lib.hid hs
      obtain ⟨f1, f2⟩ := f
      simp only at e0 e1 n1 n2 n3 HT HN4
      clear hx g0 g1 hfr o1 o2 n4 hs
      obtain ⟨s0, hs0⟩ : ∃ s0, sum21 (l.take k) = s0 := ⟨_, rfl⟩
      rw [hs0] at n3 HT HN4 HS ⊢
      clear hs0
      go_upto_region 5 with fail
      refine wp_gen (fun W => Blk W wr.heap.size 29 #[.string f1, .string f2] ∧ Fresh wr W) ⟨Blk.new wr _ _, Fresh.alloc _ _⟩ ?_
      rintro W ⟨hbw, hfw⟩
      obtain ⟨p, hp⟩ : ∃ p, wr.heap.size = p := ⟨_, rfl⟩
      rw [hp] at hbw ⊢
      clear hp e0 e1
      obtain ⟨y0, y1⟩ := hbw.c2
      have HFW := Lib.hid hfw
      clear hbw hfw
      by_cases hbig : s0 + (5 + f1.size + f2.size) ≤ 1000
      · have d0 : decide ((1000 : Int) < (s0 : Int) + (5 + (f1.size : Int) + (f2.size : Int))) = false := decide_eq_false (by omega)
        have HBG := Lib.hid hbig
        clear hbig
        go_wp2
        go_roundw
        case rel => exact ⟨k + 1, by omega, by go_num, by rw [HT.out, HN4.out], by rw [HT.out]; exact HBG.out, HFR.out.trans HFW.out⟩
        case measure => simp [intOf]; omega
      · have d0 : (1000 : Int) < (s0 : Int) + (5 + (f1.size : Int) + (f2.size : Int)) := by omega
        have HQ := Lib.hid (HNO.out W (HFR.out.trans HFW.out))
        clear hbig
        go_wp2
        exact HQ.out
    · obtain rfl : k = l.length := by omega
      have HQ := Lib.hid (HYES.out wr (by rw [List.take_length] at hs; exact hs) hfr)
      clear hfr hs
      have hlt' : ¬ (l.length : Int) < (l.length : Int) := by omega
      go_wp2_with fail
      exact HQ.out
set_option maxHeartbeats 1600000 in
theorem l22_own (x : LnD) (r : Bool) (hr : ownB x = r) (hx : x.1.1.size ≤ 4611686018427387904) (w : World) : Calls Tryz.prog 25 #[.agg #[.string x.1.1, .string x.1.2, .bool x.2]] w fun e w' => e = .returned (.bool r) ∧ Fresh w w' := by
  obtain ⟨⟨f1, f2⟩, nv⟩ := x
  unfold ownB at hr
  simp only at hr hx ⊢
  by_cases h0 : f1.size = 0
  · have hl : f1.data.toList = [] := by
      have := Lib.size_eq f1
      exact List.length_eq_zero_iff.1 (by omega)
    rw [hl] at hr
    have hrr : r = false := hr.symm
    subst hrr
    have d0 : decide ((0 : Int) < (f1.size : Int)) = false := decide_eq_false (by omega)
    have d1 : decide (0 < f1.size) = false := decide_eq_false (by omega)
    clear h0 hl hr
    go_enter Tryz.func25, Tryz.ntmps25
    go_wp2_with fail
    go_ret
    exact ⟨rfl, Fresh.alloc _ _⟩
  · have h1 : 0 < f1.size := by omega
    obtain ⟨c, hc⟩ : ∃ c : UInt8, f1[0]'h1 = c := ⟨_, rfl⟩
    have hl : f1.data.toList[0]? = some c := by rw [← hc]; exact Lib.data_getElem? f1 0 h1
    have hr2 : (c == 58) = r := by
      rw [← hr]
      cases hd : f1.data.toList with
      | nil => rw [hd] at hl; cases hl
      | cons y t =>
        rw [hd] at hl
        simp at hl
        subst hl
        rfl
    have d0 : (0 : Int) < (f1.size : Int) := by omega
    have hr3 : ((c.toNat : Int) == 58) = r := by
      rw [← hr2]
      by_cases e : c = 58
      · subst e; rfl
      · have : c.toNat ≠ 58 := fun h => e (UInt8.toNat_inj.1 h)
        rw [beq_eq_false_iff_ne.2 e]
        exact beq_eq_false_iff_ne.2 (by omega)
    clear hr hr2 hl h0
    cases r
    all_goals
      go_enter Tryz.func25, Tryz.ntmps25
      go_wp2_with fail
      go_ret
      exact ⟨by first | rfl | simp [hr3], Fresh.alloc _ _⟩
theorem sum_small {l : List FldT} (h : sum21 l ≤ 1000) : l.length ≤ 200 ∧ ∀ f ∈ l, f.1.size ≤ 1000 ∧ f.2.size ≤ 1000 := ⟨by have := sum21_len l; omega, fun f hf => by
  have := sum21_mem hf
  unfold sz5 at this
  omega⟩
set_option maxHeartbeats 16000000 in
theorem trailers_all (A0 : Option Addr) (c0 : Nat) (xs : List LnD) (w : World) (hm : Many lnD 3 w A0 xs) (hl : xs.length ≤ 8796093022208) (hok : ∀ x ∈ xs, LnD.Ok w x) :
    Calls Tryz.prog 6 #[.slice A0 xs.length c0] w (RqQ w) := by
  have HAW := Lib.hid a22
  have HD1 := Lib.hid (de_fieldsB A0 c0 xs w hm hl)
  have HM := Lib.hid hm
  have HFIN : Hid (∀ W, Fresh w W → RqQ w (.returned (.bool true)) W) := Lib.hid (fun W h => ⟨rfl, h⟩)
  have HOK := Lib.hid hok
  unfold FldsP at HD1
  obtain ⟨n, hn⟩ : ∃ n, xs.length = n := ⟨_, rfl⟩
  have HN := Lib.hid hn
  rw [hn] at HD1 hl ⊢
  clear hm hok hn
  generalize RqQ w = PP at *
  have hnn : ((n : Int) != (n : Int)) = false := by simp
  obtain ⟨fs, hfs⟩ : ∃ fs, xs.map (·.1) = fs := ⟨_, rfl⟩
  rw [hfs] at HD1
  have HFN : Hid (fs.length = n) := Lib.hid (by rw [← hfs, List.length_map, HN.out])
  have HFS := Lib.hid hfs
  have HFO : Hid (∀ f ∈ fs, FldT.Ok w f) := Lib.hid (fun f hf => by
    rw [← hfs] at hf
    obtain ⟨x, hx, rfl⟩ := List.mem_map.1 hf
    exact HOK.out x hx)
  clear hfs
  go_enter Tryz.func6, Tryz.ntmps6
  go_wp2_with fail
  with_reducible refine HD1.out.mono ?_
  rintro e w2 ⟨p, rfl, hp, hmf, hf2⟩
  have HSM := l22_small (some ⟨p, 0, none⟩) n fs w2 hmf (by rw [HFN.out]; omega) (fun f hf => HFO.out f hf)
  rw [HFN.out] at HSM
  unfold SmlQ at HSM
  have HSM := Lib.hid HSM
  have HMF2 := Lib.hid hmf
  have HF2 := Lib.hid hf2
  clear hp hmf hf2 HD1
  go_wp2_with fail
  with_reducible refine HSM.out.mono ?_
  rintro e w3 ⟨r, rfl, hr, hf3⟩
  have HF3 := Lib.hid (HF2.out.trans hf3)
  have HMF := Lib.hid (HMF2.out.fresh hf3)
  have HR := Lib.hid hr
  clear hr hf3 HSM HMF2
  cases r with
  | false =>
    go_wp2_with fail
    with_reducible refine (HAW.out _).mono ?_
    rintro e w4 ⟨rfl, hf4⟩
    have HF4 := Lib.hid (HF3.out.trans hf4)
    clear hf4
    go_wp2_with fail
    exact HFIN.out _ HF4.out
  | true =>
    have hsz := sum_small (HR.out rfl)
    rw [HFN.out] at hsz
    obtain ⟨hn4, hsz⟩ := hsz
    have HVS : Hid (∀ x ∈ xs, x.1.1.size ≤ 1000 ∧ x.1.2.size ≤ 1000) := Lib.hid (fun x hx => hsz x.1 (by rw [← HFS.out]; exact List.mem_map.2 ⟨x, hx, rfl⟩))
    clear HR hl hsz
    have HT := Lib.hid (fun W (h : Fresh w W) => rq_trailers A0 c0 xs W (HM.out.fresh h) (by have := HN.out; omega) (fun x hx => by have := (HVS.out x hx).2; omega))
    have HC := Lib.hid (fun W (h : Fresh w W) => cl_check A0 c0 xs W (HM.out.fresh h) (by have := HN.out; omega) (fun x hx => by have := (HVS.out x hx).2; omega))
    rw [HN.out] at HT HC
    unfold TrlP at HT
    unfold ChkP at HC
    go_wp2_with fail
    with_reducible refine (HT.out _ HF3.out).mono ?_
    rintro e w4 ⟨tn, TA, tk, rfl, htr, hf4⟩
    have HTR := Lib.hid htr
    have HF4 := Lib.hid (HF3.out.trans hf4)
    have HMF4 := Lib.hid (HMF.out.fresh hf4)
    clear htr hf4 HT HMF
    go_wp2_with fail
    go_loopw [28] (fun i wr => ∃ k : Nat, k ≤ n ∧ i = .int .i64 (k : Int) ∧ (∀ (j : Nat) y, j < k → xs[j]? = some y → ownB y = false) ∧ Fresh w4 wr) (fun i _ => n - (intOf i).toNat)
    case atStart => exact ⟨0, by omega, rfl, fun j y hj => by omega, Fresh.refl _⟩
    case round =>
      obtain ⟨k, hk, rfl, hal, hfr⟩ := hrel
      have HAL := Lib.hid hal
      have HFR := Lib.hid hfr
      clear hal
      by_cases hlt : k < n
      · have hlt' : (k : Int) < (n : Int) := by omega
        obtain ⟨x, hx⟩ : ∃ x, xs[k]? = some x := ⟨_, List.getElem?_eq_getElem (by rw [HN.out]; exact hlt)⟩
        obtain ⟨b, o, rfl, hb, g0, g1, g2⟩ := HM.out.lnAt k x hx
        have e0 := ((HF4.out.trans hfr).cell (p := ⟨b, o + k * 3, none⟩) hb).trans g0
        have e1 := ((HF4.out.trans hfr).cell (p := ⟨b, o + k * 3 + 1, none⟩) hb).trans g1
        have e2 := ((HF4.out.trans hfr).cell (p := ⟨b, o + k * 3 + 2, none⟩) hb).trans g2
        have HX := Lib.hid hx
        obtain ⟨r, hr⟩ : ∃ r, ownB x = r := ⟨_, rfl⟩
        have HOW := Lib.hid (fun w => l22_own x r hr (by have := (HVS.out x (List.mem_of_getElem? hx)).1; omega) w)
        have HR := Lib.hid hr
        obtain ⟨⟨f1, f2⟩, nv⟩ := x
        simp only at e0 e1 e2 HOW
        clear hx g0 g1 g2 hfr hr hb
        go_upto_region 10 with fail
        refine wp_gen (fun W => Blk W wr.heap.size 38 #[.string f1, .string f2, .bool nv] ∧ Fresh wr W) ⟨Blk.new wr _ _, Fresh.alloc _ _⟩ ?_
        rintro W ⟨hbw, hfw⟩
        obtain ⟨q, hq⟩ : ∃ q, wr.heap.size = q := ⟨_, rfl⟩
        rw [hq] at hbw ⊢
        clear hq e0 e1 e2
        obtain ⟨y0, y1, y2⟩ := hbw.c3
        have HFW := Lib.hid (HFR.out.trans hfw)
        clear hbw hfw
        go_wp2_with fail
        with_reducible refine (HOW.out _).mono ?_
        rintro e w6 ⟨rfl, hf6⟩
        have HF6 := Lib.hid (HFW.out.trans hf6)
        clear hf6 y0 y1 y2
        cases r
        · have HQ := Lib.hid (show ∀ (j : Nat) y, j < k + 1 → xs[j]? = some y → ownB y = false from fun j y hj hy => by
            by_cases e : j = k
            · subst e
              have h1 := HX.out
              rw [hy] at h1
              cases h1
              exact HR.out
            · exact HAL.out j y (by omega) hy)
          go_wp2_with fail
          go_roundw
          case rel => exact ⟨k + 1, by omega, by go_num, HQ.out, HF6.out⟩
          case measure => simp [intOf]; omega
        · obtain ⟨rfl, rfl⟩ : tn = 32 ∧ tk = 0 := by
            have h1 := psB_hit HX.out HR.out
            rcases HTR.out with ⟨_, _, _, h, _⟩ | ⟨_, h2, h⟩
            · rw [h1] at h; cases h
            · rw [if_pos h1] at h; exact ⟨h, h2⟩
          go_wp2_with fail
          with_reducible refine (HAW.out _).mono ?_
          rintro e w7 ⟨rfl, hf7⟩
          have HX7 := Lib.hid (HFIN.out _ (HF4.out.trans (HF6.out.trans hf7)))
          clear hf7
          go_wp2_with fail
          exact HX7.out
      · obtain rfl : k = n := by omega
        have hnk : ¬ (k : Int) < (k : Int) := by omega
        have HPS := Lib.hid (psB_no (l := xs) (fun j y hy => HAL.out j y (by
          have := (List.getElem?_eq_some_iff.1 hy).1
          rw [HN.out] at this
          exact this) hy))
        clear hfr
        go_wp2_with fail
        with_reducible refine (HC.out _ (HF4.out.trans HFR.out)).mono ?_
        rintro e w5 ⟨f, rfl, hfe, hf5⟩
        have HFE := Lib.hid hfe
        have HF5 := Lib.hid (HFR.out.trans hf5)
        clear hf5 hfe HC
        by_cases hf0 : f = 0
        rotate_left
        · have d0 : ((f : Int) != 0) = true := by simp; omega
          have dd : ((f : Int) == (f : Int)) = true := by simp
          obtain ⟨rfl, rfl⟩ : tn = f ∧ tk = 0 := by
            rcases HTR.out with ⟨_, _, _, _, h⟩ | ⟨_, h2, h⟩
            · rw [HFE.out] at h; exact absurd h hf0
            · rw [HPS.out, HFE.out] at h; exact ⟨h, h2⟩
          clear hf0
          go_wp2_with fail
          with_reducible refine (HAW.out _).mono ?_
          rintro e w7 ⟨rfl, hf7⟩
          have HX7 := Lib.hid (HFIN.out _ (HF4.out.trans (HF5.out.trans hf7)))
          clear hf7
          go_wp2_with fail
          exact HX7.out
        have d0 : ((f : Int) != 0) = false := by rw [hf0]; rfl
        obtain ⟨h1, h2, htm⟩ : tn = 0 ∧ tk = k ∧ Many fldD 2 w4 TA fs := by
          rcases HTR.out with ⟨h1, h2, h3, _, _⟩ | ⟨h0, _, h⟩
          · rw [HFS.out] at h3
            rw [HN.out] at h2
            exact ⟨h1, h2, h3⟩
          · rw [HPS.out, HFE.out, hf0] at h
            exact absurd h h0
        subst h1 h2
        rw [show ((0 : Nat) : Int) = 0 from rfl]
        have HTM := Lib.hid htm
        clear htm hf0
        go_wp2_with fail
        go_loopw [71] (fun i wr => ∃ u : Nat, u ≤ tk ∧ i = .int .i64 (u : Int) ∧ Fresh w5 wr) (fun i _ => tk - (intOf i).toNat)
        case atStart => exact ⟨0, Nat.zero_le _, rfl, Fresh.refl _⟩
        case round =>
          obtain ⟨u, hu, rfl, hf⟩ := hrel
          have HFJ := Lib.hid hf
          clear hf
          by_cases huj : u < tk
          · have huj' : (u : Int) < (tk : Int) := by omega
            obtain ⟨g', hg⟩ : ∃ g, fs[u]? = some g := ⟨_, List.getElem?_eq_getElem (by rw [HFN.out]; exact huj)⟩
            obtain ⟨b1, o1, rfl, hb1, z0, z1⟩ := (HTM.out.fresh (HF5.out.trans HFJ.out)).fdAt u g' hg
            obtain ⟨b2, o2, hbo, hb2, k0, k1⟩ := (HMF4.out.fresh (HF5.out.trans HFJ.out)).fdAt u g' hg
            injection hbo with hbo
            injection hbo with hb3 ho3
            subst hb3 ho3
            rw [Nat.zero_add] at k0 k1
            obtain ⟨F1, F2⟩ := g'
            simp only at z0 z1 k0 k1
            have hE := run_eq_fld 9998 F1 F2
            clear hb1 hb2 hg
            go_upto_region 21 with fail
            go_quiet (fail)
            all_goals
              go_wp2
              go_roundw
              case rel => exact ⟨u + 1, by omega, by go_num, HFJ.out.trans (Fresh.drewN _ _)⟩
              case measure => simp [intOf]; omega
          · obtain rfl : u = tk := by omega
            have hnj : ¬ (u : Int) < (u : Int) := by omega
            go_wp2_with fail
            with_reducible refine (HAW.out _).mono ?_
            rintro e wz ⟨rfl, hfz⟩
            have HFz := Lib.hid ((HF4.out.trans (HF5.out.trans HFJ.out)).trans hfz)
            clear hfz
            go_wp2
            exact HFIN.out _ HFz.out
theorem RequestTrailers_any (s : LdsV) (w : World) (h : s.Ok w) : Calls Tryz.prog 6 #[.slice s.A s.xs.length s.c] w (RqQ w) := trailers_all s.A s.c s.xs w h.rows (by have := h.le; have := h.max; omega) h.ok
end Go.Proofs.YtapikjhfgcbifaaGreatDoor

