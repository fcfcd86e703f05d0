/-
  Texts laid together: ReqI ReqJ ReqK.
-/
import Derived.Test.YtapikjhfgcbifaaGreatDoorReqM2
import Derived.Test.YtapikjhfgcbifaaGreatDoorClnM4
import Derived.Test.YtapikjhfgcbifaaGreatDoorEqM
/-
  The laws of layer 22: small, own; RequestTrailers.
-/
namespace Go.Proofs.YtapikjhfgcbifaaGreatDoor
set_option maxRecDepth 100000
set_option linter.unusedVariables false
set_option linter.unusedSimpArgs false
open Go.RowKit
def SmlQ (l : List FldT) (w : World) (e : Ending) (w' : World) : Prop := ∃ r : Bool, e = .returned (.bool r) ∧ (r = true → sum21 l ≤ 1000) ∧ Fresh w w'
def RqQ (w : World) (e : Ending) (w' : World) : Prop := e = .returned (.bool true) ∧ Fresh w w'
set_option maxHeartbeats 6400000 in
theorem l22_small (A0 : Option Addr) (c0 : Nat) (l : List FldT) (w : World) (hm : Many fldD 2 w A0 l) (hl : l.length ≤ 140737488351232) (hok : ∀ f ∈ l, FldT.Ok w f) :
    Calls Tryz.prog 23 #[.slice A0 l.length c0] w (SmlQ l w) := by
  have HM := Lib.hid hm
  have HO := Lib.hid hok
  have HYES : Hid (∀ w', sum21 l ≤ 1000 → Fresh w w' → SmlQ l w (.returned (.bool true)) w') := Lib.hid (fun w' h hf => ⟨true, rfl, fun _ => h, hf⟩)
  have HNO : Hid (∀ w', Fresh w w' → SmlQ l w (.returned (.bool false)) w') := Lib.hid (fun w' hf => ⟨false, rfl, (fun h => by cases h), hf⟩)
  clear hm hok
  generalize SmlQ l w = FP at *
  go_enter Tryz.func23, Tryz.ntmps23
  go_wp2_with fail
  go_loopw [3, 8] (fun s i wr => ∃ k : Nat, k ≤ l.length ∧ i = .int .i64 (k : Int) ∧ s = .int .i64 (sum21 (l.take k) : Int) ∧ sum21 (l.take k) ≤ 1000 ∧ Fresh w wr) (fun _ i _ => l.length - (intOf i).toNat)
  case atStart => exact ⟨0, by omega, rfl, rfl, by simp [sum21], Fresh.refl _⟩
  case round =>
    obtain ⟨k, hk, rfl, rfl, hs, hfr⟩ := hrel
    have HFR := Lib.hid hfr
    by_cases hlt : k < l.length
    · obtain ⟨f, hx⟩ : ∃ f, l[k]? = some f := ⟨_, List.getElem?_eq_getElem hlt⟩
      obtain ⟨b, o, rfl, hb, g0, g1⟩ := HM.out.fdAt k f hx
      have e0 := (hfr.cell (p := ⟨b, o + k * 2, none⟩) hb).trans g0
      have e1 := (hfr.cell (p := ⟨b, o + k * 2 + 1, none⟩) hb).trans g1
      have HT := Lib.hid (sum21_take hx)
      obtain ⟨o1, o2⟩ := HO.out f (List.mem_of_getElem? hx)
      obtain ⟨n1, n2, n3, n4, n5, n6⟩ := sm_nums (show sum21 (l.take k) ≤ 2000 by omega) o1 o2 hlt hl
      have HN4 := Lib.hid n4
      unfold sz5 at HT
      have HS := Lib.hid hs
      obtain ⟨f1, f2⟩ := f
      simp only at e0 e1 n1 n2 n3 HT HN4
      clear hx g0 g1 hfr o1 o2 n4 hs
      obtain ⟨s0, hs0⟩ : ∃ s0, sum21 (l.take k) = s0 := ⟨_, rfl⟩
      rw [hs0] at n3 HT HN4 HS ⊢
      clear hs0
      go_upto_region 5 with fail
      refine wp_gen (fun W => Blk W wr.heap.size 29 #[.string f1, .string f2] ∧ Fresh wr W) ⟨Blk.new wr _ _, Fresh.alloc _ _⟩ ?_
      rintro W ⟨hbw, hfw⟩
      obtain ⟨p, hp⟩ : ∃ p, wr.heap.size = p := ⟨_, rfl⟩
      rw [hp] at hbw ⊢
      clear hp e0 e1
      obtain ⟨y0, y1⟩ := hbw.c2
      have HFW := Lib.hid hfw
      clear hbw hfw
      by_cases hbig : s0 + (5 + f1.size + f2.size) ≤ 1000
      · have d0 : decide ((1000 : Int) < (s0 : Int) + (5 + (f1.size : Int) + (f2.size : Int))) = false := decide_eq_false (by omega)
        have HBG := Lib.hid hbig
        clear hbig
        go_wp2
        go_roundw
        case rel => exact ⟨k + 1, by omega, by go_num, by rw [HT.out, HN4.out], by rw [HT.out]; exact HBG.out, HFR.out.trans HFW.out⟩
        case measure => simp [intOf]; omega
      · have d0 : (1000 : Int) < (s0 : Int) + (5 + (f1.size : Int) + (f2.size : Int)) := by omega
        have HQ := Lib.hid (HNO.out W (HFR.out.trans HFW.out))
        clear hbig
        go_wp2
        exact HQ.out
    · obtain rfl : k = l.length := by omega
      have HQ := Lib.hid (HYES.out wr (by rw [List.take_length] at hs; exact hs) hfr)
      clear hfr hs
      have hlt' : ¬ (l.length : Int) < (l.length : Int) := by omega
      go_wp2_with fail
      exact HQ.out
set_option maxHeartbeats 1600000 in
theorem l22_own (x : LnD) (r : Bool) (hr : ownB x = r) (hx : x.1.1.size ≤ 4611686018427387904) (w : World) : Calls Tryz.prog 25 #[.agg #[.string x.1.1, .string x.1.2, .bool x.2]] w fun e w' => e = .returned (.bool r) ∧ Fresh w w' := by
  obtain ⟨⟨f1, f2⟩, nv⟩ := x
  unfold ownB at hr
  simp only at hr hx ⊢
  by_cases h0 : f1.size = 0
  · have hl : f1.data.toList = [] := by
      have := Lib.size_eq f1
      exact List.length_eq_zero_iff.1 (by omega)
    rw [hl] at hr
    have hrr : r = false := hr.symm
    subst hrr
    have d0 : decide ((0 : Int) < (f1.size : Int)) = false := decide_eq_false (by omega)
    have d1 : decide (0 < f1.size) = false := decide_eq_false (by omega)
    clear h0 hl hr
    go_enter Tryz.func25, Tryz.ntmps25
    go_wp2_with fail
    go_ret
    exact ⟨rfl, Fresh.alloc _ _⟩
  · have h1 : 0 < f1.size := by omega
    obtain ⟨c, hc⟩ : ∃ c : UInt8, f1[0]'h1 = c := ⟨_, rfl⟩
    have hl : f1.data.toList[0]? = some c := by rw [← hc]; exact Lib.data_getElem? f1 0 h1
    have hr2 : (c == 58) = r := by
      rw [← hr]
      cases hd : f1.data.toList with
      | nil => rw [hd] at hl; cases hl
      | cons y t =>
        rw [hd] at hl
        simp at hl
        subst hl
        rfl
    have d0 : (0 : Int) < (f1.size : Int) := by omega
    have hr3 : ((c.toNat : Int) == 58) = r := by
      rw [← hr2]
      by_cases e : c = 58
      · subst e; rfl
      · have : c.toNat ≠ 58 := fun h => e (UInt8.toNat_inj.1 h)
        rw [beq_eq_false_iff_ne.2 e]
        exact beq_eq_false_iff_ne.2 (by omega)
    clear hr hr2 hl h0
    cases r
    all_goals
      go_enter Tryz.func25, Tryz.ntmps25
      go_wp2_with fail
      go_ret
      exact ⟨by first | rfl | simp [hr3], Fresh.alloc _ _⟩
theorem sum_small {l : List FldT} (h : sum21 l ≤ 1000) : l.length ≤ 200 ∧ ∀ f ∈ l, f.1.size ≤ 1000 ∧ f.2.size ≤ 1000 := ⟨by have := sum21_len l; omega, fun f hf => by
  have := sum21_mem hf
  unfold sz5 at this
  omega⟩
set_option maxHeartbeats 16000000 in
theorem trailers_all (A0 : Option Addr) (c0 : Nat) (xs : List LnD) (w : World) (hm : Many lnD 3 w A0 xs) (hl : xs.length ≤ 8796093022208) (hok : ∀ x ∈ xs, LnD.Ok w x) :
    Calls Tryz.prog 6 #[.slice A0 xs.length c0] w (RqQ w) := by
  have HAW := Lib.hid a22
  have HD1 := Lib.hid (de_fieldsB A0 c0 xs w hm hl)
  have HM := Lib.hid hm
  have HFIN : Hid (∀ W, Fresh w W → RqQ w (.returned (.bool true)) W) := Lib.hid (fun W h => ⟨rfl, h⟩)
  have HOK := Lib.hid hok
  unfold FldsP at HD1
  obtain ⟨n, hn⟩ : ∃ n, xs.length = n := ⟨_, rfl⟩
  have HN := Lib.hid hn
  rw [hn] at HD1 hl ⊢
  clear hm hok hn
  generalize RqQ w = PP at *
  have hnn : ((n : Int) != (n : Int)) = false := by simp
  obtain ⟨fs, hfs⟩ : ∃ fs, xs.map (·.1) = fs := ⟨_, rfl⟩
  rw [hfs] at HD1
  have HFN : Hid (fs.length = n) := Lib.hid (by rw [← hfs, List.length_map, HN.out])
  have HFS := Lib.hid hfs
  have HFO : Hid (∀ f ∈ fs, FldT.Ok w f) := Lib.hid (fun f hf => by
    rw [← hfs] at hf
    obtain ⟨x, hx, rfl⟩ := List.mem_map.1 hf
    exact HOK.out x hx)
  clear hfs
  go_enter Tryz.func6, Tryz.ntmps6
  go_wp2_with fail
  with_reducible refine HD1.out.mono ?_
  rintro e w2 ⟨p, rfl, hp, hmf, hf2⟩
  have HSM := l22_small (some ⟨p, 0, none⟩) n fs w2 hmf (by rw [HFN.out]; omega) (fun f hf => HFO.out f hf)
  rw [HFN.out] at HSM
  unfold SmlQ at HSM
  have HSM := Lib.hid HSM
  have HMF2 := Lib.hid hmf
  have HF2 := Lib.hid hf2
  clear hp hmf hf2 HD1
  go_wp2_with fail
  with_reducible refine HSM.out.mono ?_
  rintro e w3 ⟨r, rfl, hr, hf3⟩
  have HF3 := Lib.hid (HF2.out.trans hf3)
  have HMF := Lib.hid (HMF2.out.fresh hf3)
  have HR := Lib.hid hr
  clear hr hf3 HSM HMF2
  cases r with
  | false =>
    go_wp2_with fail
    with_reducible refine (HAW.out _).mono ?_
    rintro e w4 ⟨rfl, hf4⟩
    have HF4 := Lib.hid (HF3.out.trans hf4)
    clear hf4
    go_wp2_with fail
    exact HFIN.out _ HF4.out
  | true =>
    have hsz := sum_small (HR.out rfl)
    rw [HFN.out] at hsz
    obtain ⟨hn4, hsz⟩ := hsz
    have HVS : Hid (∀ x ∈ xs, x.1.1.size ≤ 1000 ∧ x.1.2.size ≤ 1000) := Lib.hid (fun x hx => hsz x.1 (by rw [← HFS.out]; exact List.mem_map.2 ⟨x, hx, rfl⟩))
    clear HR hl hsz
    have HT := Lib.hid (fun W (h : Fresh w W) => rq_trailers A0 c0 xs W (HM.out.fresh h) (by have := HN.out; omega) (fun x hx => by have := (HVS.out x hx).2; omega))
    have HC := Lib.hid (fun W (h : Fresh w W) => cl_check A0 c0 xs W (HM.out.fresh h) (by have := HN.out; omega) (fun x hx => by have := (HVS.out x hx).2; omega))
    rw [HN.out] at HT HC
    unfold TrlP at HT
    unfold ChkP at HC
    go_wp2_with fail
    with_reducible refine (HT.out _ HF3.out).mono ?_
    rintro e w4 ⟨tn, TA, tk, rfl, htr, hf4⟩
    have HTR := Lib.hid htr
    have HF4 := Lib.hid (HF3.out.trans hf4)
    have HMF4 := Lib.hid (HMF.out.fresh hf4)
    clear htr hf4 HT HMF
    go_wp2_with fail
    go_loopw [28] (fun i wr => ∃ k : Nat, k ≤ n ∧ i = .int .i64 (k : Int) ∧ (∀ (j : Nat) y, j < k → xs[j]? = some y → ownB y = false) ∧ Fresh w4 wr) (fun i _ => n - (intOf i).toNat)
    case atStart => exact ⟨0, by omega, rfl, fun j y hj => by omega, Fresh.refl _⟩
    case round =>
      obtain ⟨k, hk, rfl, hal, hfr⟩ := hrel
      have HAL := Lib.hid hal
      have HFR := Lib.hid hfr
      clear hal
      by_cases hlt : k < n
      · have hlt' : (k : Int) < (n : Int) := by omega
        obtain ⟨x, hx⟩ : ∃ x, xs[k]? = some x := ⟨_, List.getElem?_eq_getElem (by rw [HN.out]; exact hlt)⟩
        obtain ⟨b, o, rfl, hb, g0, g1, g2⟩ := HM.out.lnAt k x hx
        have e0 := ((HF4.out.trans hfr).cell (p := ⟨b, o + k * 3, none⟩) hb).trans g0
        have e1 := ((HF4.out.trans hfr).cell (p := ⟨b, o + k * 3 + 1, none⟩) hb).trans g1
        have e2 := ((HF4.out.trans hfr).cell (p := ⟨b, o + k * 3 + 2, none⟩) hb).trans g2
        have HX := Lib.hid hx
        obtain ⟨r, hr⟩ : ∃ r, ownB x = r := ⟨_, rfl⟩
        have HOW := Lib.hid (fun w => l22_own x r hr (by have := (HVS.out x (List.mem_of_getElem? hx)).1; omega) w)
        have HR := Lib.hid hr
        obtain ⟨⟨f1, f2⟩, nv⟩ := x
        simp only at e0 e1 e2 HOW
        clear hx g0 g1 g2 hfr hr hb
        go_upto_region 10 with fail
        refine wp_gen (fun W => Blk W wr.heap.size 38 #[.string f1, .string f2, .bool nv] ∧ Fresh wr W) ⟨Blk.new wr _ _, Fresh.alloc _ _⟩ ?_
        rintro W ⟨hbw, hfw⟩
        obtain ⟨q, hq⟩ : ∃ q, wr.heap.size = q := ⟨_, rfl⟩
        rw [hq] at hbw ⊢
        clear hq e0 e1 e2
        obtain ⟨y0, y1, y2⟩ := hbw.c3
        have HFW := Lib.hid (HFR.out.trans hfw)
        clear hbw hfw
        go_wp2_with fail
        with_reducible refine (HOW.out _).mono ?_
        rintro e w6 ⟨rfl, hf6⟩
        have HF6 := Lib.hid (HFW.out.trans hf6)
        clear hf6 y0 y1 y2
        cases r
        · have HQ := Lib.hid (show ∀ (j : Nat) y, j < k + 1 → xs[j]? = some y → ownB y = false from fun j y hj hy => by
            by_cases e : j = k
            · subst e
              have h1 := HX.out
              rw [hy] at h1
              cases h1
              exact HR.out
            · exact HAL.out j y (by omega) hy)
          go_wp2_with fail
          go_roundw
          case rel => exact ⟨k + 1, by omega, by go_num, HQ.out, HF6.out⟩
          case measure => simp [intOf]; omega
        · obtain ⟨rfl, rfl⟩ : tn = 32 ∧ tk = 0 := by
            have h1 := psB_hit HX.out HR.out
            rcases HTR.out with ⟨_, _, _, h, _⟩ | ⟨_, h2, h⟩
            · rw [h1] at h; cases h
            · rw [if_pos h1] at h; exact ⟨h, h2⟩
          go_wp2_with fail
          with_reducible refine (HAW.out _).mono ?_
          rintro e w7 ⟨rfl, hf7⟩
          have HX7 := Lib.hid (HFIN.out _ (HF4.out.trans (HF6.out.trans hf7)))
          clear hf7
          go_wp2_with fail
          exact HX7.out
      · obtain rfl : k = n := by omega
        have hnk : ¬ (k : Int) < (k : Int) := by omega
        have HPS := Lib.hid (psB_no (l := xs) (fun j y hy => HAL.out j y (by
          have := (List.getElem?_eq_some_iff.1 hy).1
          rw [HN.out] at this
          exact this) hy))
        clear hfr
        go_wp2_with fail
        with_reducible refine (HC.out _ (HF4.out.trans HFR.out)).mono ?_
        rintro e w5 ⟨f, rfl, hfe, hf5⟩
        have HFE := Lib.hid hfe
        have HF5 := Lib.hid (HFR.out.trans hf5)
        clear hf5 hfe HC
        by_cases hf0 : f = 0
        rotate_left
        · have d0 : ((f : Int) != 0) = true := by simp; omega
          have dd : ((f : Int) == (f : Int)) = true := by simp
          obtain ⟨rfl, rfl⟩ : tn = f ∧ tk = 0 := by
            rcases HTR.out with ⟨_, _, _, _, h⟩ | ⟨_, h2, h⟩
            · rw [HFE.out] at h; exact absurd h hf0
            · rw [HPS.out, HFE.out] at h; exact ⟨h, h2⟩
          clear hf0
          go_wp2_with fail
          with_reducible refine (HAW.out _).mono ?_
          rintro e w7 ⟨rfl, hf7⟩
          have HX7 := Lib.hid (HFIN.out _ (HF4.out.trans (HF5.out.trans hf7)))
          clear hf7
          go_wp2_with fail
          exact HX7.out
        have d0 : ((f : Int) != 0) = false := by rw [hf0]; rfl
        obtain ⟨h1, h2, htm⟩ : tn = 0 ∧ tk = k ∧ Many fldD 2 w4 TA fs := by
          rcases HTR.out with ⟨h1, h2, h3, _, _⟩ | ⟨h0, _, h⟩
          · rw [HFS.out] at h3
            rw [HN.out] at h2
            exact ⟨h1, h2, h3⟩
          · rw [HPS.out, HFE.out, hf0] at h
            exact absurd h h0
        subst h1 h2
        rw [show ((0 : Nat) : Int) = 0 from rfl]
        have HTM := Lib.hid htm
        clear htm hf0
        go_wp2_with fail
        go_loopw [71] (fun i wr => ∃ u : Nat, u ≤ tk ∧ i = .int .i64 (u : Int) ∧ Fresh w5 wr) (fun i _ => tk - (intOf i).toNat)
        case atStart => exact ⟨0, Nat.zero_le _, rfl, Fresh.refl _⟩
        case round =>
          obtain ⟨u, hu, rfl, hf⟩ := hrel
          have HFJ := Lib.hid hf
          clear hf
          by_cases huj : u < tk
          · have huj' : (u : Int) < (tk : Int) := by omega
            obtain ⟨g', hg⟩ : ∃ g, fs[u]? = some g := ⟨_, List.getElem?_eq_getElem (by rw [HFN.out]; exact huj)⟩
            obtain ⟨b1, o1, rfl, hb1, z0, z1⟩ := (HTM.out.fresh (HF5.out.trans HFJ.out)).fdAt u g' hg
            obtain ⟨b2, o2, hbo, hb2, k0, k1⟩ := (HMF4.out.fresh (HF5.out.trans HFJ.out)).fdAt u g' hg
            injection hbo with hbo
            injection hbo with hb3 ho3
            subst hb3 ho3
            rw [Nat.zero_add] at k0 k1
            obtain ⟨F1, F2⟩ := g'
            simp only at z0 z1 k0 k1
            have hE := run_eq_fld 9998 F1 F2
            clear hb1 hb2 hg
            go_upto_region 21 with fail
            go_quiet (fail)
            all_goals
              go_wp2
              go_roundw
              case rel => exact ⟨u + 1, by omega, by go_num, HFJ.out.trans (Fresh.drewN _ _)⟩
              case measure => simp [intOf]; omega
          · obtain rfl : u = tk := by omega
            have hnj : ¬ (u : Int) < (u : Int) := by omega
            go_wp2_with fail
            with_reducible refine (HAW.out _).mono ?_
            rintro e wz ⟨rfl, hfz⟩
            have HFz := Lib.hid ((HF4.out.trans (HF5.out.trans HFJ.out)).trans hfz)
            clear hfz
            go_wp2
            exact HFIN.out _ HFz.out
theorem RequestTrailers_any (s : LdsV) (w : World) (h : s.Ok w) : Calls Tryz.prog 6 #[.slice s.A s.xs.length s.c] w (RqQ w) := trailers_all s.A s.c s.xs w h.rows (by have := h.le; have := h.max; omega) h.ok
end Go.Proofs.YtapikjhfgcbifaaGreatDoor

/-
  The laws of layer 22: requests that come in; words; Size; the document's Right; lines.
-/
namespace Go.Proofs.YtapikjhfgcbifaaGreatDoor
set_option maxRecDepth 100000
set_option linter.unusedVariables false
set_option linter.unusedSimpArgs false
open Go.RowKit Go.ChangeShapes Go.WideShapes Go.Deep
structure RqV.Ok (w : World) (r : RqV) : Prop where
  z : r.m.size ≤ 140737488351232 ∧ r.s.size ≤ 140737488351232 ∧ r.p.size ≤ 140737488351232 ∧ r.a.size ≤ 140737488351232
  fle : r.fs.length ≤ r.fc
  fmax : r.fc * 32 ≤ 140737488351232
  rows : Many fldD 2 w r.FA r.fs
  fok : ∀ x ∈ r.fs, FldT.Ok w x
  bl : r.bd.length ≤ 140737488351232
theorem opens_fdsW : OpensW Tryz.prog 22 (fun w cs => ∃ s : FdsV, cs = [.slice s.A s.xs.length s.c] ∧ s.Ok w) :=
  (opensW_slice (sz := 2) (bytes := 32) Tryz.underlying22 opens_fdW (by kernel_rfl) (by omega) (by kernel_rfl)).mono (fun w cs h => by
    obtain ⟨A, xs, c, e, h1, _, h2, h3, h4⟩ := h.many (R := FldT.Ok) (f := fldD) (fun _ hq => hq)
    exact ⟨⟨A, c, xs⟩, e, h1, h2, h3, h4⟩)
theorem opens_reqW : OpensW Tryz.prog 25 (fun w cs => ∃ r : RqV, cs = r.arr.toList ∧ r.Ok w) :=
  (opensW_struct (sz := 6) [(0, 1, QStrW), (1, 1, QStrW), (2, 1, QStrW), (3, 1, QStrW), (4, 1, fun w cs => ∃ s : FdsV, cs = [.slice s.A s.xs.length s.c] ∧ s.Ok w), (5, 1, QBytesW)] Tryz.underlying25 (by kernel_rfl) (by
    intro p hp
    simp only [List.mem_cons, List.not_mem_nil, or_false] at hp
    rcases hp with rfl | rfl | rfl | rfl | rfl | rfl
    · exact ⟨0, _, rfl, rfl, by kernel_rfl, opensW_str Tryz.underlying9⟩
    · exact ⟨1, _, rfl, rfl, by kernel_rfl, opensW_str Tryz.underlying9⟩
    · exact ⟨2, _, rfl, rfl, by kernel_rfl, opensW_str Tryz.underlying9⟩
    · exact ⟨3, _, rfl, rfl, by kernel_rfl, opensW_str Tryz.underlying9⟩
    · exact ⟨4, _, rfl, rfl, by kernel_rfl, opens_fdsW⟩
    · exact ⟨5, _, rfl, rfl, by kernel_rfl, opensW_bytes Tryz.underlying23 Tryz.underlying5 (by kernel_rfl) (by kernel_rfl)⟩)).mono (by
    intro w cs ⟨hl, h⟩
    match cs, hl with
    | [c0, c1, c2, c3, c4, c5], _ =>
      obtain ⟨s0, e0, l0⟩ := h (0, 1, QStrW) (by simp)
      obtain ⟨s1, e1, l1⟩ := h (1, 1, QStrW) (by simp)
      obtain ⟨s2, e2, l2⟩ := h (2, 1, QStrW) (by simp)
      obtain ⟨s3, e3, l3⟩ := h (3, 1, QStrW) (by simp)
      obtain ⟨s4, e4, l4⟩ := h (4, 1, fun w cs => ∃ s : FdsV, cs = [.slice s.A s.xs.length s.c] ∧ s.Ok w) (by simp)
      obtain ⟨A, l, c, e5, h1, h2, _⟩ := h (5, 1, QBytesW) (by simp)
      simp at e0 e1 e2 e3 e4 e5
      subst e0 e1 e2 e3 e4 e5
      exact ⟨⟨s0, s1, s2, s3, s4.A, s4.c, s4.xs, A, c, l⟩, rfl, ⟨⟨l0, l1, l2, l3⟩, l4.le, l4.max, l4.rows, l4.ok, Nat.le_trans h1 h2⟩⟩)
section
variable {H : Type} {enc : TypeId × Value → H} {w : World} {base : Nat} {held : Bool} {v : Value} {d : DataW H} {p : List MemPlace} {r : Reach} {b0 : Nat}
theorem open_req (hv : Value.okWide Tryz.prog w r b0 25 v) (hd : DataW.Trod enc Tryz.prog w base (fun _ => true) held 25 v d p) (hw : ∀ m ∈ d.weights Tryz.prog 25, m ≤ reachBytes) :
    ∃ q : RqV, v = .agg q.arr ∧ q.Ok w := by
  obtain ⟨cs, rfl, q, hc, hq⟩ := opens_reqW.agg Tryz.underlying25 hv hd hw
  exact ⟨q, by rw [Array.toList_inj.1 hc], hq⟩
end
/-- Requests that are gone through. -/
structure WdOk (r : RqV) : Prop where
  z : r.m.size < 5000 ∧ r.s.size < 5000 ∧ r.p.size < 5000 ∧ r.a.size < 5000
  f : sum21 r.fs ≤ 1000
  b : r.bd.length < 5000
def WdP (r : RqV) (w : World) (e : Ending) (w' : World) : Prop := ∃ b : Bool, e = .returned (.bool b) ∧ (b = true → WdOk r) ∧ Fresh w w'
set_option maxHeartbeats 6400000 in
theorem l22_words (r : RqV) (w : World) (h : r.Ok w) : Calls Tryz.prog 9 #[.agg r.arr] w (WdP r w) := by
  have hfl := h.fle
  have hfm := h.fmax
  have HSM := Lib.hid (fun W (hf : Fresh w W) => l22_small r.FA r.fc r.fs W (h.rows.fresh hf) (by omega) (fun f hf => h.fok f hf))
  have HNO : Hid (∀ W, Fresh w W → WdP r w (.returned (.bool false)) W) := Lib.hid (fun W hf => ⟨false, rfl, (fun h => by cases h), hf⟩)
  have HYES : Hid (∀ W, WdOk r → Fresh w W → WdP r w (.returned (.bool true)) W) := Lib.hid (fun W h hf => ⟨true, rfl, fun _ => h, hf⟩)
  have HO : Hid (∀ (a : r.m.size < 5000) (b : r.s.size < 5000) (c : r.p.size < 5000) (d : r.a.size < 5000) (e : sum21 r.fs ≤ 1000) (f : r.bd.length < 5000), WdOk r) := Lib.hid (fun a b c d e f => ⟨⟨a, b, c, d⟩, e, f⟩)
  unfold SmlQ at HSM
  clear h hfl hfm
  generalize WdP r w = PP at *
  unfold RqV.arr
  obtain ⟨m, s, p, a, FA, fc, fs, BA, bc, bd⟩ := r
  simp only at HSM HNO HYES HO ⊢
  obtain ⟨n, hn⟩ : ∃ n, fs.length = n := ⟨_, rfl⟩
  obtain ⟨bn, hbn⟩ : ∃ n, bd.length = n := ⟨_, rfl⟩
  rw [hn] at HSM ⊢
  rw [hbn] at HO ⊢
  clear hn hbn
  go_enter Tryz.func9, Tryz.ntmps9
  go_upto_region 1 with fail
  refine wp_gen (fun W => Blk W w.heap.size 25 #[.string m, .string s, .string p, .string a, .slice FA n fc, .slice BA bn bc] ∧ Fresh w W) ⟨Blk.new w _ _, Fresh.alloc _ _⟩ ?_
  rintro W1 ⟨hb1, hf1⟩
  obtain ⟨b, hb⟩ : ∃ b, w.heap.size = b := ⟨_, rfl⟩
  rw [hb] at hb1 ⊢
  clear hb
  have HB1 := Lib.hid hb1
  have HF1 := Lib.hid hf1
  have e0 := hb1.cell 0
  have e1 := hb1.cell 1
  have e2 := hb1.cell 2
  have e3 := hb1.cell 3
  have e4 := hb1.cell 4
  simp at e0 e1 e2 e3 e4
  have HX := Lib.hid (HNO.out W1 HF1.out)
  clear hb1 hf1
  by_cases h0 : m.size < 5000
  rotate_left
  · have d0 : decide ((m.size : Int) < 5000) = false := decide_eq_false (by omega)
    have d1 : decide (m.size < 5000) = false := decide_eq_false h0
    clear h0
    go_wp2_with fail
    exact HX.out
  have d0 : (m.size : Int) < 5000 := by omega
  by_cases h1 : s.size < 5000
  rotate_left
  · have d1 : decide ((s.size : Int) < 5000) = false := decide_eq_false (by omega)
    have d2 : decide (s.size < 5000) = false := decide_eq_false h1
    clear h0 h1
    go_wp2_with fail
    exact HX.out
  have d1 : (s.size : Int) < 5000 := by omega
  by_cases h2 : p.size < 5000
  rotate_left
  · have d2 : decide ((p.size : Int) < 5000) = false := decide_eq_false (by omega)
    have d3 : decide (p.size < 5000) = false := decide_eq_false h2
    clear h0 h1 h2
    go_wp2_with fail
    exact HX.out
  have d2 : (p.size : Int) < 5000 := by omega
  by_cases h3 : a.size < 5000
  rotate_left
  · have d3 : decide ((a.size : Int) < 5000) = false := decide_eq_false (by omega)
    have d4 : decide (a.size < 5000) = false := decide_eq_false h3
    clear h0 h1 h2 h3
    go_wp2_with fail
    exact HX.out
  have d3 : (a.size : Int) < 5000 := by omega
  have HH := Lib.hid (And.intro h0 (And.intro h1 (And.intro h2 h3)))
  clear h0 h1 h2 h3
  go_wp2_with fail
  with_reducible refine (HSM.out _ HF1.out).mono ?_
  rintro e w2 ⟨q, rfl, hq, hf2⟩
  have e5 := (HB1.out.fresh hf2).cell 5
  simp at e5
  have HQ := Lib.hid hq
  have HF2 := Lib.hid (HF1.out.trans hf2)
  clear hq hf2
  cases q
  · have HX2 := Lib.hid (HNO.out w2 HF2.out)
    go_wp2_with fail
    exact HX2.out
  by_cases h5 : bn < 5000
  · have d5 : (bn : Int) < 5000 := by omega
    have HX2 := Lib.hid (HYES.out w2 (HO.out HH.out.1 HH.out.2.1 HH.out.2.2.1 HH.out.2.2.2 (HQ.out (by trivial)) h5) HF2.out)
    clear h5
    go_wp2_with fail
    exact HX2.out
  · have d5 : decide ((bn : Int) < 5000) = false := decide_eq_false (by omega)
    have d6 : decide (bn < 5000) = false := decide_eq_false h5
    have HX2 := Lib.hid (HNO.out w2 HF2.out)
    clear h5
    go_wp2_with fail
    exact HX2.out
/-- How many bytes fields have. -/
def fsum (l : List FldT) : Nat := (l.map (fun f => f.1.size + f.2.size)).sum
theorem fsum_take {l : List FldT} {k : Nat} {f : FldT} (h : l[k]? = some f) : fsum (l.take (k + 1)) = fsum (l.take k) + (f.1.size + f.2.size) := by
  obtain ⟨hk, rfl⟩ := List.getElem?_eq_some_iff.1 h
  unfold fsum
  rw [List.take_succ_eq_append_getElem hk, List.map_append, List.sum_append]
  rfl
theorem fsum_le (l : List FldT) : fsum l ≤ sum21 l := by
  induction l with
  | nil => simp [fsum, sum21]
  | cons g r ih =>
    unfold fsum sum21 sz5 at *
    simp only [List.map_cons, List.sum_cons]
    omega
theorem fsum_take_le (l : List FldT) (k : Nat) : fsum (l.take k) ≤ fsum l := by
  induction l generalizing k with
  | nil => simp [fsum]
  | cons g r ih =>
    cases k with
    | zero => simp [fsum]
    | succ k =>
      have := ih k
      unfold fsum at *
      rw [List.take_succ_cons]
      simp only [List.map_cons, List.sum_cons]
      omega
theorem fs_nums {t a b : Nat} (h : t + (a + b) ≤ 100000) (k n : Nat) (hk : k < n) (hn : n ≤ 100000) : IntKind.i64.wrap ((a : Int) + (b : Int)) = (a : Int) + (b : Int) ∧ IntKind.i64.wrap ((t : Int) + ((a : Int) + (b : Int))) = (t : Int) + ((a : Int) + (b : Int)) ∧ ((t + (a + b) : Nat) : Int) = (t : Int) + ((a : Int) + (b : Int)) ∧ (k : Int) < (n : Int) ∧ IntKind.i64.wrap ((k : Int) + 1) = (k : Int) + 1 := ⟨IntWalk.i64_in _ (by omega), IntWalk.i64_in _ (by omega), by omega, by omega, IntWalk.i64_in _ (by omega)⟩
theorem zz_nums {a b c d e : Nat} (h : a < 5000 ∧ b < 5000 ∧ c < 5000 ∧ d < 5000) (he : e < 5000) : IntKind.i64.wrap ((a : Int) + (b : Int)) = (a : Int) + (b : Int) ∧ IntKind.i64.wrap ((a : Int) + (b : Int) + (c : Int)) = (a : Int) + (b : Int) + (c : Int) ∧ IntKind.i64.wrap ((a : Int) + (b : Int) + (c : Int) + (d : Int)) = (a : Int) + (b : Int) + (c : Int) + (d : Int) ∧ IntKind.i64.wrap ((a : Int) + (b : Int) + (c : Int) + (d : Int) + (e : Int)) = (a : Int) + (b : Int) + (c : Int) + (d : Int) + (e : Int) := ⟨IntWalk.i64_in _ (by omega), IntWalk.i64_in _ (by omega), IntWalk.i64_in _ (by omega), IntWalk.i64_in _ (by omega)⟩
/-- How many bytes a request's texts have. -/
def rsum (r : RqV) : Nat := r.m.size + r.s.size + r.p.size + r.a.size + r.bd.length
set_option maxHeartbeats 6400000 in
theorem rq_size (r : RqV) (w : World) (h : WdOk r) (hm : Many fldD 2 w r.FA r.fs) : Calls Tryz.prog 12 #[.agg r.arr] w fun e w' => e = .returned (.int .i64 ((rsum r + fsum r.fs : Nat) : Int)) ∧ Fresh w w' := by
  have hz := h.z
  have hbz := h.b
  have HFL : Hid (fsum r.fs ≤ 1000 ∧ r.fs.length ≤ 200) := Lib.hid ⟨by have := fsum_le r.fs; have := h.f; omega, (sum_small h.f).1⟩
  have HM := Lib.hid hm
  unfold rsum
  unfold RqV.arr
  obtain ⟨m, s, p, a, FA, fc, fs, BA, bc, bd⟩ := r
  simp only at hz hbz HFL HM ⊢
  obtain ⟨n, hn⟩ : ∃ n, fs.length = n := ⟨_, rfl⟩
  have HN := Lib.hid hn
  obtain ⟨bn, hbn⟩ : ∃ n, bd.length = n := ⟨_, rfl⟩
  rw [hbn] at hbz ⊢
  rw [hn] at HFL ⊢
  obtain ⟨t0, ht0⟩ : ∃ t, m.size + s.size + p.size + a.size + bn = t := ⟨_, rfl⟩
  have HT0 := Lib.hid ht0
  have HTL : Hid (t0 ≤ 25000) := Lib.hid (by omega)
  obtain ⟨z1, z2, z3, z4⟩ := zz_nums hz hbz
  rw [ht0]
  have hts : ((m.size : Int) + (s.size : Int) + (p.size : Int) + (a.size : Int) + (bn : Int)) = (t0 : Int) := by omega
  have HTS := Lib.hid hts
  clear h hm hn hbn hz hbz ht0 hts
  go_enter Tryz.func12, Tryz.ntmps12
  go_upto_region 1 with fail
  refine wp_gen (fun W => Blk W w.heap.size 25 #[.string m, .string s, .string p, .string a, .slice FA n fc, .slice BA bn bc] ∧ Fresh w W) ⟨Blk.new w _ _, Fresh.alloc _ _⟩ ?_
  rintro W1 ⟨hb1, hf1⟩
  obtain ⟨b, hb⟩ : ∃ b, w.heap.size = b := ⟨_, rfl⟩
  rw [hb] at hb1 ⊢
  clear hb
  have HF1 := Lib.hid hf1
  have e0 := hb1.cell 0
  have e1 := hb1.cell 1
  have e2 := hb1.cell 2
  have e3 := hb1.cell 3
  have e4 := hb1.cell 4
  have e5 := hb1.cell 5
  simp at e0 e1 e2 e3 e4 e5
  clear hb1 hf1
  go_upto_region 3 with fail
  rw [HTS.out]
  clear z1 z2 z3 z4 e0 e1 e2 e3 e4 e5
  go_loopw [3, 28] (fun v i wr => ∃ k : Nat, k ≤ n ∧ i = .int .i64 (k : Int) ∧ v = .int .i64 ((t0 + fsum (fs.take k) : Nat) : Int) ∧ Fresh w wr) (fun _ i _ => n - (intOf i).toNat)
  case atStart => exact ⟨0, by omega, rfl, by simp [fsum], HF1.out⟩
  case round =>
    obtain ⟨k, hk, rfl, rfl, hfr⟩ := hrel
    have HFR := Lib.hid hfr
    obtain ⟨t, ht⟩ : ∃ t, t0 + fsum (fs.take k) = t := ⟨_, rfl⟩
    have HTT := Lib.hid ht
    rw [ht]
    by_cases hlt : k < n
    · obtain ⟨f, hx⟩ : ∃ f, fs[k]? = some f := ⟨_, List.getElem?_eq_getElem (by rw [HN.out]; exact hlt)⟩
      obtain ⟨q, o, rfl, hq, g0, g1⟩ := HM.out.fdAt k f hx
      have e0 := (hfr.cell (p := ⟨q, o + k * 2, none⟩) hq).trans g0
      have e1 := (hfr.cell (p := ⟨q, o + k * 2 + 1, none⟩) hq).trans g1
      have HS := Lib.hid (fsum_take hx)
      obtain ⟨f1, f2⟩ := f
      simp only at e0 e1 HS
      have hle : t + (f1.size + f2.size) ≤ 100000 := by
        have h1 := fsum_take_le fs (k + 1)
        rw [HS.out] at h1
        have := HFL.out.1
        have := HTL.out
        omega
      obtain ⟨n1, n2, n3, n4, n5⟩ := fs_nums hle k n hlt (by have := HFL.out.2; omega)
      have HN3 := Lib.hid n3
      clear hx g0 g1 hfr hq hle n3 ht
      go_upto_region 5 with fail
      refine wp_gen (fun W => Blk W wr.heap.size 29 #[.string f1, .string f2] ∧ Fresh wr W) ⟨Blk.new wr _ _, Fresh.alloc _ _⟩ ?_
      rintro W ⟨hbw, hfw⟩
      obtain ⟨p, hp⟩ : ∃ p, wr.heap.size = p := ⟨_, rfl⟩
      rw [hp] at hbw ⊢
      clear hp e0 e1
      obtain ⟨y0, y1⟩ := hbw.c2
      have HFW := Lib.hid (HFR.out.trans hfw)
      clear hbw hfw
      go_wp2_with fail
      go_roundw
      case rel => exact ⟨k + 1, by omega, by go_num, by rw [HS.out, ← Nat.add_assoc, HTT.out, HN3.out], HFW.out⟩
      case measure => simp [intOf]; omega
    · obtain rfl : k = n := by omega
      have hnk : ¬ (k : Int) < (k : Int) := by omega
      have hfin : t = t0 + fsum fs := by rw [← HTT.out, List.take_of_length_le (by rw [HN.out]; exact Nat.le_refl _)]
      have HX : Hid (Ending.returned (.int .i64 (t : Int)) = .returned (.int .i64 ((t0 + fsum fs : Nat) : Int)) ∧ Fresh w wr) := Lib.hid ⟨by rw [hfin], HFR.out⟩
      clear hfr ht hfin
      go_wp2_with fail
      go_ret
      exact HX.out
end Go.Proofs.YtapikjhfgcbifaaGreatDoor

/-
  The laws of layer 22: the document's Right; lines.
-/
namespace Go.Proofs.YtapikjhfgcbifaaGreatDoor
set_option maxRecDepth 100000
set_option linter.unusedVariables false
set_option linter.unusedSimpArgs false
open Go.RowKit
set_option maxHeartbeats 3200000 in
theorem rf_plain (s : ByteArray) (w : World) (hs : s.size ≤ 4611686018427387904) : Calls Tryz.prog 36 #[.string s] w fun e w' => e = .returned (.bool (visB s.data.toList)) ∧ w' = w := by
  obtain ⟨r, hr⟩ : ∃ r, visB s.data.toList = r := ⟨_, rfl⟩
  rw [hr]
  have HSZ := Lib.hid (Lib.size_eq s)
  have HH : Hid (∀ (k : Nat) x, s.data.toList[k]? = some x → visC x = false → r = false) := Lib.hid (fun k x h hx => by rw [← hr]; unfold visB; rw [all_hit h hx]; rfl)
  have HA : Hid ((∀ (k : Nat) x, s.data.toList[k]? = some x → visC x = true) → decide (s.size ≤ 4096) = r) := Lib.hid (fun h => by rw [← hr]; unfold visB; rw [all_yes h, ← HSZ.out]; rfl)
  have HL : Hid (¬ s.size ≤ 4096 → r = false) := Lib.hid (fun h => by rw [← hr]; unfold visB; rw [← HSZ.out, decide_eq_false h, Bool.and_false])
  clear hr
  by_cases h4 : s.size ≤ 4096
  rotate_left
  · have e0 := HL.out h4
    subst e0
    have a0 : (4096 : Int) < (s.size : Int) := by omega
    clear h4
    go_enter Tryz.func36, Tryz.ntmps36
    go_wp2
    go_ret
    exact ⟨rfl, rfl⟩
  have a0 : decide ((4096 : Int) < (s.size : Int)) = false := decide_eq_false (by omega)
  have a1 : decide (4096 < s.size) = false := decide_eq_false (by omega)
  go_enter Tryz.func36, Tryz.ntmps36
  go_wp2_with fail
  go_loop [3] (fun i => ∃ k : Nat, k ≤ s.size ∧ i = .int .i64 (k : Int) ∧ ∀ (j : Nat) y, j < k → s.data.toList[j]? = some y → visC y = true) (fun i => s.size - (intOf i).toNat)
  case atStart => exact ⟨0, by omega, rfl, fun j y hj => by omega⟩
  case round =>
    obtain ⟨k, hk, rfl, hal⟩ := hrel
    have HAL := Lib.hid hal
    clear hal
    by_cases hlt : k < s.size
    · have hlt' : (k : Int) < (s.size : Int) := by omega
      have hkw : IntKind.i64.wrap ((k : Int) + 1) = (k : Int) + 1 := IntWalk.i64_in _ (by omega)
      obtain ⟨x, hx⟩ : ∃ x : UInt8, s[k]'hlt = x := ⟨_, rfl⟩
      have HX := Lib.hid (show s.data.toList[k]? = some x by rw [← hx]; exact Lib.data_getElem? s k hlt)
      by_cases h33 : x.toNat < 33
      · have e0 : r = false := HH.out k x HX.out (by unfold visC; rw [decide_eq_false (by omega)]; rfl)
        subst e0
        have b0 : (x.toNat : Int) < 33 := by omega
        clear h33 h4
        go_wp2
        go_ret
        exact ⟨rfl, rfl⟩
      have b0 : decide ((x.toNat : Int) < 33) = false := decide_eq_false (by omega)
      by_cases h127 : x.toNat = 127
      · have e0 : r = false := HH.out k x HX.out (by unfold visC; rw [decide_eq_true h127]; simp)
        subst e0
        have b1 : ((x.toNat : Int) == 127) = true := beq_iff_eq.2 (by omega)
        clear h33 h127 h4
        go_wp2
        all_goals
          first
            | (go_ret
               exact ⟨rfl, rfl⟩)
            | (exfalso; simp_all)
      · have HK := Lib.hid (all_succ HAL.out HX.out (by unfold visC; rw [decide_eq_true (by omega), decide_eq_false h127]; rfl))
        have b1 : ((x.toNat : Int) == 127) = false := beq_eq_false_iff_ne.2 (by omega)
        clear h33 h127
        go_wp2
        go_round
        case rel => exact ⟨k + 1, by omega, by go_num, HK.out⟩
        case measure => simp [intOf]; omega
    · obtain rfl : k = s.size := by omega
      have e0 := HA.out (fun j y hy => HAL.out j y (by
        have := (List.getElem?_eq_some_iff.1 hy).1
        rw [← HSZ.out] at this
        omega) hy)
      rw [decide_eq_true h4] at e0
      subst e0
      have hnk : ¬ (s.size : Int) < (s.size : Int) := by omega
      clear h4
      go_wp2
      go_ret
      exact ⟨rfl, rfl⟩
set_option maxHeartbeats 3200000 in
theorem rf_method (s : ByteArray) (w : World) (hs : s.size ≤ 4611686018427387904) : Calls Tryz.prog 35 #[.string s] w fun e w' => e = .returned (.bool (mthB s.data.toList)) ∧ w' = w := by
  obtain ⟨r, hr⟩ : ∃ r, mthB s.data.toList = r := ⟨_, rfl⟩
  rw [hr]
  have HSZ := Lib.hid (Lib.size_eq s)
  have HH : Hid (∀ (k : Nat) x, s.data.toList[k]? = some x → mthC x = false → r = false) := Lib.hid (fun k x h hx => by rw [← hr]; unfold mthB; rw [all_hit h hx]; rfl)
  have HA : Hid ((∀ (k : Nat) x, s.data.toList[k]? = some x → mthC x = true) → (decide (1 ≤ s.size) && decide (s.size ≤ 4096)) = r) := Lib.hid (fun h => by rw [← hr]; unfold mthB; rw [all_yes h, ← HSZ.out]; rfl)
  have HL : Hid ((s.size < 1 ∨ ¬ s.size ≤ 4096) → r = false) := Lib.hid (fun h => by
    rw [← hr]; unfold mthB; rw [← HSZ.out]
    rcases h with h | h
    · rw [decide_eq_false (show ¬ 1 ≤ s.size by omega), Bool.false_and, Bool.and_false]
    · rw [decide_eq_false h, Bool.and_false, Bool.and_false])
  clear hr
  by_cases h1 : s.size < 1
  · have e0 := HL.out (.inl h1)
    subst e0
    have a0 : (s.size : Int) < 1 := by omega
    clear h1
    go_enter Tryz.func35, Tryz.ntmps35
    go_wp2
    go_ret
    exact ⟨rfl, rfl⟩
  have a0 : decide ((s.size : Int) < 1) = false := decide_eq_false (by omega)
  have a00 : decide (s.size < 1) = false := decide_eq_false h1
  by_cases h4 : s.size ≤ 4096
  rotate_left
  · have e0 := HL.out (.inr h4)
    subst e0
    have a1 : (4096 : Int) < (s.size : Int) := by omega
    clear h4 h1
    go_enter Tryz.func35, Tryz.ntmps35
    go_wp2
    go_ret
    exact ⟨rfl, rfl⟩
  have a1 : decide ((4096 : Int) < (s.size : Int)) = false := decide_eq_false (by omega)
  have a11 : decide (4096 < s.size) = false := decide_eq_false (by omega)
  have H14 := Lib.hid (And.intro h1 h4)
  clear h1 h4
  go_enter Tryz.func35, Tryz.ntmps35
  go_wp2_with fail
  go_loop [3] (fun i => ∃ k : Nat, k ≤ s.size ∧ i = .int .i64 (k : Int) ∧ ∀ (j : Nat) y, j < k → s.data.toList[j]? = some y → mthC y = true) (fun i => s.size - (intOf i).toNat)
  case atStart => exact ⟨0, by omega, rfl, fun j y hj => by omega⟩
  case round =>
    obtain ⟨k, hk, rfl, hal⟩ := hrel
    have HAL := Lib.hid hal
    clear hal
    by_cases hlt : k < s.size
    · have hlt' : (k : Int) < (s.size : Int) := by omega
      have hkw : IntKind.i64.wrap ((k : Int) + 1) = (k : Int) + 1 := IntWalk.i64_in _ (by omega)
      obtain ⟨x, hx⟩ : ∃ x : UInt8, s[k]'hlt = x := ⟨_, rfl⟩
      have HX := Lib.hid (show s.data.toList[k]? = some x by rw [← hx]; exact Lib.data_getElem? s k hlt)
      by_cases hl : 65 ≤ x.toNat ∧ x.toNat ≤ 90
      · have HK := Lib.hid (all_succ HAL.out HX.out (by unfold mthC; rw [decide_eq_true hl.1, decide_eq_true hl.2]; rfl))
        have b0 : decide ((x.toNat : Int) < 65) = false := decide_eq_false (by omega)
        have b1 : decide ((90 : Int) < (x.toNat : Int)) = false := decide_eq_false (by omega)
        clear hl
        go_wp2
        go_round
        case rel => exact ⟨k + 1, by omega, by go_num, HK.out⟩
        case measure => simp [intOf]; omega
      by_cases h45 : x.toNat = 45
      · have HK := Lib.hid (all_succ HAL.out HX.out (by unfold mthC; rw [decide_eq_true h45]; simp))
        clear hl
        go_wp2
        go_round
        case rel => exact ⟨k + 1, by omega, by go_num, HK.out⟩
        case measure => simp [intOf]; omega
      have e0 : r = false := HH.out k x HX.out (mth_no hl h45)
      subst e0
      have b2 : ((x.toNat : Int) != 45) = true := by simp only [bne_iff_ne, ne_eq]; omega
      by_cases h65 : x.toNat < 65
      · have b0 : (x.toNat : Int) < 65 := by omega
        clear hl h45 h65
        go_wp2
        go_ret
        exact ⟨rfl, rfl⟩
      · have b0 : decide ((x.toNat : Int) < 65) = false := decide_eq_false (by omega)
        have b1 : (90 : Int) < (x.toNat : Int) := by omega
        clear hl h45 h65
        go_wp2
        go_ret
        exact ⟨rfl, rfl⟩
    · obtain rfl : k = s.size := by omega
      have e0 := HA.out (fun j y hy => HAL.out j y (by
        have := (List.getElem?_eq_some_iff.1 hy).1
        rw [← HSZ.out] at this
        omega) hy)
      rw [decide_eq_true H14.out.2, decide_eq_true (show 1 ≤ s.size by have := H14.out.1; omega)] at e0
      subst e0
      have hnk : ¬ (s.size : Int) < (s.size : Int) := by omega
      go_wp2
      go_ret
      exact ⟨rfl, rfl⟩
set_option maxHeartbeats 6400000 in
theorem rf_right (m s p a : ByteArray) (w : World) (hm : m.size < 5000) (hp : p.size < 5000) (ha : a.size < 5000) : Calls Tryz.prog 13 #[.string m, .string s, .string p, .string a] w fun e w' => e = .returned (.bool (rightR m s p a)) ∧ w' = w := by
  have HM := Lib.hid (fun w => rf_method m w (by omega))
  have HP := Lib.hid (fun w => rf_plain p w (by omega))
  have HA := Lib.hid (fun w => rf_plain a w (by omega))
  unfold rightR pthB schB
  generalize mthB m.data.toList = b1 at *
  generalize visB a.data.toList = b4 at *
  generalize visB p.data.toList = b3 at *
  cases b1
  · go_enter Tryz.func13, Tryz.ntmps13
    go_wp2_with fail
    with_reducible refine (HM.out _).mono ?_
    rintro e w1 ⟨rfl, hw⟩
    obtain rfl : w = w1 := hw.symm
    go_wp2_with fail
    go_ret
    exact ⟨rfl, rfl⟩
  by_cases hsc : ((s.toList == [104, 116, 116, 112]) || (s.toList == [104, 116, 116, 112, 115])) = true
  rotate_left
  · have hsf : ((s.toList == [104, 116, 116, 112]) || (s.toList == [104, 116, 116, 112, 115])) = false := by simpa using hsc
    rw [hsf]
    obtain ⟨h1, h2⟩ := Bool.or_eq_false_iff.1 hsf
    clear hsc hsf
    go_enter Tryz.func13, Tryz.ntmps13
    go_wp2_with fail
    with_reducible refine (HM.out _).mono ?_
    rintro e w1 ⟨rfl, hw⟩
    obtain rfl : w = w1 := hw.symm
    go_wp2_with fail
    go_ret
    exact ⟨rfl, rfl⟩
  rw [hsc]
  have hsplit : (s.toList == [104, 116, 116, 112]) = true ∨ ((s.toList == [104, 116, 116, 112]) = false ∧ (s.toList == [104, 116, 116, 112, 115]) = true) := by
    cases h : (s.toList == [104, 116, 116, 112])
    · rw [h, Bool.false_or] at hsc
      exact .inr ⟨rfl, hsc⟩
    · exact .inl rfl
  clear hsc
  by_cases hp0 : p.size = 0
  · have hl : p.data.toList = [] := List.length_eq_zero_iff.1 (by rw [← Lib.size_eq]; exact hp0)
    rw [hl]
    have d0 : decide ((0 : Int) < (p.size : Int)) = false := decide_eq_false (by omega)
    have d1 : decide (0 < p.size) = false := decide_eq_false (by omega)
    clear hl hp0 hm hp ha
    rcases hsplit with h1 | ⟨h1, h2⟩
    all_goals
      go_enter Tryz.func13, Tryz.ntmps13
      go_wp2_with fail
      with_reducible refine (HM.out _).mono ?_
      rintro e w1 ⟨rfl, hw⟩
      obtain rfl : w = w1 := hw.symm
      go_wp2_with fail
      go_ret
      exact ⟨rfl, rfl⟩
  have hp1 : 0 < p.size := by omega
  obtain ⟨c, hc⟩ : ∃ c : UInt8, p[0]'hp1 = c := ⟨_, rfl⟩
  have hl : p.data.toList[0]? = some c := by rw [← hc]; exact Lib.data_getElem? p 0 hp1
  obtain ⟨r, hr⟩ : ∃ r, fstB 47 p.data.toList = r := ⟨_, rfl⟩
  have hr2 : (c == 47) = r := by
    rw [← hr]
    cases hd : p.data.toList with
    | nil => rw [hd] at hl; cases hl
    | cons y t =>
      rw [hd] at hl
      simp at hl
      subst hl
      rfl
  have hr3 : ((c.toNat : Int) == 47) = r := by
    rw [← hr2]
    by_cases e : c = 47
    · subst e; rfl
    · have : c.toNat ≠ 47 := fun h => e (UInt8.toNat_inj.1 h)
      rw [beq_eq_false_iff_ne.2 e]
      exact beq_eq_false_iff_ne.2 (by omega)
  have d0 : (0 : Int) < (p.size : Int) := by omega
  rw [hr]
  clear hr hr2 hl hp0 hm hp ha
  cases r
  · rcases hsplit with h1 | ⟨h1, h2⟩
    all_goals
      go_enter Tryz.func13, Tryz.ntmps13
      go_wp2_with fail
      with_reducible refine (HM.out _).mono ?_
      rintro e w1 ⟨rfl, hw⟩
      obtain rfl : w = w1 := hw.symm
      go_wp2_with fail
      go_ret
      exact ⟨rfl, rfl⟩
  cases b3
  · rcases hsplit with h1 | ⟨h1, h2⟩
    all_goals
      go_enter Tryz.func13, Tryz.ntmps13
      go_wp2_with fail
      with_reducible refine (HM.out _).mono ?_
      rintro e w1 ⟨rfl, hw⟩
      obtain rfl : w = w1 := hw.symm
      go_wp2_with fail
      with_reducible refine (HP.out _).mono ?_
      rintro e w1 ⟨rfl, hw⟩
      obtain rfl : w = w1 := hw.symm
      go_wp2_with fail
      go_ret
      exact ⟨rfl, rfl⟩
  rcases hsplit with h1 | ⟨h1, h2⟩
  all_goals
    go_enter Tryz.func13, Tryz.ntmps13
    go_wp2_with fail
    with_reducible refine (HM.out _).mono ?_
    rintro e w1 ⟨rfl, hw⟩
    obtain rfl : w = w1 := hw.symm
    go_wp2_with fail
    with_reducible refine (HP.out _).mono ?_
    rintro e w1 ⟨rfl, hw⟩
    obtain rfl : w = w1 := hw.symm
    go_wp2_with fail
    with_reducible refine (HA.out _).mono ?_
    rintro e w1 ⟨rfl, hw⟩
    obtain rfl : w = w1 := hw.symm
    go_wp2_with fail
    go_ret
    exact ⟨by cases b4 <;> rfl, rfl⟩
set_option maxHeartbeats 3200000 in
theorem l22_lines (A B : Option Addr) (c d : Nat) (n : Nat) (xs : List LnD) (w : World) (hx : xs.length = n) (hm : Many lnD 3 w A xs) (hk : Many lnD 3 w B xs) (hl : n ≤ 1000000) :
    Calls Tryz.prog 15 #[.slice A n c, .slice B n d] w fun e w' => e = .returned (.bool true) ∧ Fresh w w' := by
  have HM := Lib.hid hm
  have HK := Lib.hid hk
  have HN := Lib.hid hx
  have hnn : ((n : Int) != (n : Int)) = false := by simp
  clear hx hm hk
  go_enter Tryz.func15, Tryz.ntmps15
  go_wp2_with fail
  go_loopw [13] (fun i wr => ∃ u : Nat, u ≤ n ∧ i = .int .i64 (u : Int) ∧ Fresh w wr) (fun i _ => n - (intOf i).toNat)
  case atStart => exact ⟨0, Nat.zero_le _, rfl, Fresh.refl _⟩
  case round =>
    obtain ⟨u, hu, rfl, hf⟩ := hrel
    have HFJ := Lib.hid hf
    clear hf
    by_cases huj : u < n
    · have huj' : (u : Int) < (n : Int) := by omega
      obtain ⟨g', hg⟩ : ∃ g, xs[u]? = some g := ⟨_, List.getElem?_eq_getElem (by rw [HN.out]; exact huj)⟩
      obtain ⟨b1, o1, rfl, hb1, z0, z1, z2⟩ := (HM.out.fresh HFJ.out).lnAt u g' hg
      obtain ⟨b2, o2, rfl, hb2, k0, k1, k2⟩ := (HK.out.fresh HFJ.out).lnAt u g' hg
      obtain ⟨⟨F1, F2⟩, nv⟩ := g'
      simp only at z0 z1 z2 k0 k1 k2
      have hE := run_eq_line F1 F2 nv
      clear hb1 hb2 hg
      go_upto_region 6 with fail
      go_quiet (fail)
      all_goals
        go_wp2
        go_roundw
        case rel => exact ⟨u + 1, by omega, by go_num, HFJ.out.trans (Fresh.drewN _ _)⟩
        case measure => simp [intOf]; omega
    · obtain rfl : u = n := by omega
      have hnj : ¬ (u : Int) < (u : Int) := by omega
      go_wp2_with fail
      go_ret
      exact ⟨rfl, HFJ.out⟩
end Go.Proofs.YtapikjhfgcbifaaGreatDoor

