/-
  The law RequestResponses: its walk.
-/
import Derived.Test.YtapikjhfgcbifaaGreatDoorReqN
namespace Go.Proofs.YtapikjhfgcbifaaGreatDoor
set_option maxRecDepth 100000
set_option linter.unusedVariables false
set_option linter.unusedSimpArgs false
open Go.RowKit
def hdB (xs : List LnD) : Bool := match xs with
  | [] => false
  | x :: _ => x.1.1.toList == stsL
/-- Are the first k lines in order? -/
def ordB (xs : List LnD) (k : Nat) : Bool := hdB xs && !psB ((xs.take k).drop 1)
theorem psB_app (a b : List LnD) : psB (a ++ b) = (psB a || psB b) := List.any_append
theorem ordB_zero (xs : List LnD) : ordB xs 0 = hdB xs := by unfold ordB; simp [psB]
theorem ordB_one {xs : List LnD} {x : LnD} (h : xs[0]? = some x) : ordB xs 1 = hdB xs := by
  cases xs with
  | nil => cases h
  | cons y t => unfold ordB; simp [psB]
theorem ordB_succ {xs : List LnD} {k : Nat} {x : LnD} (h : xs[k]? = some x) (hk : 0 < k) : ordB xs (k + 1) = (ordB xs k && !ownB x) := by
  obtain ⟨hl, rfl⟩ := List.getElem?_eq_some_iff.1 h
  unfold ordB
  rw [List.take_succ_eq_append_getElem hl, List.drop_append_of_le_length (by rw [List.length_take]; omega), psB_app]
  simp [psB, Bool.and_assoc]
theorem ordB_all {x : LnD} {t : List LnD} {n : Nat} (hn : (x :: t).length = n) : ordB (x :: t) n = (hdB (x :: t) && !psB t) := by
  unfold ordB
  rw [List.take_of_length_le (by omega)]
  rfl
theorem rsp_ord {xs : List LnD} {n : Nat} (hn : xs.length = n) (h : ordB xs n = false) : rspE xs = 32 := by
  cases xs with
  | nil => rfl
  | cons x t =>
    rw [ordB_all hn] at h
    show (if x.1.1.data.toList ≠ stsL then 32 else if psB t = true then 32 else if stN x.1.2.data.toList = 0 then 31 else chkR t) = 32
    by_cases h1 : x.1.1.data.toList = stsL
    · rw [if_neg (by simpa using h1)]
      have h2 : hdB (x :: t) = true := by
        show (x.1.1.toList == stsL) = true
        rw [Lib.toList_data, h1]; rfl
      rw [h2] at h
      rw [if_pos (by simpa using h)]
    · rw [if_pos h1]
theorem rsp_yes {xs : List LnD} {n : Nat} (hn : xs.length = n) (h : ordB xs n = true) : ∃ x t, xs = x :: t ∧ rspE xs = if stN x.1.2.data.toList = 0 then 31 else chkR t := by
  cases xs with
  | nil => unfold ordB hdB at h; cases h
  | cons x t =>
    rw [ordB_all hn] at h
    obtain ⟨h1, h2⟩ := Bool.and_eq_true_iff.1 h
    have h3 : (x.1.1.toList == stsL) = true := h1
    have h4 : x.1.1.data.toList = stsL := by rw [← Lib.toList_data]; exact eq_of_beq h3
    refine ⟨x, t, rfl, ?_⟩
    show (if x.1.1.data.toList ≠ stsL then 32 else if psB t = true then 32 else if stN x.1.2.data.toList = 0 then 31 else chkR t) = _
    rw [if_neg (by simpa using h4), if_neg (by simpa using h2)]
theorem many_tailF {w : World} {b o : Nat} {x : FldT} {t : List FldT} (h : Many fldD 2 w (some ⟨b, o, none⟩) (x :: t)) : Many fldD 2 w (some ⟨b, o + 2, none⟩) t := fun ht => by
  obtain ⟨b2, o2, e, hb, hc⟩ := h (by simp)
  cases e
  refine ⟨b, o + 2, rfl, hb, fun k hk j hj => ?_⟩
  have := hc (k + 1) (by simp; omega) j hj
  rw [show o + 2 + k * 2 + j = o + (k + 1) * 2 + j by omega]
  simpa using this
set_option maxHeartbeats 32000000 in
theorem responses_all (A0 : Option Addr) (c0 : Nat) (xs : List LnD) (w : World) (hm : Many lnD 3 w A0 xs) (hl : xs.length ≤ 8796093022208) (hc0 : xs.length ≤ c0) (hcm : c0 ≤ 140737488355328) (hok : ∀ x ∈ xs, LnD.Ok w x) :
    Calls Tryz.prog 5 #[.slice A0 xs.length c0] w (RqQ w) := by
  have HAW := Lib.hid a22
  have HD1 := Lib.hid (de_fieldsB A0 c0 xs w hm hl)
  have HM := Lib.hid hm
  have HFIN : Hid (∀ W, Fresh w W → RqQ w (.returned (.bool true)) W) := Lib.hid (fun W h => ⟨rfl, h⟩)
  have HOK := Lib.hid hok
  unfold FldsP at HD1
  obtain ⟨n, hn⟩ : ∃ n, xs.length = n := ⟨_, rfl⟩
  have HN := Lib.hid hn
  rw [hn] at HD1 hl hc0 ⊢
  clear hm hok hn
  generalize RqQ w = PP at *
  have hnn : ((n : Int) != (n : Int)) = false := by simp
  obtain ⟨fs, hfs⟩ : ∃ fs, xs.map (·.1) = fs := ⟨_, rfl⟩
  rw [hfs] at HD1
  have HFN : Hid (fs.length = n) := Lib.hid (by rw [← hfs, List.length_map, HN.out])
  have HFS := Lib.hid hfs
  have HFO : Hid (∀ f ∈ fs, FldT.Ok w f) := Lib.hid (fun f hf => by
    rw [← hfs] at hf
    obtain ⟨x, hx, rfl⟩ := List.mem_map.1 hf
    exact HOK.out x hx)
  clear hfs
  go_enter Tryz.func5, Tryz.ntmps5
  go_wp2_with fail
  with_reducible refine HD1.out.mono ?_
  rintro e w2 ⟨p, rfl, hp, hmf, hf2⟩
  have HSM := l22_small (some ⟨p, 0, none⟩) n fs w2 hmf (by rw [HFN.out]; omega) (fun f hf => HFO.out f hf)
  rw [HFN.out] at HSM
  unfold SmlQ at HSM
  have HSM := Lib.hid HSM
  have HMF2 := Lib.hid hmf
  have HF2 := Lib.hid hf2
  clear hp hmf hf2 HD1
  go_wp2_with fail
  with_reducible refine HSM.out.mono ?_
  rintro e w3 ⟨r, rfl, hr, hf3⟩
  have HF3 := Lib.hid (HF2.out.trans hf3)
  have HMF := Lib.hid (HMF2.out.fresh hf3)
  have HR := Lib.hid hr
  clear hr hf3 HSM HMF2
  cases r with
  | false =>
    go_wp2_with fail
    with_reducible refine (HAW.out _).mono ?_
    rintro e w4 ⟨rfl, hf4⟩
    have HF4 := Lib.hid (HF3.out.trans hf4)
    clear hf4
    go_wp2_with fail
    exact HFIN.out _ HF4.out
  | true =>
    have hsz := sum_small (HR.out rfl)
    rw [HFN.out] at hsz
    obtain ⟨hn4, hsz⟩ := hsz
    have HVS : Hid (∀ x ∈ xs, x.1.1.size ≤ 1000 ∧ x.1.2.size ≤ 1000) := Lib.hid (fun x hx => hsz x.1 (by rw [← HFS.out]; exact List.mem_map.2 ⟨x, hx, rfl⟩))
    clear HR hl hsz
    have HRS := Lib.hid (fun W (h : Fresh w W) => rq_response A0 c0 xs W (HM.out.fresh h) (by have := HN.out; omega) (by have := HN.out; omega) hcm (fun x hx => by have := (HVS.out x hx).2; omega))
    rw [HN.out] at HRS
    unfold RspP at HRS
    go_wp2_with fail
    with_reducible refine (HRS.out _ HF3.out).mono ?_
    rintro e w4 ⟨rn, rm, rA, rk, rfl, hr1, hr2, hr3, hf4⟩
    have HR1 := Lib.hid hr1
    have HR2 := Lib.hid hr2
    have HR3 := Lib.hid hr3
    have HF4 := Lib.hid (HF3.out.trans hf4)
    have HMF4 := Lib.hid (HMF.out.fresh hf4)
    clear hr1 hr2 hr3 hf4 HRS HMF
    go_upto_region 7 with fail
    refine wp_gen (fun W => Blk W w4.heap.size 53 #[.int .i64 (rm : Int), .slice rA rk rk] ∧ Fresh w4 W) ⟨Blk.new w4 _ _, Fresh.alloc _ _⟩ ?_
    rintro W5 ⟨hb5, hf5⟩
    obtain ⟨h, hh⟩ : ∃ h, w4.heap.size = h := ⟨_, rfl⟩
    have HHW := Lib.hid hh
    rw [hh] at hb5 ⊢
    clear hh
    have HHB := Lib.hid hb5
    have HF5 := Lib.hid (HF4.out.trans hf5)
    have HM5 := Lib.hid (HMF4.out.fresh hf5)
    have HR2 : Hid (rn = 0 → ∃ x t, xs = x :: t ∧ rm = stN x.1.2.data.toList ∧ rm ≠ 0 ∧ rk = t.length ∧ Many fldD 2 W5 rA (t.map (·.1))) := Lib.hid (fun h => by
      obtain ⟨x, t, h1, h2, h3, h4, h5⟩ := HR2.out h
      exact ⟨x, t, h1, h2, h3, h4, h5.fresh hf5⟩)
    clear hb5 hf5
    have HEQ0 : Hid (∀ W, Calls Tryz.prog 26 #[.agg #[.int .i64 0, .slice none 0 0], .agg #[.int .i64 0, .slice none 0 0]] W fun e w' => e = .returned (.bool true) ∧ Fresh W w') := Lib.hid (fun W => rq_equal 0 none none 0 0 0 [] W rfl (Many.nil _ _ _ _) (Many.nil _ _ _ _) (by decide))
    by_cases hn0 : n = 0
    · have hxs : xs = [] := List.length_eq_zero_iff.1 (by rw [HN.out]; exact hn0)
      have h32 : rn = 32 := by rw [HR1.out, hxs]; rfl
      have d0 : decide ((0 : Int) < (n : Int)) = false := decide_eq_false (by omega)
      have d1 : decide (0 < n) = false := decide_eq_false (by omega)
      clear hxs hn0
      go_wp2_with fail
      go_loopw [6, 40] (fun ov i wr => ov = .bool false ∧ i = .int .i64 0 ∧ wr = W5) (fun _ _ _ => 0)
      case atStart => exact ⟨rfl, rfl, rfl⟩
      case round =>
        obtain ⟨rfl, rfl, rfl⟩ := hrel
        have HG := Lib.hid (Fresh.refl wr)
        subst h32
        obtain ⟨rfl, rfl, rfl⟩ := HR3.out (by omega)
        obtain ⟨y0, y1⟩ := (HHB.out.fresh HG.out).c2
        rw [show ((0 : Nat) : Int) = 0 from rfl] at y0
        go_wp2_with fail
        with_reducible refine (HEQ0.out _).mono ?_
        rintro e wx ⟨rfl, hfx⟩
        have HFX := Lib.hid (HG.out.trans hfx)
        clear hfx y0 y1
        go_wp2_with fail
        with_reducible refine (HAW.out _).mono ?_
        rintro e wy ⟨rfl, hfy⟩
        have HXY := Lib.hid (HFIN.out _ (HF5.out.trans (HFX.out.trans hfy)))
        clear hfy
        go_wp2_with fail
        exact HXY.out
    obtain ⟨x0, hx0⟩ : ∃ x, xs[0]? = some x := ⟨_, List.getElem?_eq_getElem (by rw [HN.out]; omega)⟩
    obtain ⟨b, o, rfl, hb, g0, g1, g2⟩ := HM.out.lnAt 0 x0 hx0
    rw [Nat.zero_mul, Nat.add_zero] at g0 g1 g2
    have HX0 := Lib.hid hx0
    obtain ⟨⟨F1, F2⟩, nv0⟩ := x0
    simp only at g0 g1 g2
    have e0 := (HF5.out.cell (p := ⟨b, o, none⟩) hb).trans g0
    have HV1 : Hid (∀ W, Fresh w W → W.cell? ⟨b, o + 1, none⟩ = some (.string F2)) := Lib.hid (fun W hf => (hf.cell (p := ⟨b, o + 1, none⟩) hb).trans g1)
    obtain ⟨v0, hv0⟩ : ∃ v, (F1.toList == stsL) = v := ⟨_, rfl⟩
    have HHD : Hid (hdB xs = v0) := Lib.hid (by
      have := HX0.out
      cases hxs : xs with
      | nil => rw [hxs] at this; cases this
      | cons y t =>
        rw [hxs] at this
        simp at this
        subst this
        exact hv0)
    unfold stsL at hv0
    have d0 : (0 : Int) < (n : Int) := by omega
    have hn1 : 0 < n := by omega
    clear hx0 g0 g1 g2 hn0
    go_upto_region 9 with fail
    clear e0
    go_loopw [6, 40] (fun ov i wr => ∃ (k : Nat) (v : Bool), k ≤ n ∧ i = .int .i64 (k : Int) ∧ ov = .bool v ∧ ordB xs k = v ∧ Fresh W5 wr) (fun _ i _ => n - (intOf i).toNat)
    case atStart => exact ⟨0, v0, by omega, rfl, rfl, by rw [ordB_zero]; exact HHD.out, Fresh.refl _⟩
    case round =>
      obtain ⟨k, v, hk, rfl, rfl, hv, hfr⟩ := hrel
      have HV := Lib.hid hv
      have HFR := Lib.hid hfr
      clear hv
      by_cases hlt : k < n
      · have hlt' : (k : Int) < (n : Int) := by omega
        have hkw : IntKind.i64.wrap ((k : Int) + 1) = (k : Int) + 1 := IntWalk.i64_in _ (by omega)
        obtain ⟨x, hx⟩ : ∃ x, xs[k]? = some x := ⟨_, List.getElem?_eq_getElem (by rw [HN.out]; exact hlt)⟩
        obtain ⟨b2, o2, hbo, hb2, g0, g1, g2⟩ := HM.out.lnAt k x hx
        injection hbo with hbo
        injection hbo with hb3 ho3
        subst hb3 ho3
        have e0 := ((HF5.out.trans hfr).cell (p := ⟨b, o + k * 3, none⟩) hb2).trans g0
        have e1 := ((HF5.out.trans hfr).cell (p := ⟨b, o + k * 3 + 1, none⟩) hb2).trans g1
        have e2 := ((HF5.out.trans hfr).cell (p := ⟨b, o + k * 3 + 2, none⟩) hb2).trans g2
        obtain ⟨r, hr⟩ : ∃ r, ownB x = r := ⟨_, rfl⟩
        have HOW := Lib.hid (fun w => l22_own x r hr (by have := (HVS.out x (List.mem_of_getElem? hx)).1; omega) w)
        have HK0 : Hid (k = 0 → ordB xs (k + 1) = v) := Lib.hid (fun h => by subst h; rw [ordB_one hx, ← ordB_zero]; exact HV.out)
        have HK1 : Hid (k ≠ 0 → ordB xs (k + 1) = (v && !r)) := Lib.hid (fun h => by rw [ordB_succ hx (by omega), HV.out, hr])
        obtain ⟨⟨f1, f2⟩, nv⟩ := x
        simp only at e0 e1 e2 HOW
        clear hx g0 g1 g2 hfr hr hb2
        go_upto_region 11 with fail
        refine wp_gen (fun W => Blk W wr.heap.size 38 #[.string f1, .string f2, .bool nv] ∧ Fresh wr W) ⟨Blk.new wr _ _, Fresh.alloc _ _⟩ ?_
        rintro W ⟨hbw, hfw⟩
        obtain ⟨q, hq⟩ : ∃ q, wr.heap.size = q := ⟨_, rfl⟩
        rw [hq] at hbw ⊢
        clear hq e0 e1 e2
        obtain ⟨y0, y1, y2⟩ := hbw.c3
        have HFW := Lib.hid (HFR.out.trans hfw)
        clear hbw hfw
        cases v
        · have HQ : Hid (ordB xs (k + 1) = false) := Lib.hid (by
            by_cases h : k = 0
            · exact HK0.out h
            · rw [HK1.out h]; rfl)
          go_wp2_with fail
          go_roundw
          case rel => exact ⟨k + 1, false, by omega, by go_num, rfl, HQ.out, HFW.out⟩
          case measure => simp [intOf]; omega
        by_cases hk0 : k = 0
        · have HQ := Lib.hid (HK0.out hk0)
          have dk : ((k : Int) == 0) = true := by simp; omega
          clear hk0
          go_wp2_with fail
          go_roundw
          case rel => exact ⟨k + 1, true, by omega, by go_num, rfl, HQ.out, HFW.out⟩
          case measure => simp [intOf]; omega
        have HQ := Lib.hid (HK1.out hk0)
        have dk : ((k : Int) == 0) = false := by simp; omega
        clear hk0
        go_wp2_with fail
        with_reducible refine (HOW.out _).mono ?_
        rintro e w6 ⟨rfl, hf6⟩
        have HF6 := Lib.hid (HFW.out.trans hf6)
        clear hf6 y0 y1 y2
        cases r
        all_goals
          go_wp2_with fail
          go_roundw
          case rel => exact ⟨k + 1, _, by omega, by go_num, rfl, HQ.out, HF6.out⟩
          case measure => simp [intOf]; omega
      · obtain rfl : k = n := by omega
        have hnk : ¬ (k : Int) < (k : Int) := by omega
        cases v
        · have h32 : rn = 32 := by rw [HR1.out]; exact rsp_ord HN.out HV.out
          subst h32
          clear hfr
          obtain ⟨rfl, rfl, rfl⟩ := HR3.out (by omega)
          obtain ⟨y0, y1⟩ := (HHB.out.fresh HFR.out).c2
          rw [show ((0 : Nat) : Int) = 0 from rfl] at y0
          go_wp2_with fail
          with_reducible refine (HEQ0.out _).mono ?_
          rintro e wx ⟨rfl, hfx⟩
          have HFX := Lib.hid (HFR.out.trans hfx)
          clear hfx y0 y1
          go_wp2_with fail
          with_reducible refine (HAW.out _).mono ?_
          rintro e wy ⟨rfl, hfy⟩
          have HXY := Lib.hid (HFIN.out _ (HF5.out.trans (HFX.out.trans hfy)))
          clear hfy
          go_wp2_with fail
          exact HXY.out
        obtain ⟨x, t, hxt, hrsp⟩ := rsp_yes HN.out HV.out
        have hx00 := HX0.out
        rw [hxt] at hx00
        simp at hx00
        subst hx00
        simp only at hrsp
        rw [← HR1.out] at hrsp
        have HRN := Lib.hid hrsp
        have HXT := Lib.hid hxt
        have e1 := HV1.out _ (HF5.out.trans HFR.out)
        have HST := Lib.hid (fun W => rf_status F2 W (by have := (HVS.out ((F1, F2), nv0) (by rw [hxt]; exact List.mem_cons_self ..)).2; simp only at this; omega))
        unfold StQ at HST
        obtain ⟨sv, hsv⟩ : ∃ sv, stN F2.data.toList = sv := ⟨_, rfl⟩
        rw [hsv] at HST HRN
        have HSV := Lib.hid hsv
        obtain ⟨m, hkm⟩ : ∃ m, k = m + 1 := ⟨k - 1, by omega⟩
        have hmt : t.length = m := by
          have := HN.out
          rw [hxt, List.length_cons] at this
          omega
        have hMT : ∃ o' c', Many lnD 3 w (some ⟨b, o', none⟩) t ∧ ((c0 = 1 ∧ o' = o ∧ c' = 0) ∨ (1 < c0 ∧ o' = o + 3 ∧ c' = c0 - 1)) := by
          by_cases h1 : c0 = 1
          · refine ⟨o, 0, ?_, .inl ⟨h1, rfl, rfl⟩⟩
            have : t = [] := List.length_eq_zero_iff.1 (by omega)
            subst this
            exact Many.nil _ _ _ _
          · have := HM.out
            rw [hxt] at this
            exact ⟨o + 3, c0 - 1, many_tail this, .inr ⟨by omega, rfl, rfl⟩⟩
        have hFT : ∃ o2, Many fldD 2 W5 (some ⟨p, o2, none⟩) (t.map (·.1)) ∧ ((m = 0 ∧ o2 = 0) ∨ (m ≠ 0 ∧ o2 = 2)) := by
          by_cases h1 : m = 0
          · refine ⟨0, ?_, .inl ⟨h1, rfl⟩⟩
            have : t = [] := List.length_eq_zero_iff.1 (by omega)
            subst this
            exact Many.nil _ _ _ _
          · have := HM5.out
            rw [← HFS.out, hxt] at this
            have h2 := many_tailF this
            rw [Nat.zero_add] at h2
            exact ⟨2, h2, .inr ⟨h1, rfl⟩⟩
        obtain ⟨o', c', hmt1, hcase⟩ := hMT
        obtain ⟨o2, hft1, hcase2⟩ := hFT
        have HFT := Lib.hid hft1
        have HCK := Lib.hid (fun W (h : Fresh w W) => cl_check (some ⟨b, o', none⟩) c' t W (hmt1.fresh h) (by omega) (fun y hy => by have := (HVS.out y (by rw [hxt]; exact List.mem_cons_of_mem _ hy)).2; omega))
        have HTL : Hid (t.length = m) := Lib.hid hmt
        rw [hmt] at HCK
        unfold ChkP at HCK
        obtain ⟨ck, hck⟩ : ∃ ck, chkR t = ck := ⟨_, rfl⟩
        rw [hck] at HRN
        have HC2 := Lib.hid hck
        have HRR : Hid (rn = 0 → rm = sv ∧ sv ≠ 0 ∧ rk = m ∧ Many fldD 2 W5 rA (t.map (·.1))) := Lib.hid (fun h => by
          obtain ⟨x', t', h1, h2, h3, h4, h5⟩ := HR2.out h
          rw [hxt] at h1
          injection h1 with h6 h7
          subst h6 h7
          simp only at h2
          rw [hsv] at h2
          exact ⟨h2, by rw [← h2]; exact h3, by rw [h4, hmt], h5⟩)
        subst hkm
        clear hxt hrsp hsv hmt hck hmt1 hft1 hfr hv0 hlt
        have q1 : (1 : Int) ≤ ((m + 1 : Nat) : Int) := by omega
        have q2 : (1 : Int) ≤ (m : Int) + 1 := by omega
        have q3 : (0 : Int) ≤ (m : Int) := by omega
        by_cases hm0 : m = 0
        · have ho2 : o2 = 0 := by
            rcases hcase2 with h | h
            · exact h.2
            · exact absurd hm0 h.1
          subst ho2 hm0
          clear hcase2
          rcases hcase with ⟨rfl, rfl, rfl⟩ | ⟨hc5, rfl, rfl⟩
          rotate_left
          · have x1 : (c0 ≤ 1) = False := by simp; omega
            have x2 : (c0 - 1 = 0) = False := by simp; omega
            go_wp2_with fail
            with_reducible refine (HST.out _).mono ?_
            rintro e w6 ⟨rfl, hf6⟩
            have HF6 := Lib.hid (HFR.out.trans hf6)
            clear hf6 e1
            go_wp2_with fail
            with_reducible refine (HCK.out _ (HF5.out.trans HF6.out)).mono ?_
            rintro e w7 ⟨ck2, rfl, hck2, hf7⟩
            rw [HC2.out] at hck2
            subst hck2
            have HF7 := Lib.hid (HF6.out.trans hf7)
            clear hf7
            by_cases hs0 : sv = 0
            · have dz : ((sv : Int) == 0) = true := by simp; omega
              have h31 : rn = 31 := by rw [HRN.out, if_pos hs0]
              clear hs0
              subst h31
              obtain ⟨rfl, rfl, rfl⟩ := HR3.out (by omega)
              obtain ⟨y0, y1⟩ := (HHB.out.fresh HF7.out).c2
              rw [show ((0 : Nat) : Int) = 0 from rfl] at y0
              go_wp2_with fail
              with_reducible refine (HEQ0.out _).mono ?_
              rintro e wx ⟨rfl, hfx⟩
              have HFX := Lib.hid (HF7.out.trans hfx)
              clear hfx y0 y1
              go_wp2_with fail
              with_reducible refine (HAW.out _).mono ?_
              rintro e wy ⟨rfl, hfy⟩
              have HXY := Lib.hid (HFIN.out _ (HF5.out.trans (HFX.out.trans hfy)))
              clear hfy
              go_wp2_with fail
              exact HXY.out
            have dz : ((sv : Int) == 0) = false := by simp; omega
            by_cases hc0 : ck = 0
            rotate_left
            · have dc : ((ck : Int) != 0) = true := by simp; omega
              have dcc : ((ck : Int) == (ck : Int)) = true := by simp
              have hrk : rn = ck := by rw [HRN.out, if_neg hs0]
              clear hs0
              subst hrk
              obtain ⟨rfl, rfl, rfl⟩ := HR3.out (by omega)
              obtain ⟨y0, y1⟩ := (HHB.out.fresh HF7.out).c2
              rw [show ((0 : Nat) : Int) = 0 from rfl] at y0
              go_wp2_with fail
              with_reducible refine (HEQ0.out _).mono ?_
              rintro e wx ⟨rfl, hfx⟩
              have HFX := Lib.hid (HF7.out.trans hfx)
              clear hfx y0 y1
              go_wp2_with fail
              with_reducible refine (HAW.out _).mono ?_
              rintro e wy ⟨rfl, hfy⟩
              have HXY := Lib.hid (HFIN.out _ (HF5.out.trans (HFX.out.trans hfy)))
              clear hfy
              go_wp2_with fail
              exact HXY.out
            have dc : ((ck : Int) != 0) = false := by rw [hc0]; rfl
            have hr0 : rn = 0 := by rw [HRN.out, if_neg hs0]; exact hc0
            obtain ⟨h1, _, h3, h4⟩ := HRR.out hr0
            subst h1 h3 hr0
            rw [show ((0 : Nat) : Int) = 0 from rfl]
            have HA4 := Lib.hid h4
            have HEQ := Lib.hid (fun W (hf : Fresh W5 W) => rq_equal (rm : Int) rA (some ⟨p, 0, none⟩) 0 0 0 (t.map (·.1)) W (by rw [List.length_map]; exact HTL.out) (HA4.out.fresh hf) (HFT.out.fresh hf) (by omega))
            have HIN := Lib.hid (fun W => rq_interim (rm : Int) (.slice rA 0 0) W)
            clear h4 hs0 hc0
            have HSK : Hid (∀ w', Fresh w7 w' → w'.cell? ⟨h, 0, none⟩ = some (.int .i64 (rm : Int)) ∧ w'.cell? ⟨h, 1, none⟩ = some (.slice rA 0 0) ∧ Fresh w7 w') := Lib.hid (fun w' hw => ⟨((HHB.out.fresh HF7.out).fresh hw).cell 0, ((HHB.out.fresh HF7.out).fresh hw).cell 1, hw⟩)
            obtain ⟨y0, y1, _⟩ := HSK.out w7 (Fresh.refl _)
            obtain ⟨bb, hbb⟩ : ∃ bb, decide ((rm : Int) < 200) = bb := ⟨_, rfl⟩
            rw [hbb] at HIN
            go_upto_region 21 with fail
            go_region_held3 (fun w' => w'.cell? ⟨h, 0, none⟩ = some (.int .i64 (rm : Int)) ∧ w'.cell? ⟨h, 1, none⟩ = some (.slice rA 0 0) ∧ Fresh w7 w')
              ((refine HSK.out _ ?_; first | with_reducible assumption | with_reducible exact Fresh.drew _))
              (first
                | (go_at_call 26; (with_reducible refine (HEQ.out _ (HF7.out.trans (by first | with_reducible assumption | with_reducible exact Fresh.drew _))).mono ?_); rintro e wa ⟨rfl, hwa⟩; have hga : Fresh w7 wa := (by first | exact (Fresh.drew _).trans hwa | (refine Fresh.trans ?_ hwa; with_reducible assumption)))
                | (go_at_call 29; (with_reducible refine (HIN.out _).mono ?_); rintro e wb ⟨rfl, hwb⟩; have hgb : Fresh w7 wb := hga.trans hwb)
                | (go_at_call 10; (with_reducible refine (HAW.out _).mono ?_); rintro e wc ⟨rfl, hwc⟩; have hgc : Fresh w7 wc := hgb.trans hwc))
            all_goals
              refine wx_gen (fun W2 => Fresh w7 W2) (by first | exact hgc | exact hgb | exact hga | exact Fresh.drew _) ?_
              rintro W2 hw2
              have HX := Lib.hid (HFIN.out W2 (HF5.out.trans (HF7.out.trans hw2)))
              clear hw2
              go_wp2_with fail
              exact HX.out
          go_wp2_with fail
          with_reducible refine (HST.out _).mono ?_
          rintro e w6 ⟨rfl, hf6⟩
          have HF6 := Lib.hid (HFR.out.trans hf6)
          clear hf6 e1
          go_wp2_with fail
          with_reducible refine (HCK.out _ (HF5.out.trans HF6.out)).mono ?_
          rintro e w7 ⟨ck2, rfl, hck2, hf7⟩
          rw [HC2.out] at hck2
          subst hck2
          have HF7 := Lib.hid (HF6.out.trans hf7)
          clear hf7
          by_cases hs0 : sv = 0
          · have dz : ((sv : Int) == 0) = true := by simp; omega
            have h31 : rn = 31 := by rw [HRN.out, if_pos hs0]
            clear hs0
            subst h31
            obtain ⟨rfl, rfl, rfl⟩ := HR3.out (by omega)
            obtain ⟨y0, y1⟩ := (HHB.out.fresh HF7.out).c2
            rw [show ((0 : Nat) : Int) = 0 from rfl] at y0
            go_wp2_with fail
            with_reducible refine (HEQ0.out _).mono ?_
            rintro e wx ⟨rfl, hfx⟩
            have HFX := Lib.hid (HF7.out.trans hfx)
            clear hfx y0 y1
            go_wp2_with fail
            with_reducible refine (HAW.out _).mono ?_
            rintro e wy ⟨rfl, hfy⟩
            have HXY := Lib.hid (HFIN.out _ (HF5.out.trans (HFX.out.trans hfy)))
            clear hfy
            go_wp2_with fail
            exact HXY.out
          have dz : ((sv : Int) == 0) = false := by simp; omega
          by_cases hc0 : ck = 0
          rotate_left
          · have dc : ((ck : Int) != 0) = true := by simp; omega
            have dcc : ((ck : Int) == (ck : Int)) = true := by simp
            have hrk : rn = ck := by rw [HRN.out, if_neg hs0]
            clear hs0
            subst hrk
            obtain ⟨rfl, rfl, rfl⟩ := HR3.out (by omega)
            obtain ⟨y0, y1⟩ := (HHB.out.fresh HF7.out).c2
            rw [show ((0 : Nat) : Int) = 0 from rfl] at y0
            go_wp2_with fail
            with_reducible refine (HEQ0.out _).mono ?_
            rintro e wx ⟨rfl, hfx⟩
            have HFX := Lib.hid (HF7.out.trans hfx)
            clear hfx y0 y1
            go_wp2_with fail
            with_reducible refine (HAW.out _).mono ?_
            rintro e wy ⟨rfl, hfy⟩
            have HXY := Lib.hid (HFIN.out _ (HF5.out.trans (HFX.out.trans hfy)))
            clear hfy
            go_wp2_with fail
            exact HXY.out
          have dc : ((ck : Int) != 0) = false := by rw [hc0]; rfl
          have hr0 : rn = 0 := by rw [HRN.out, if_neg hs0]; exact hc0
          obtain ⟨h1, _, h3, h4⟩ := HRR.out hr0
          subst h1 h3 hr0
          rw [show ((0 : Nat) : Int) = 0 from rfl]
          have HA4 := Lib.hid h4
          have HEQ := Lib.hid (fun W (hf : Fresh W5 W) => rq_equal (rm : Int) rA (some ⟨p, 0, none⟩) 0 0 0 (t.map (·.1)) W (by rw [List.length_map]; exact HTL.out) (HA4.out.fresh hf) (HFT.out.fresh hf) (by omega))
          have HIN := Lib.hid (fun W => rq_interim (rm : Int) (.slice rA 0 0) W)
          clear h4 hs0 hc0
          have HSK : Hid (∀ w', Fresh w7 w' → w'.cell? ⟨h, 0, none⟩ = some (.int .i64 (rm : Int)) ∧ w'.cell? ⟨h, 1, none⟩ = some (.slice rA 0 0) ∧ Fresh w7 w') := Lib.hid (fun w' hw => ⟨((HHB.out.fresh HF7.out).fresh hw).cell 0, ((HHB.out.fresh HF7.out).fresh hw).cell 1, hw⟩)
          obtain ⟨y0, y1, _⟩ := HSK.out w7 (Fresh.refl _)
          obtain ⟨bb, hbb⟩ : ∃ bb, decide ((rm : Int) < 200) = bb := ⟨_, rfl⟩
          rw [hbb] at HIN
          go_upto_region 21 with fail
          go_region_held3 (fun w' => w'.cell? ⟨h, 0, none⟩ = some (.int .i64 (rm : Int)) ∧ w'.cell? ⟨h, 1, none⟩ = some (.slice rA 0 0) ∧ Fresh w7 w')
            ((refine HSK.out _ ?_; first | with_reducible assumption | with_reducible exact Fresh.drew _))
            (first
              | (go_at_call 26; (with_reducible refine (HEQ.out _ (HF7.out.trans (by first | with_reducible assumption | with_reducible exact Fresh.drew _))).mono ?_); rintro e wa ⟨rfl, hwa⟩; have hga : Fresh w7 wa := (by first | exact (Fresh.drew _).trans hwa | (refine Fresh.trans ?_ hwa; with_reducible assumption)))
              | (go_at_call 29; (with_reducible refine (HIN.out _).mono ?_); rintro e wb ⟨rfl, hwb⟩; have hgb : Fresh w7 wb := hga.trans hwb)
              | (go_at_call 10; (with_reducible refine (HAW.out _).mono ?_); rintro e wc ⟨rfl, hwc⟩; have hgc : Fresh w7 wc := hgb.trans hwc))
          all_goals
            refine wx_gen (fun W2 => Fresh w7 W2) (by first | exact hgc | exact hgb | exact hga | exact Fresh.drew _) ?_
            rintro W2 hw2
            have HX := Lib.hid (HFIN.out W2 (HF5.out.trans (HF7.out.trans hw2)))
            clear hw2
            go_wp2_with fail
            exact HX.out
        have ho2 : o2 = 2 := by
          rcases hcase2 with h | h
          · exact absurd h.1 hm0
          · exact h.2
        subst ho2
        clear hcase2
        rcases hcase with ⟨rfl, rfl, rfl⟩ | ⟨hc5, rfl, rfl⟩
        · exfalso; omega
        have x1 : (c0 ≤ 1) = False := by simp; omega
        have x2 : (c0 - 1 = 0) = False := by simp; omega
        have j0 : (m = 0) = False := by simp [hm0]
        go_wp2_with fail
        with_reducible refine (HST.out _).mono ?_
        rintro e w6 ⟨rfl, hf6⟩
        have HF6 := Lib.hid (HFR.out.trans hf6)
        clear hf6 e1
        go_wp2_with fail
        with_reducible refine (HCK.out _ (HF5.out.trans HF6.out)).mono ?_
        rintro e w7 ⟨ck2, rfl, hck2, hf7⟩
        rw [HC2.out] at hck2
        subst hck2
        have HF7 := Lib.hid (HF6.out.trans hf7)
        clear hf7
        by_cases hs0 : sv = 0
        · have dz : ((sv : Int) == 0) = true := by simp; omega
          have h31 : rn = 31 := by rw [HRN.out, if_pos hs0]
          clear hs0
          subst h31
          obtain ⟨rfl, rfl, rfl⟩ := HR3.out (by omega)
          obtain ⟨y0, y1⟩ := (HHB.out.fresh HF7.out).c2
          rw [show ((0 : Nat) : Int) = 0 from rfl] at y0
          go_wp2_with fail
          with_reducible refine (HEQ0.out _).mono ?_
          rintro e wx ⟨rfl, hfx⟩
          have HFX := Lib.hid (HF7.out.trans hfx)
          clear hfx y0 y1
          go_wp2_with fail
          with_reducible refine (HAW.out _).mono ?_
          rintro e wy ⟨rfl, hfy⟩
          have HXY := Lib.hid (HFIN.out _ (HF5.out.trans (HFX.out.trans hfy)))
          clear hfy
          go_wp2_with fail
          exact HXY.out
        have dz : ((sv : Int) == 0) = false := by simp; omega
        by_cases hc0 : ck = 0
        rotate_left
        · have dc : ((ck : Int) != 0) = true := by simp; omega
          have dcc : ((ck : Int) == (ck : Int)) = true := by simp
          have hrk : rn = ck := by rw [HRN.out, if_neg hs0]
          clear hs0
          subst hrk
          obtain ⟨rfl, rfl, rfl⟩ := HR3.out (by omega)
          obtain ⟨y0, y1⟩ := (HHB.out.fresh HF7.out).c2
          rw [show ((0 : Nat) : Int) = 0 from rfl] at y0
          go_wp2_with fail
          with_reducible refine (HEQ0.out _).mono ?_
          rintro e wx ⟨rfl, hfx⟩
          have HFX := Lib.hid (HF7.out.trans hfx)
          clear hfx y0 y1
          go_wp2_with fail
          with_reducible refine (HAW.out _).mono ?_
          rintro e wy ⟨rfl, hfy⟩
          have HXY := Lib.hid (HFIN.out _ (HF5.out.trans (HFX.out.trans hfy)))
          clear hfy
          go_wp2_with fail
          exact HXY.out
        have dc : ((ck : Int) != 0) = false := by rw [hc0]; rfl
        have hr0 : rn = 0 := by rw [HRN.out, if_neg hs0]; exact hc0
        obtain ⟨h1, _, h3, h4⟩ := HRR.out hr0
        subst h1 h3 hr0
        rw [show ((0 : Nat) : Int) = 0 from rfl]
        have HA4 := Lib.hid h4
        have HEQ := Lib.hid (fun W (hf : Fresh W5 W) => rq_equal (rm : Int) rA (some ⟨p, 2, none⟩) rk rk rk (t.map (·.1)) W (by rw [List.length_map]; exact HTL.out) (HA4.out.fresh hf) (HFT.out.fresh hf) (by omega))
        have HIN := Lib.hid (fun W => rq_interim (rm : Int) (.slice rA rk rk) W)
        clear h4 hs0 hc0
        have HSK : Hid (∀ w', Fresh w7 w' → w'.cell? ⟨h, 0, none⟩ = some (.int .i64 (rm : Int)) ∧ w'.cell? ⟨h, 1, none⟩ = some (.slice rA rk rk) ∧ Fresh w7 w') := Lib.hid (fun w' hw => ⟨((HHB.out.fresh HF7.out).fresh hw).cell 0, ((HHB.out.fresh HF7.out).fresh hw).cell 1, hw⟩)
        obtain ⟨y0, y1, _⟩ := HSK.out w7 (Fresh.refl _)
        obtain ⟨bb, hbb⟩ : ∃ bb, decide ((rm : Int) < 200) = bb := ⟨_, rfl⟩
        rw [hbb] at HIN
        go_upto_region 21 with fail
        go_region_held3 (fun w' => w'.cell? ⟨h, 0, none⟩ = some (.int .i64 (rm : Int)) ∧ w'.cell? ⟨h, 1, none⟩ = some (.slice rA rk rk) ∧ Fresh w7 w')
          ((refine HSK.out _ ?_; first | with_reducible assumption | with_reducible exact Fresh.drew _))
          (first
            | (go_at_call 26; (with_reducible refine (HEQ.out _ (HF7.out.trans (by first | with_reducible assumption | with_reducible exact Fresh.drew _))).mono ?_); rintro e wa ⟨rfl, hwa⟩; have hga : Fresh w7 wa := (by first | exact (Fresh.drew _).trans hwa | (refine Fresh.trans ?_ hwa; with_reducible assumption)))
            | (go_at_call 29; (with_reducible refine (HIN.out _).mono ?_); rintro e wb ⟨rfl, hwb⟩; have hgb : Fresh w7 wb := hga.trans hwb)
            | (go_at_call 10; (with_reducible refine (HAW.out _).mono ?_); rintro e wc ⟨rfl, hwc⟩; have hgc : Fresh w7 wc := hgb.trans hwc))
        all_goals
          refine wx_gen (fun W2 => Fresh w7 W2) (by first | exact hgc | exact hgb | exact hga | exact Fresh.drew _) ?_
          rintro W2 hw2
          have HX := Lib.hid (HFIN.out W2 (HF5.out.trans (HF7.out.trans hw2)))
          clear hw2
          go_wp2_with fail
          exact HX.out
theorem RequestResponses_any (s : LdsV) (w : World) (h : s.Ok w) : Calls Tryz.prog 5 #[.slice s.A s.xs.length s.c] w (RqQ w) := responses_all s.A s.c s.xs w h.rows (by have := h.le; have := h.max; omega) h.le (by have := h.max; omega) h.ok
end Go.Proofs.YtapikjhfgcbifaaGreatDoor

