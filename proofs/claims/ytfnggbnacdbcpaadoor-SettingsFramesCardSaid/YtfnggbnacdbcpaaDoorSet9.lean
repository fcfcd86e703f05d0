/-
  The law SettingsFrames.
-/
import Derived.Test.YtfnggbnacdbcpaaDoorSet8
import Derived.Test.YtfnggbnacdbcpaaDoorPayT
namespace Go.Proofs.YtfnggbnacdbcpaaDoor
set_option linter.unusedVariables false
open Go.RowKit

theorem Rul.fr {w w' : World} (h : Rul w) (hf : Fresh w w') : Rul w' := h.fresh hf
theorem set_zeq (w : World) : Calls Tryd.prog 15 #[.agg #[.int .i64 0, .int .i64 0, .int .i64 0, .slice none 0 0], .agg #[.int .i64 0, .int .i64 0, .int .i64 0, .slice none 0 0]] w fun e w' => e = .returned (.bool true) ∧ Fresh w w' :=
  fequal_at 0 0 0 none 0 [] 0 0 0 0 none 0 [] 0 w true rfl rfl (BS.nil _ _) (BS.nil _ _) (by simp [frEq])
def RgtB (ps : List (Int × Int)) (k : Nat) : Bool := (ps.take k).all fun p => decide (PrOk p)
theorem RgtB.succ {ps : List (Int × Int)} {k : Nat} {p : Int × Int} (h : ps[k]? = some p) : RgtB ps (k + 1) = (RgtB ps k && decide (PrOk p)) := by
  obtain ⟨hk, rfl⟩ := List.getElem?_eq_some_iff.1 h
  unfold RgtB
  rw [List.take_succ_eq_append_getElem hk, List.all_append]
  simp only [List.all_cons, List.all_nil, Bool.and_true]
theorem RgtB.all {ps : List (Int × Int)} (h : ∀ p ∈ ps, PrOk p) : RgtB ps ps.length = true := by
  simp only [RgtB, List.take_length, List.all_eq_true, decide_eq_true_eq]
  exact h
theorem RgtB.none {ps : List (Int × Int)} {k : Nat} (hk : k < ps.length) (h : ¬ PrOk ps[k]) : RgtB ps ps.length = false := by
  rw [Bool.eq_false_iff]
  intro e
  simp only [RgtB, List.take_length, List.all_eq_true, decide_eq_true_eq] at e
  exact h (e _ (List.getElem_mem hk))
def LwP (w : World) (e : Ending) (w' : World) : Prop := e = .returned (.bool true) ∧ Fresh w w'
theorem set_parse (ps : List (Int × Int)) (A : Option Addr) (c : Nat) (w : World) (hA : BS w A (prsB ps)) (hc : 6 * ps.length ≤ c) (hcm : c ≤ maxLen) (hn : ps.length ≤ 100) (hok : ∀ p ∈ ps, PrOk p) :
    Calls Tryd.prog 16 #[.agg #[.int .i64 4, .int .i64 0, .int .i64 0, .slice A (6 * ps.length) c]] w (ToldP 4 0 0 ({ PR0 with ps := ps }, 0, false) w) := by
  have hl := prsB_len ps
  have h1 : hasB 0 1 = false := by decide +kernel
  have hpd : pdB 4 0 = false := by simp [pdB]
  have hwg : wgB 4 0 = false := by simp [wgB]
  have hah : aheadN 4 0 = 0 := by simp [aheadN, hpd, hwg]
  have hpn : padN 4 0 (prsB ps) = 0 := by simp [padN, hpd]
  have := pparse_at 6 4 0 0 A c (prsB ps) w hA (by omega) hcm (by omega) ⟨by omega, fun j hj => by
    match j, hj with
    | 0, _ => simp [lookB, srB]
    | 1, _ => simp [lookB, szB, hah, hl, h1]; try omega
    | 2, _ => simp [lookB, hah, hpn]
    | 3, _ => simp [lookB]
    | 4, _ => simp [lookB, hwg]
    | 5, _ => simp [lookB], fun h => absurd h (by omega)⟩ ({ PR0 with ps := ps }, 0, false) (by
      rw [prsF, if_neg (by omega)]
      simp only [prOf]
      simp [h1, hl, prsL_prsB ps hok, PR0])
  rw [hl] at this
  exact this
theorem set_parse2 (w : World) :
    Calls Tryd.prog 16 #[.agg #[.int .i64 4, .int .i64 1, .int .i64 0, .slice none 0 0]] w (ToldP 4 0 0 ({ PR0 with ak := true }, 0, false) w) := by
  have h1 : hasB 1 1 = true := by decide +kernel
  have hpd : pdB 4 1 = false := by simp [pdB]
  have hwg : wgB 4 1 = false := by simp [wgB]
  have hah : aheadN 4 1 = 0 := by simp [aheadN, hpd, hwg]
  have hpn : padN 4 1 [] = 0 := by simp [padN, hpd]
  exact pparse_at 6 4 1 0 none 0 [] w (BS.nil _ _) (by simp) (by simp [maxLen]) (by simp) ⟨by omega, fun j hj => by
    match j, hj with
    | 0, _ => simp [lookB, srB]
    | 1, _ => simp [lookB, szB, hah]
    | 2, _ => simp [lookB, hah, hpn]
    | 3, _ => simp [lookB]
    | 4, _ => simp [lookB, hwg]
    | 5, _ => simp [lookB], fun h => absurd h (by omega)⟩ ({ PR0 with ak := true }, 0, false) (by
      rw [prsF, if_neg (by omega)]
      simp only [prOf]
      simp [h1, prsL, PR0])
section
variable {A : Option Addr} {ps : List (Int × Int)} {c : Nat} {w : World}
set_option maxRecDepth 100000 in
set_option maxHeartbeats 3200000 in
theorem sfr_long (h : 150 < ps.length) (hR : Rul w) : Calls Tryd.prog 4 #[.slice A ps.length c] w (LwP w) := by
  have dd : (150 : Int) < (ps.length : Int) := by omega
  have HA := Lib.hid (set_awake w hR)
  clear hR h
  go_enter Tryd.func4, Tryd.ntmps4
  go_wp2_with fail
  with_reducible refine HA.out.mono ?_
  rintro e w1 ⟨rfl, hf1⟩
  have HF := Lib.hid hf1
  clear hf1
  go_wp2_with fail
  go_ret
  exact ⟨rfl, HF.out⟩
set_option maxRecDepth 100000 in
set_option maxHeartbeats 6400000 in
theorem sfr_bad (hrg : RgtB ps ps.length = false) (hmx : ps.length ≤ 150) (hm : Many pairC 2 w A ps) (hR : Rul w)
    (hFr : ∀ W, Fresh w W → Calls Tryd.prog 14 #[.slice A ps.length c] W (FrmBad 11 W)) :
    Calls Tryd.prog 4 #[.slice A ps.length c] w (LwP w) := by
  have dd : decide ((150 : Int) < (ps.length : Int)) = false := by simp; omega
  have HRG := Lib.hid hrg
  clear hrg
  have HM := Lib.hid hm
  have HR := Lib.hid hR
  have HFR := Lib.hid hFr
  clear hm hR hFr
  go_enter Tryd.func4, Tryd.ntmps4
  go_wp2_with fail
  go_loopw [3, 19] (fun r i wr => ∃ (j : Nat), j ≤ ps.length ∧ r = .bool (RgtB ps j) ∧ i = .int .i64 (j : Int) ∧ Fresh w wr) (fun _ i _ => ps.length - (intOf i).toNat)
  case atStart => exact ⟨0, by omega, rfl, rfl, Fresh.refl _⟩
  case round =>
    obtain ⟨j, hj, rfl, rfl, hf⟩ := hrel
    have HF := Lib.hid hf
    by_cases hlt : j < ps.length
    · have hlt' : (j : Int) < (ps.length : Int) := by omega
      obtain ⟨⟨n, v⟩, hy⟩ : ∃ y, ps[j]? = some y := ⟨_, List.getElem?_eq_getElem hlt⟩
      obtain ⟨b, o, rfl, hbw, hcc⟩ := HM.out.at j (n, v) hy
      have e0 := (hf.cell (p := ⟨b, o + j * 2 + 0, none⟩) hbw).trans (hcc 0 (by omega))
      have e1 := (hf.cell (p := ⟨b, o + j * 2 + 1, none⟩) hbw).trans (hcc 1 (by omega))
      simp only [pairC, List.getElem?_cons_zero, List.getElem?_cons_succ, Nat.add_zero] at e0 e1
      have hs := RgtB.succ hy
      have hP : PrOk (n, v) ↔ (0 ≤ n ∧ n ≤ 65535 ∧ 0 ≤ v ∧ v ≤ 4294967295) := Iff.rfl
      clear hcc hy hf
      generalize RgtB ps j = rj at *
      cases rj
      · rw [Bool.false_and] at hs
        have HS := Lib.hid hs
        clear hs hP
        go_wp2_with fail
        go_roundw
        case rel => exact ⟨j + 1, by omega, by rw [HS.out], by go_num, HF.out.allocS _⟩
        case measure => simp [intOf]; omega
      · rw [Bool.true_and] at hs
        by_cases a0 : 0 ≤ n
        · by_cases a1 : n ≤ 65535
          · by_cases b0 : 0 ≤ v
            · by_cases b1 : v ≤ 4294967295
              · rw [decide_eq_true (hP.2 ⟨a0, a1, b0, b1⟩)] at hs
                have HS := Lib.hid hs
                have q0 : decide (0 ≤ n) = true := by simp; omega
                have q1 : decide (n < 65536) = true := by simp; omega
                have q2 : decide (0 ≤ v) = true := by simp; omega
                have q3 : decide (v < 4294967296) = true := by simp; omega
                clear hs hP a0 a1 b0 b1
                go_wp2_with fail
                go_roundw
                case rel => exact ⟨j + 1, by omega, by rw [HS.out], by go_num, HF.out.allocS _⟩
                case measure => simp [intOf]; omega
              · rw [decide_eq_false (fun h => b1 (hP.1 h).2.2.2)] at hs
                have HS := Lib.hid hs
                have q0 : decide (0 ≤ n) = true := by simp; omega
                have q1 : decide (n < 65536) = true := by simp; omega
                have q2 : decide (0 ≤ v) = true := by simp; omega
                have q3 : decide (v < 4294967296) = false := by simp; omega
                clear hs hP a0 a1 b0 b1
                go_wp2_with fail
                go_roundw
                case rel => exact ⟨j + 1, by omega, by rw [HS.out], by go_num, HF.out.allocS _⟩
                case measure => simp [intOf]; omega
            · rw [decide_eq_false (fun h => b0 (hP.1 h).2.2.1)] at hs
              have HS := Lib.hid hs
              have q0 : decide (0 ≤ n) = true := by simp; omega
              have q1 : decide (n < 65536) = true := by simp; omega
              have q2 : decide (0 ≤ v) = false := by simp; omega
              clear hs hP a0 a1 b0
              go_wp2_with fail
              go_roundw
              case rel => exact ⟨j + 1, by omega, by rw [HS.out], by go_num, HF.out.allocS _⟩
              case measure => simp [intOf]; omega
          · rw [decide_eq_false (fun h => a1 (hP.1 h).2.1)] at hs
            have HS := Lib.hid hs
            have q0 : decide (0 ≤ n) = true := by simp; omega
            have q1 : decide (n < 65536) = false := by simp; omega
            clear hs hP a0 a1
            go_wp2_with fail
            go_roundw
            case rel => exact ⟨j + 1, by omega, by rw [HS.out], by go_num, HF.out.allocS _⟩
            case measure => simp [intOf]; omega
        · rw [decide_eq_false (fun h => a0 (hP.1 h).1)] at hs
          have HS := Lib.hid hs
          have q0 : decide (0 ≤ n) = false := by simp; omega
          clear hs hP a0
          go_wp2_with fail
          go_roundw
          case rel => exact ⟨j + 1, by omega, by rw [HS.out], by go_num, HF.out.allocS _⟩
          case measure => simp [intOf]; omega
    · obtain rfl : j = ps.length := by omega
      have hrg : RgtB ps ps.length = false := HRG.out
      rw [hrg]
      clear hrg hf hj
      go_wp2_with fail
      with_reducible refine (HFR.out _ HF.out).mono ?_
      rintro e w1 ⟨rfl, hf1⟩
      have HF1 := Lib.hid (HF.out.trans hf1)
      clear hf1
      go_wp2_with fail
      with_reducible refine (set_zeq _).mono ?_
      rintro e w2 ⟨rfl, hf2⟩
      have HF2 := Lib.hid (HF1.out.trans ((Fresh.alloc _ _).trans hf2))
      clear hf2
      go_wp2_with fail
      with_reducible refine (set_awake _ (HR.out.fr HF2.out)).mono ?_
      rintro e w3 ⟨rfl, hf3⟩
      have HF3 := Lib.hid (HF2.out.trans hf3)
      clear hf3
      go_wp2_with fail
      go_ret
      exact ⟨rfl, HF3.out⟩
set_option maxRecDepth 100000 in
set_option maxHeartbeats 6400000 in
theorem sfr_full (hrg : RgtB ps ps.length = true) (h100 : 100 < ps.length) (hmx : ps.length ≤ 150) (hm : Many pairC 2 w A ps) (hR : Rul w)
    (hFr : ∀ W, Fresh w W → Calls Tryd.prog 14 #[.slice A ps.length c] W (FrmBad 15 W)) :
    Calls Tryd.prog 4 #[.slice A ps.length c] w (LwP w) := by
  have dd : decide ((150 : Int) < (ps.length : Int)) = false := by simp; omega
  have HRG := Lib.hid hrg
  have d1 : (100 : Int) < (ps.length : Int) := by omega
  clear hrg
  have HM := Lib.hid hm
  have HR := Lib.hid hR
  have HFR := Lib.hid hFr
  clear hm hR hFr
  go_enter Tryd.func4, Tryd.ntmps4
  go_wp2_with fail
  go_loopw [3, 19] (fun r i wr => ∃ (j : Nat), j ≤ ps.length ∧ r = .bool (RgtB ps j) ∧ i = .int .i64 (j : Int) ∧ Fresh w wr) (fun _ i _ => ps.length - (intOf i).toNat)
  case atStart => exact ⟨0, by omega, rfl, rfl, Fresh.refl _⟩
  case round =>
    obtain ⟨j, hj, rfl, rfl, hf⟩ := hrel
    have HF := Lib.hid hf
    by_cases hlt : j < ps.length
    · have hlt' : (j : Int) < (ps.length : Int) := by omega
      obtain ⟨⟨n, v⟩, hy⟩ : ∃ y, ps[j]? = some y := ⟨_, List.getElem?_eq_getElem hlt⟩
      obtain ⟨b, o, rfl, hbw, hcc⟩ := HM.out.at j (n, v) hy
      have e0 := (hf.cell (p := ⟨b, o + j * 2 + 0, none⟩) hbw).trans (hcc 0 (by omega))
      have e1 := (hf.cell (p := ⟨b, o + j * 2 + 1, none⟩) hbw).trans (hcc 1 (by omega))
      simp only [pairC, List.getElem?_cons_zero, List.getElem?_cons_succ, Nat.add_zero] at e0 e1
      have hs := RgtB.succ hy
      have hP : PrOk (n, v) ↔ (0 ≤ n ∧ n ≤ 65535 ∧ 0 ≤ v ∧ v ≤ 4294967295) := Iff.rfl
      clear hcc hy hf
      generalize RgtB ps j = rj at *
      cases rj
      · rw [Bool.false_and] at hs
        have HS := Lib.hid hs
        clear hs hP
        go_wp2_with fail
        go_roundw
        case rel => exact ⟨j + 1, by omega, by rw [HS.out], by go_num, HF.out.allocS _⟩
        case measure => simp [intOf]; omega
      · rw [Bool.true_and] at hs
        by_cases a0 : 0 ≤ n
        · by_cases a1 : n ≤ 65535
          · by_cases b0 : 0 ≤ v
            · by_cases b1 : v ≤ 4294967295
              · rw [decide_eq_true (hP.2 ⟨a0, a1, b0, b1⟩)] at hs
                have HS := Lib.hid hs
                have q0 : decide (0 ≤ n) = true := by simp; omega
                have q1 : decide (n < 65536) = true := by simp; omega
                have q2 : decide (0 ≤ v) = true := by simp; omega
                have q3 : decide (v < 4294967296) = true := by simp; omega
                clear hs hP a0 a1 b0 b1
                go_wp2_with fail
                go_roundw
                case rel => exact ⟨j + 1, by omega, by rw [HS.out], by go_num, HF.out.allocS _⟩
                case measure => simp [intOf]; omega
              · rw [decide_eq_false (fun h => b1 (hP.1 h).2.2.2)] at hs
                have HS := Lib.hid hs
                have q0 : decide (0 ≤ n) = true := by simp; omega
                have q1 : decide (n < 65536) = true := by simp; omega
                have q2 : decide (0 ≤ v) = true := by simp; omega
                have q3 : decide (v < 4294967296) = false := by simp; omega
                clear hs hP a0 a1 b0 b1
                go_wp2_with fail
                go_roundw
                case rel => exact ⟨j + 1, by omega, by rw [HS.out], by go_num, HF.out.allocS _⟩
                case measure => simp [intOf]; omega
            · rw [decide_eq_false (fun h => b0 (hP.1 h).2.2.1)] at hs
              have HS := Lib.hid hs
              have q0 : decide (0 ≤ n) = true := by simp; omega
              have q1 : decide (n < 65536) = true := by simp; omega
              have q2 : decide (0 ≤ v) = false := by simp; omega
              clear hs hP a0 a1 b0
              go_wp2_with fail
              go_roundw
              case rel => exact ⟨j + 1, by omega, by rw [HS.out], by go_num, HF.out.allocS _⟩
              case measure => simp [intOf]; omega
          · rw [decide_eq_false (fun h => a1 (hP.1 h).2.1)] at hs
            have HS := Lib.hid hs
            have q0 : decide (0 ≤ n) = true := by simp; omega
            have q1 : decide (n < 65536) = false := by simp; omega
            clear hs hP a0 a1
            go_wp2_with fail
            go_roundw
            case rel => exact ⟨j + 1, by omega, by rw [HS.out], by go_num, HF.out.allocS _⟩
            case measure => simp [intOf]; omega
        · rw [decide_eq_false (fun h => a0 (hP.1 h).1)] at hs
          have HS := Lib.hid hs
          have q0 : decide (0 ≤ n) = false := by simp; omega
          clear hs hP a0
          go_wp2_with fail
          go_roundw
          case rel => exact ⟨j + 1, by omega, by rw [HS.out], by go_num, HF.out.allocS _⟩
          case measure => simp [intOf]; omega
    · obtain rfl : j = ps.length := by omega
      have hrg : RgtB ps ps.length = true := HRG.out
      rw [hrg]
      clear hrg hf hj
      go_wp2_with fail
      with_reducible refine (HFR.out _ HF.out).mono ?_
      rintro e w1 ⟨rfl, hf1⟩
      have HF1 := Lib.hid (HF.out.trans hf1)
      clear hf1
      go_wp2_with fail
      with_reducible refine (set_zeq _).mono ?_
      rintro e w2 ⟨rfl, hf2⟩
      have HF2 := Lib.hid (HF1.out.trans ((Fresh.alloc _ _).trans hf2))
      clear hf2
      go_wp2_with fail
      with_reducible refine (set_awake _ (HR.out.fr HF2.out)).mono ?_
      rintro e w3 ⟨rfl, hf3⟩
      have HF3 := Lib.hid (HF2.out.trans hf3)
      clear hf3
      go_wp2_with fail
      go_ret
      exact ⟨rfl, HF3.out⟩
set_option maxRecDepth 100000 in
set_option maxHeartbeats 6400000 in
theorem sfr_ok (hok : ∀ p ∈ ps, PrOk p) (hmx : ps.length ≤ 100) (hm : Many pairC 2 w A ps) (hR : Rul w) :
    Calls Tryd.prog 4 #[.slice A ps.length c] w (LwP w) := by
  have dd : decide ((150 : Int) < (ps.length : Int)) = false := by simp; omega
  have d1 : decide ((100 : Int) < (ps.length : Int)) = false := by simp; omega
  have HM := Lib.hid hm
  have HR := Lib.hid hR
  have HRG := Lib.hid (RgtB.all hok)
  have HFR := Lib.hid (fun W (hw : Fresh w W) => set_frame_ok A ps c W hmx (hm.fresh hw) hok)
  have HPP := Lib.hid (fun A c W hA hc hm => set_parse ps A c W hA hc hm hmx hok)
  clear hm hR hok
  go_enter Tryd.func4, Tryd.ntmps4
  go_wp2_with fail
  go_loopw [3, 19] (fun r i wr => ∃ (j : Nat), j ≤ ps.length ∧ r = .bool (RgtB ps j) ∧ i = .int .i64 (j : Int) ∧ Fresh w wr) (fun _ i _ => ps.length - (intOf i).toNat)
  case atStart => exact ⟨0, by omega, rfl, rfl, Fresh.refl _⟩
  case round =>
    obtain ⟨j, hj, rfl, rfl, hf⟩ := hrel
    have HF := Lib.hid hf
    by_cases hlt : j < ps.length
    · have hlt' : (j : Int) < (ps.length : Int) := by omega
      obtain ⟨⟨n, v⟩, hy⟩ : ∃ y, ps[j]? = some y := ⟨_, List.getElem?_eq_getElem hlt⟩
      obtain ⟨b, o, rfl, hbw, hcc⟩ := HM.out.at j (n, v) hy
      have e0 := (hf.cell (p := ⟨b, o + j * 2 + 0, none⟩) hbw).trans (hcc 0 (by omega))
      have e1 := (hf.cell (p := ⟨b, o + j * 2 + 1, none⟩) hbw).trans (hcc 1 (by omega))
      simp only [pairC, List.getElem?_cons_zero, List.getElem?_cons_succ, Nat.add_zero] at e0 e1
      have hs := RgtB.succ hy
      have hP : PrOk (n, v) ↔ (0 ≤ n ∧ n ≤ 65535 ∧ 0 ≤ v ∧ v ≤ 4294967295) := Iff.rfl
      clear hcc hy hf
      generalize RgtB ps j = rj at *
      cases rj
      · rw [Bool.false_and] at hs
        have HS := Lib.hid hs
        clear hs hP
        go_wp2_with fail
        go_roundw
        case rel => exact ⟨j + 1, by omega, by rw [HS.out], by go_num, HF.out.allocS _⟩
        case measure => simp [intOf]; omega
      · rw [Bool.true_and] at hs
        by_cases a0 : 0 ≤ n
        · by_cases a1 : n ≤ 65535
          · by_cases b0 : 0 ≤ v
            · by_cases b1 : v ≤ 4294967295
              · rw [decide_eq_true (hP.2 ⟨a0, a1, b0, b1⟩)] at hs
                have HS := Lib.hid hs
                have q0 : decide (0 ≤ n) = true := by simp; omega
                have q1 : decide (n < 65536) = true := by simp; omega
                have q2 : decide (0 ≤ v) = true := by simp; omega
                have q3 : decide (v < 4294967296) = true := by simp; omega
                clear hs hP a0 a1 b0 b1
                go_wp2_with fail
                go_roundw
                case rel => exact ⟨j + 1, by omega, by rw [HS.out], by go_num, HF.out.allocS _⟩
                case measure => simp [intOf]; omega
              · rw [decide_eq_false (fun h => b1 (hP.1 h).2.2.2)] at hs
                have HS := Lib.hid hs
                have q0 : decide (0 ≤ n) = true := by simp; omega
                have q1 : decide (n < 65536) = true := by simp; omega
                have q2 : decide (0 ≤ v) = true := by simp; omega
                have q3 : decide (v < 4294967296) = false := by simp; omega
                clear hs hP a0 a1 b0 b1
                go_wp2_with fail
                go_roundw
                case rel => exact ⟨j + 1, by omega, by rw [HS.out], by go_num, HF.out.allocS _⟩
                case measure => simp [intOf]; omega
            · rw [decide_eq_false (fun h => b0 (hP.1 h).2.2.1)] at hs
              have HS := Lib.hid hs
              have q0 : decide (0 ≤ n) = true := by simp; omega
              have q1 : decide (n < 65536) = true := by simp; omega
              have q2 : decide (0 ≤ v) = false := by simp; omega
              clear hs hP a0 a1 b0
              go_wp2_with fail
              go_roundw
              case rel => exact ⟨j + 1, by omega, by rw [HS.out], by go_num, HF.out.allocS _⟩
              case measure => simp [intOf]; omega
          · rw [decide_eq_false (fun h => a1 (hP.1 h).2.1)] at hs
            have HS := Lib.hid hs
            have q0 : decide (0 ≤ n) = true := by simp; omega
            have q1 : decide (n < 65536) = false := by simp; omega
            clear hs hP a0 a1
            go_wp2_with fail
            go_roundw
            case rel => exact ⟨j + 1, by omega, by rw [HS.out], by go_num, HF.out.allocS _⟩
            case measure => simp [intOf]; omega
        · rw [decide_eq_false (fun h => a0 (hP.1 h).1)] at hs
          have HS := Lib.hid hs
          have q0 : decide (0 ≤ n) = false := by simp; omega
          clear hs hP a0
          go_wp2_with fail
          go_roundw
          case rel => exact ⟨j + 1, by omega, by rw [HS.out], by go_num, HF.out.allocS _⟩
          case measure => simp [intOf]; omega
    · obtain rfl : j = ps.length := by omega
      have hrg : RgtB ps ps.length = true := HRG.out
      rw [hrg]
      clear hrg hf hj
      go_wp2_with fail
      with_reducible refine (HFR.out _ HF.out).mono ?_
      rintro e w1 ⟨A1, c1, rfl, hle1, hmx1, hbs1, _, hf1⟩
      have HF1 := Lib.hid (HF.out.trans hf1)
      have HB1 := Lib.hid hbs1
      clear hf1 hbs1
      go_wp2_with fail
      with_reducible refine (HPP.out A1 c1 _ (HB1.out.fresh (Fresh.alloc _ _)) hle1 hmx1).mono ?_
      rintro e w2 ⟨x, rfl, hok2, hs2, hb2, _, _, hf2⟩
      have hpr := hok2.prs
      have hpl := hok2.ple
      clear hok2
      obtain ⟨ty, st', A', c', l', en, eh, ak, f0, co', la, inc, de, we, wd, ex, PA, pc, qs⟩ := x
      obtain ⟨e1, ⟨e2, e3, e4, e5, e6⟩, ⟨e7, e8, e9, e10, e11⟩, e12⟩ := hs2
      simp only [PR0] at e1 e2 e3 e4 e5 e6 e7 e8 e9 e10 e11 e12 hb2 hpr hpl
      obtain ⟨h1, h2, h3⟩ := hb2
      have e12 := e12.symm
      subst e1 e2 e3 e4 e5 e6 e7 e8 e9 e10 e11 e12 h1 h2 h3
      have HPR := Lib.hid hpr
      have hfb := (Blk.new w1 44 #[.int .i64 4, .int .i64 0, .int .i64 0, .slice A1 (6 * ps.length) c1]).fresh hf2
      have HFB := Lib.hid hfb
      have HF2 := Lib.hid (HF1.out.trans ((Fresh.alloc _ _).trans hf2))
      clear hpr hf2 hfb
      unfold ItV.agg
      generalize w1.heap.size = g1 at *
      go_upto_region 15 with fail
      refine wp_gen (fun W => Blk W g1 44 #[.int .i64 4, .int .i64 0, .int .i64 0, .slice A1 (6 * ps.length) c1] ∧ Blk W w2.heap.size 49 #[.int .i64 4, .int .i64 0, .slice A' 0 c', .bool false, .bool false, .bool false, .int .i64 0, .int .i64 0, .int .i64 0, .int .i64 0, .int .i64 0, .int .i64 0, .bool false, .bool false, .slice PA ps.length pc] ∧ Blk W (w2.heap.size + 1) 38 #[.int .i64 0, .bool false] ∧ Fresh w2 W) ?_ ?_
      focus
        exact ⟨(HFB.out.alloc _).alloc _, (Blk.new _ _ _).alloc _, Blk.mkAt (by simp), (Fresh.alloc _ _).allocS _⟩
      intro W ⟨hb1, hb2, hb3, hfw⟩
      obtain ⟨z0, z1⟩ := hb3.c2
      have HB1 := Lib.hid hb1
      have HB2 := Lib.hid hb2
      have HFW := Lib.hid (HF2.out.trans hfw)
      have HPW := Lib.hid (HPR.out.fresh hfw)
      have HO := Lib.hid (fun w => pok 0 false true (by decide) w)
      have hll : ((ps.length : Int) != (ps.length : Int)) = false := by simp
      generalize w2.heap.size = g2 at *
      clear hb1 hb2 hb3 hfw HF2 HFB HPR HF HF1
      go_wp2_with fail
      with_reducible refine (HO.out _).mono ?_
      rintro e w3 ⟨rfl, hf3⟩
      have hb := HB2.out.fresh hf3
      have x5 := hb.cell 5
      have x14 := hb.cell 14
      simp only [List.getElem?_toArray, List.getElem?_cons_zero, List.getElem?_cons_succ] at x5 x14
      have f2 := (HB1.out.fresh hf3).cell 2
      simp only [List.getElem?_toArray, List.getElem?_cons_zero, List.getElem?_cons_succ] at f2
      have HB3 := Lib.hid hb
      have HF3 := Lib.hid (HFW.out.trans hf3)
      have HP3 := Lib.hid (HPW.out.fresh hf3)
      clear hb hf3 HB1 HB2 HFW HPW
      go_wp2_with fail
      go_loopw [108] (fun i wr => ∃ (j : Nat), j ≤ ps.length ∧ i = .int .i64 (j : Int) ∧ Blk wr g2 49 #[.int .i64 4, .int .i64 0, .slice A' 0 c', .bool false, .bool false, .bool false, .int .i64 0, .int .i64 0, .int .i64 0, .int .i64 0, .int .i64 0, .int .i64 0, .bool false, .bool false, .slice PA ps.length pc] ∧ Many pairC 2 wr PA ps ∧ Fresh w wr) (fun i _ => ps.length - (intOf i).toNat)
      case atStart => exact ⟨0, by omega, rfl, HB3.out, HP3.out, HF3.out⟩
      case round =>
      obtain ⟨j, hj, rfl, hbx, hmx, hfr⟩ := hrel
      by_cases hlt : j < ps.length
      · have hlt' : (j : Int) < (ps.length : Int) := by omega
        obtain ⟨⟨n, v⟩, hy⟩ : ∃ y, ps[j]? = some y := ⟨_, List.getElem?_eq_getElem hlt⟩
        obtain ⟨b, o, rfl, hbw, hcc⟩ := HM.out.at j (n, v) hy
        have e0 := (hfr.cell (p := ⟨b, o + j * 2 + 0, none⟩) hbw).trans (hcc 0 (by omega))
        have e1 := (hfr.cell (p := ⟨b, o + j * 2 + 1, none⟩) hbw).trans (hcc 1 (by omega))
        obtain ⟨b2, o2, rfl, hbw2, hcc2⟩ := hmx.at j (n, v) hy
        have e2 := hcc2 0 (by omega)
        have e3 := hcc2 1 (by omega)
        simp only [pairC, List.getElem?_cons_zero, List.getElem?_cons_succ, Nat.add_zero] at e0 e1 e2 e3
        have x14 := hbx.cell 14
        simp only [List.getElem?_toArray, List.getElem?_cons_zero, List.getElem?_cons_succ] at x14
        have HN : ∀ W, (Op.equalIn 10000 31 (.agg #[.int .i64 n, .int .i64 v]) (.agg #[.int .i64 n, .int .i64 v])).run Tryd.prog W = .ok true W := fun W =>
          (run_equalIn_ints (P := Tryd.prog) Tryd.underlying31 Tryd.underlying3 (by kernel_rfl) 9998 [n, v] [n, v] rfl rfl W).trans (by simp)
        have HRL := Lib.hid (And.intro hbx (And.intro hmx hfr))
        clear hcc hcc2 hbx hmx hfr hy
        go_upto_region 20 with fail
        go_quiet (fail)
        go_wp2_with fail
        go_roundw
        case rel => exact ⟨j + 1, by omega, by go_num, HRL.out.1.drewN _, HRL.out.2.1.fresh (Fresh.drewN _ _), HRL.out.2.2.trans (Fresh.drewN _ _)⟩
        case measure => simp [intOf]; omega
      · obtain rfl : j = ps.length := by omega
        have HF4 := Lib.hid hfr
        clear hbx hmx hfr hj HB3 HP3 HF3
        go_wp2_with fail
        with_reducible refine (set_ack _).mono ?_
        rintro e w5 ⟨rfl, hf5⟩
        have HF5 := Lib.hid (HF4.out.trans hf5)
        clear hf5
        go_wp2_with fail
        with_reducible refine (set_parse2 _).mono ?_
        rintro e w6 ⟨x, rfl, _, hs2, hb2, _, _, hf6⟩
        obtain ⟨ty, st', A6, c6, l', en, eh, ak, f0, co', la, inc, de, we, wd, ex, P6, p6, qs⟩ := x
        obtain ⟨e1, ⟨e2, e3, e4, e5, e6⟩, ⟨e7, e8, e9, e10, e11⟩, e12⟩ := hs2
        simp only [PR0] at e1 e2 e3 e4 e5 e6 e7 e8 e9 e10 e11 e12 hb2
        obtain ⟨h1, h2, h3⟩ := hb2
        subst e1 e2 e3 e4 e5 e6 e7 e8 e9 e10 e11 e12 h1 h2 h3
        have HF6 := Lib.hid (HF5.out.trans hf6)
        clear hf6
        unfold ItV.agg
        go_upto_region 24 with fail
        refine wp_gen (fun W => Blk W w6.heap.size 49 #[.int .i64 4, .int .i64 0, .slice A6 0 c6, .bool false, .bool false, .bool true, .int .i64 0, .int .i64 0, .int .i64 0, .int .i64 0, .int .i64 0, .int .i64 0, .bool false, .bool false, .slice P6 0 p6] ∧ Blk W (w6.heap.size + 1) 38 #[.int .i64 0, .bool false] ∧ Fresh w6 W) ?_ ?_
        focus
          exact ⟨(Blk.new _ _ _).alloc _, Blk.mkAt (by simp), (Fresh.alloc _ _).allocS _⟩
        intro W ⟨hb2, hb3, hfw⟩
        obtain ⟨z0, z1⟩ := hb3.c2
        have HB2 := Lib.hid hb2
        have HFW := Lib.hid (HF6.out.trans hfw)
        generalize w6.heap.size = g6 at *
        clear hb2 hb3 hfw HF6
        go_wp2_with fail
        with_reducible refine (HO.out _).mono ?_
        rintro e w7 ⟨rfl, hf7⟩
        have hb := HB2.out.fresh hf7
        have x0 := hb.cell 0
        have x5 := hb.cell 5
        have x14 := hb.cell 14
        simp only [List.getElem?_toArray, List.getElem?_cons_zero, List.getElem?_cons_succ] at x0 x5 x14
        have HF7 := Lib.hid (HFW.out.trans hf7)
        clear hb hf7 HB2 HFW
        go_wp2_with fail
        with_reducible refine (set_awake _ (HR.out.fr HF7.out)).mono ?_
        rintro e w8 ⟨rfl, hf8⟩
        have HF8 := Lib.hid (HF7.out.trans hf8)
        clear hf8
        go_wp2_with fail
        go_ret
        exact ⟨rfl, HF8.out⟩
end
theorem SettingsFrames_any (x : PsV) (w : World) (hx : x.Ok w) (hR : Rul w) :
    Calls Tryd.prog 4 #[.slice x.A x.ps.length x.c] w fun e w' => e = .returned (.bool true) ∧ Below w.heap.size w w' := by
  obtain ⟨A, c, ps⟩ := x
  obtain ⟨hle, hmax, hm, hbd⟩ := hx
  simp only at *
  show Calls _ _ _ _ (LwP w)
  by_cases h150 : 150 < ps.length
  · exact sfr_long h150 hR
  have h150' : ps.length ≤ 150 := by omega
  by_cases hall : ∀ p ∈ ps, PrOk p
  · by_cases h100 : 100 < ps.length
    · exact sfr_full (RgtB.all hall) h100 h150' hm hR fun W hw => set_frame_full A ps c W (by omega) h100 (hm.fresh hw) hall
    · exact sfr_ok hall (by omega) hm hR
  · have hex : ∃ k, ∃ h : k < ps.length, ¬ PrOk ps[k] := by
      refine Classical.byContradiction fun hn => hall fun p hp => ?_
      obtain ⟨k, hk, rfl⟩ := List.getElem_of_mem hp
      exact Classical.byContradiction fun h => hn ⟨k, hk, h⟩
    have hmin : ∃ k, ∃ h : k < ps.length, ¬ PrOk ps[k] ∧ ∀ j (h' : j < k), PrOk (ps[j]'(by omega)) := by
      have : ∀ n, (∀ j (h : j < ps.length), j < n → PrOk ps[j]) ∨ ∃ k, ∃ h : k < ps.length, ¬ PrOk ps[k] ∧ ∀ j (h' : j < k), PrOk (ps[j]'(by omega)) := by
        intro n
        induction n with
        | zero => left; intro j _ h; omega
        | succ n ih =>
          rcases ih with h | h
          · by_cases hn : n < ps.length
            · by_cases hp : PrOk ps[n]
              · left
                intro j hj hjn
                rcases Nat.lt_or_ge j n with h' | h'
                · exact h j hj h'
                · obtain rfl : j = n := by omega
                  exact hp
              · right
                exact ⟨n, hn, hp, fun j hj => h j (by omega) hj⟩
            · left
              intro j hj _
              exact h j hj (by omega)
          · right; exact h
      rcases this ps.length with h | h
      · obtain ⟨k, hk, hp⟩ := hex
        exact absurd (h k hk hk) hp
      · exact h
    obtain ⟨k, hk, hno, hyes⟩ := hmin
    exact sfr_bad (RgtB.none hk hno) h150' hm hR fun W hw => set_frame_bad A ps c W (by omega) (hm.fresh hw) hbd k hk (fun j hj => hyes j hj) hno
end Go.Proofs.YtfnggbnacdbcpaaDoor
