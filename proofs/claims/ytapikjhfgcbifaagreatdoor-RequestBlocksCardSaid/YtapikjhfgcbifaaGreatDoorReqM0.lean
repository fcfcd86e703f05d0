/-
  Texts laid together: ReqA ReqB ReqC.
-/
import Derived.Test.YtapikjhfgcbifaaGreatDoorClnG1
import Derived.Test.YtapikjhfgcbifaaGreatDoorLnd
import Derived.Laws.Strings3
import Derived.Test.YtapikjhfgcbifaaGreatDoorClnM3
import Derived.Deep.RegionHeld3
import Derived.Deep.RegionLaw
import Derived.Deep.Cut
import Derived.RegionTactic
import Derived.BigRegion
/-
  Package request: which texts may stand in a request.
-/
namespace Go.Proofs.YtapikjhfgcbifaaGreatDoor
set_option maxRecDepth 100000
set_option linter.unusedVariables false
set_option linter.unusedSimpArgs false
open Go.RowKit
def mthC (c : UInt8) : Bool := decide (65 ≤ c.toNat) && decide (c.toNat ≤ 90) || decide (c.toNat = 45)
def mthB (l : List UInt8) : Bool := l.all mthC && (decide (1 ≤ l.length) && decide (l.length ≤ 4096))
def visC (c : UInt8) : Bool := decide (33 ≤ c.toNat) && !decide (c.toNat = 127)
def visB (l : List UInt8) : Bool := l.all visC && decide (l.length ≤ 4096)
def schB (s : ByteArray) : Bool := (s.toList == [104, 116, 116, 112]) || (s.toList == [104, 116, 116, 112, 115])
theorem all_hit {p : UInt8 → Bool} {l : List UInt8} {k : Nat} {x : UInt8} (h : l[k]? = some x) (hx : p x = false) : l.all p = false := by
  rw [List.all_eq_false]
  exact ⟨x, List.mem_of_getElem? h, by simp [hx]⟩
theorem all_yes {p : UInt8 → Bool} {l : List UInt8} (h : ∀ (k : Nat) x, l[k]? = some x → p x = true) : l.all p = true := by
  rw [List.all_eq_true]
  intro x hx
  obtain ⟨k, hk⟩ := List.getElem?_of_mem hx
  exact h k x hk
theorem rq_scheme (s : ByteArray) (w : World) : Calls Tryz.prog 48 #[.string s] w fun e w' => e = .returned (.bool (schB s)) ∧ w' = w := by
  unfold schB
  cases h1 : (s.toList == [104, 116, 116, 112]) <;> cases h2 : (s.toList == [104, 116, 116, 112, 115])
  all_goals
    go_enter Tryz.func48, Tryz.ntmps48
    go_wp2
    go_ret
    exact ⟨rfl, rfl⟩
set_option maxHeartbeats 1600000 in
theorem rq_visible (s : ByteArray) (w : World) (hs : s.size ≤ 9223372036854775807) : Calls Tryz.prog 50 #[.string s] w fun e w' => e = .returned (.bool (visB s.data.toList)) ∧ w' = w := by
  obtain ⟨r, hr⟩ : ∃ r, visB s.data.toList = r := ⟨_, rfl⟩
  rw [hr]
  have HSZ := Lib.hid (Lib.size_eq s)
  have HH : Hid (∀ (k : Nat) x, s.data.toList[k]? = some x → visC x = false → r = false) := Lib.hid (fun k x h hx => by rw [← hr]; unfold visB; rw [all_hit h hx]; rfl)
  have HA : Hid ((∀ (k : Nat) x, s.data.toList[k]? = some x → visC x = true) → decide (s.size ≤ 4096) = r) := Lib.hid (fun h => by rw [← hr]; unfold visB; rw [all_yes h, ← HSZ.out]; rfl)
  clear hr
  go_enter Tryz.func50, Tryz.ntmps50
  go_wp2
  go_loop [7] (fun i => ∃ k : Nat, k ≤ s.size ∧ i = .int .i64 (k : Int) ∧ ∀ (j : Nat) y, j < k → s.data.toList[j]? = some y → visC y = true) (fun i => s.size - (intOf i).toNat)
  case atStart => exact ⟨0, by omega, rfl, fun j y hj => by omega⟩
  case round =>
    obtain ⟨k, hk, rfl, hal⟩ := hrel
    have HAL := Lib.hid hal
    clear hal
    by_cases hlt : k < s.size
    · have hlt' : (k : Int) < (s.size : Int) := by omega
      have hkw : IntKind.i64.wrap ((k : Int) + 1) = (k : Int) + 1 := IntWalk.i64_in _ (by omega)
      obtain ⟨x, hx⟩ : ∃ x : UInt8, s[k]'hlt = x := ⟨_, rfl⟩
      have HX := Lib.hid (show s.data.toList[k]? = some x by rw [← hx]; exact Lib.data_getElem? s k hlt)
      by_cases h33 : x.toNat < 33
      · have e0 : r = false := HH.out k x HX.out (by unfold visC; rw [decide_eq_false (by omega)]; rfl)
        subst e0
        have a0 : (x.toNat : Int) < 33 := by omega
        clear h33
        go_wp2
        go_ret
        exact ⟨rfl, rfl⟩
      have a0 : decide ((x.toNat : Int) < 33) = false := decide_eq_false (by omega)
      by_cases h127 : x.toNat = 127
      · have e0 : r = false := HH.out k x HX.out (by unfold visC; rw [decide_eq_true h127]; simp)
        subst e0
        have a1 : ((x.toNat : Int) == 127) = true := beq_iff_eq.2 (by omega)
        clear h33 h127
        go_wp2
        all_goals
          first
            | (go_ret
               exact ⟨rfl, rfl⟩)
            | (exfalso; simp_all)
      · have HK := Lib.hid (all_succ HAL.out HX.out (by unfold visC; rw [decide_eq_true (by omega), decide_eq_false h127]; rfl))
        have a1 : ((x.toNat : Int) == 127) = false := beq_eq_false_iff_ne.2 (by omega)
        clear h33 h127
        go_wp2
        go_round
        case rel => exact ⟨k + 1, by omega, by go_num, HK.out⟩
        case measure => simp [intOf]; omega
    · obtain rfl : k = s.size := by omega
      have e0 := HA.out (fun j y hy => HAL.out j y (by
        have := (List.getElem?_eq_some_iff.1 hy).1
        rw [← HSZ.out] at this
        omega) hy)
      by_cases h4 : s.size ≤ 4096
      · rw [decide_eq_true h4] at e0
        subst e0
        have a1 : (s.size : Int) ≤ 4096 := by omega
        clear h4
        go_wp2
        go_ret
        exact ⟨rfl, rfl⟩
      · rw [decide_eq_false h4] at e0
        subst e0
        have a1 : decide ((s.size : Int) ≤ 4096) = false := decide_eq_false (by omega)
        have a2 : decide (s.size ≤ 4096) = false := decide_eq_false h4
        clear h4
        go_wp2
        go_ret
        exact ⟨rfl, rfl⟩
theorem mth_no {x : UInt8} (h : ¬ (65 ≤ x.toNat ∧ x.toNat ≤ 90)) (h2 : ¬ x.toNat = 45) : mthC x = false := by
  unfold mthC
  rw [← Bool.decide_and, decide_eq_false h, decide_eq_false h2]
  rfl
set_option maxHeartbeats 1600000 in
theorem rq_method (s : ByteArray) (w : World) (hs : s.size ≤ 9223372036854775807) : Calls Tryz.prog 47 #[.string s] w fun e w' => e = .returned (.bool (mthB s.data.toList)) ∧ w' = w := by
  obtain ⟨r, hr⟩ : ∃ r, mthB s.data.toList = r := ⟨_, rfl⟩
  rw [hr]
  have HSZ := Lib.hid (Lib.size_eq s)
  have HH : Hid (∀ (k : Nat) x, s.data.toList[k]? = some x → mthC x = false → r = false) := Lib.hid (fun k x h hx => by rw [← hr]; unfold mthB; rw [all_hit h hx]; rfl)
  have HA : Hid ((∀ (k : Nat) x, s.data.toList[k]? = some x → mthC x = true) → (decide (1 ≤ s.size) && decide (s.size ≤ 4096)) = r) := Lib.hid (fun h => by rw [← hr]; unfold mthB; rw [all_yes h, ← HSZ.out]; rfl)
  clear hr
  go_enter Tryz.func47, Tryz.ntmps47
  go_wp2
  go_loop [7] (fun i => ∃ k : Nat, k ≤ s.size ∧ i = .int .i64 (k : Int) ∧ ∀ (j : Nat) y, j < k → s.data.toList[j]? = some y → mthC y = true) (fun i => s.size - (intOf i).toNat)
  case atStart => exact ⟨0, by omega, rfl, fun j y hj => by omega⟩
  case round =>
    obtain ⟨k, hk, rfl, hal⟩ := hrel
    have HAL := Lib.hid hal
    clear hal
    by_cases hlt : k < s.size
    · have hlt' : (k : Int) < (s.size : Int) := by omega
      have hkw : IntKind.i64.wrap ((k : Int) + 1) = (k : Int) + 1 := IntWalk.i64_in _ (by omega)
      obtain ⟨x, hx⟩ : ∃ x : UInt8, s[k]'hlt = x := ⟨_, rfl⟩
      have HX := Lib.hid (show s.data.toList[k]? = some x by rw [← hx]; exact Lib.data_getElem? s k hlt)
      by_cases hl : 65 ≤ x.toNat ∧ x.toNat ≤ 90
      · have HK := Lib.hid (all_succ HAL.out HX.out (by unfold mthC; rw [decide_eq_true hl.1, decide_eq_true hl.2]; rfl))
        have a0 : decide ((x.toNat : Int) < 65) = false := decide_eq_false (by omega)
        have a1 : decide ((90 : Int) < (x.toNat : Int)) = false := decide_eq_false (by omega)
        clear hl
        go_wp2
        go_round
        case rel => exact ⟨k + 1, by omega, by go_num, HK.out⟩
        case measure => simp [intOf]; omega
      by_cases h45 : x.toNat = 45
      · have HK := Lib.hid (all_succ HAL.out HX.out (by unfold mthC; rw [decide_eq_true h45]; simp))
        clear hl
        go_wp2
        go_round
        case rel => exact ⟨k + 1, by omega, by go_num, HK.out⟩
        case measure => simp [intOf]; omega
      have e0 : r = false := HH.out k x HX.out (mth_no hl h45)
      subst e0
      have a2 : ((x.toNat : Int) != 45) = true := by simp only [bne_iff_ne, ne_eq]; omega
      by_cases h65 : x.toNat < 65
      · have a0 : (x.toNat : Int) < 65 := by omega
        clear hl h45 h65
        go_wp2
        go_ret
        exact ⟨rfl, rfl⟩
      · have a0 : decide ((x.toNat : Int) < 65) = false := decide_eq_false (by omega)
        have a1 : (90 : Int) < (x.toNat : Int) := by omega
        clear hl h45 h65
        go_wp2
        go_ret
        exact ⟨rfl, rfl⟩
    · obtain rfl : k = s.size := by omega
      have e0 := HA.out (fun j y hy => HAL.out j y (by
        have := (List.getElem?_eq_some_iff.1 hy).1
        rw [← HSZ.out] at this
        omega) hy)
      by_cases h1 : 1 ≤ s.size
      · by_cases h4 : s.size ≤ 4096
        · rw [decide_eq_true h4, decide_eq_true h1] at e0
          subst e0
          have a0 : (1 : Int) ≤ (s.size : Int) := by omega
          have a1 : (s.size : Int) ≤ 4096 := by omega
          clear h4 h1
          go_wp2
          go_ret
          exact ⟨rfl, rfl⟩
        · rw [decide_eq_false h4, decide_eq_true h1] at e0
          subst e0
          have a0 : (1 : Int) ≤ (s.size : Int) := by omega
          have a1 : decide ((s.size : Int) ≤ 4096) = false := decide_eq_false (by omega)
          have a2 : decide (s.size ≤ 4096) = false := decide_eq_false h4
          clear h4 h1
          go_wp2
          go_ret
          exact ⟨rfl, rfl⟩
      · rw [decide_eq_false h1] at e0
        subst e0
        have a1 : decide ((1 : Int) ≤ (s.size : Int)) = false := decide_eq_false (by omega)
        have a2 : decide (1 ≤ s.size) = false := decide_eq_false h1
        clear h1
        go_wp2
        go_ret
        exact ⟨rfl, rfl⟩
end Go.Proofs.YtapikjhfgcbifaaGreatDoor

/-
  Package request: paths; is one of some lines no field?
-/
namespace Go.Proofs.YtapikjhfgcbifaaGreatDoor
set_option maxRecDepth 100000
set_option linter.unusedVariables false
set_option linter.unusedSimpArgs false
open Go.RowKit
/-- Does a text begin with a byte? -/
def fstB (c : UInt8) (l : List UInt8) : Bool := match l with
  | [] => false
  | x :: _ => x == c
theorem sl_hasPrefix (s P : ByteArray) (c : UInt8) (hP : P.data.toList = [c]) (w : World) :
    Calls Tryz.prog 88 #[.string s, .string P] w fun e w' => e = .returned (.bool (fstB c s.data.toList)) ∧ w' = w := by
  obtain ⟨r, hr⟩ : ∃ r, fstB c s.data.toList = r := ⟨_, rfl⟩
  rw [hr]
  have hps : P.size = 1 := by rw [Lib.size_eq, hP]; rfl
  have hPL : P.toList = [c] := by rw [Lib.toList_data, hP]
  by_cases h1 : 1 ≤ s.size
  · have he : ((s.extract 0 1).toList == [c]) = r := by
      rw [Lib.toList_data]
      cases hl : s.data.toList with
      | nil =>
        have := Lib.size_eq s
        rw [hl, List.length_nil] at this
        omega
      | cons x t =>
        rw [hl] at hr
        have : (s.extract 0 1).data.toList = [x] := by
          have h2 : (s.extract 0 1).data.toList = (s.data.toList.take 1).drop 0 := by
            simp [ByteArray.extract, ByteArray.copySlice]
          rw [h2, hl]
          rfl
        rw [this, ← hr]
        unfold fstB
        by_cases e : x = c
        · subst e; simp
        · simp [e]
    have a0 : (1 : Int) ≤ (s.size : Int) := by omega
    clear h1 hr
    go_enter Tryz.func88, Tryz.ntmps88
    go_wp2
    go_ret
    exact ⟨by first | rw [he] | simp [he], rfl⟩
  · have e0 : r = false := by
      rw [← hr]
      cases hl : s.data.toList with
      | nil => rfl
      | cons x t =>
        have := Lib.size_eq s
        rw [hl] at this
        simp at this
        omega
    subst e0
    have a0 : decide ((1 : Int) ≤ (s.size : Int)) = false := decide_eq_false (by omega)
    have a1 : decide (1 ≤ s.size) = false := decide_eq_false h1
    clear h1 hr
    go_enter Tryz.func88, Tryz.ntmps88
    go_wp2
    go_ret
    exact ⟨rfl, rfl⟩
theorem st_hasPrefix (s P : ByteArray) (c : UInt8) (hP : P.data.toList = [c]) (w : World) :
    Calls Tryz.prog 66 #[.string s, .string P] w fun e w' => e = .returned (.bool (fstB c s.data.toList)) ∧ w' = w := by
  have H := Lib.hid (fun w => sl_hasPrefix s P c hP w)
  generalize fstB c s.data.toList = r at *
  clear hP
  go_enter Tryz.func66, Tryz.ntmps66
  go_wp2_with fail
  with_reducible refine (H.out _).mono ?_
  rintro e w1 ⟨rfl, hw⟩
  obtain rfl : w = w1 := hw.symm
  go_wp2_with fail
  go_ret
  exact ⟨rfl, rfl⟩
def pthB (s : ByteArray) : Bool := fstB 47 s.data.toList && visB s.data.toList
theorem rq_path (s : ByteArray) (w : World) (hs : s.size ≤ 9223372036854775807) : Calls Tryz.prog 49 #[.string s] w fun e w' => e = .returned (.bool (pthB s)) ∧ w' = w := by
  have H := Lib.hid (fun w => show Calls Tryz.prog 66 #[.string s, .string ⟨#[47]⟩] w (fun e w' => e = .returned (.bool (fstB 47 s.data.toList)) ∧ w' = w) from st_hasPrefix s ⟨#[47]⟩ 47 rfl w)
  have HV := Lib.hid (fun w => rq_visible s w hs)
  unfold pthB
  generalize fstB 47 s.data.toList = r at *
  generalize visB s.data.toList = v at *
  cases r
  · go_enter Tryz.func49, Tryz.ntmps49
    go_wp2_with fail
    with_reducible refine (H.out _).mono ?_
    rintro e w1 ⟨rfl, hw⟩
    obtain rfl : w = w1 := hw.symm
    go_wp2_with fail
    go_ret
    exact ⟨rfl, rfl⟩
  · go_enter Tryz.func49, Tryz.ntmps49
    go_wp2_with fail
    with_reducible refine (H.out _).mono ?_
    rintro e w1 ⟨rfl, hw⟩
    obtain rfl : w = w1 := hw.symm
    go_wp2_with fail
    with_reducible refine (HV.out _).mono ?_
    rintro e w1 ⟨rfl, hw⟩
    obtain rfl : w = w1 := hw.symm
    go_wp2_with fail
    go_ret
    exact ⟨rfl, rfl⟩
/-- Is one of some lines no field? -/
def ownB (x : LnD) : Bool := fstB 58 x.1.1.data.toList
def psB (l : List LnD) : Bool := l.any ownB
theorem psB_hit {l : List LnD} {k : Nat} {x : LnD} (h : l[k]? = some x) (hx : ownB x = true) : psB l = true := by
  unfold psB
  rw [List.any_eq_true]
  exact ⟨x, List.mem_of_getElem? h, hx⟩
theorem psB_no {l : List LnD} (h : ∀ (k : Nat) x, l[k]? = some x → ownB x = false) : psB l = false := by
  unfold psB
  rw [List.any_eq_false]
  intro x hx
  obtain ⟨k, hk⟩ := List.getElem?_of_mem hx
  simp [h k x hk]
theorem rq_own (x : LnD) (r : Bool) (hr : ownB x = r) (w : World) : Calls Tryz.prog 65 #[.agg #[.string x.1.1, .string x.1.2, .bool x.2]] w fun e w' => e = .returned (.bool r) ∧ Fresh w w' := by
  obtain ⟨⟨f1, f2⟩, nv⟩ := x
  have H := Lib.hid (fun w => show Calls Tryz.prog 66 #[.string f1, .string ⟨#[58]⟩] w (fun e w' => e = .returned (.bool (fstB 58 f1.data.toList)) ∧ w' = w) from st_hasPrefix f1 ⟨#[58]⟩ 58 rfl w)
  unfold ownB at hr
  simp only at hr ⊢
  rw [hr] at H
  clear hr
  go_enter Tryz.func65, Tryz.ntmps65
  go_wp2_with fail
  with_reducible refine (H.out _).mono ?_
  rintro e w1 ⟨rfl, hw⟩
  have hf : Fresh w w1 := by rw [hw]; exact Fresh.alloc _ _
  have HF := Lib.hid hf
  clear hf hw
  go_wp2_with fail
  go_ret
  exact ⟨rfl, HF.out⟩
def IdfP (l : List LnD) (w : World) (e : Ending) (w' : World) : Prop := ∃ z : Int, e = .returned (.int .i64 z) ∧ decide (0 ≤ z) = psB l ∧ Fresh w w'
set_option maxHeartbeats 3200000 in
theorem rq_index (A0 : Option Addr) (c0 : Nat) (l : List LnD) (w : World) (hm : Many lnD 3 w A0 l) (hl : l.length ≤ 4611686018427387904) :
    Calls Tryz.prog 87 #[.slice A0 l.length c0, .func (.func 65) #[] #[]] w (IdfP l w) := by
  have HM := Lib.hid hm
  have HYES : Hid (∀ (k : Nat) (x : LnD) (w' : World), l[k]? = some x → ownB x = true → Fresh w w' → IdfP l w (.returned (.int .i64 (k : Int))) w') := Lib.hid (fun k x w' hx hb hf => ⟨_, rfl, by rw [psB_hit hx hb]; exact decide_eq_true (by omega), hf⟩)
  have HNO : Hid (∀ w', (∀ (k : Nat) x, l[k]? = some x → ownB x = false) → Fresh w w' → IdfP l w (.returned (.int .i64 (-1))) w') := Lib.hid (fun w' h hf => ⟨_, rfl, by rw [psB_no h]; rfl, hf⟩)
  clear hm
  generalize IdfP l w = PP at *
  go_enter Tryz.func87, Tryz.ntmps87
  go_wp2_with fail
  go_loopw [8] (fun i wr => ∃ k : Nat, k ≤ l.length ∧ i = .int .i64 (k : Int) ∧ (∀ (j : Nat) x, j < k → l[j]? = some x → ownB x = false) ∧ Fresh w wr) (fun i _ => l.length - (intOf i).toNat)
  case atStart => exact ⟨0, by omega, rfl, fun j x hj => by omega, Fresh.refl _⟩
  case round =>
    obtain ⟨k, hk, rfl, hal, hfr⟩ := hrel
    have HAL := Lib.hid hal
    have HFR := Lib.hid hfr
    clear hal
    by_cases hlt : k < l.length
    · have hlt' : (k : Int) < (l.length : Int) := by omega
      have hkw : IntKind.i64.wrap ((k : Int) + 1) = (k : Int) + 1 := IntWalk.i64_in _ (by omega)
      obtain ⟨x, hx⟩ : ∃ x, l[k]? = some x := ⟨_, List.getElem?_eq_getElem hlt⟩
      obtain ⟨b, o, rfl, hb, g0, g1, g2⟩ := HM.out.lnAt k x hx
      have e0 := (hfr.cell (p := ⟨b, o + k * 3, none⟩) hb).trans g0
      have e1 := (hfr.cell (p := ⟨b, o + k * 3 + 1, none⟩) hb).trans g1
      have e2 := (hfr.cell (p := ⟨b, o + k * 3 + 2, none⟩) hb).trans g2
      have HX := Lib.hid hx
      obtain ⟨r, hr⟩ : ∃ r, ownB x = r := ⟨_, rfl⟩
      have HW := Lib.hid (fun w => rq_own x r hr w)
      have HR := Lib.hid hr
      obtain ⟨⟨f1, f2⟩, nv⟩ := x
      simp only at e0 e1 e2 HW
      clear hx g0 g1 g2 hfr hr
      cases r
      · go_wp2_with fail
        with_reducible refine (HW.out _).mono ?_
        rintro e w5 ⟨rfl, hf5⟩
        have HF5 := Lib.hid (HFR.out.trans hf5)
        clear hf5
        have HQ : Hid (∀ (j : Nat) x, j < k + 1 → l[j]? = some x → ownB x = false) := Lib.hid (fun j y hj hy => by
          by_cases e : j = k
          · subst e
            have h1 := HX.out
            rw [hy] at h1
            cases h1
            exact HR.out
          · exact HAL.out j y (by omega) hy)
        go_wp2_with fail
        go_roundw
        case rel => exact ⟨k + 1, by omega, by go_num, HQ.out, HF5.out⟩
        case measure => simp [intOf]; omega
      · go_wp2_with fail
        with_reducible refine (HW.out _).mono ?_
        rintro e w5 ⟨rfl, hf5⟩
        have HQ := Lib.hid (HYES.out k _ w5 HX.out HR.out (HFR.out.trans hf5))
        clear hf5
        go_wp2_with fail
        exact HQ.out
    · obtain rfl : k = l.length := by omega
      have HQ := Lib.hid (HNO.out wr (fun j x hx => HAL.out j x (List.getElem?_eq_some_iff.1 hx).1 hx) hfr)
      clear hfr
      have hnj : ¬ (l.length : Int) < (l.length : Int) := by omega
      go_wp2_with fail
      exact HQ.out
theorem rq_contains (A0 : Option Addr) (c0 : Nat) (l : List LnD) (w : World) (hm : Many lnD 3 w A0 l) (hl : l.length ≤ 4611686018427387904) :
    Calls Tryz.prog 64 #[.slice A0 l.length c0, .func (.func 65) #[] #[]] w fun e w' => e = .returned (.bool (psB l)) ∧ Fresh w w' := by
  have H := Lib.hid (rq_index A0 c0 l w hm hl)
  unfold IdfP at H
  generalize psB l = r at *
  clear hm hl
  go_enter Tryz.func64, Tryz.ntmps64
  go_wp2_with fail
  with_reducible refine H.out.mono ?_
  rintro e w1 ⟨z, rfl, hz, hf⟩
  have HF := Lib.hid hf
  clear hf
  go_wp2_with fail
  go_ret
  exact ⟨by first | rw [hz] | rfl, HF.out⟩
theorem rq_pseudo (A0 : Option Addr) (c0 : Nat) (l : List LnD) (w : World) (hm : Many lnD 3 w A0 l) (hl : l.length ≤ 4611686018427387904) (r : Bool) (hr : psB l = r) :
    Calls Tryz.prog 44 #[.slice A0 l.length c0] w fun e w' => e = .returned (.bool r) ∧ Fresh w w' := by
  have H := Lib.hid (rq_contains A0 c0 l w hm hl)
  rw [hr] at H
  clear hm hl hr
  go_enter Tryz.func44, Tryz.ntmps44
  go_wp2_with fail
  with_reducible refine H.out.mono ?_
  rintro e w1 ⟨rfl, hf⟩
  have HF := Lib.hid hf
  clear hf
  go_wp2_with fail
  go_ret
  exact ⟨rfl, HF.out⟩
end Go.Proofs.YtapikjhfgcbifaaGreatDoor

/-
  Package request: the places of a request's lines.
-/
namespace Go.Proofs.YtapikjhfgcbifaaGreatDoor
set_option maxRecDepth 100000
set_option linter.unusedVariables false
set_option linter.unusedSimpArgs false
open Go.RowKit
def mthN : ByteArray := ⟨#[58, 109, 101, 116, 104, 111, 100]⟩
def schN : ByteArray := ⟨#[58, 115, 99, 104, 101, 109, 101]⟩
def pthN : ByteArray := ⟨#[58, 112, 97, 116, 104]⟩
def autN : ByteArray := ⟨#[58, 97, 117, 116, 104, 111, 114, 105, 116, 121]⟩
/-- A request. -/
structure RqV where
  (m s p a : ByteArray)
  (FA : Option Addr) (fc : Nat) (fs : List FldT)
  (BA : Option Addr) (bc : Nat) (bd : List UInt8)
def RqV.arr (r : RqV) : Array Value := #[.string r.m, .string r.s, .string r.p, .string r.a, .slice r.FA r.fs.length r.fc, .slice r.BA r.bd.length r.bc]
/-- May its four texts be? -/
def rightR (m s p a : ByteArray) : Bool := mthB m.data.toList && (schB s && (pthB p && visB a.data.toList))
def autL (a : ByteArray) : List LnD := if a.data.toList = [] then [] else [((autN, a), false)]
def baseR (m s p a : ByteArray) : List LnD := [((mthN, m), false), ((schN, s), false), ((pthN, p), false)] ++ autL a
/-- A request's lines, or the first error. -/
def linesR (m s p a : ByteArray) (fs : List FldT) : Nat × List LnD :=
  if rightR m s p a = false then (31, []) else if (clnR fs).1 ≠ 0 then ((clnR fs).1, []) else (0, baseR m s p a ++ (clnR fs).2)
/-- What places tells: where each text is, and what tells whether it may stand there. -/
def plcA (b : Nat) : Array Value := #[.string mthN, .pointer (some ⟨b, 0, none⟩), .func (.func 47) #[] #[], .string schN, .pointer (some ⟨b, 1, none⟩), .func (.func 48) #[] #[], .string pthN, .pointer (some ⟨b, 2, none⟩), .func (.func 49) #[] #[], .string autN, .pointer (some ⟨b, 3, none⟩), .func (.func 50) #[] #[]]
theorem rq_places (b : Nat) (w : World) : Calls Tryz.prog 34 #[.pointer (some ⟨b, 0, none⟩)] w fun e w' => ∃ q, e = .returned (.slice (some ⟨q, 0, none⟩) 4 4) ∧ Blk w' q 72 (plcA b) ∧ w.heap.size ≤ q ∧ Fresh w w' := by
  go_enter Tryz.func34, Tryz.ntmps34
  go_wp2_with fail
  go_region
  all_goals
    go_wp2_with fail
    go_ret
    exact ⟨_, rfl, Blk.new _ _ _, Nat.le_refl _, (Fresh.drew _).trans (Fresh.alloc _ _)⟩
end Go.Proofs.YtapikjhfgcbifaaGreatDoor

