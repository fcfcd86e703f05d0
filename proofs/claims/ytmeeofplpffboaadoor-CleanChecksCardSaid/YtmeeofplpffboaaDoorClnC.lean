/-
  Package clean: the document's Hop, Sensitive and Name.
-/
import Derived.Test.YtmeeofplpffboaaDoorClnB
namespace Go.Proofs.YtmeeofplpffboaaDoor
set_option maxRecDepth 100000
set_option linter.unusedVariables false
set_option linter.unusedSimpArgs false
open Go.RowKit
theorem rf_hopOne (n : ByteArray) (w : World) (r : Bool) (hr : ((n.toList == [99, 111, 110, 110, 101, 99, 116, 105, 111, 110]) || (n.toList == [107, 101, 101, 112, 45, 97, 108, 105, 118, 101]) || (n.toList == [112, 114, 111, 120, 121, 45, 99, 111, 110, 110, 101, 99, 116, 105, 111, 110]) || (n.toList == [116, 114, 97, 110, 115, 102, 101, 114, 45, 101, 110, 99, 111, 100, 105, 110, 103]) || (n.toList == [117, 112, 103, 114, 97, 100, 101])) = r) :
    Calls Tryd.prog 25 #[.string n, .agg #[.string ⟨#[99, 111, 110, 110, 101, 99, 116, 105, 111, 110]⟩, .string ⟨#[107, 101, 101, 112, 45, 97, 108, 105, 118, 101]⟩, .string ⟨#[112, 114, 111, 120, 121, 45, 99, 111, 110, 110, 101, 99, 116, 105, 111, 110]⟩, .string ⟨#[116, 114, 97, 110, 115, 102, 101, 114, 45, 101, 110, 99, 111, 100, 105, 110, 103]⟩, .string ⟨#[117, 112, 103, 114, 97, 100, 101]⟩]] w fun e w' => e = .returned (.bool r) ∧ Fresh w w' := by
  refine (rf_one n _ _ _ _ _ false w (by simp) (by simp) (by simp) (by simp) (by simp)).mono ?_
  rintro e w' ⟨rfl, hf⟩
  refine ⟨?_, hf⟩
  rw [← hr]
  congr 2
  simp only [eqL_comm _ n, Bool.not_false, Bool.true_and]
  simp
theorem rf_senOne (n : ByteArray) (w : World) (r : Bool) (hr : senB n = r) :
    Calls Tryd.prog 25 #[.string n, .agg #[.string ⟨#[97, 117, 116, 104, 111, 114, 105, 122, 97, 116, 105, 111, 110]⟩, .string ⟨#[112, 114, 111, 120, 121, 45, 97, 117, 116, 104, 111, 114, 105, 122, 97, 116, 105, 111, 110]⟩, .string ⟨#[99, 111, 111, 107, 105, 101]⟩, .string ⟨#[115, 101, 116, 45, 99, 111, 111, 107, 105, 101]⟩, .string ⟨#[]⟩]] w fun e w' => e = .returned (.bool r) ∧ Fresh w w' := by
  refine (rf_one n _ _ _ _ _ true w (by simp) (by simp) (by simp) (by simp) (by simp)).mono ?_
  rintro e w' ⟨rfl, hf⟩
  refine ⟨?_, hf⟩
  rw [← hr]
  unfold senB
  congr 2
  simp only [eqL_comm _ n, Bool.not_true, Bool.false_and, Bool.or_false]
  simp
set_option maxHeartbeats 1600000 in
theorem rf_hop (n v : ByteArray) (w : World) :
    Calls Tryd.prog 14 #[.string n, .string v] w fun e w' => e = .returned (.bool (hopB n v)) ∧ Fresh w w' := by
  obtain ⟨q, hq⟩ : ∃ q, ((n.toList == [99, 111, 110, 110, 101, 99, 116, 105, 111, 110]) || (n.toList == [107, 101, 101, 112, 45, 97, 108, 105, 118, 101]) || (n.toList == [112, 114, 111, 120, 121, 45, 99, 111, 110, 110, 101, 99, 116, 105, 111, 110]) || (n.toList == [116, 114, 97, 110, 115, 102, 101, 114, 45, 101, 110, 99, 111, 100, 105, 110, 103]) || (n.toList == [117, 112, 103, 114, 97, 100, 101])) = q := ⟨_, rfl⟩
  have HO := Lib.hid (rf_hopOne n w q hq)
  obtain ⟨r, hr⟩ : ∃ r, hopB n v = r := ⟨_, rfl⟩
  rw [hr]
  unfold hopB at hr
  rw [hq] at hr
  clear hq
  cases q
  · cases h0 : (n.toList == [116, 101])
    · simp only [h0, Bool.false_or, Bool.false_and] at hr
      subst hr
      go_enter Tryd.func14, Tryd.ntmps14
      go_wp2_with fail
      with_reducible refine HO.out.mono ?_
      rintro e w1 ⟨rfl, hf⟩
      go_wp2_with fail
      go_ret
      exact ⟨rfl, hf⟩
    · cases h1 : (v.toList == [116, 114, 97, 105, 108, 101, 114, 115])
      · simp only [h0, h1, Bool.false_or, Bool.true_and, Bool.not_false] at hr
        subst hr
        go_enter Tryd.func14, Tryd.ntmps14
        go_wp2_with fail
        with_reducible refine HO.out.mono ?_
        rintro e w1 ⟨rfl, hf⟩
        go_wp2_with fail
        go_ret
        exact ⟨rfl, hf⟩
      · simp only [h0, h1, Bool.false_or, Bool.true_and, Bool.not_true] at hr
        subst hr
        go_enter Tryd.func14, Tryd.ntmps14
        go_wp2_with fail
        with_reducible refine HO.out.mono ?_
        rintro e w1 ⟨rfl, hf⟩
        go_wp2_with fail
        go_ret
        exact ⟨rfl, hf⟩
  · simp only [Bool.true_or] at hr
    subst hr
    go_enter Tryd.func14, Tryd.ntmps14
    go_wp2_with fail
    with_reducible refine HO.out.mono ?_
    rintro e w1 ⟨rfl, hf⟩
    go_wp2_with fail
    go_ret
    exact ⟨rfl, hf⟩
set_option maxHeartbeats 1600000 in
theorem rf_sen (n : ByteArray) (w : World) :
    Calls Tryd.prog 16 #[.string n] w fun e w' => e = .returned (.bool (senB n)) ∧ Fresh w w' := by
  obtain ⟨r, hr⟩ : ∃ r, senB n = r := ⟨_, rfl⟩
  rw [hr]
  have HO := Lib.hid (rf_senOne n w r hr)
  clear hr
  go_enter Tryd.func16, Tryd.ntmps16
  go_wp2_with fail
  with_reducible refine HO.out.mono ?_
  rintro e w1 ⟨rfl, hf⟩
  go_wp2_with fail
  go_ret
  exact ⟨rfl, hf⟩
def sgS : ByteArray := ⟨#[33, 35, 36, 37, 38, 39, 42, 43, 45, 46, 94, 95, 124, 126]⟩
theorem fold_sg : (⟨#[33, 35, 36, 37, 38, 39, 42, 43, 45, 46, 94, 95, 124, 126]⟩ : ByteArray) = sgS := rfl
attribute [local go_sem high] fold_sg
set_option maxHeartbeats 3200000 in
/-- The document's Name. -/
theorem rf_name (s : ByteArray) (w : World) :
    Calls Tryd.prog 10 #[.string s] w fun e w' => e = .returned (.bool (nameB s.data.toList)) ∧ w' = w := by
  obtain ⟨r, hr⟩ : ∃ r, nameB s.data.toList = r := ⟨_, rfl⟩
  rw [hr]
  have HSZ := Lib.hid (Lib.size_eq s)
  by_cases h0 : s.size < 1
  · have d0 : decide ((s.size : Int) < 1) = true := decide_eq_true (by omega)
    rw [nameB_len (.inl (by rw [← HSZ.out]; omega))] at hr
    subst hr
    go_enter Tryd.func10, Tryd.ntmps10
    go_wp2
    go_ret
    exact ⟨rfl, rfl⟩
  by_cases h1 : 4096 < s.size
  · have d0 : decide ((s.size : Int) < 1) = false := decide_eq_false (by omega)
    have d1 : (4096 : Int) < (s.size : Int) := by omega
    rw [nameB_len (.inr (by rw [← HSZ.out]; omega))] at hr
    subst hr
    go_enter Tryd.func10, Tryd.ntmps10
    go_wp2
    go_ret
    exact ⟨rfl, rfl⟩
  have d0 : decide ((s.size : Int) < 1) = false := decide_eq_false (by omega)
  have d1 : decide ((4096 : Int) < (s.size : Int)) = false := decide_eq_false (by omega)
  have HH : Hid (∀ (k : Nat) x, s.data.toList[k]? = some x → nmC x = false → r = false) := Lib.hid (fun k x h hx => by rw [← hr]; exact nameB_hit h hx)
  have HA : Hid ((∀ (k : Nat) x, s.data.toList[k]? = some x → nmC x = true) → r = true) := Lib.hid (fun h => by rw [← hr]; exact nameB_all (by rw [← HSZ.out]; omega) (by rw [← HSZ.out]; omega) h)
  clear hr
  go_enter Tryd.func10, Tryd.ntmps10
  go_wp2
  go_loop [3] (fun i => ∃ k : Nat, k ≤ s.size ∧ i = .int .i64 (k : Int) ∧ ∀ (j : Nat) y, j < k → s.data.toList[j]? = some y → nmC y = true) (fun i => s.size - (intOf i).toNat)
  case atStart => exact ⟨0, by omega, rfl, fun j y hj => by omega⟩
  case round =>
    obtain ⟨k, hk, rfl, hal⟩ := hrel
    have HAL := Lib.hid hal
    clear hal
    by_cases hlt : k < s.size
    · have hlt' : (k : Int) < (s.size : Int) := by omega
      obtain ⟨x, hx⟩ : ∃ x : UInt8, s[k]'hlt = x := ⟨_, rfl⟩
      have HX := Lib.hid (show s.data.toList[k]? = some x by rw [← hx]; exact Lib.data_getElem? s k hlt)
      have HBD := Lib.hid x.toNat_lt
      by_cases hd : 48 ≤ x.toNat ∧ x.toNat ≤ 57
      · have HK := Lib.hid (all_succ HAL.out HX.out (nmR_dig hd.1 hd.2))
        have a0 : (48 : Int) ≤ (x.toNat : Int) := by omega
        have a1 : (x.toNat : Int) ≤ 57 := by omega
        clear hd
        go_wp2
        go_round
        case rel => exact ⟨k + 1, by omega, by go_num, HK.out⟩
        case measure => simp [intOf]; omega
      by_cases hl : 97 ≤ x.toNat ∧ x.toNat ≤ 122
      · have HK := Lib.hid (all_succ HAL.out HX.out (nmR_let hl.1 hl.2))
        have a0 : decide ((48 : Int) ≤ (x.toNat : Int)) = true := decide_eq_true (by omega)
        have a1 : decide ((x.toNat : Int) ≤ 57) = false := decide_eq_false (by omega)
        have a2 : (97 : Int) ≤ (x.toNat : Int) := by omega
        have a3 : (x.toNat : Int) ≤ 122 := by omega
        clear hd hl
        go_wp2
        go_round
        case rel => exact ⟨k + 1, by omega, by go_num, HK.out⟩
        case measure => simp [intOf]; omega
      have hnm := nmR_oth hd hl
      have HNM := Lib.hid hnm
      clear hnm
      obtain ⟨f, hf⟩ : ∃ f, sgR.contains x = f := ⟨_, rfl⟩
      rw [hf] at HNM
      have HF := Lib.hid hf
      clear hf
      rcases (show (x.toNat < 48) ∨ (57 < x.toNat ∧ x.toNat < 97) ∨ (122 < x.toNat) by omega) with hr | hr | hr
      · have a0 : decide ((48 : Int) ≤ (x.toNat : Int)) = false := decide_eq_false (by omega)
        have a2 : decide ((97 : Int) ≤ (x.toNat : Int)) = false := decide_eq_false (by omega)
        clear hd hl hr
        go_wp2
        go_loop [5, 7] (fun fo i => ∃ (m : Nat), m ≤ 14 ∧ i = .int .i64 (m : Int) ∧ fo = .bool ((sgR.take m).contains x)) (fun _ i => 14 - (intOf i).toNat)
        case atStart => exact ⟨0, by omega, rfl, rfl⟩
        case round =>
          obtain ⟨m, hm, rfl, rfl⟩ := hrel
          have hsz : sgS.size = 14 := rfl
          obtain ⟨fo, hfo⟩ : ∃ fo, (sgR.take m).contains x = fo := ⟨_, rfl⟩
          rw [hfo]
          by_cases hmt : m < 14
          · have hmt' : (m : Int) < 14 := by omega
            have hmS : m < sgS.size := by omega
            have hmS' : (m : Int) < (sgS.size : Int) := by omega
            obtain ⟨y, hy⟩ : ∃ y : UInt8, sgS[m]'hmS = y := ⟨_, rfl⟩
            have hY : sgR[m]? = some y := by
              have := Lib.data_getElem? sgS m hmS
              rw [hy] at this
              exact this
            have hT := take_contains (c := x) hY
            rw [hfo] at hT
            have HT := Lib.hid hT
            clear hT hY hfo
            by_cases he : y = x
            · have e1 : ((y.toNat : Int) == (x.toNat : Int)) = true := by rw [he]; simp
              have HE := Lib.hid he
              clear he
              go_wp2
              go_round
              case rel => exact ⟨m + 1, by omega, by go_num, by rw [HT.out, HE.out]; simp⟩
              case measure => simp [intOf]; omega
            · have e1 : ((y.toNat : Int) == (x.toNat : Int)) = false := by
                rw [beq_eq_false_iff_ne]
                intro h
                exact he (Lib.byte_eq_of_toNat h)
              have HE := Lib.hid he
              clear he
              go_wp2
              go_round
              case rel => exact ⟨m + 1, by omega, by go_num, by
                rw [HT.out, show (x == y) = false from beq_eq_false_iff_ne.2 (fun h => HE.out h.symm), Bool.or_false]⟩
              case measure => simp [intOf]; omega
          · obtain rfl : m = 14 := by omega
            have hff : fo = f := by rw [← hfo, ← HF.out]; rfl
            subst hff
            clear hfo
            cases fo
            · by_cases h96 : x.toNat = 96
              · have e1 : ((x.toNat : Int) != 96) = false := by rw [h96]; rfl
                have HK := Lib.hid (all_succ HAL.out HX.out (by rw [HNM.out, decide_eq_true h96]; rfl))
                clear h96
                go_wp2
                go_round
                case rel => exact ⟨k + 1, by omega, by go_num, HK.out⟩
                case measure => simp [intOf]; omega
              · have e1 : ((x.toNat : Int) != 96) = true := by
                  simp only [bne_iff_ne, ne_eq]
                  omega
                have e0 : r = false := HH.out k x HX.out (by rw [HNM.out, decide_eq_false h96]; rfl)
                subst e0
                clear h96
                go_wp2
                go_ret
                exact ⟨rfl, rfl⟩
            · have HK := Lib.hid (all_succ HAL.out HX.out (by rw [HNM.out]; rfl))
              go_wp2
              go_round
              case rel => exact ⟨k + 1, by omega, by go_num, HK.out⟩
              case measure => simp [intOf]; omega
      · have a0 : decide ((48 : Int) ≤ (x.toNat : Int)) = true := decide_eq_true (by omega)
        have a1 : decide ((x.toNat : Int) ≤ 57) = false := decide_eq_false (by omega)
        have a2 : decide ((97 : Int) ≤ (x.toNat : Int)) = false := decide_eq_false (by omega)
        clear hd hl hr
        go_wp2
        go_loop [5, 7] (fun fo i => ∃ (m : Nat), m ≤ 14 ∧ i = .int .i64 (m : Int) ∧ fo = .bool ((sgR.take m).contains x)) (fun _ i => 14 - (intOf i).toNat)
        case atStart => exact ⟨0, by omega, rfl, rfl⟩
        case round =>
          obtain ⟨m, hm, rfl, rfl⟩ := hrel
          have hsz : sgS.size = 14 := rfl
          obtain ⟨fo, hfo⟩ : ∃ fo, (sgR.take m).contains x = fo := ⟨_, rfl⟩
          rw [hfo]
          by_cases hmt : m < 14
          · have hmt' : (m : Int) < 14 := by omega
            have hmS : m < sgS.size := by omega
            have hmS' : (m : Int) < (sgS.size : Int) := by omega
            obtain ⟨y, hy⟩ : ∃ y : UInt8, sgS[m]'hmS = y := ⟨_, rfl⟩
            have hY : sgR[m]? = some y := by
              have := Lib.data_getElem? sgS m hmS
              rw [hy] at this
              exact this
            have hT := take_contains (c := x) hY
            rw [hfo] at hT
            have HT := Lib.hid hT
            clear hT hY hfo
            by_cases he : y = x
            · have e1 : ((y.toNat : Int) == (x.toNat : Int)) = true := by rw [he]; simp
              have HE := Lib.hid he
              clear he
              go_wp2
              go_round
              case rel => exact ⟨m + 1, by omega, by go_num, by rw [HT.out, HE.out]; simp⟩
              case measure => simp [intOf]; omega
            · have e1 : ((y.toNat : Int) == (x.toNat : Int)) = false := by
                rw [beq_eq_false_iff_ne]
                intro h
                exact he (Lib.byte_eq_of_toNat h)
              have HE := Lib.hid he
              clear he
              go_wp2
              go_round
              case rel => exact ⟨m + 1, by omega, by go_num, by
                rw [HT.out, show (x == y) = false from beq_eq_false_iff_ne.2 (fun h => HE.out h.symm), Bool.or_false]⟩
              case measure => simp [intOf]; omega
          · obtain rfl : m = 14 := by omega
            have hff : fo = f := by rw [← hfo, ← HF.out]; rfl
            subst hff
            clear hfo
            cases fo
            · by_cases h96 : x.toNat = 96
              · have e1 : ((x.toNat : Int) != 96) = false := by rw [h96]; rfl
                have HK := Lib.hid (all_succ HAL.out HX.out (by rw [HNM.out, decide_eq_true h96]; rfl))
                clear h96
                go_wp2
                go_round
                case rel => exact ⟨k + 1, by omega, by go_num, HK.out⟩
                case measure => simp [intOf]; omega
              · have e1 : ((x.toNat : Int) != 96) = true := by
                  simp only [bne_iff_ne, ne_eq]
                  omega
                have e0 : r = false := HH.out k x HX.out (by rw [HNM.out, decide_eq_false h96]; rfl)
                subst e0
                clear h96
                go_wp2
                go_ret
                exact ⟨rfl, rfl⟩
            · have HK := Lib.hid (all_succ HAL.out HX.out (by rw [HNM.out]; rfl))
              go_wp2
              go_round
              case rel => exact ⟨k + 1, by omega, by go_num, HK.out⟩
              case measure => simp [intOf]; omega
      · have a0 : decide ((48 : Int) ≤ (x.toNat : Int)) = true := decide_eq_true (by omega)
        have a1 : decide ((x.toNat : Int) ≤ 57) = false := decide_eq_false (by omega)
        have a2 : decide ((97 : Int) ≤ (x.toNat : Int)) = true := decide_eq_true (by omega)
        have a3 : decide ((x.toNat : Int) ≤ 122) = false := decide_eq_false (by omega)
        clear hd hl hr
        go_wp2
        go_loop [5, 7] (fun fo i => ∃ (m : Nat), m ≤ 14 ∧ i = .int .i64 (m : Int) ∧ fo = .bool ((sgR.take m).contains x)) (fun _ i => 14 - (intOf i).toNat)
        case atStart => exact ⟨0, by omega, rfl, rfl⟩
        case round =>
          obtain ⟨m, hm, rfl, rfl⟩ := hrel
          have hsz : sgS.size = 14 := rfl
          obtain ⟨fo, hfo⟩ : ∃ fo, (sgR.take m).contains x = fo := ⟨_, rfl⟩
          rw [hfo]
          by_cases hmt : m < 14
          · have hmt' : (m : Int) < 14 := by omega
            have hmS : m < sgS.size := by omega
            have hmS' : (m : Int) < (sgS.size : Int) := by omega
            obtain ⟨y, hy⟩ : ∃ y : UInt8, sgS[m]'hmS = y := ⟨_, rfl⟩
            have hY : sgR[m]? = some y := by
              have := Lib.data_getElem? sgS m hmS
              rw [hy] at this
              exact this
            have hT := take_contains (c := x) hY
            rw [hfo] at hT
            have HT := Lib.hid hT
            clear hT hY hfo
            by_cases he : y = x
            · have e1 : ((y.toNat : Int) == (x.toNat : Int)) = true := by rw [he]; simp
              have HE := Lib.hid he
              clear he
              go_wp2
              go_round
              case rel => exact ⟨m + 1, by omega, by go_num, by rw [HT.out, HE.out]; simp⟩
              case measure => simp [intOf]; omega
            · have e1 : ((y.toNat : Int) == (x.toNat : Int)) = false := by
                rw [beq_eq_false_iff_ne]
                intro h
                exact he (Lib.byte_eq_of_toNat h)
              have HE := Lib.hid he
              clear he
              go_wp2
              go_round
              case rel => exact ⟨m + 1, by omega, by go_num, by
                rw [HT.out, show (x == y) = false from beq_eq_false_iff_ne.2 (fun h => HE.out h.symm), Bool.or_false]⟩
              case measure => simp [intOf]; omega
          · obtain rfl : m = 14 := by omega
            have hff : fo = f := by rw [← hfo, ← HF.out]; rfl
            subst hff
            clear hfo
            cases fo
            · by_cases h96 : x.toNat = 96
              · have e1 : ((x.toNat : Int) != 96) = false := by rw [h96]; rfl
                have HK := Lib.hid (all_succ HAL.out HX.out (by rw [HNM.out, decide_eq_true h96]; rfl))
                clear h96
                go_wp2
                go_round
                case rel => exact ⟨k + 1, by omega, by go_num, HK.out⟩
                case measure => simp [intOf]; omega
              · have e1 : ((x.toNat : Int) != 96) = true := by
                  simp only [bne_iff_ne, ne_eq]
                  omega
                have e0 : r = false := HH.out k x HX.out (by rw [HNM.out, decide_eq_false h96]; rfl)
                subst e0
                clear h96
                go_wp2
                go_ret
                exact ⟨rfl, rfl⟩
            · have HK := Lib.hid (all_succ HAL.out HX.out (by rw [HNM.out]; rfl))
              go_wp2
              go_round
              case rel => exact ⟨k + 1, by omega, by go_num, HK.out⟩
              case measure => simp [intOf]; omega
    · obtain rfl : k = s.size := by omega
      have e0 : r = true := HA.out (fun j y hy => HAL.out j y (by
        have := (List.getElem?_eq_some_iff.1 hy).1
        rw [← HSZ.out] at this
        omega) hy)
      subst e0
      go_wp2
      go_ret
      exact ⟨rfl, rfl⟩
end Go.Proofs.YtmeeofplpffboaaDoor

