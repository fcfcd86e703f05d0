/-
  The laws of layer 22: the document's Right; lines.
-/
import Derived.Test.YtapikjhfgcbifaaGreatDoorReqJ
namespace Go.Proofs.YtapikjhfgcbifaaGreatDoor
set_option maxRecDepth 100000
set_option linter.unusedVariables false
set_option linter.unusedSimpArgs false
open Go.RowKit
set_option maxHeartbeats 3200000 in
theorem rf_plain (s : ByteArray) (w : World) (hs : s.size ≤ 4611686018427387904) : Calls Tryz.prog 36 #[.string s] w fun e w' => e = .returned (.bool (visB s.data.toList)) ∧ w' = w := by
  obtain ⟨r, hr⟩ : ∃ r, visB s.data.toList = r := ⟨_, rfl⟩
  rw [hr]
  have HSZ := Lib.hid (Lib.size_eq s)
  have HH : Hid (∀ (k : Nat) x, s.data.toList[k]? = some x → visC x = false → r = false) := Lib.hid (fun k x h hx => by rw [← hr]; unfold visB; rw [all_hit h hx]; rfl)
  have HA : Hid ((∀ (k : Nat) x, s.data.toList[k]? = some x → visC x = true) → decide (s.size ≤ 4096) = r) := Lib.hid (fun h => by rw [← hr]; unfold visB; rw [all_yes h, ← HSZ.out]; rfl)
  have HL : Hid (¬ s.size ≤ 4096 → r = false) := Lib.hid (fun h => by rw [← hr]; unfold visB; rw [← HSZ.out, decide_eq_false h, Bool.and_false])
  clear hr
  by_cases h4 : s.size ≤ 4096
  rotate_left
  · have e0 := HL.out h4
    subst e0
    have a0 : (4096 : Int) < (s.size : Int) := by omega
    clear h4
    go_enter Tryz.func36, Tryz.ntmps36
    go_wp2
    go_ret
    exact ⟨rfl, rfl⟩
  have a0 : decide ((4096 : Int) < (s.size : Int)) = false := decide_eq_false (by omega)
  have a1 : decide (4096 < s.size) = false := decide_eq_false (by omega)
  go_enter Tryz.func36, Tryz.ntmps36
  go_wp2_with fail
  go_loop [3] (fun i => ∃ k : Nat, k ≤ s.size ∧ i = .int .i64 (k : Int) ∧ ∀ (j : Nat) y, j < k → s.data.toList[j]? = some y → visC y = true) (fun i => s.size - (intOf i).toNat)
  case atStart => exact ⟨0, by omega, rfl, fun j y hj => by omega⟩
  case round =>
    obtain ⟨k, hk, rfl, hal⟩ := hrel
    have HAL := Lib.hid hal
    clear hal
    by_cases hlt : k < s.size
    · have hlt' : (k : Int) < (s.size : Int) := by omega
      have hkw : IntKind.i64.wrap ((k : Int) + 1) = (k : Int) + 1 := IntWalk.i64_in _ (by omega)
      obtain ⟨x, hx⟩ : ∃ x : UInt8, s[k]'hlt = x := ⟨_, rfl⟩
      have HX := Lib.hid (show s.data.toList[k]? = some x by rw [← hx]; exact Lib.data_getElem? s k hlt)
      by_cases h33 : x.toNat < 33
      · have e0 : r = false := HH.out k x HX.out (by unfold visC; rw [decide_eq_false (by omega)]; rfl)
        subst e0
        have b0 : (x.toNat : Int) < 33 := by omega
        clear h33 h4
        go_wp2
        go_ret
        exact ⟨rfl, rfl⟩
      have b0 : decide ((x.toNat : Int) < 33) = false := decide_eq_false (by omega)
      by_cases h127 : x.toNat = 127
      · have e0 : r = false := HH.out k x HX.out (by unfold visC; rw [decide_eq_true h127]; simp)
        subst e0
        have b1 : ((x.toNat : Int) == 127) = true := beq_iff_eq.2 (by omega)
        clear h33 h127 h4
        go_wp2
        all_goals
          first
            | (go_ret
               exact ⟨rfl, rfl⟩)
            | (exfalso; simp_all)
      · have HK := Lib.hid (all_succ HAL.out HX.out (by unfold visC; rw [decide_eq_true (by omega), decide_eq_false h127]; rfl))
        have b1 : ((x.toNat : Int) == 127) = false := beq_eq_false_iff_ne.2 (by omega)
        clear h33 h127
        go_wp2
        go_round
        case rel => exact ⟨k + 1, by omega, by go_num, HK.out⟩
        case measure => simp [intOf]; omega
    · obtain rfl : k = s.size := by omega
      have e0 := HA.out (fun j y hy => HAL.out j y (by
        have := (List.getElem?_eq_some_iff.1 hy).1
        rw [← HSZ.out] at this
        omega) hy)
      rw [decide_eq_true h4] at e0
      subst e0
      have hnk : ¬ (s.size : Int) < (s.size : Int) := by omega
      clear h4
      go_wp2
      go_ret
      exact ⟨rfl, rfl⟩
set_option maxHeartbeats 3200000 in
theorem rf_method (s : ByteArray) (w : World) (hs : s.size ≤ 4611686018427387904) : Calls Tryz.prog 35 #[.string s] w fun e w' => e = .returned (.bool (mthB s.data.toList)) ∧ w' = w := by
  obtain ⟨r, hr⟩ : ∃ r, mthB s.data.toList = r := ⟨_, rfl⟩
  rw [hr]
  have HSZ := Lib.hid (Lib.size_eq s)
  have HH : Hid (∀ (k : Nat) x, s.data.toList[k]? = some x → mthC x = false → r = false) := Lib.hid (fun k x h hx => by rw [← hr]; unfold mthB; rw [all_hit h hx]; rfl)
  have HA : Hid ((∀ (k : Nat) x, s.data.toList[k]? = some x → mthC x = true) → (decide (1 ≤ s.size) && decide (s.size ≤ 4096)) = r) := Lib.hid (fun h => by rw [← hr]; unfold mthB; rw [all_yes h, ← HSZ.out]; rfl)
  have HL : Hid ((s.size < 1 ∨ ¬ s.size ≤ 4096) → r = false) := Lib.hid (fun h => by
    rw [← hr]; unfold mthB; rw [← HSZ.out]
    rcases h with h | h
    · rw [decide_eq_false (show ¬ 1 ≤ s.size by omega), Bool.false_and, Bool.and_false]
    · rw [decide_eq_false h, Bool.and_false, Bool.and_false])
  clear hr
  by_cases h1 : s.size < 1
  · have e0 := HL.out (.inl h1)
    subst e0
    have a0 : (s.size : Int) < 1 := by omega
    clear h1
    go_enter Tryz.func35, Tryz.ntmps35
    go_wp2
    go_ret
    exact ⟨rfl, rfl⟩
  have a0 : decide ((s.size : Int) < 1) = false := decide_eq_false (by omega)
  have a00 : decide (s.size < 1) = false := decide_eq_false h1
  by_cases h4 : s.size ≤ 4096
  rotate_left
  · have e0 := HL.out (.inr h4)
    subst e0
    have a1 : (4096 : Int) < (s.size : Int) := by omega
    clear h4 h1
    go_enter Tryz.func35, Tryz.ntmps35
    go_wp2
    go_ret
    exact ⟨rfl, rfl⟩
  have a1 : decide ((4096 : Int) < (s.size : Int)) = false := decide_eq_false (by omega)
  have a11 : decide (4096 < s.size) = false := decide_eq_false (by omega)
  have H14 := Lib.hid (And.intro h1 h4)
  clear h1 h4
  go_enter Tryz.func35, Tryz.ntmps35
  go_wp2_with fail
  go_loop [3] (fun i => ∃ k : Nat, k ≤ s.size ∧ i = .int .i64 (k : Int) ∧ ∀ (j : Nat) y, j < k → s.data.toList[j]? = some y → mthC y = true) (fun i => s.size - (intOf i).toNat)
  case atStart => exact ⟨0, by omega, rfl, fun j y hj => by omega⟩
  case round =>
    obtain ⟨k, hk, rfl, hal⟩ := hrel
    have HAL := Lib.hid hal
    clear hal
    by_cases hlt : k < s.size
    · have hlt' : (k : Int) < (s.size : Int) := by omega
      have hkw : IntKind.i64.wrap ((k : Int) + 1) = (k : Int) + 1 := IntWalk.i64_in _ (by omega)
      obtain ⟨x, hx⟩ : ∃ x : UInt8, s[k]'hlt = x := ⟨_, rfl⟩
      have HX := Lib.hid (show s.data.toList[k]? = some x by rw [← hx]; exact Lib.data_getElem? s k hlt)
      by_cases hl : 65 ≤ x.toNat ∧ x.toNat ≤ 90
      · have HK := Lib.hid (all_succ HAL.out HX.out (by unfold mthC; rw [decide_eq_true hl.1, decide_eq_true hl.2]; rfl))
        have b0 : decide ((x.toNat : Int) < 65) = false := decide_eq_false (by omega)
        have b1 : decide ((90 : Int) < (x.toNat : Int)) = false := decide_eq_false (by omega)
        clear hl
        go_wp2
        go_round
        case rel => exact ⟨k + 1, by omega, by go_num, HK.out⟩
        case measure => simp [intOf]; omega
      by_cases h45 : x.toNat = 45
      · have HK := Lib.hid (all_succ HAL.out HX.out (by unfold mthC; rw [decide_eq_true h45]; simp))
        clear hl
        go_wp2
        go_round
        case rel => exact ⟨k + 1, by omega, by go_num, HK.out⟩
        case measure => simp [intOf]; omega
      have e0 : r = false := HH.out k x HX.out (mth_no hl h45)
      subst e0
      have b2 : ((x.toNat : Int) != 45) = true := by simp only [bne_iff_ne, ne_eq]; omega
      by_cases h65 : x.toNat < 65
      · have b0 : (x.toNat : Int) < 65 := by omega
        clear hl h45 h65
        go_wp2
        go_ret
        exact ⟨rfl, rfl⟩
      · have b0 : decide ((x.toNat : Int) < 65) = false := decide_eq_false (by omega)
        have b1 : (90 : Int) < (x.toNat : Int) := by omega
        clear hl h45 h65
        go_wp2
        go_ret
        exact ⟨rfl, rfl⟩
    · obtain rfl : k = s.size := by omega
      have e0 := HA.out (fun j y hy => HAL.out j y (by
        have := (List.getElem?_eq_some_iff.1 hy).1
        rw [← HSZ.out] at this
        omega) hy)
      rw [decide_eq_true H14.out.2, decide_eq_true (show 1 ≤ s.size by have := H14.out.1; omega)] at e0
      subst e0
      have hnk : ¬ (s.size : Int) < (s.size : Int) := by omega
      go_wp2
      go_ret
      exact ⟨rfl, rfl⟩
set_option maxHeartbeats 6400000 in
theorem rf_right (m s p a : ByteArray) (w : World) (hm : m.size < 5000) (hp : p.size < 5000) (ha : a.size < 5000) : Calls Tryz.prog 13 #[.string m, .string s, .string p, .string a] w fun e w' => e = .returned (.bool (rightR m s p a)) ∧ w' = w := by
  have HM := Lib.hid (fun w => rf_method m w (by omega))
  have HP := Lib.hid (fun w => rf_plain p w (by omega))
  have HA := Lib.hid (fun w => rf_plain a w (by omega))
  unfold rightR pthB schB
  generalize mthB m.data.toList = b1 at *
  generalize visB a.data.toList = b4 at *
  generalize visB p.data.toList = b3 at *
  cases b1
  · go_enter Tryz.func13, Tryz.ntmps13
    go_wp2_with fail
    with_reducible refine (HM.out _).mono ?_
    rintro e w1 ⟨rfl, hw⟩
    obtain rfl : w = w1 := hw.symm
    go_wp2_with fail
    go_ret
    exact ⟨rfl, rfl⟩
  by_cases hsc : ((s.toList == [104, 116, 116, 112]) || (s.toList == [104, 116, 116, 112, 115])) = true
  rotate_left
  · have hsf : ((s.toList == [104, 116, 116, 112]) || (s.toList == [104, 116, 116, 112, 115])) = false := by simpa using hsc
    rw [hsf]
    obtain ⟨h1, h2⟩ := Bool.or_eq_false_iff.1 hsf
    clear hsc hsf
    go_enter Tryz.func13, Tryz.ntmps13
    go_wp2_with fail
    with_reducible refine (HM.out _).mono ?_
    rintro e w1 ⟨rfl, hw⟩
    obtain rfl : w = w1 := hw.symm
    go_wp2_with fail
    go_ret
    exact ⟨rfl, rfl⟩
  rw [hsc]
  have hsplit : (s.toList == [104, 116, 116, 112]) = true ∨ ((s.toList == [104, 116, 116, 112]) = false ∧ (s.toList == [104, 116, 116, 112, 115]) = true) := by
    cases h : (s.toList == [104, 116, 116, 112])
    · rw [h, Bool.false_or] at hsc
      exact .inr ⟨rfl, hsc⟩
    · exact .inl rfl
  clear hsc
  by_cases hp0 : p.size = 0
  · have hl : p.data.toList = [] := List.length_eq_zero_iff.1 (by rw [← Lib.size_eq]; exact hp0)
    rw [hl]
    have d0 : decide ((0 : Int) < (p.size : Int)) = false := decide_eq_false (by omega)
    have d1 : decide (0 < p.size) = false := decide_eq_false (by omega)
    clear hl hp0 hm hp ha
    rcases hsplit with h1 | ⟨h1, h2⟩
    all_goals
      go_enter Tryz.func13, Tryz.ntmps13
      go_wp2_with fail
      with_reducible refine (HM.out _).mono ?_
      rintro e w1 ⟨rfl, hw⟩
      obtain rfl : w = w1 := hw.symm
      go_wp2_with fail
      go_ret
      exact ⟨rfl, rfl⟩
  have hp1 : 0 < p.size := by omega
  obtain ⟨c, hc⟩ : ∃ c : UInt8, p[0]'hp1 = c := ⟨_, rfl⟩
  have hl : p.data.toList[0]? = some c := by rw [← hc]; exact Lib.data_getElem? p 0 hp1
  obtain ⟨r, hr⟩ : ∃ r, fstB 47 p.data.toList = r := ⟨_, rfl⟩
  have hr2 : (c == 47) = r := by
    rw [← hr]
    cases hd : p.data.toList with
    | nil => rw [hd] at hl; cases hl
    | cons y t =>
      rw [hd] at hl
      simp at hl
      subst hl
      rfl
  have hr3 : ((c.toNat : Int) == 47) = r := by
    rw [← hr2]
    by_cases e : c = 47
    · subst e; rfl
    · have : c.toNat ≠ 47 := fun h => e (UInt8.toNat_inj.1 h)
      rw [beq_eq_false_iff_ne.2 e]
      exact beq_eq_false_iff_ne.2 (by omega)
  have d0 : (0 : Int) < (p.size : Int) := by omega
  rw [hr]
  clear hr hr2 hl hp0 hm hp ha
  cases r
  · rcases hsplit with h1 | ⟨h1, h2⟩
    all_goals
      go_enter Tryz.func13, Tryz.ntmps13
      go_wp2_with fail
      with_reducible refine (HM.out _).mono ?_
      rintro e w1 ⟨rfl, hw⟩
      obtain rfl : w = w1 := hw.symm
      go_wp2_with fail
      go_ret
      exact ⟨rfl, rfl⟩
  cases b3
  · rcases hsplit with h1 | ⟨h1, h2⟩
    all_goals
      go_enter Tryz.func13, Tryz.ntmps13
      go_wp2_with fail
      with_reducible refine (HM.out _).mono ?_
      rintro e w1 ⟨rfl, hw⟩
      obtain rfl : w = w1 := hw.symm
      go_wp2_with fail
      with_reducible refine (HP.out _).mono ?_
      rintro e w1 ⟨rfl, hw⟩
      obtain rfl : w = w1 := hw.symm
      go_wp2_with fail
      go_ret
      exact ⟨rfl, rfl⟩
  rcases hsplit with h1 | ⟨h1, h2⟩
  all_goals
    go_enter Tryz.func13, Tryz.ntmps13
    go_wp2_with fail
    with_reducible refine (HM.out _).mono ?_
    rintro e w1 ⟨rfl, hw⟩
    obtain rfl : w = w1 := hw.symm
    go_wp2_with fail
    with_reducible refine (HP.out _).mono ?_
    rintro e w1 ⟨rfl, hw⟩
    obtain rfl : w = w1 := hw.symm
    go_wp2_with fail
    with_reducible refine (HA.out _).mono ?_
    rintro e w1 ⟨rfl, hw⟩
    obtain rfl : w = w1 := hw.symm
    go_wp2_with fail
    go_ret
    exact ⟨by cases b4 <;> rfl, rfl⟩
set_option maxHeartbeats 3200000 in
theorem l22_lines (A B : Option Addr) (c d : Nat) (n : Nat) (xs : List LnD) (w : World) (hx : xs.length = n) (hm : Many lnD 3 w A xs) (hk : Many lnD 3 w B xs) (hl : n ≤ 1000000) :
    Calls Tryz.prog 15 #[.slice A n c, .slice B n d] w fun e w' => e = .returned (.bool true) ∧ Fresh w w' := by
  have HM := Lib.hid hm
  have HK := Lib.hid hk
  have HN := Lib.hid hx
  have hnn : ((n : Int) != (n : Int)) = false := by simp
  clear hx hm hk
  go_enter Tryz.func15, Tryz.ntmps15
  go_wp2_with fail
  go_loopw [13] (fun i wr => ∃ u : Nat, u ≤ n ∧ i = .int .i64 (u : Int) ∧ Fresh w wr) (fun i _ => n - (intOf i).toNat)
  case atStart => exact ⟨0, Nat.zero_le _, rfl, Fresh.refl _⟩
  case round =>
    obtain ⟨u, hu, rfl, hf⟩ := hrel
    have HFJ := Lib.hid hf
    clear hf
    by_cases huj : u < n
    · have huj' : (u : Int) < (n : Int) := by omega
      obtain ⟨g', hg⟩ : ∃ g, xs[u]? = some g := ⟨_, List.getElem?_eq_getElem (by rw [HN.out]; exact huj)⟩
      obtain ⟨b1, o1, rfl, hb1, z0, z1, z2⟩ := (HM.out.fresh HFJ.out).lnAt u g' hg
      obtain ⟨b2, o2, rfl, hb2, k0, k1, k2⟩ := (HK.out.fresh HFJ.out).lnAt u g' hg
      obtain ⟨⟨F1, F2⟩, nv⟩ := g'
      simp only at z0 z1 z2 k0 k1 k2
      have hE := run_eq_line F1 F2 nv
      clear hb1 hb2 hg
      go_upto_region 6 with fail
      go_quiet (fail)
      all_goals
        go_wp2
        go_roundw
        case rel => exact ⟨u + 1, by omega, by go_num, HFJ.out.trans (Fresh.drewN _ _)⟩
        case measure => simp [intOf]; omega
    · obtain rfl : u = n := by omega
      have hnj : ¬ (u : Int) < (u : Int) := by omega
      go_wp2_with fail
      go_ret
      exact ⟨rfl, HFJ.out⟩
end Go.Proofs.YtapikjhfgcbifaaGreatDoor

