/-
  Package request: which texts may stand in a request.
-/
import Derived.Test.YtapikjhfgcbifaaGreatDoorClnG1
namespace Go.Proofs.YtapikjhfgcbifaaGreatDoor
set_option maxRecDepth 100000
set_option linter.unusedVariables false
set_option linter.unusedSimpArgs false
open Go.RowKit
def mthC (c : UInt8) : Bool := decide (65 ≤ c.toNat) && decide (c.toNat ≤ 90) || decide (c.toNat = 45)
def mthB (l : List UInt8) : Bool := l.all mthC && (decide (1 ≤ l.length) && decide (l.length ≤ 4096))
def visC (c : UInt8) : Bool := decide (33 ≤ c.toNat) && !decide (c.toNat = 127)
def visB (l : List UInt8) : Bool := l.all visC && decide (l.length ≤ 4096)
def schB (s : ByteArray) : Bool := (s.toList == [104, 116, 116, 112]) || (s.toList == [104, 116, 116, 112, 115])
theorem all_hit {p : UInt8 → Bool} {l : List UInt8} {k : Nat} {x : UInt8} (h : l[k]? = some x) (hx : p x = false) : l.all p = false := by
  rw [List.all_eq_false]
  exact ⟨x, List.mem_of_getElem? h, by simp [hx]⟩
theorem all_yes {p : UInt8 → Bool} {l : List UInt8} (h : ∀ (k : Nat) x, l[k]? = some x → p x = true) : l.all p = true := by
  rw [List.all_eq_true]
  intro x hx
  obtain ⟨k, hk⟩ := List.getElem?_of_mem hx
  exact h k x hk
theorem rq_scheme (s : ByteArray) (w : World) : Calls Tryz.prog 48 #[.string s] w fun e w' => e = .returned (.bool (schB s)) ∧ w' = w := by
  unfold schB
  cases h1 : (s.toList == [104, 116, 116, 112]) <;> cases h2 : (s.toList == [104, 116, 116, 112, 115])
  all_goals
    go_enter Tryz.func48, Tryz.ntmps48
    go_wp2
    go_ret
    exact ⟨rfl, rfl⟩
set_option maxHeartbeats 1600000 in
theorem rq_visible (s : ByteArray) (w : World) (hs : s.size ≤ 9223372036854775807) : Calls Tryz.prog 50 #[.string s] w fun e w' => e = .returned (.bool (visB s.data.toList)) ∧ w' = w := by
  obtain ⟨r, hr⟩ : ∃ r, visB s.data.toList = r := ⟨_, rfl⟩
  rw [hr]
  have HSZ := Lib.hid (Lib.size_eq s)
  have HH : Hid (∀ (k : Nat) x, s.data.toList[k]? = some x → visC x = false → r = false) := Lib.hid (fun k x h hx => by rw [← hr]; unfold visB; rw [all_hit h hx]; rfl)
  have HA : Hid ((∀ (k : Nat) x, s.data.toList[k]? = some x → visC x = true) → decide (s.size ≤ 4096) = r) := Lib.hid (fun h => by rw [← hr]; unfold visB; rw [all_yes h, ← HSZ.out]; rfl)
  clear hr
  go_enter Tryz.func50, Tryz.ntmps50
  go_wp2
  go_loop [7] (fun i => ∃ k : Nat, k ≤ s.size ∧ i = .int .i64 (k : Int) ∧ ∀ (j : Nat) y, j < k → s.data.toList[j]? = some y → visC y = true) (fun i => s.size - (intOf i).toNat)
  case atStart => exact ⟨0, by omega, rfl, fun j y hj => by omega⟩
  case round =>
    obtain ⟨k, hk, rfl, hal⟩ := hrel
    have HAL := Lib.hid hal
    clear hal
    by_cases hlt : k < s.size
    · have hlt' : (k : Int) < (s.size : Int) := by omega
      have hkw : IntKind.i64.wrap ((k : Int) + 1) = (k : Int) + 1 := IntWalk.i64_in _ (by omega)
      obtain ⟨x, hx⟩ : ∃ x : UInt8, s[k]'hlt = x := ⟨_, rfl⟩
      have HX := Lib.hid (show s.data.toList[k]? = some x by rw [← hx]; exact Lib.data_getElem? s k hlt)
      by_cases h33 : x.toNat < 33
      · have e0 : r = false := HH.out k x HX.out (by unfold visC; rw [decide_eq_false (by omega)]; rfl)
        subst e0
        have a0 : (x.toNat : Int) < 33 := by omega
        clear h33
        go_wp2
        go_ret
        exact ⟨rfl, rfl⟩
      have a0 : decide ((x.toNat : Int) < 33) = false := decide_eq_false (by omega)
      by_cases h127 : x.toNat = 127
      · have e0 : r = false := HH.out k x HX.out (by unfold visC; rw [decide_eq_true h127]; simp)
        subst e0
        have a1 : ((x.toNat : Int) == 127) = true := beq_iff_eq.2 (by omega)
        clear h33 h127
        go_wp2
        all_goals
          first
            | (go_ret
               exact ⟨rfl, rfl⟩)
            | (exfalso; simp_all)
      · have HK := Lib.hid (all_succ HAL.out HX.out (by unfold visC; rw [decide_eq_true (by omega), decide_eq_false h127]; rfl))
        have a1 : ((x.toNat : Int) == 127) = false := beq_eq_false_iff_ne.2 (by omega)
        clear h33 h127
        go_wp2
        go_round
        case rel => exact ⟨k + 1, by omega, by go_num, HK.out⟩
        case measure => simp [intOf]; omega
    · obtain rfl : k = s.size := by omega
      have e0 := HA.out (fun j y hy => HAL.out j y (by
        have := (List.getElem?_eq_some_iff.1 hy).1
        rw [← HSZ.out] at this
        omega) hy)
      by_cases h4 : s.size ≤ 4096
      · rw [decide_eq_true h4] at e0
        subst e0
        have a1 : (s.size : Int) ≤ 4096 := by omega
        clear h4
        go_wp2
        go_ret
        exact ⟨rfl, rfl⟩
      · rw [decide_eq_false h4] at e0
        subst e0
        have a1 : decide ((s.size : Int) ≤ 4096) = false := decide_eq_false (by omega)
        have a2 : decide (s.size ≤ 4096) = false := decide_eq_false h4
        clear h4
        go_wp2
        go_ret
        exact ⟨rfl, rfl⟩
theorem mth_no {x : UInt8} (h : ¬ (65 ≤ x.toNat ∧ x.toNat ≤ 90)) (h2 : ¬ x.toNat = 45) : mthC x = false := by
  unfold mthC
  rw [← Bool.decide_and, decide_eq_false h, decide_eq_false h2]
  rfl
set_option maxHeartbeats 1600000 in
theorem rq_method (s : ByteArray) (w : World) (hs : s.size ≤ 9223372036854775807) : Calls Tryz.prog 47 #[.string s] w fun e w' => e = .returned (.bool (mthB s.data.toList)) ∧ w' = w := by
  obtain ⟨r, hr⟩ : ∃ r, mthB s.data.toList = r := ⟨_, rfl⟩
  rw [hr]
  have HSZ := Lib.hid (Lib.size_eq s)
  have HH : Hid (∀ (k : Nat) x, s.data.toList[k]? = some x → mthC x = false → r = false) := Lib.hid (fun k x h hx => by rw [← hr]; unfold mthB; rw [all_hit h hx]; rfl)
  have HA : Hid ((∀ (k : Nat) x, s.data.toList[k]? = some x → mthC x = true) → (decide (1 ≤ s.size) && decide (s.size ≤ 4096)) = r) := Lib.hid (fun h => by rw [← hr]; unfold mthB; rw [all_yes h, ← HSZ.out]; rfl)
  clear hr
  go_enter Tryz.func47, Tryz.ntmps47
  go_wp2
  go_loop [7] (fun i => ∃ k : Nat, k ≤ s.size ∧ i = .int .i64 (k : Int) ∧ ∀ (j : Nat) y, j < k → s.data.toList[j]? = some y → mthC y = true) (fun i => s.size - (intOf i).toNat)
  case atStart => exact ⟨0, by omega, rfl, fun j y hj => by omega⟩
  case round =>
    obtain ⟨k, hk, rfl, hal⟩ := hrel
    have HAL := Lib.hid hal
    clear hal
    by_cases hlt : k < s.size
    · have hlt' : (k : Int) < (s.size : Int) := by omega
      have hkw : IntKind.i64.wrap ((k : Int) + 1) = (k : Int) + 1 := IntWalk.i64_in _ (by omega)
      obtain ⟨x, hx⟩ : ∃ x : UInt8, s[k]'hlt = x := ⟨_, rfl⟩
      have HX := Lib.hid (show s.data.toList[k]? = some x by rw [← hx]; exact Lib.data_getElem? s k hlt)
      by_cases hl : 65 ≤ x.toNat ∧ x.toNat ≤ 90
      · have HK := Lib.hid (all_succ HAL.out HX.out (by unfold mthC; rw [decide_eq_true hl.1, decide_eq_true hl.2]; rfl))
        have a0 : decide ((x.toNat : Int) < 65) = false := decide_eq_false (by omega)
        have a1 : decide ((90 : Int) < (x.toNat : Int)) = false := decide_eq_false (by omega)
        clear hl
        go_wp2
        go_round
        case rel => exact ⟨k + 1, by omega, by go_num, HK.out⟩
        case measure => simp [intOf]; omega
      by_cases h45 : x.toNat = 45
      · have HK := Lib.hid (all_succ HAL.out HX.out (by unfold mthC; rw [decide_eq_true h45]; simp))
        clear hl
        go_wp2
        go_round
        case rel => exact ⟨k + 1, by omega, by go_num, HK.out⟩
        case measure => simp [intOf]; omega
      have e0 : r = false := HH.out k x HX.out (mth_no hl h45)
      subst e0
      have a2 : ((x.toNat : Int) != 45) = true := by simp only [bne_iff_ne, ne_eq]; omega
      by_cases h65 : x.toNat < 65
      · have a0 : (x.toNat : Int) < 65 := by omega
        clear hl h45 h65
        go_wp2
        go_ret
        exact ⟨rfl, rfl⟩
      · have a0 : decide ((x.toNat : Int) < 65) = false := decide_eq_false (by omega)
        have a1 : (90 : Int) < (x.toNat : Int) := by omega
        clear hl h45 h65
        go_wp2
        go_ret
        exact ⟨rfl, rfl⟩
    · obtain rfl : k = s.size := by omega
      have e0 := HA.out (fun j y hy => HAL.out j y (by
        have := (List.getElem?_eq_some_iff.1 hy).1
        rw [← HSZ.out] at this
        omega) hy)
      by_cases h1 : 1 ≤ s.size
      · by_cases h4 : s.size ≤ 4096
        · rw [decide_eq_true h4, decide_eq_true h1] at e0
          subst e0
          have a0 : (1 : Int) ≤ (s.size : Int) := by omega
          have a1 : (s.size : Int) ≤ 4096 := by omega
          clear h4 h1
          go_wp2
          go_ret
          exact ⟨rfl, rfl⟩
        · rw [decide_eq_false h4, decide_eq_true h1] at e0
          subst e0
          have a0 : (1 : Int) ≤ (s.size : Int) := by omega
          have a1 : decide ((s.size : Int) ≤ 4096) = false := decide_eq_false (by omega)
          have a2 : decide (s.size ≤ 4096) = false := decide_eq_false h4
          clear h4 h1
          go_wp2
          go_ret
          exact ⟨rfl, rfl⟩
      · rw [decide_eq_false h1] at e0
        subst e0
        have a1 : decide ((1 : Int) ≤ (s.size : Int)) = false := decide_eq_false (by omega)
        have a2 : decide (1 ≤ s.size) = false := decide_eq_false h1
        clear h1
        go_wp2
        go_ret
        exact ⟨rfl, rfl⟩
end Go.Proofs.YtapikjhfgcbifaaGreatDoor

