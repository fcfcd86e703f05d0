/-
  Package clean: the document's Value.
-/
import Derived.Test.YtmeeofplpffboaaDoorClnX
namespace Go.Proofs.YtmeeofplpffboaaDoor
set_option maxRecDepth 100000
set_option linter.unusedVariables false
set_option linter.unusedSimpArgs false
open Go.RowKit
def okV (l : List UInt8) (j : Nat) (x : UInt8) : Prop := badC x = false ∧ ((j = 0 ∨ j + 1 = l.length) → blkC x = false)
theorem okV_succ {l : List UInt8} {k : Nat} {x : UInt8} (h : ∀ (j : Nat) y, j < k → l[j]? = some y → okV l j y) (hk : l[k]? = some x) (hx : okV l k x) : ∀ (j : Nat) y, j < k + 1 → l[j]? = some y → okV l j y := by
  intro j y hj hy
  by_cases e : j = k
  · subst e
    rw [hk] at hy
    cases hy
    exact hx
  · exact h j y (by omega) hy
theorem badC_eq (x : UInt8) : badC x = (decide (x.toNat = 0) || decide (x.toNat = 10) || decide (x.toNat = 13)) := by
  have h : ∀ n : Fin 256, badC n.val.toUInt8 = (decide (n.val = 0) || decide (n.val = 10) || decide (n.val = 13)) := by decide +kernel
  simpa using h ⟨x.toNat, x.toNat_lt⟩
theorem blkC_eq (x : UInt8) : blkC x = (decide (x.toNat = 32) || decide (x.toNat = 9)) := by
  have h : ∀ n : Fin 256, blkC n.val.toUInt8 = (decide (n.val = 32) || decide (n.val = 9)) := by decide +kernel
  simpa using h ⟨x.toNat, x.toNat_lt⟩
theorem byte_is {x : UInt8} {n : Nat} {b : Bool} (h : decide (x.toNat = n) = b) : ((x.toNat : Int) == (n : Int)) = b := by
  rw [← h]
  by_cases e : x.toNat = n
  · rw [decide_eq_true e, e]; simp
  · rw [decide_eq_false e, beq_eq_false_iff_ne]
    omega
set_option maxHeartbeats 6400000 in
theorem rf_value (s : ByteArray) (w : World) :
    Calls Tryd.prog 12 #[.string s] w fun e w' => e = .returned (.bool (valB s.data.toList)) ∧ w' = w := by
  obtain ⟨r, hr⟩ : ∃ r, valB s.data.toList = r := ⟨_, rfl⟩
  rw [hr]
  have HSZ := Lib.hid (Lib.size_eq s)
  by_cases h1 : 4096 < s.size
  · have d1 : (4096 : Int) < (s.size : Int) := by omega
    rw [valB_len (by rw [← HSZ.out]; omega)] at hr
    subst hr
    go_enter Tryd.func12, Tryd.ntmps12
    go_wp2
    go_ret
    exact ⟨rfl, rfl⟩
  have d1 : decide ((4096 : Int) < (s.size : Int)) = false := decide_eq_false (by omega)
  have HB : Hid (∀ (k : Nat) x, s.data.toList[k]? = some x → badC x = true → r = false) := Lib.hid (fun k x h hx => by rw [← hr]; exact valB_bad h hx)
  have HE : Hid (∀ (k : Nat) x, s.data.toList[k]? = some x → (k = 0 ∨ k + 1 = s.size) → blkC x = true → r = false) := Lib.hid (fun k x h hk hx => by rw [← hr]; exact valB_edge h (by rw [← HSZ.out]; exact hk) hx)
  have HA : Hid ((∀ (k : Nat) x, s.data.toList[k]? = some x → okV s.data.toList k x) → r = true) := Lib.hid (fun h => by rw [← hr]; exact valB_all (by rw [← HSZ.out]; omega) h)
  clear hr
  go_enter Tryd.func12, Tryd.ntmps12
  go_wp2
  go_loop [3] (fun i => ∃ k : Nat, k ≤ s.size ∧ i = .int .i64 (k : Int) ∧ ∀ (j : Nat) y, j < k → s.data.toList[j]? = some y → okV s.data.toList j y) (fun i => s.size - (intOf i).toNat)
  case atStart => exact ⟨0, by omega, rfl, fun j y hj => by omega⟩
  case round =>
    obtain ⟨k, hk, rfl, hal⟩ := hrel
    have HAL := Lib.hid hal
    clear hal
    by_cases hlt : k < s.size
    · have hlt' : (k : Int) < (s.size : Int) := by omega
      obtain ⟨x, hx⟩ : ∃ x : UInt8, s[k]'hlt = x := ⟨_, rfl⟩
      have HX := Lib.hid (show s.data.toList[k]? = some x by rw [← hx]; exact Lib.data_getElem? s k hlt)
      have HBC := Lib.hid (badC_eq x)
      have HKC := Lib.hid (blkC_eq x)
      cases b0 : decide (x.toNat = 0)
      rotate_left
      · have e0 : r = false := HB.out k x HX.out (by rw [HBC.out, b0]; rfl)
        subst e0
        have t0 : x.toNat = 0 := of_decide_eq_true b0
        clear b0
        go_wp2
        go_ret
        exact ⟨rfl, rfl⟩
      cases b1 : decide (x.toNat = 10)
      rotate_left
      · have e0 : r = false := HB.out k x HX.out (by rw [HBC.out, b1]; simp)
        subst e0
        have t0 : x.toNat = 10 := of_decide_eq_true b1
        clear b0 b1
        go_wp2
        go_ret
        exact ⟨rfl, rfl⟩
      cases b2 : decide (x.toNat = 13)
      rotate_left
      · have e0 : r = false := HB.out k x HX.out (by rw [HBC.out, b2]; simp)
        subst e0
        have t0 : x.toNat = 13 := of_decide_eq_true b2
        clear b0 b1 b2
        go_wp2
        go_ret
        exact ⟨rfl, rfl⟩
      have HNB : Hid (badC x = false) := Lib.hid (by rw [HBC.out, b0, b1, b2]; rfl)
      have c0 : ((x.toNat : Int) == 0) = false := beq_eq_false_iff_ne.2 (by have := of_decide_eq_false b0; omega)
      have c1 : ((x.toNat : Int) == 10) = false := beq_eq_false_iff_ne.2 (by have := of_decide_eq_false b1; omega)
      have c2 : ((x.toNat : Int) == 13) = false := beq_eq_false_iff_ne.2 (by have := of_decide_eq_false b2; omega)
      have hw1 : IntKind.i64.wrap ((s.size : Int) - 1) = (s.size : Int) - 1 := IntWalk.i64_in _ (by omega)
      clear b0 b1 b2
      cases b3 : decide (x.toNat = 32)
      · cases b4 : decide (x.toNat = 9)
        · have HK := Lib.hid (okV_succ HAL.out HX.out ⟨HNB.out, fun _ => by rw [HKC.out, b3, b4]; rfl⟩)
          have c3 : ((x.toNat : Int) == 32) = false := beq_eq_false_iff_ne.2 (by have := of_decide_eq_false b3; omega)
          have c4 : ((x.toNat : Int) == 9) = false := beq_eq_false_iff_ne.2 (by have := of_decide_eq_false b4; omega)
          by_cases hz : k = 0
          · have z0 : ((k : Int) == 0) = true := by rw [hz]; rfl
            clear hz
            go_wp2
            go_round
            case rel => exact ⟨k + 1, by omega, by go_num, HK.out⟩
            case measure => simp [intOf]; omega
          · have z0 : ((k : Int) == 0) = false := beq_eq_false_iff_ne.2 (by omega)
            by_cases hl : k + 1 = s.size
            · have z1 : ((k : Int) == (s.size : Int) - 1) = true := beq_iff_eq.2 (by omega)
              clear hl hz
              go_wp2
              go_round
              case rel => exact ⟨k + 1, by omega, by go_num, HK.out⟩
              case measure => simp [intOf]; omega
            · have z1 : ((k : Int) == (s.size : Int) - 1) = false := beq_eq_false_iff_ne.2 (by omega)
              clear hl hz
              go_wp2
              go_round
              case rel => exact ⟨k + 1, by omega, by go_num, HK.out⟩
              case measure => simp [intOf]; omega
        · have HQ : Hid (blkC x = true) := Lib.hid (by rw [HKC.out, b4]; simp)
          have t0 : x.toNat = 9 := of_decide_eq_true b4
          clear b3 b4 c0 c1 c2
          by_cases hz : k = 0
          · have z0 : ((k : Int) == 0) = true := by rw [hz]; rfl
            have e0 : r = false := HE.out k x HX.out (.inl hz) HQ.out
            subst e0
            clear hz
            go_wp2
            go_ret
            exact ⟨rfl, rfl⟩
          · have z0 : ((k : Int) == 0) = false := beq_eq_false_iff_ne.2 (by omega)
            by_cases hl : k + 1 = s.size
            · have z1 : ((k : Int) == (s.size : Int) - 1) = true := beq_iff_eq.2 (by omega)
              have e0 : r = false := HE.out k x HX.out (.inr hl) HQ.out
              subst e0
              clear hl hz
              go_wp2
              go_ret
              exact ⟨rfl, rfl⟩
            · have z1 : ((k : Int) == (s.size : Int) - 1) = false := beq_eq_false_iff_ne.2 (by omega)
              have HK := Lib.hid (okV_succ HAL.out HX.out ⟨HNB.out, fun h => by rw [← HSZ.out] at h; omega⟩)
              clear hl hz
              go_wp2
              go_round
              case rel => exact ⟨k + 1, by omega, by go_num, HK.out⟩
              case measure => simp [intOf]; omega
      · have HQ : Hid (blkC x = true) := Lib.hid (by rw [HKC.out, b3]; simp)
        have t0 : x.toNat = 32 := of_decide_eq_true b3
        clear b3 c0 c1 c2
        by_cases hz : k = 0
        · have z0 : ((k : Int) == 0) = true := by rw [hz]; rfl
          have e0 : r = false := HE.out k x HX.out (.inl hz) HQ.out
          subst e0
          clear hz
          go_wp2
          go_ret
          exact ⟨rfl, rfl⟩
        · have z0 : ((k : Int) == 0) = false := beq_eq_false_iff_ne.2 (by omega)
          by_cases hl : k + 1 = s.size
          · have z1 : ((k : Int) == (s.size : Int) - 1) = true := beq_iff_eq.2 (by omega)
            have e0 : r = false := HE.out k x HX.out (.inr hl) HQ.out
            subst e0
            clear hl hz
            go_wp2
            go_ret
            exact ⟨rfl, rfl⟩
          · have z1 : ((k : Int) == (s.size : Int) - 1) = false := beq_eq_false_iff_ne.2 (by omega)
            have HK := Lib.hid (okV_succ HAL.out HX.out ⟨HNB.out, fun h => by rw [← HSZ.out] at h; omega⟩)
            clear hl hz
            go_wp2
            go_round
            case rel => exact ⟨k + 1, by omega, by go_num, HK.out⟩
            case measure => simp [intOf]; omega
    · obtain rfl : k = s.size := by omega
      have e0 : r = true := HA.out (fun j y hy => HAL.out j y (by
        have := (List.getElem?_eq_some_iff.1 hy).1
        rw [← HSZ.out] at this
        omega) hy)
      subst e0
      go_wp2
      go_ret
      exact ⟨rfl, rfl⟩
end Go.Proofs.YtmeeofplpffboaaDoor

