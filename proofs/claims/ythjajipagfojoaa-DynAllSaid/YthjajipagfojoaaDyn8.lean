/-
  The document's Resize and Add of a list of fields.
-/
import Derived.Test.YthjajipagfojoaaDyn7
namespace Go.Proofs.Ythjajipagfojoaa
set_option linter.unusedVariables false
set_option linter.unusedSimpArgs false
open Go.RowKit
def lenV (v : Value) : Nat := match v with
  | .slice _ n _ => n
  | _ => 0
theorem tz_reverse (l : List FldT) : tz l.reverse = tz l := by
  simp [tz, List.sum_reverse]
theorem take_rev (fs : List FldT) (k : Nat) : fs.reverse.take (fs.length - k) = (fs.drop k).reverse := by
  rw [List.reverse_drop]
theorem wrap_e64 (n : Int) : IntKind.i64.wrap n = wrap64 n := by
  unfold wrap64
  exact IntKind.wrap_i64 n
/-- The rows of the newest first. -/
theorem rf_sizeR (A : Option Addr) (c : Nat) (fs : List FldT) (k m : Nat) (w : World) (hm : Many fldD 2 w A fs.reverse) (hl : fs.length ≤ 1000000) (hz : tz fs ≤ 4503599627370496) (hk : fs.length - k = m) :
    Calls Try.prog 28 #[.slice A m c] w fun e w' => e = .returned (.int .i64 (tz (fs.drop k) : Int)) ∧ Fresh w w' := by
  have h := rf_size A c (fs.reverse.take m) w (hm.takeD m) (by simp; omega) (Nat.le_trans (tz_take_le _ _) (by rw [tz_reverse]; exact hz))
  rw [← hk, take_rev, tz_reverse, List.length_reverse, List.length_drop, hk] at h
  exact h
set_option maxRecDepth 100000 in
set_option maxHeartbeats 3200000 in
theorem rf_resize (A : Option Addr) (c : Nat) (fs : List FldT) (lim : Int) (w : World) (hm : Many fldD 2 w A fs.reverse) (hle : fs.length ≤ c) (hcm : c ≤ maxLen) (hl : fs.length ≤ 1000000) (hz : tz fs ≤ 4503599627370496) :
    Calls Try.prog 27 #[.slice A fs.length c, .int .i64 lim] w fun e w' => e = .returned (.slice A (fs.length - goneN fs lim) c) ∧ Fresh w w' := by
  have HM := Lib.hid hm
  have HZ := Lib.hid hz
  simp only [maxLen] at hcm
  obtain ⟨n, hn⟩ : ∃ n, fs.length = n := ⟨_, rfl⟩
  have HSZ := Lib.hid (fun (k m : Nat) (W : World) (hf : Fresh w W) (hk : n - k = m) => rf_sizeR A c fs k m W (hm.fresh hf) hl hz (by rw [hn]; exact hk))
  rw [hn] at hl hle ⊢
  clear hm hz
  go_enter Try.func27, Try.ntmps27
  go_wp2
  go_loopw [0] (fun v wr => ∃ k : Nat, k ≤ n ∧ v = .slice A (n - k) c ∧ goneN fs lim = k + goneN (fs.drop k) lim ∧ Fresh w wr) (fun v _ => lenV v)
  case atStart => exact ⟨0, by omega, rfl, by simp, Fresh.refl _⟩
  case round =>
    obtain ⟨k, hk, rfl, hg, hf⟩ := hrel
    have HG := Lib.hid hg
    have HF := Lib.hid hf
    by_cases hlt : k < n
    · obtain ⟨m, hm⟩ : ∃ m, n - k = m + 1 := ⟨n - k - 1, by omega⟩
      have hpos : (0 : Int) < ((m + 1 : Nat) : Int) := by omega
      obtain ⟨f, r, hfr⟩ : ∃ f r, fs.drop k = f :: r := by
        cases hd : fs.drop k with
        | nil => have := List.drop_eq_nil_iff.1 hd; omega
        | cons f r => exact ⟨f, r, rfl⟩
      have hc := HSZ.out k (m + 1) wr hf hm
      rw [hfr] at hc
      have HC := Lib.hid hc
      have HMM := Lib.hid hm
      have HFR := Lib.hid hfr
      rw [hm]
      clear hg hf hm hc hfr
      obtain ⟨b, o, rfl, hb, _⟩ := HM.out (by rw [List.length_reverse]; omega)
      go_wp2_with fail
      with_reducible refine HC.out.mono ?_
      rintro e w1 ⟨rfl, hf1⟩
      have HF1 := Lib.hid (HF.out.trans hf1)
      clear hf1
      by_cases hroom : lim < (tz (f :: r) : Int)
      · have HR := Lib.hid (goneN_step fs lim k f r HFR.out hroom HG.out)
        have hmn : m + 1 ≤ n := by have := HMM.out; omega
        have e1 : wrap64 (m : Int) = (m : Int) := by rw [← wrap_e64, IntKind.wrap_i64]; omega
        have hmc : m ≤ c := by omega
        go_wp2
        go_roundw
        case rel => exact ⟨k + 1, by omega, by have := HMM.out; rw [show n - (k + 1) = m by omega], by rw [HR.out.1], HF1.out⟩
        case measure => simp [lenV]
      · have HR : Hid (goneN fs lim = k) := Lib.hid (by rw [HG.out, HFR.out, goneN_stop _ _ (by omega)]; rfl)
        go_wp2
        go_ret
        exact ⟨by rw [HR.out, HMM.out]; rfl, HF1.out⟩
    · obtain rfl : k = n := by omega
      have HR : Hid (goneN fs lim = k) := Lib.hid (by rw [HG.out, List.drop_of_length_le (by omega)]; rfl)
      rw [Nat.sub_self]
      clear hg hf
      go_wp2
      go_ret
      exact ⟨by rw [HR.out, Nat.sub_self]; rfl, HF.out⟩
end Go.Proofs.Ythjajipagfojoaa
