/-
  Package clean: names.
-/
import Derived.Test.YtmeeofplpffboaaDoorGen
import Derived.Lib.Strings
import Derived.Lib.Slices
import Derived.Lib.Walk
import Derived.Lib.Bytealg
import Derived.Lib.IndexAny
import Derived.Lib.IndexBytes
namespace Go.Proofs.YtmeeofplpffboaaDoor
set_option maxRecDepth 100000
set_option linter.unusedVariables false
set_option linter.unusedSimpArgs false
open Go.RowKit
/-! Plain words: what the document says of names. -/
def sgA : List UInt8 := [48, 49, 50, 51, 52, 53, 54, 55, 56, 57, 97, 98, 99, 100, 101, 102, 103, 104, 105, 106, 107, 108, 109, 110, 111, 112, 113, 114, 115, 116, 117, 118, 119, 120, 121, 122, 33, 35, 36, 37, 38, 39, 42, 43, 45, 46, 94, 95, 124, 126, 96]
def sgR : List UInt8 := [33, 35, 36, 37, 38, 39, 42, 43, 45, 46, 94, 95, 124, 126]
def nmC (c : UInt8) : Bool := sgA.contains c
theorem nmC_all : ∀ n : Fin 256, nmC n.val.toUInt8 = (decide (48 ≤ n.val) && decide (n.val ≤ 57) || decide (97 ≤ n.val) && decide (n.val ≤ 122) || sgR.contains n.val.toUInt8 || decide (n.val = 96)) := by decide +kernel
theorem nmC_eq (c : UInt8) : nmC c = (decide (48 ≤ c.toNat) && decide (c.toNat ≤ 57) || decide (97 ≤ c.toNat) && decide (c.toNat ≤ 122) || sgR.contains c || decide (c.toNat = 96)) := by
  have h := nmC_all ⟨c.toNat, c.toNat_lt⟩
  simpa using h
def nameB (l : List UInt8) : Bool := decide (1 ≤ l.length) && decide (l.length ≤ 4096) && l.all nmC
theorem nameB_len {l : List UInt8} (h : l.length < 1 ∨ 4096 < l.length) : nameB l = false := by
  unfold nameB
  rcases h with h | h
  · rw [decide_eq_false (by omega)]; rfl
  · rw [decide_eq_false (p := l.length ≤ 4096) (by omega), Bool.and_false]; rfl
theorem nameB_hit {l : List UInt8} {k : Nat} {x : UInt8} (h : l[k]? = some x) (hx : nmC x = false) : nameB l = false := by
  unfold nameB
  have : l.all nmC = false := by
    rw [List.all_eq_false]
    exact ⟨x, List.mem_of_getElem? h, by simp [hx]⟩
  rw [this, Bool.and_false]
theorem nameB_all {l : List UInt8} (h0 : 1 ≤ l.length) (h1 : l.length ≤ 4096) (h : ∀ (k : Nat) x, l[k]? = some x → nmC x = true) : nameB l = true := by
  unfold nameB
  rw [decide_eq_true h0, decide_eq_true h1]
  simp only [Bool.and_self, Bool.true_and, List.all_eq_true]
  intro x hx
  obtain ⟨k, hk⟩ := List.getElem?_of_mem hx
  exact h k x hk
theorem all_succ {l : List UInt8} {p : UInt8 → Bool} {k : Nat} {x : UInt8} (h : ∀ (j : Nat) y, j < k → l[j]? = some y → p y = true) (hk : l[k]? = some x) (hx : p x = true) : ∀ (j : Nat) y, j < k + 1 → l[j]? = some y → p y = true := by
  intro j y hj hy
  by_cases e : j = k
  · subst e
    rw [hk] at hy
    cases hy
    exact hx
  · exact h j y (by omega) hy
/-! strings.IndexByte. -/
set_option maxHeartbeats 1000000 in
theorem sl_indexByte (s : ByteArray) (c : Int) (w : World) :
    Calls Tryd.prog 26 #[.string s, .int .u8 c] w fun e w' => e = .returned (.int .i64 (Lib.indexByte s.data.toList c.toNat.toUInt8)) ∧ w' = w := by
  go_enter Tryd.func26, Tryd.ntmps26
  go_wp2
  rw [run_callFunc_extern Tryd.func35 (by kernel_rfl) (by kernel_rfl) (by kernel_rfl) (e := Extern.BytealgIndexByte.indexByte) (by kernel_rfl), Lib.run_indexByteString]
  simp only [Result.andThen]
  rw [Oper.upon_value]
  go_wp2
  go_ret
  exact ⟨rfl, rfl⟩
theorem st_indexByte (s : ByteArray) (c : Int) (w : World) :
    Calls Tryd.prog 22 #[.string s, .int .u8 c] w fun e w' => e = .returned (.int .i64 (Lib.indexByte s.data.toList c.toNat.toUInt8)) ∧ w' = w := by
  go_enter Tryd.func22, Tryd.ntmps22
  go_wp2_with (go_at_call 26; refine (sl_indexByte _ _ _).mono ?_; rintro e w' ⟨rfl, rfl⟩)
  go_ret
  exact ⟨rfl, rfl⟩
theorem st_signs (x : UInt8) (w : World) (r : Int) (hr : Lib.indexByte sgA x = r) :
    Calls Tryd.prog 22 #[.string ⟨#[48, 49, 50, 51, 52, 53, 54, 55, 56, 57, 97, 98, 99, 100, 101, 102, 103, 104, 105, 106, 107, 108, 109, 110, 111, 112, 113, 114, 115, 116, 117, 118, 119, 120, 121, 122, 33, 35, 36, 37, 38, 39, 42, 43, 45, 46, 94, 95, 124, 126, 96]⟩, .int .u8 (x.toNat : Int)] w fun e w' => e = .returned (.int .i64 r) ∧ w' = w := by
  refine (st_indexByte _ _ w).mono ?_
  rintro e w' ⟨rfl, rfl⟩
  refine ⟨?_, rfl⟩
  rw [← hr, show ((x.toNat : Int)).toNat.toUInt8 = x by simp]
  rfl
set_option maxHeartbeats 1600000 in
/-- Name. -/
theorem cl_name (s : ByteArray) (w : World) :
    Calls Tryd.prog 9 #[.string s] w fun e w' => e = .returned (.bool (nameB s.data.toList)) ∧ w' = w := by
  obtain ⟨r, hr⟩ : ∃ r, nameB s.data.toList = r := ⟨_, rfl⟩
  rw [hr]
  have HSZ := Lib.hid (Lib.size_eq s)
  by_cases h0 : s.size < 1
  · have d0 : decide ((s.size : Int) < 1) = true := decide_eq_true (by omega)
    rw [nameB_len (.inl (by rw [← HSZ.out]; omega))] at hr
    subst hr
    go_enter Tryd.func9, Tryd.ntmps9
    go_wp2
    go_ret
    exact ⟨rfl, rfl⟩
  by_cases h1 : 4096 < s.size
  · have d0 : decide ((s.size : Int) < 1) = false := decide_eq_false (by omega)
    have d1 : (4096 : Int) < (s.size : Int) := by omega
    rw [nameB_len (.inr (by rw [← HSZ.out]; omega))] at hr
    subst hr
    go_enter Tryd.func9, Tryd.ntmps9
    go_wp2
    go_ret
    exact ⟨rfl, rfl⟩
  have d0 : decide ((s.size : Int) < 1) = false := decide_eq_false (by omega)
  have d1 : decide ((4096 : Int) < (s.size : Int)) = false := decide_eq_false (by omega)
  have HH : Hid (∀ (k : Nat) x, s.data.toList[k]? = some x → nmC x = false → r = false) := Lib.hid (fun k x h hx => by rw [← hr]; exact nameB_hit h hx)
  have HA : Hid ((∀ (k : Nat) x, s.data.toList[k]? = some x → nmC x = true) → r = true) := Lib.hid (fun h => by rw [← hr]; exact nameB_all (by rw [← HSZ.out]; omega) (by rw [← HSZ.out]; omega) h)
  clear hr
  go_enter Tryd.func9, Tryd.ntmps9
  go_wp2
  go_loop [14] (fun i => ∃ k : Nat, k ≤ s.size ∧ i = .int .i64 (k : Int) ∧ ∀ (j : Nat) y, j < k → s.data.toList[j]? = some y → nmC y = true) (fun i => s.size - (intOf i).toNat)
  case atStart => exact ⟨0, by omega, rfl, fun j y hj => by omega⟩
  case round =>
    obtain ⟨k, hk, rfl, hal⟩ := hrel
    have HAL := Lib.hid hal
    clear hal
    by_cases hlt : k < s.size
    · have hlt' : (k : Int) < (s.size : Int) := by omega
      obtain ⟨x, hx⟩ : ∃ x : UInt8, s[k]'hlt = x := ⟨_, rfl⟩
      have HX := Lib.hid (show s.data.toList[k]? = some x by rw [← hx]; exact Lib.data_getElem? s k hlt)
      have hcon := Lib.contains_iff_indexByte sgA x
      have hnm : nmC x = sgA.contains x := rfl
      rw [hcon] at hnm
      have HN := Lib.hid hnm
      clear hcon hnm
      obtain ⟨q, hq⟩ : ∃ q, Lib.indexByte sgA x = q := ⟨_, rfl⟩
      have HS := Lib.hid (fun w => st_signs x w q hq)
      rw [hq] at HN
      clear hq
      by_cases hq0 : q < 0
      · have e0 : r = false := HH.out k x HX.out (by rw [HN.out]; exact decide_eq_false (by omega))
        subst e0
        go_wp2_with fail
        with_reducible refine (HS.out _).mono ?_
        rintro e w2 ⟨rfl, hw⟩
        subst hw
        go_wp2_with fail
        go_ret
        exact ⟨rfl, rfl⟩
      · have dq : decide (q < 0) = false := decide_eq_false hq0
        have HK := Lib.hid (all_succ HAL.out HX.out (by rw [HN.out]; exact decide_eq_true (by omega)))
        go_wp2_with fail
        with_reducible refine (HS.out _).mono ?_
        rintro e w2 ⟨rfl, hw⟩
        subst hw
        go_wp2_with fail
        go_round
        case rel => exact ⟨k + 1, by omega, by go_num, HK.out⟩
        case measure => simp [intOf]; omega
    · obtain rfl : k = s.size := by omega
      have e0 : r = true := HA.out (fun j y hy => HAL.out j y (by
        have := (List.getElem?_eq_some_iff.1 hy).1
        rw [← HSZ.out] at this
        omega) hy)
      subst e0
      go_wp2_with fail
      go_ret
      exact ⟨rfl, rfl⟩
theorem sgR_len : sgR.length = 14 := rfl
theorem take_contains {l : List UInt8} {k : Nat} {x c : UInt8} (h : l[k]? = some x) : (l.take (k + 1)).contains c = ((l.take k).contains c || c == x) := by
  obtain ⟨hk, rfl⟩ := List.getElem?_eq_some_iff.1 h
  rw [List.take_succ_eq_append_getElem hk]
  rw [List.contains_eq_mem, List.contains_eq_mem]
  generalize l[k] = x
  generalize l.take k = m
  by_cases e : c = x
  · simp [e]
  · simp [e]
theorem nmR_dig {c : UInt8} (h0 : 48 ≤ c.toNat) (h1 : c.toNat ≤ 57) : nmC c = true := by rw [nmC_eq, decide_eq_true h0, decide_eq_true h1]; rfl
theorem nmR_let {c : UInt8} (h0 : 97 ≤ c.toNat) (h1 : c.toNat ≤ 122) : nmC c = true := by rw [nmC_eq, decide_eq_true h0, decide_eq_true h1]; simp
theorem nmR_oth {c : UInt8} (h0 : ¬ (48 ≤ c.toNat ∧ c.toNat ≤ 57)) (h1 : ¬ (97 ≤ c.toNat ∧ c.toNat ≤ 122)) : nmC c = (sgR.contains c || decide (c.toNat = 96)) := by
  rw [nmC_eq]
  have e0 : (decide (48 ≤ c.toNat) && decide (c.toNat ≤ 57)) = false := by rw [← Bool.decide_and]; exact decide_eq_false h0
  have e1 : (decide (97 ≤ c.toNat) && decide (c.toNat ≤ 122)) = false := by rw [← Bool.decide_and]; exact decide_eq_false h1
  rw [e0, e1]
  simp
end Go.Proofs.YtmeeofplpffboaaDoor

