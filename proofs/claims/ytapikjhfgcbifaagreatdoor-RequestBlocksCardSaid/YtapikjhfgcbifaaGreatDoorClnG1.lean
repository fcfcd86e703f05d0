/-
  Texts laid together: ClnA ClnB ClnC.
-/
import Derived.Test.YtapikjhfgcbifaaGreatDoorGen
import Derived.Lib.Strings
import Derived.Lib.Slices
import Derived.Lib.Walk
import Derived.Lib.Bytealg
import Derived.Lib.IndexAny
import Derived.Lib.IndexBytes
import Derived.Handy
/-
  Package clean: names.
-/
namespace Go.Proofs.YtapikjhfgcbifaaGreatDoor
set_option maxRecDepth 100000
set_option linter.unusedVariables false
set_option linter.unusedSimpArgs false
open Go.RowKit
/-! Plain words: what the document says of names. -/
def sgA : List UInt8 := [48, 49, 50, 51, 52, 53, 54, 55, 56, 57, 97, 98, 99, 100, 101, 102, 103, 104, 105, 106, 107, 108, 109, 110, 111, 112, 113, 114, 115, 116, 117, 118, 119, 120, 121, 122, 33, 35, 36, 37, 38, 39, 42, 43, 45, 46, 94, 95, 124, 126, 96]
def sgR : List UInt8 := [33, 35, 36, 37, 38, 39, 42, 43, 45, 46, 94, 95, 124, 126]
def nmC (c : UInt8) : Bool := sgA.contains c
theorem nmC_all : ∀ n : Fin 256, nmC n.val.toUInt8 = (decide (48 ≤ n.val) && decide (n.val ≤ 57) || decide (97 ≤ n.val) && decide (n.val ≤ 122) || sgR.contains n.val.toUInt8 || decide (n.val = 96)) := by decide +kernel
theorem nmC_eq (c : UInt8) : nmC c = (decide (48 ≤ c.toNat) && decide (c.toNat ≤ 57) || decide (97 ≤ c.toNat) && decide (c.toNat ≤ 122) || sgR.contains c || decide (c.toNat = 96)) := by
  have h := nmC_all ⟨c.toNat, c.toNat_lt⟩
  simpa using h
def nameB (l : List UInt8) : Bool := decide (1 ≤ l.length) && decide (l.length ≤ 4096) && l.all nmC
theorem nameB_len {l : List UInt8} (h : l.length < 1 ∨ 4096 < l.length) : nameB l = false := by
  unfold nameB
  rcases h with h | h
  · rw [decide_eq_false (by omega)]; rfl
  · rw [decide_eq_false (p := l.length ≤ 4096) (by omega), Bool.and_false]; rfl
theorem nameB_hit {l : List UInt8} {k : Nat} {x : UInt8} (h : l[k]? = some x) (hx : nmC x = false) : nameB l = false := by
  unfold nameB
  have : l.all nmC = false := by
    rw [List.all_eq_false]
    exact ⟨x, List.mem_of_getElem? h, by simp [hx]⟩
  rw [this, Bool.and_false]
theorem nameB_all {l : List UInt8} (h0 : 1 ≤ l.length) (h1 : l.length ≤ 4096) (h : ∀ (k : Nat) x, l[k]? = some x → nmC x = true) : nameB l = true := by
  unfold nameB
  rw [decide_eq_true h0, decide_eq_true h1]
  simp only [Bool.and_self, Bool.true_and, List.all_eq_true]
  intro x hx
  obtain ⟨k, hk⟩ := List.getElem?_of_mem hx
  exact h k x hk
theorem all_succ {l : List UInt8} {p : UInt8 → Bool} {k : Nat} {x : UInt8} (h : ∀ (j : Nat) y, j < k → l[j]? = some y → p y = true) (hk : l[k]? = some x) (hx : p x = true) : ∀ (j : Nat) y, j < k + 1 → l[j]? = some y → p y = true := by
  intro j y hj hy
  by_cases e : j = k
  · subst e
    rw [hk] at hy
    cases hy
    exact hx
  · exact h j y (by omega) hy
/-! strings.IndexByte. -/
set_option maxHeartbeats 1000000 in
theorem sl_indexByte (s : ByteArray) (c : Int) (w : World) :
    Calls Tryz.prog 67 #[.string s, .int .u8 c] w fun e w' => e = .returned (.int .i64 (Lib.indexByte s.data.toList c.toNat.toUInt8)) ∧ w' = w := by
  go_enter Tryz.func67, Tryz.ntmps67
  go_wp2
  rw [run_callFunc_extern Tryz.func89 (by kernel_rfl) (by kernel_rfl) (by kernel_rfl) (e := Extern.BytealgIndexByte.indexByte) (by kernel_rfl), Lib.run_indexByteString]
  simp only [Result.andThen]
  rw [Oper.upon_value]
  go_wp2
  go_ret
  exact ⟨rfl, rfl⟩
theorem st_indexByte (s : ByteArray) (c : Int) (w : World) :
    Calls Tryz.prog 51 #[.string s, .int .u8 c] w fun e w' => e = .returned (.int .i64 (Lib.indexByte s.data.toList c.toNat.toUInt8)) ∧ w' = w := by
  go_enter Tryz.func51, Tryz.ntmps51
  go_wp2_with (go_at_call 67; refine (sl_indexByte _ _ _).mono ?_; rintro e w' ⟨rfl, rfl⟩)
  go_ret
  exact ⟨rfl, rfl⟩
theorem st_signs (x : UInt8) (w : World) (r : Int) (hr : Lib.indexByte sgA x = r) :
    Calls Tryz.prog 51 #[.string ⟨#[48, 49, 50, 51, 52, 53, 54, 55, 56, 57, 97, 98, 99, 100, 101, 102, 103, 104, 105, 106, 107, 108, 109, 110, 111, 112, 113, 114, 115, 116, 117, 118, 119, 120, 121, 122, 33, 35, 36, 37, 38, 39, 42, 43, 45, 46, 94, 95, 124, 126, 96]⟩, .int .u8 (x.toNat : Int)] w fun e w' => e = .returned (.int .i64 r) ∧ w' = w := by
  refine (st_indexByte _ _ w).mono ?_
  rintro e w' ⟨rfl, rfl⟩
  refine ⟨?_, rfl⟩
  rw [← hr, show ((x.toNat : Int)).toNat.toUInt8 = x by simp]
  rfl
set_option maxHeartbeats 1600000 in
/-- Name. -/
theorem cl_name (s : ByteArray) (w : World) :
    Calls Tryz.prog 37 #[.string s] w fun e w' => e = .returned (.bool (nameB s.data.toList)) ∧ w' = w := by
  obtain ⟨r, hr⟩ : ∃ r, nameB s.data.toList = r := ⟨_, rfl⟩
  rw [hr]
  have HSZ := Lib.hid (Lib.size_eq s)
  by_cases h0 : s.size < 1
  · have d0 : decide ((s.size : Int) < 1) = true := decide_eq_true (by omega)
    rw [nameB_len (.inl (by rw [← HSZ.out]; omega))] at hr
    subst hr
    go_enter Tryz.func37, Tryz.ntmps37
    go_wp2
    go_ret
    exact ⟨rfl, rfl⟩
  by_cases h1 : 4096 < s.size
  · have d0 : decide ((s.size : Int) < 1) = false := decide_eq_false (by omega)
    have d1 : (4096 : Int) < (s.size : Int) := by omega
    rw [nameB_len (.inr (by rw [← HSZ.out]; omega))] at hr
    subst hr
    go_enter Tryz.func37, Tryz.ntmps37
    go_wp2
    go_ret
    exact ⟨rfl, rfl⟩
  have d0 : decide ((s.size : Int) < 1) = false := decide_eq_false (by omega)
  have d1 : decide ((4096 : Int) < (s.size : Int)) = false := decide_eq_false (by omega)
  have HH : Hid (∀ (k : Nat) x, s.data.toList[k]? = some x → nmC x = false → r = false) := Lib.hid (fun k x h hx => by rw [← hr]; exact nameB_hit h hx)
  have HA : Hid ((∀ (k : Nat) x, s.data.toList[k]? = some x → nmC x = true) → r = true) := Lib.hid (fun h => by rw [← hr]; exact nameB_all (by rw [← HSZ.out]; omega) (by rw [← HSZ.out]; omega) h)
  clear hr
  go_enter Tryz.func37, Tryz.ntmps37
  go_wp2
  go_loop [14] (fun i => ∃ k : Nat, k ≤ s.size ∧ i = .int .i64 (k : Int) ∧ ∀ (j : Nat) y, j < k → s.data.toList[j]? = some y → nmC y = true) (fun i => s.size - (intOf i).toNat)
  case atStart => exact ⟨0, by omega, rfl, fun j y hj => by omega⟩
  case round =>
    obtain ⟨k, hk, rfl, hal⟩ := hrel
    have HAL := Lib.hid hal
    clear hal
    by_cases hlt : k < s.size
    · have hlt' : (k : Int) < (s.size : Int) := by omega
      obtain ⟨x, hx⟩ : ∃ x : UInt8, s[k]'hlt = x := ⟨_, rfl⟩
      have HX := Lib.hid (show s.data.toList[k]? = some x by rw [← hx]; exact Lib.data_getElem? s k hlt)
      have hcon := Lib.contains_iff_indexByte sgA x
      have hnm : nmC x = sgA.contains x := rfl
      rw [hcon] at hnm
      have HN := Lib.hid hnm
      clear hcon hnm
      obtain ⟨q, hq⟩ : ∃ q, Lib.indexByte sgA x = q := ⟨_, rfl⟩
      have HS := Lib.hid (fun w => st_signs x w q hq)
      rw [hq] at HN
      clear hq
      by_cases hq0 : q < 0
      · have e0 : r = false := HH.out k x HX.out (by rw [HN.out]; exact decide_eq_false (by omega))
        subst e0
        go_wp2_with fail
        with_reducible refine (HS.out _).mono ?_
        rintro e w2 ⟨rfl, hw⟩
        subst hw
        go_wp2_with fail
        go_ret
        exact ⟨rfl, rfl⟩
      · have dq : decide (q < 0) = false := decide_eq_false hq0
        have HK := Lib.hid (all_succ HAL.out HX.out (by rw [HN.out]; exact decide_eq_true (by omega)))
        go_wp2_with fail
        with_reducible refine (HS.out _).mono ?_
        rintro e w2 ⟨rfl, hw⟩
        subst hw
        go_wp2_with fail
        go_round
        case rel => exact ⟨k + 1, by omega, by go_num, HK.out⟩
        case measure => simp [intOf]; omega
    · obtain rfl : k = s.size := by omega
      have e0 : r = true := HA.out (fun j y hy => HAL.out j y (by
        have := (List.getElem?_eq_some_iff.1 hy).1
        rw [← HSZ.out] at this
        omega) hy)
      subst e0
      go_wp2_with fail
      go_ret
      exact ⟨rfl, rfl⟩
end Go.Proofs.YtapikjhfgcbifaaGreatDoor

/-
  Package clean: hops and sensitive names, and the document's answers. Made by program.
-/
namespace Go.Proofs.YtapikjhfgcbifaaGreatDoor
set_option maxRecDepth 100000
set_option linter.unusedVariables false
set_option linter.unusedSimpArgs false
open Go.RowKit
def eqL (a b : ByteArray) : Bool := a.toList == b.toList
theorem eqL_comm (a b : ByteArray) : (a.toList == b.toList) = (b.toList == a.toList) := by
  rw [Bool.eq_iff_iff]
  simp only [beq_iff_eq]
  exact ⟨fun h => h.symm, fun h => h.symm⟩
def hopB (n v : ByteArray) : Bool := (n.toList == [99, 111, 110, 110, 101, 99, 116, 105, 111, 110]) || (n.toList == [107, 101, 101, 112, 45, 97, 108, 105, 118, 101]) || (n.toList == [112, 114, 111, 120, 121, 45, 99, 111, 110, 110, 101, 99, 116, 105, 111, 110]) || (n.toList == [116, 114, 97, 110, 115, 102, 101, 114, 45, 101, 110, 99, 111, 100, 105, 110, 103]) || (n.toList == [117, 112, 103, 114, 97, 100, 101]) || ((n.toList == [116, 101]) && !(v.toList == [116, 114, 97, 105, 108, 101, 114, 115]))
def senB (n : ByteArray) : Bool := (n.toList == [97, 117, 116, 104, 111, 114, 105, 122, 97, 116, 105, 111, 110]) || (n.toList == [112, 114, 111, 120, 121, 45, 97, 117, 116, 104, 111, 114, 105, 122, 97, 116, 105, 111, 110]) || (n.toList == [99, 111, 111, 107, 105, 101]) || (n.toList == [115, 101, 116, 45, 99, 111, 111, 107, 105, 101])
set_option maxHeartbeats 1600000 in
theorem cl_hop (n v : ByteArray) (w : World) :
    Calls Tryz.prog 33 #[.agg #[.string n, .string v]] w fun e w' => e = .returned (.bool (hopB n v)) ∧ Fresh w w' := by
  obtain ⟨r, hr⟩ : ∃ r, hopB n v = r := ⟨_, rfl⟩
  rw [hr]
  unfold hopB at hr
  cases h0 : (n.toList == [99, 111, 110, 110, 101, 99, 116, 105, 111, 110])
  rotate_left
  · simp only [h0, Bool.true_or, Bool.or_true, Bool.false_or] at hr
    subst hr
    go_enter Tryz.func33, Tryz.ntmps33
    go_wp2
    go_ret
    exact ⟨rfl, Fresh.alloc _ _⟩
  cases h1 : (n.toList == [107, 101, 101, 112, 45, 97, 108, 105, 118, 101])
  rotate_left
  · simp only [h0, h1, Bool.true_or, Bool.or_true, Bool.false_or] at hr
    subst hr
    go_enter Tryz.func33, Tryz.ntmps33
    go_wp2
    go_ret
    exact ⟨rfl, Fresh.alloc _ _⟩
  cases h2 : (n.toList == [112, 114, 111, 120, 121, 45, 99, 111, 110, 110, 101, 99, 116, 105, 111, 110])
  rotate_left
  · simp only [h0, h1, h2, Bool.true_or, Bool.or_true, Bool.false_or] at hr
    subst hr
    go_enter Tryz.func33, Tryz.ntmps33
    go_wp2
    go_ret
    exact ⟨rfl, Fresh.alloc _ _⟩
  cases h3 : (n.toList == [116, 114, 97, 110, 115, 102, 101, 114, 45, 101, 110, 99, 111, 100, 105, 110, 103])
  rotate_left
  · simp only [h0, h1, h2, h3, Bool.true_or, Bool.or_true, Bool.false_or] at hr
    subst hr
    go_enter Tryz.func33, Tryz.ntmps33
    go_wp2
    go_ret
    exact ⟨rfl, Fresh.alloc _ _⟩
  cases h4 : (n.toList == [117, 112, 103, 114, 97, 100, 101])
  rotate_left
  · simp only [h0, h1, h2, h3, h4, Bool.true_or, Bool.or_true, Bool.false_or] at hr
    subst hr
    go_enter Tryz.func33, Tryz.ntmps33
    go_wp2
    go_ret
    exact ⟨rfl, Fresh.alloc _ _⟩
  cases h5 : (n.toList == [116, 101])
  · simp only [h0, h1, h2, h3, h4, h5, Bool.false_or, Bool.false_and] at hr
    subst hr
    go_enter Tryz.func33, Tryz.ntmps33
    go_wp2
    go_ret
    exact ⟨rfl, Fresh.alloc _ _⟩
  cases hv : (v.toList == [116, 114, 97, 105, 108, 101, 114, 115])
  · simp only [h0, h1, h2, h3, h4, h5, hv, Bool.false_or, Bool.true_and, Bool.not_false] at hr
    subst hr
    go_enter Tryz.func33, Tryz.ntmps33
    go_wp2
    go_ret
    exact ⟨rfl, Fresh.alloc _ _⟩
  · simp only [h0, h1, h2, h3, h4, h5, hv, Bool.false_or, Bool.true_and, Bool.not_true] at hr
    subst hr
    go_enter Tryz.func33, Tryz.ntmps33
    go_wp2
    go_ret
    exact ⟨rfl, Fresh.alloc _ _⟩
set_option maxHeartbeats 1600000 in
theorem cl_sen (n : ByteArray) (w : World) :
    Calls Tryz.prog 32 #[.string n] w fun e w' => e = .returned (.bool (senB n)) ∧ w' = w := by
  obtain ⟨r, hr⟩ : ∃ r, senB n = r := ⟨_, rfl⟩
  rw [hr]
  unfold senB at hr
  cases h0 : (n.toList == [97, 117, 116, 104, 111, 114, 105, 122, 97, 116, 105, 111, 110])
  rotate_left
  · simp only [h0, Bool.true_or, Bool.or_true, Bool.false_or] at hr
    subst hr
    go_enter Tryz.func32, Tryz.ntmps32
    go_wp2
    go_ret
    exact ⟨rfl, rfl⟩
  cases h1 : (n.toList == [112, 114, 111, 120, 121, 45, 97, 117, 116, 104, 111, 114, 105, 122, 97, 116, 105, 111, 110])
  rotate_left
  · simp only [h0, h1, Bool.true_or, Bool.or_true, Bool.false_or] at hr
    subst hr
    go_enter Tryz.func32, Tryz.ntmps32
    go_wp2
    go_ret
    exact ⟨rfl, rfl⟩
  cases h2 : (n.toList == [99, 111, 111, 107, 105, 101])
  rotate_left
  · simp only [h0, h1, h2, Bool.true_or, Bool.or_true, Bool.false_or] at hr
    subst hr
    go_enter Tryz.func32, Tryz.ntmps32
    go_wp2
    go_ret
    exact ⟨rfl, rfl⟩
  cases h3 : (n.toList == [115, 101, 116, 45, 99, 111, 111, 107, 105, 101])
  rotate_left
  · simp only [h0, h1, h2, h3, Bool.true_or, Bool.or_true, Bool.false_or] at hr
    subst hr
    go_enter Tryz.func32, Tryz.ntmps32
    go_wp2
    go_ret
    exact ⟨rfl, rfl⟩
  simp only [h0, h1, h2, h3, Bool.false_or, Bool.or_self] at hr
  subst hr
  go_enter Tryz.func32, Tryz.ntmps32
  go_wp2
  go_ret
  exact ⟨rfl, rfl⟩
end Go.Proofs.YtapikjhfgcbifaaGreatDoor

/-
  Package clean: the document's Hop, Sensitive and Name.
-/
namespace Go.Proofs.YtapikjhfgcbifaaGreatDoor
set_option maxRecDepth 100000
set_option linter.unusedVariables false
set_option linter.unusedSimpArgs false
open Go.RowKit
end Go.Proofs.YtapikjhfgcbifaaGreatDoor

