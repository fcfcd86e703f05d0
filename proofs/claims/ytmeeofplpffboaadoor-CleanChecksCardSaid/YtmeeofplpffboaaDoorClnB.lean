/-
  Package clean: hops and sensitive names, and the document's answers. Made by program.
-/
import Derived.Test.YtmeeofplpffboaaDoorClnA
import Derived.Handy
namespace Go.Proofs.YtmeeofplpffboaaDoor
set_option maxRecDepth 100000
set_option linter.unusedVariables false
set_option linter.unusedSimpArgs false
open Go.RowKit
def eqL (a b : ByteArray) : Bool := a.toList == b.toList
theorem eqL_comm (a b : ByteArray) : (a.toList == b.toList) = (b.toList == a.toList) := by
  rw [Bool.eq_iff_iff]
  simp only [beq_iff_eq]
  exact ⟨fun h => h.symm, fun h => h.symm⟩
def hopB (n v : ByteArray) : Bool := (n.toList == [99, 111, 110, 110, 101, 99, 116, 105, 111, 110]) || (n.toList == [107, 101, 101, 112, 45, 97, 108, 105, 118, 101]) || (n.toList == [112, 114, 111, 120, 121, 45, 99, 111, 110, 110, 101, 99, 116, 105, 111, 110]) || (n.toList == [116, 114, 97, 110, 115, 102, 101, 114, 45, 101, 110, 99, 111, 100, 105, 110, 103]) || (n.toList == [117, 112, 103, 114, 97, 100, 101]) || ((n.toList == [116, 101]) && !(v.toList == [116, 114, 97, 105, 108, 101, 114, 115]))
def senB (n : ByteArray) : Bool := (n.toList == [97, 117, 116, 104, 111, 114, 105, 122, 97, 116, 105, 111, 110]) || (n.toList == [112, 114, 111, 120, 121, 45, 97, 117, 116, 104, 111, 114, 105, 122, 97, 116, 105, 111, 110]) || (n.toList == [99, 111, 111, 107, 105, 101]) || (n.toList == [115, 101, 116, 45, 99, 111, 111, 107, 105, 101])
set_option maxHeartbeats 1600000 in
theorem cl_hop (n v : ByteArray) (w : World) :
    Calls Tryd.prog 13 #[.agg #[.string n, .string v]] w fun e w' => e = .returned (.bool (hopB n v)) ∧ Fresh w w' := by
  obtain ⟨r, hr⟩ : ∃ r, hopB n v = r := ⟨_, rfl⟩
  rw [hr]
  unfold hopB at hr
  cases h0 : (n.toList == [99, 111, 110, 110, 101, 99, 116, 105, 111, 110])
  rotate_left
  · simp only [h0, Bool.true_or, Bool.or_true, Bool.false_or] at hr
    subst hr
    go_enter Tryd.func13, Tryd.ntmps13
    go_wp2
    go_ret
    exact ⟨rfl, Fresh.alloc _ _⟩
  cases h1 : (n.toList == [107, 101, 101, 112, 45, 97, 108, 105, 118, 101])
  rotate_left
  · simp only [h0, h1, Bool.true_or, Bool.or_true, Bool.false_or] at hr
    subst hr
    go_enter Tryd.func13, Tryd.ntmps13
    go_wp2
    go_ret
    exact ⟨rfl, Fresh.alloc _ _⟩
  cases h2 : (n.toList == [112, 114, 111, 120, 121, 45, 99, 111, 110, 110, 101, 99, 116, 105, 111, 110])
  rotate_left
  · simp only [h0, h1, h2, Bool.true_or, Bool.or_true, Bool.false_or] at hr
    subst hr
    go_enter Tryd.func13, Tryd.ntmps13
    go_wp2
    go_ret
    exact ⟨rfl, Fresh.alloc _ _⟩
  cases h3 : (n.toList == [116, 114, 97, 110, 115, 102, 101, 114, 45, 101, 110, 99, 111, 100, 105, 110, 103])
  rotate_left
  · simp only [h0, h1, h2, h3, Bool.true_or, Bool.or_true, Bool.false_or] at hr
    subst hr
    go_enter Tryd.func13, Tryd.ntmps13
    go_wp2
    go_ret
    exact ⟨rfl, Fresh.alloc _ _⟩
  cases h4 : (n.toList == [117, 112, 103, 114, 97, 100, 101])
  rotate_left
  · simp only [h0, h1, h2, h3, h4, Bool.true_or, Bool.or_true, Bool.false_or] at hr
    subst hr
    go_enter Tryd.func13, Tryd.ntmps13
    go_wp2
    go_ret
    exact ⟨rfl, Fresh.alloc _ _⟩
  cases h5 : (n.toList == [116, 101])
  · simp only [h0, h1, h2, h3, h4, h5, Bool.false_or, Bool.false_and] at hr
    subst hr
    go_enter Tryd.func13, Tryd.ntmps13
    go_wp2
    go_ret
    exact ⟨rfl, Fresh.alloc _ _⟩
  cases hv : (v.toList == [116, 114, 97, 105, 108, 101, 114, 115])
  · simp only [h0, h1, h2, h3, h4, h5, hv, Bool.false_or, Bool.true_and, Bool.not_false] at hr
    subst hr
    go_enter Tryd.func13, Tryd.ntmps13
    go_wp2
    go_ret
    exact ⟨rfl, Fresh.alloc _ _⟩
  · simp only [h0, h1, h2, h3, h4, h5, hv, Bool.false_or, Bool.true_and, Bool.not_true] at hr
    subst hr
    go_enter Tryd.func13, Tryd.ntmps13
    go_wp2
    go_ret
    exact ⟨rfl, Fresh.alloc _ _⟩
set_option maxHeartbeats 1600000 in
theorem cl_sen (n : ByteArray) (w : World) :
    Calls Tryd.prog 15 #[.string n] w fun e w' => e = .returned (.bool (senB n)) ∧ w' = w := by
  obtain ⟨r, hr⟩ : ∃ r, senB n = r := ⟨_, rfl⟩
  rw [hr]
  unfold senB at hr
  cases h0 : (n.toList == [97, 117, 116, 104, 111, 114, 105, 122, 97, 116, 105, 111, 110])
  rotate_left
  · simp only [h0, Bool.true_or, Bool.or_true, Bool.false_or] at hr
    subst hr
    go_enter Tryd.func15, Tryd.ntmps15
    go_wp2
    go_ret
    exact ⟨rfl, rfl⟩
  cases h1 : (n.toList == [112, 114, 111, 120, 121, 45, 97, 117, 116, 104, 111, 114, 105, 122, 97, 116, 105, 111, 110])
  rotate_left
  · simp only [h0, h1, Bool.true_or, Bool.or_true, Bool.false_or] at hr
    subst hr
    go_enter Tryd.func15, Tryd.ntmps15
    go_wp2
    go_ret
    exact ⟨rfl, rfl⟩
  cases h2 : (n.toList == [99, 111, 111, 107, 105, 101])
  rotate_left
  · simp only [h0, h1, h2, Bool.true_or, Bool.or_true, Bool.false_or] at hr
    subst hr
    go_enter Tryd.func15, Tryd.ntmps15
    go_wp2
    go_ret
    exact ⟨rfl, rfl⟩
  cases h3 : (n.toList == [115, 101, 116, 45, 99, 111, 111, 107, 105, 101])
  rotate_left
  · simp only [h0, h1, h2, h3, Bool.true_or, Bool.or_true, Bool.false_or] at hr
    subst hr
    go_enter Tryd.func15, Tryd.ntmps15
    go_wp2
    go_ret
    exact ⟨rfl, rfl⟩
  simp only [h0, h1, h2, h3, Bool.false_or, Bool.or_self] at hr
  subst hr
  go_enter Tryd.func15, Tryd.ntmps15
  go_wp2
  go_ret
  exact ⟨rfl, rfl⟩
/-- Is a text one of five? -/
theorem rf_one (s a0 a1 a2 a3 a4 : ByteArray) (z4 : Bool) (w : World) (e0 : a0.toList.isEmpty = false) (e1 : a1.toList.isEmpty = false) (e2 : a2.toList.isEmpty = false) (e3 : a3.toList.isEmpty = false) (e4 : a4.toList.isEmpty = z4) :
    Calls Tryd.prog 25 #[.string s, .agg #[.string a0, .string a1, .string a2, .string a3, .string a4]] w fun e w' => e = .returned (.bool ((a0.toList == s.toList) || (a1.toList == s.toList) || (a2.toList == s.toList) || (a3.toList == s.toList) || (!z4 && (a4.toList == s.toList)))) ∧ Fresh w w' := by
  obtain ⟨r, hr⟩ : ∃ r, ((a0.toList == s.toList) || (a1.toList == s.toList) || (a2.toList == s.toList) || (a3.toList == s.toList) || (!z4 && (a4.toList == s.toList))) = r := ⟨_, rfl⟩
  rw [hr]
  cases h0 : (a0.toList == s.toList)
  rotate_left
  · simp only [h0, Bool.true_or, Bool.or_true, Bool.false_or] at hr
    subst hr
    go_enter Tryd.func25, Tryd.ntmps25
    go_wp2
    go_rounds 6
    go_ret
    exact ⟨rfl, Fresh.alloc _ _⟩
  cases h1 : (a1.toList == s.toList)
  rotate_left
  · simp only [h0, h1, Bool.true_or, Bool.or_true, Bool.false_or] at hr
    subst hr
    go_enter Tryd.func25, Tryd.ntmps25
    go_wp2
    go_rounds 6
    go_ret
    exact ⟨rfl, Fresh.alloc _ _⟩
  cases h2 : (a2.toList == s.toList)
  rotate_left
  · simp only [h0, h1, h2, Bool.true_or, Bool.or_true, Bool.false_or] at hr
    subst hr
    go_enter Tryd.func25, Tryd.ntmps25
    go_wp2
    go_rounds 6
    go_ret
    exact ⟨rfl, Fresh.alloc _ _⟩
  cases h3 : (a3.toList == s.toList)
  rotate_left
  · simp only [h0, h1, h2, h3, Bool.true_or, Bool.or_true, Bool.false_or] at hr
    subst hr
    go_enter Tryd.func25, Tryd.ntmps25
    go_wp2
    go_rounds 6
    go_ret
    exact ⟨rfl, Fresh.alloc _ _⟩
  cases z4
  · cases h4 : (a4.toList == s.toList)
    · simp only [h0, h1, h2, h3, h4, Bool.false_or, Bool.true_and, Bool.or_self, Bool.not_false, Bool.and_false] at hr
      subst hr
      go_enter Tryd.func25, Tryd.ntmps25
      go_wp2
      go_rounds 6
      go_ret
      exact ⟨rfl, Fresh.alloc _ _⟩
    · simp only [h0, h1, h2, h3, h4, Bool.false_or, Bool.true_and, Bool.not_false, Bool.and_self, Bool.or_true] at hr
      subst hr
      go_enter Tryd.func25, Tryd.ntmps25
      go_wp2
      go_rounds 6
      go_ret
      exact ⟨rfl, Fresh.alloc _ _⟩
  · simp only [h0, h1, h2, h3, Bool.false_or, Bool.not_true, Bool.false_and, Bool.or_self] at hr
    subst hr
    go_enter Tryd.func25, Tryd.ntmps25
    go_wp2
    go_rounds 6
    go_ret
    exact ⟨rfl, Fresh.alloc _ _⟩
end Go.Proofs.YtmeeofplpffboaaDoor

