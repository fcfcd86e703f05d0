/-
  Runes: decode beyond ASCII, and strings.IndexRune of such a rune within ASCII bytes.
-/
import Derived.Test.YtmeeofplpffboaaDoorShl
import Derived.Test.YtmeeofplpffboaaDoorClnA
import Derived.Laws.RangeString
import Derived.Laws.Runes
import Derived.Deep.LoopGhost
import Derived.RegionTactic
import Derived.BigRegion
import Derived.BigQuiet
import Derived.Deep.RegionHeld3
namespace Go.Proofs.YtmeeofplpffboaaDoor
set_option maxRecDepth 100000
set_option linter.unusedVariables false
set_option linter.unusedSimpArgs false
open Go.RowKit
def Rn (c : Nat) : Prop := 128 ≤ c ∧ (c < 55296 ∨ (57343 < c ∧ c ≤ 1114111))
theorem get_at (s : ByteArray) (i : Nat) (h : i < s.size) : s.get! i = s[i]'h := by
  simp [ByteArray.get!, getElem!_pos, h]
  rfl
theorem valid_nat (c : Nat) (h : Utf8.valid (c : Int) = true) : c < 55296 ∨ (57343 < c ∧ c ≤ 1114111) := by
  unfold Utf8.valid at h
  simp only [Bool.or_eq_true, Bool.and_eq_true, decide_eq_true_eq] at h
  omega
/-- What stands at a byte beyond ASCII. -/
theorem dec_big (s : ByteArray) (i : Nat) (h : i < s.size) (hb : 128 ≤ (s[i]'h).toNat) : ∃ c n : Nat, Utf8.decode s i = (c, n) ∧ Rn c ∧ 1 ≤ n ∧ i + n ≤ s.size ∧ ∀ j (hj : j < s.size), i ≤ j → j < i + n → 128 ≤ (s[j]'hj).toNat := by
  have h0 : (s.get! (i + 0)).toNat = (s[i]'h).toNat := by rw [Nat.add_zero, get_at s i h]
  have one : ∃ c n : Nat, ((Utf8.runeError, 1) : Nat × Nat) = (c, n) ∧ Rn c ∧ 1 ≤ n ∧ i + n ≤ s.size ∧ ∀ j (hj : j < s.size), i ≤ j → j < i + n → 128 ≤ (s[j]'hj).toNat :=
    ⟨_, _, rfl, ⟨by decide, by decide⟩, by omega, by omega, fun j hj h1 h2 => by
      obtain rfl : j = i := by omega
      exact hb⟩
  have cont : ∀ k, (decide (i + k < s.size) && (s.get! (i + k)).toNat / 64 == 2) = true → ∃ hk : i + k < s.size, 128 ≤ (s[i + k]'hk).toNat := fun k hk => by
    simp only [Bool.and_eq_true, decide_eq_true_eq, beq_iff_eq] at hk
    refine ⟨hk.1, ?_⟩
    rw [get_at s _ hk.1] at hk
    omega
  unfold Utf8.decode
  simp only [h0]
  rw [if_neg (by omega)]
  split
  · rename_i h1
    rw [Bool.and_eq_true] at h1
    obtain ⟨k1, c1⟩ := cont 1 h1.2
    have hd := beq_iff_eq.1 h1.1
    split
    · rename_i h2
      refine ⟨_, _, rfl, ⟨h2, .inl ?_⟩, by omega, by omega, fun j hj a b => ?_⟩
      · have := Nat.mod_lt (s[i]'h).toNat (show 0 < 32 by omega)
        have := Nat.mod_lt (s.get! (i + 1)).toNat (show 0 < 64 by omega)
        omega
      · rcases (show j = i ∨ j = i + 1 by omega) with rfl | rfl
        · exact hb
        · exact c1
    · exact one
  · split
    · rename_i h1
      rw [Bool.and_eq_true, Bool.and_eq_true] at h1
      obtain ⟨k1, c1⟩ := cont 1 h1.1.2
      obtain ⟨k2, c2⟩ := cont 2 h1.2
      split
      · rename_i h2
        rw [Bool.and_eq_true, decide_eq_true_eq] at h2
        refine ⟨_, _, rfl, ⟨by omega, valid_nat _ h2.2⟩, by omega, by omega, fun j hj a b => ?_⟩
        rcases (show j = i ∨ j = i + 1 ∨ j = i + 2 by omega) with rfl | rfl | rfl
        · exact hb
        · exact c1
        · exact c2
      · exact one
    · split
      · rename_i h1
        rw [Bool.and_eq_true, Bool.and_eq_true, Bool.and_eq_true] at h1
        obtain ⟨k1, c1⟩ := cont 1 h1.1.1.2
        obtain ⟨k2, c2⟩ := cont 2 h1.1.2
        obtain ⟨k3, c3⟩ := cont 3 h1.2
        split
        · rename_i h2
          rw [Bool.and_eq_true, decide_eq_true_eq] at h2
          refine ⟨_, _, rfl, ⟨by omega, valid_nat _ h2.2⟩, by omega, by omega, fun j hj a b => ?_⟩
          rcases (show j = i ∨ j = i + 1 ∨ j = i + 2 ∨ j = i + 3 by omega) with rfl | rfl | rfl | rfl
          · exact hb
          · exact c1
          · exact c2
          · exact c3
        · exact one
      · exact one
theorem run_next_any {P : Program} (w : World) (s : ByteArray) (pos c n : Nat) (ty : TypeId) (h : pos < s.size) (hd : Utf8.decode s pos = (c, n)) :
    (Instr.next (.pointer (some ⟨w.heap.size, 0, none⟩)) true ty).run P (w.iter s pos) = .ok (.tuple #[.bool true, .int .i64 pos, .int .i32 c]) (w.iter s (pos + n)) := by
  simp only [Instr.next, getObj, setObj, Sem.run_bind, Sem.run, World.iter_heap, Result.andThen, h, if_true, hd, World.iter_set]
  simp [goInt, Sem.run, World.iter_heap, World.iter_set]
/-- A rune's bytes beyond ASCII. -/
def Big (S : ByteArray) : Prop := ∃ k : Nat, 1 ≤ k ∧ k ≤ 3 ∧ S.size = k + 1 ∧ ∀ hk : k < S.size, 128 ≤ (S[k]'hk).toNat
theorem enc_big (r : Int) (h : 128 ≤ r) : Big (Utf8.encode r) := by
  have hc : 128 ≤ (if Utf8.valid r then r.toNat else Utf8.runeError) ∧ True := by
    split
    · exact ⟨by omega, trivial⟩
    · exact ⟨by decide, trivial⟩
  unfold Utf8.encode
  generalize (if Utf8.valid r then r.toNat else Utf8.runeError) = c at hc ⊢
  have hm := Nat.mod_lt c (show 0 < 64 by omega)
  have hb : 128 ≤ (UInt8.ofNat (0x80 + c % 64)).toNat := by
    rw [UInt8.toNat_ofNat']
    omega
  simp only []
  rw [if_neg (by omega)]
  split
  · exact ⟨1, by omega, by omega, rfl, fun _ => hb⟩
  · split
    · exact ⟨2, by omega, by omega, rfl, fun _ => hb⟩
    · exact ⟨3, by omega, by omega, rfl, fun _ => hb⟩
theorem no_big {l : List UInt8} {c : UInt8} (hl : ∀ (j : Nat) b, l[j]? = some b → b.toNat < 128) (hc : 128 ≤ c.toNat) : Lib.indexByte l c = -1 := by
  have h1 : l.contains c = false := by
    rw [List.contains_eq_mem, decide_eq_false_iff_not]
    intro hm
    obtain ⟨j, hj⟩ := List.getElem?_of_mem hm
    have := hl j c hj
    omega
  have h2 := Lib.contains_iff_indexByte l c
  rw [h1] at h2
  have h3 := of_decide_eq_false h2.symm
  have h4 := Lib.indexByte_ge l c
  omega
theorem ut_valid (c : Nat) (h : Rn c) (w : World) : Calls Tryd.prog 42 #[.int .i32 (c : Int)] w fun e w' => e = .returned (.bool true) ∧ w' = w := by
  obtain ⟨h0, h1⟩ := h
  have a0 : (0 : Int) ≤ (c : Int) := by omega
  by_cases h2 : c < 55296
  · have a1 : (c : Int) < 55296 := by omega
    clear h1 h2
    go_enter Tryd.func42, Tryd.ntmps42
    go_wp2
    go_ret
    exact ⟨rfl, rfl⟩
  · have a1 : decide ((0 : Int) ≤ (c : Int)) = true := decide_eq_true a0
    have a2 : decide ((c : Int) < 55296) = false := decide_eq_false (by omega)
    have a3 : (57343 : Int) < (c : Int) := by omega
    have a4 : (c : Int) ≤ 1114111 := by omega
    clear h1 h2
    go_enter Tryd.func42, Tryd.ntmps42
    go_wp2
    go_ret
    exact ⟨rfl, rfl⟩
set_option maxHeartbeats 3200000 in
theorem ir_error (s : ByteArray) (hA : ∀ (j : Nat) b, s.data.toList[j]? = some b → b.toNat < 128) (w : World) :
    Calls Tryd.prog 36 #[.string s, .int .i32 65533] w fun e w' => e = .returned (.int .i64 (-1)) ∧ Fresh w w' := by
  have HA := Lib.hid hA
  clear hA
  go_enter Tryd.func36, Tryd.ntmps36
  go_wp2
  go_loopg [5, 6] s.size (fun g _ _ wx => ∃ i : Nat, i + g = s.size ∧ wx = w.iter s i)
  case atStart => exact ⟨0, by omega, rfl⟩
  case round =>
    obtain ⟨i, hig, rfl⟩ := hrel
    cases gk with
    | zero =>
      obtain rfl : i = s.size := by omega
      have hnx := run_next_end (P := Tryd.prog) w s s.size
      go_wp2
      go_ret
      exact ⟨rfl, Fresh.alloc _ _⟩
    | succ g =>
      have hi : i < s.size := by omega
      obtain ⟨x, hx⟩ : ∃ x : UInt8, s[i]'hi = x := ⟨_, rfl⟩
      have hxl : s.data.toList[i]? = some x := by rw [← hx]; exact Lib.data_getElem? s i hi
      have hx128 : x.toNat < 128 := HA.out i x hxl
      have hnx := fun ty => run_next_ascii (P := Tryd.prog) w s i ty hi (by rw [hx]; exact hx128)
      rw [hx] at hnx
      have hne : ((x.toNat : Int) == 65533) = false := beq_eq_false_iff_ne.2 (by omega)
      clear hxl hx
      go_wp2
      go_roundg g
      case measure => omega
      case rel => exact ⟨i + 1, by omega, rfl⟩
end Go.Proofs.YtmeeofplpffboaaDoor

