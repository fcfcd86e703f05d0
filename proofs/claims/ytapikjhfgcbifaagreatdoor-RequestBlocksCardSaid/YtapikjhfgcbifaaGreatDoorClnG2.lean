/-
  Texts laid together: Shl ClnU ClnV ClnW ClnX ClnY.
-/
import Derived.Test.YtapikjhfgcbifaaGreatDoorGen
import Derived.Shelf.Strings.IndexAnyAll
import Derived.Shelf.Strings.SlTrimAscii
import Derived.Test.YtapikjhfgcbifaaGreatDoorClnG1
import Derived.Laws.RangeString
import Derived.Laws.Runes
import Derived.Deep.LoopGhost
import Derived.RegionTactic
import Derived.BigRegion
import Derived.BigQuiet
import Derived.Deep.RegionHeld3
import Derived.Handy
import Derived.Deep.Cut
import Derived.WalkMore
/-
  The library's functions of the shelf, at this program: made by program.
-/
namespace Go.Proofs.YtapikjhfgcbifaaGreatDoor
set_option linter.unusedVariables false
open Go.Proofs Go.Shelf
def lays150_ren : Go.Shelf.Ren := ⟨fun | 150 => 52 | 153 => 68 | 152 => 90 | 226 => 91 | 227 => 71 | 228 => 92 | 137 => 51 | 119 => 104 | 224 => 105 | 225 => 106 | 217 => 67 | 266 => 89 | n => n, fun | 9 => 9 | 4 => 4 | 3 => 3 | 5 => 5 | 21 => 21 | 117 => 109 | 116 => 108 | 0 => 0 | 46 => 116 | 124 => 112 | n => n, fun | n => n⟩
theorem lays150 : Go.Proofs.Lays.n150 Tryz.prog lays150_ren := {
  mixed := by kernel_rfl
  f119 := Tryz.func104.trans (congrArg some (by kernel_rfl))
  f137 := Tryz.func51.trans (congrArg some (by kernel_rfl))
  f150 := Tryz.func52.trans (congrArg some (by kernel_rfl))
  f152 := Tryz.func90.trans (congrArg some (by kernel_rfl))
  f153 := Tryz.func68.trans (congrArg some (by kernel_rfl))
  f217 := Tryz.func67.trans (congrArg some (by kernel_rfl))
  f224 := Tryz.func105.trans (congrArg some (by kernel_rfl))
  f225 := Tryz.func106.trans (congrArg some (by kernel_rfl))
  f226 := Tryz.func91.trans (congrArg some (by kernel_rfl))
  f227 := Tryz.func71.trans (congrArg some (by kernel_rfl))
  f228 := Tryz.func92.trans (congrArg some (by kernel_rfl))
  f266 := Tryz.func89.trans (congrArg some (by kernel_rfl))
  t0 := Tryz.underlying0
  a0 := Tryz.isAgg0
  z0 := Tryz.sizeOf0
  v0 := Tryz.zeroValue0
  t3 := Tryz.underlying3
  a3 := Tryz.isAgg3
  z3 := Tryz.sizeOf3
  v3 := Tryz.zeroValue3
  t4 := Tryz.underlying4
  a4 := Tryz.isAgg4
  z4 := Tryz.sizeOf4
  v4 := Tryz.zeroValue4
  t5 := Tryz.underlying5
  a5 := Tryz.isAgg5
  z5 := Tryz.sizeOf5
  v5 := Tryz.zeroValue5
  t9 := Tryz.underlying9
  a9 := Tryz.isAgg9
  z9 := Tryz.sizeOf9
  v9 := Tryz.zeroValue9
  t21 := Tryz.underlying21
  a21 := Tryz.isAgg21
  z21 := Tryz.sizeOf21
  v21 := Tryz.zeroValue21
  t46 := Tryz.underlying116
  a46 := Tryz.isAgg116
  z46 := Tryz.sizeOf116
  v46 := Tryz.zeroValue116
  t116 := Tryz.underlying108
  a116 := Tryz.isAgg108
  z116 := Tryz.sizeOf108
  t117 := Tryz.underlying109
  a117 := Tryz.isAgg109
  z117 := Tryz.sizeOf109
  v117 := Tryz.zeroValue109
  t124 := Tryz.underlying112
  a124 := Tryz.isAgg112
  z124 := Tryz.sizeOf112
  v124 := Tryz.zeroValue112 }
def lays160_ren : Go.Shelf.Ren := ⟨fun | 160 => 53 | 232 => 70 | 231 => 69 | 227 => 71 | 234 => 73 | 233 => 72 | 236 => 75 | 235 => 74 | 228 => 92 | 271 => 95 | 151 => 94 | 197 => 93 | 120 => 108 | 152 => 90 | 260 => 107 | 137 => 51 | 119 => 104 | 224 => 105 | 225 => 106 | 217 => 67 | 266 => 89 | n => n, fun | 9 => 9 | 4 => 4 | 3 => 3 | 5 => 5 | 117 => 109 | 116 => 108 | 0 => 0 | 124 => 112 | 21 => 21 | 105 => 128 | 46 => 116 | 119 => 147 | 139 => 150 | 138 => 149 | n => n, fun | 3 => 1 | 4 => 2 | n => n⟩
theorem lays160 : Go.Proofs.Lays.n160 Tryz.prog lays160_ren := {
  mixed := by kernel_rfl
  f119 := Tryz.func104.trans (congrArg some (by kernel_rfl))
  f120 := Tryz.func108.trans (congrArg some (by kernel_rfl))
  f137 := Tryz.func51.trans (congrArg some (by kernel_rfl))
  f151 := Tryz.func94.trans (congrArg some (by kernel_rfl))
  f152 := Tryz.func90.trans (congrArg some (by kernel_rfl))
  f160 := Tryz.func53.trans (congrArg some (by kernel_rfl))
  f197 := Tryz.func93.trans (congrArg some (by kernel_rfl))
  f217 := Tryz.func67.trans (congrArg some (by kernel_rfl))
  f224 := Tryz.func105.trans (congrArg some (by kernel_rfl))
  f225 := Tryz.func106.trans (congrArg some (by kernel_rfl))
  f227 := Tryz.func71.trans (congrArg some (by kernel_rfl))
  f228 := Tryz.func92.trans (congrArg some (by kernel_rfl))
  f231 := Tryz.func69.trans (congrArg some (by kernel_rfl))
  f232 := Tryz.func70.trans (congrArg some (by kernel_rfl))
  f233 := Tryz.func72.trans (congrArg some (by kernel_rfl))
  f234 := Tryz.func73.trans (congrArg some (by kernel_rfl))
  f235 := Tryz.func74.trans (congrArg some (by kernel_rfl))
  f236 := Tryz.func75.trans (congrArg some (by kernel_rfl))
  f260 := Tryz.func107.trans (congrArg some (by kernel_rfl))
  f266 := Tryz.func89.trans (congrArg some (by kernel_rfl))
  f271 := Tryz.func95.trans (congrArg some (by kernel_rfl))
  t0 := Tryz.underlying0
  a0 := Tryz.isAgg0
  z0 := Tryz.sizeOf0
  v0 := Tryz.zeroValue0
  t3 := Tryz.underlying3
  a3 := Tryz.isAgg3
  z3 := Tryz.sizeOf3
  v3 := Tryz.zeroValue3
  t4 := Tryz.underlying4
  a4 := Tryz.isAgg4
  z4 := Tryz.sizeOf4
  v4 := Tryz.zeroValue4
  t5 := Tryz.underlying5
  a5 := Tryz.isAgg5
  z5 := Tryz.sizeOf5
  v5 := Tryz.zeroValue5
  t9 := Tryz.underlying9
  a9 := Tryz.isAgg9
  z9 := Tryz.sizeOf9
  v9 := Tryz.zeroValue9
  t21 := Tryz.underlying21
  a21 := Tryz.isAgg21
  z21 := Tryz.sizeOf21
  v21 := Tryz.zeroValue21
  t46 := Tryz.underlying116
  a46 := Tryz.isAgg116
  z46 := Tryz.sizeOf116
  v46 := Tryz.zeroValue116
  t105 := Tryz.underlying128
  a105 := Tryz.isAgg128
  z105 := Tryz.sizeOf128
  v105 := Tryz.zeroValue128
  t116 := Tryz.underlying108
  a116 := Tryz.isAgg108
  z116 := Tryz.sizeOf108
  t117 := Tryz.underlying109
  a117 := Tryz.isAgg109
  z117 := Tryz.sizeOf109
  v117 := Tryz.zeroValue109
  t119 := Tryz.underlying147
  a119 := Tryz.isAgg147
  z119 := Tryz.sizeOf147
  t124 := Tryz.underlying112
  a124 := Tryz.isAgg112
  z124 := Tryz.sizeOf112
  v124 := Tryz.zeroValue112
  t138 := Tryz.underlying149
  a138 := Tryz.isAgg149
  z138 := Tryz.sizeOf149
  v138 := Tryz.zeroValue149
  t139 := Tryz.underlying150
  a139 := Tryz.isAgg150
  z139 := Tryz.sizeOf150
  v139 := Tryz.zeroValue150
  g3 := by kernel_rfl
  g4 := by kernel_rfl }
end Go.Proofs.YtapikjhfgcbifaaGreatDoor

/-
  Runes: decode beyond ASCII, and strings.IndexRune of such a rune within ASCII bytes.
-/
namespace Go.Proofs.YtapikjhfgcbifaaGreatDoor
set_option maxRecDepth 100000
set_option linter.unusedVariables false
set_option linter.unusedSimpArgs false
open Go.RowKit
def Rn (c : Nat) : Prop := 128 ≤ c ∧ (c < 55296 ∨ (57343 < c ∧ c ≤ 1114111))
theorem get_at (s : ByteArray) (i : Nat) (h : i < s.size) : s.get! i = s[i]'h := by
  simp [ByteArray.get!, getElem!_pos, h]
  rfl
theorem valid_nat (c : Nat) (h : Utf8.valid (c : Int) = true) : c < 55296 ∨ (57343 < c ∧ c ≤ 1114111) := by
  unfold Utf8.valid at h
  simp only [Bool.or_eq_true, Bool.and_eq_true, decide_eq_true_eq] at h
  omega
/-- What stands at a byte beyond ASCII. -/
theorem dec_big (s : ByteArray) (i : Nat) (h : i < s.size) (hb : 128 ≤ (s[i]'h).toNat) : ∃ c n : Nat, Utf8.decode s i = (c, n) ∧ Rn c ∧ 1 ≤ n ∧ i + n ≤ s.size ∧ ∀ j (hj : j < s.size), i ≤ j → j < i + n → 128 ≤ (s[j]'hj).toNat := by
  have h0 : (s.get! (i + 0)).toNat = (s[i]'h).toNat := by rw [Nat.add_zero, get_at s i h]
  have one : ∃ c n : Nat, ((Utf8.runeError, 1) : Nat × Nat) = (c, n) ∧ Rn c ∧ 1 ≤ n ∧ i + n ≤ s.size ∧ ∀ j (hj : j < s.size), i ≤ j → j < i + n → 128 ≤ (s[j]'hj).toNat :=
    ⟨_, _, rfl, ⟨by decide, by decide⟩, by omega, by omega, fun j hj h1 h2 => by
      obtain rfl : j = i := by omega
      exact hb⟩
  have cont : ∀ k, (decide (i + k < s.size) && (s.get! (i + k)).toNat / 64 == 2) = true → ∃ hk : i + k < s.size, 128 ≤ (s[i + k]'hk).toNat := fun k hk => by
    simp only [Bool.and_eq_true, decide_eq_true_eq, beq_iff_eq] at hk
    refine ⟨hk.1, ?_⟩
    rw [get_at s _ hk.1] at hk
    omega
  unfold Utf8.decode
  simp only [h0]
  rw [if_neg (by omega)]
  split
  · rename_i h1
    rw [Bool.and_eq_true] at h1
    obtain ⟨k1, c1⟩ := cont 1 h1.2
    have hd := beq_iff_eq.1 h1.1
    split
    · rename_i h2
      refine ⟨_, _, rfl, ⟨h2, .inl ?_⟩, by omega, by omega, fun j hj a b => ?_⟩
      · have := Nat.mod_lt (s[i]'h).toNat (show 0 < 32 by omega)
        have := Nat.mod_lt (s.get! (i + 1)).toNat (show 0 < 64 by omega)
        omega
      · rcases (show j = i ∨ j = i + 1 by omega) with rfl | rfl
        · exact hb
        · exact c1
    · exact one
  · split
    · rename_i h1
      rw [Bool.and_eq_true, Bool.and_eq_true] at h1
      obtain ⟨k1, c1⟩ := cont 1 h1.1.2
      obtain ⟨k2, c2⟩ := cont 2 h1.2
      split
      · rename_i h2
        rw [Bool.and_eq_true, decide_eq_true_eq] at h2
        refine ⟨_, _, rfl, ⟨by omega, valid_nat _ h2.2⟩, by omega, by omega, fun j hj a b => ?_⟩
        rcases (show j = i ∨ j = i + 1 ∨ j = i + 2 by omega) with rfl | rfl | rfl
        · exact hb
        · exact c1
        · exact c2
      · exact one
    · split
      · rename_i h1
        rw [Bool.and_eq_true, Bool.and_eq_true, Bool.and_eq_true] at h1
        obtain ⟨k1, c1⟩ := cont 1 h1.1.1.2
        obtain ⟨k2, c2⟩ := cont 2 h1.1.2
        obtain ⟨k3, c3⟩ := cont 3 h1.2
        split
        · rename_i h2
          rw [Bool.and_eq_true, decide_eq_true_eq] at h2
          refine ⟨_, _, rfl, ⟨by omega, valid_nat _ h2.2⟩, by omega, by omega, fun j hj a b => ?_⟩
          rcases (show j = i ∨ j = i + 1 ∨ j = i + 2 ∨ j = i + 3 by omega) with rfl | rfl | rfl | rfl
          · exact hb
          · exact c1
          · exact c2
          · exact c3
        · exact one
      · exact one
theorem run_next_any {P : Program} (w : World) (s : ByteArray) (pos c n : Nat) (ty : TypeId) (h : pos < s.size) (hd : Utf8.decode s pos = (c, n)) :
    (Instr.next (.pointer (some ⟨w.heap.size, 0, none⟩)) true ty).run P (w.iter s pos) = .ok (.tuple #[.bool true, .int .i64 pos, .int .i32 c]) (w.iter s (pos + n)) := by
  simp only [Instr.next, getObj, setObj, Sem.run_bind, Sem.run, World.iter_heap, Result.andThen, h, if_true, hd, World.iter_set]
  simp [goInt, Sem.run, World.iter_heap, World.iter_set]
/-- A rune's bytes beyond ASCII. -/
def Big (S : ByteArray) : Prop := ∃ k : Nat, 1 ≤ k ∧ k ≤ 3 ∧ S.size = k + 1 ∧ ∀ hk : k < S.size, 128 ≤ (S[k]'hk).toNat
theorem enc_big (r : Int) (h : 128 ≤ r) : Big (Utf8.encode r) := by
  have hc : 128 ≤ (if Utf8.valid r then r.toNat else Utf8.runeError) ∧ True := by
    split
    · exact ⟨by omega, trivial⟩
    · exact ⟨by decide, trivial⟩
  unfold Utf8.encode
  generalize (if Utf8.valid r then r.toNat else Utf8.runeError) = c at hc ⊢
  have hm := Nat.mod_lt c (show 0 < 64 by omega)
  have hb : 128 ≤ (UInt8.ofNat (0x80 + c % 64)).toNat := by
    rw [UInt8.toNat_ofNat']
    omega
  simp only []
  rw [if_neg (by omega)]
  split
  · exact ⟨1, by omega, by omega, rfl, fun _ => hb⟩
  · split
    · exact ⟨2, by omega, by omega, rfl, fun _ => hb⟩
    · exact ⟨3, by omega, by omega, rfl, fun _ => hb⟩
theorem no_big {l : List UInt8} {c : UInt8} (hl : ∀ (j : Nat) b, l[j]? = some b → b.toNat < 128) (hc : 128 ≤ c.toNat) : Lib.indexByte l c = -1 := by
  have h1 : l.contains c = false := by
    rw [List.contains_eq_mem, decide_eq_false_iff_not]
    intro hm
    obtain ⟨j, hj⟩ := List.getElem?_of_mem hm
    have := hl j c hj
    omega
  have h2 := Lib.contains_iff_indexByte l c
  rw [h1] at h2
  have h3 := of_decide_eq_false h2.symm
  have h4 := Lib.indexByte_ge l c
  omega
theorem ut_valid (c : Nat) (h : Rn c) (w : World) : Calls Tryz.prog 104 #[.int .i32 (c : Int)] w fun e w' => e = .returned (.bool true) ∧ w' = w := by
  obtain ⟨h0, h1⟩ := h
  have a0 : (0 : Int) ≤ (c : Int) := by omega
  by_cases h2 : c < 55296
  · have a1 : (c : Int) < 55296 := by omega
    clear h1 h2
    go_enter Tryz.func104, Tryz.ntmps104
    go_wp2
    go_ret
    exact ⟨rfl, rfl⟩
  · have a1 : decide ((0 : Int) ≤ (c : Int)) = true := decide_eq_true a0
    have a2 : decide ((c : Int) < 55296) = false := decide_eq_false (by omega)
    have a3 : (57343 : Int) < (c : Int) := by omega
    have a4 : (c : Int) ≤ 1114111 := by omega
    clear h1 h2
    go_enter Tryz.func104, Tryz.ntmps104
    go_wp2
    go_ret
    exact ⟨rfl, rfl⟩
set_option maxHeartbeats 3200000 in
theorem ir_error (s : ByteArray) (hA : ∀ (j : Nat) b, s.data.toList[j]? = some b → b.toNat < 128) (w : World) :
    Calls Tryz.prog 90 #[.string s, .int .i32 65533] w fun e w' => e = .returned (.int .i64 (-1)) ∧ Fresh w w' := by
  have HA := Lib.hid hA
  clear hA
  go_enter Tryz.func90, Tryz.ntmps90
  go_wp2
  go_loopg [5, 6] s.size (fun g _ _ wx => ∃ i : Nat, i + g = s.size ∧ wx = w.iter s i)
  case atStart => exact ⟨0, by omega, rfl⟩
  case round =>
    obtain ⟨i, hig, rfl⟩ := hrel
    cases gk with
    | zero =>
      obtain rfl : i = s.size := by omega
      have hnx := run_next_end (P := Tryz.prog) w s s.size
      go_wp2
      go_ret
      exact ⟨rfl, Fresh.alloc _ _⟩
    | succ g =>
      have hi : i < s.size := by omega
      obtain ⟨x, hx⟩ : ∃ x : UInt8, s[i]'hi = x := ⟨_, rfl⟩
      have hxl : s.data.toList[i]? = some x := by rw [← hx]; exact Lib.data_getElem? s i hi
      have hx128 : x.toNat < 128 := HA.out i x hxl
      have hnx := fun ty => run_next_ascii (P := Tryz.prog) w s i ty hi (by rw [hx]; exact hx128)
      rw [hx] at hnx
      have hne : ((x.toNat : Int) == 65533) = false := beq_eq_false_iff_ne.2 (by omega)
      clear hxl hx
      go_wp2
      go_roundg g
      case measure => omega
      case rel => exact ⟨i + 1, by omega, rfl⟩
end Go.Proofs.YtapikjhfgcbifaaGreatDoor

/-
  strings.IndexRune of a rune beyond ASCII within ASCII bytes.
-/
namespace Go.Proofs.YtapikjhfgcbifaaGreatDoor
set_option maxRecDepth 100000
set_option linter.unusedVariables false
set_option linter.unusedSimpArgs false
open Go.RowKit
set_option maxHeartbeats 3200000 in
theorem ir_other (s : ByteArray) (hA : ∀ (j : Nat) b, s.data.toList[j]? = some b → b.toNat < 128) (c : Nat) (h : Rn c) (hne : c ≠ 65533) (w : World) :
    Calls Tryz.prog 90 #[.string s, .int .i32 (c : Int)] w fun e w' => e = .returned (.int .i64 (-1)) ∧ Fresh w w' := by
  have HA := Lib.hid hA
  clear hA
  have a0 : decide ((0 : Int) ≤ (c : Int)) = true := decide_eq_true (by omega)
  have a1 : decide ((c : Int) < 128) = false := decide_eq_false (by have := h.1; omega)
  have a2 : ((c : Int) == 65533) = false := beq_eq_false_iff_ne.2 (by omega)
  have HV := Lib.hid (fun w => ut_valid c h w)
  obtain ⟨k, k1, k3, ksz, kb⟩ := enc_big (c : Int) (by have := h.1; omega)
  obtain ⟨S, hS⟩ : ∃ S, Utf8.encode (c : Int) = S := ⟨_, rfl⟩
  rw [hS] at ksz kb
  have HSZ := Lib.hid ksz
  have hcv : ∀ W, (convert 21 9 (.int .i32 (c : Int))).run Tryz.prog W = .ok (.string S) W := fun W => by rw [← hS]; exact run_convert_int_string W _ _ _ _ (by rw [Tryz.underlying21]; rfl) Tryz.underlying9
  clear hS
  have hkS : k < S.size := by omega
  obtain ⟨y, hy⟩ : ∃ y : UInt8, S[k]'hkS = y := ⟨_, rfl⟩
  have hy128 : 128 ≤ y.toNat := by rw [← hy]; exact kb hkS
  have hsz : S.size = k + 1 := ksz
  have hkk : ((k + 1 : Nat) : Int) - 1 = (k : Int) := by omega
  have hIB := Lib.hid (fun (t : ByteArray) (ht : ∀ (j : Nat) b, t.data.toList[j]? = some b → b.toNat < 128) (w : World) => (show Calls Tryz.prog 51 #[.string t, .int .u8 (y.toNat : Int)] w (fun e w' => e = .returned (.int .i64 (-1)) ∧ w' = w) from (st_indexByte t (y.toNat : Int) w).mono (fun e w' hh => by
    refine ⟨?_, hh.2⟩
    rw [hh.1, show ((y.toNat : Int)).toNat.toUInt8 = y by simp, no_big ht hy128])))
  clear h hne kb ksz
  by_cases hks : k < s.size
  · have hks' : (k : Int) < (s.size : Int) := by omega
    obtain ⟨x, hx⟩ : ∃ x : UInt8, s[k]'hks = x := ⟨_, rfl⟩
    have hx128 : x.toNat < 128 := HA.out k x (by rw [← hx]; exact Lib.data_getElem? s k hks)
    have hxy : ((x.toNat : Int) != (y.toNat : Int)) = true := by
      simp only [bne_iff_ne, ne_eq]
      omega
    go_enter Tryz.func90, Tryz.ntmps90
    go_wp2_with (first | (go_at_call 104; with_reducible refine (HV.out _).mono ?_; rintro e w1 ⟨rfl, hw⟩; subst hw) | fail)
    go_step3
    have HX : Hid (∀ (j : Nat) b, (s.extract (k + 1) s.size).data.toList[j]? = some b → b.toNat < 128) := Lib.hid (fun j b hb => by
      rw [Lib.extract_to_end, List.getElem?_drop] at hb
      exact HA.out _ b hb)
    have hk1 : ((k : Int) + 1).toNat = k + 1 := by omega
    have hk2 : IntKind.i64.wrap ((k : Int) + 1) = (k : Int) + 1 := by rcases (show k = 1 ∨ k = 2 ∨ k = 3 by omega) with h | h | h <;> (rw [h]; rfl)
    have hk3 : (0 : Int) ≤ (k : Int) + 1 ∧ (k : Int) + 1 ≤ (s.size : Int) := by omega
    go_wp2_with fail
    go_rounds 1
    go_step3
    go_wp2_with fail
    go_region
    go_wp2_with fail
    first | go_region_with (go_at_call 51; with_reducible refine (hIB.out _ HX.out _).mono ?_; rintro e w2 ⟨rfl, hw⟩; subst hw) | fail
    go_wp2_with fail
    rw [Exit.noGoto_ret]
    go_wp2
    rw [Exit.noGoto_ret]
    go_ret
    exact ⟨rfl, (Fresh.drew _).trans (Fresh.drew _)⟩
  · have hks' : ¬ (k : Int) < (s.size : Int) := by omega
    go_enter Tryz.func90, Tryz.ntmps90
    go_wp2_with (first | (go_at_call 104; with_reducible refine (HV.out _).mono ?_; rintro e w1 ⟨rfl, hw⟩; subst hw) | fail)
    go_step3
    go_wp2
    go_rounds 2
    rw [Exit.noGoto_ret]
    go_ret
    exact ⟨rfl, Fresh.refl _⟩
end Go.Proofs.YtapikjhfgcbifaaGreatDoor

/-
  strings.IndexAny, ContainsAny and Trim at what package clean asks, for bytes of every kind.
-/
namespace Go.Proofs.YtapikjhfgcbifaaGreatDoor
set_option maxRecDepth 100000
set_option linter.unusedVariables false
set_option linter.unusedSimpArgs false
open Go.RowKit
theorem next_at {P : Program} {wr : World} {b : Nat} {s : ByteArray} {pos c n : Nat} (hb : wr.heap[b]? = some (.stringIter s pos)) (h : pos < s.size) (hd : Utf8.decode s pos = (c, n)) :
    ∃ W', (∀ ty, (Instr.next (.pointer (some ⟨b, 0, none⟩)) true ty).run P wr = .ok (.tuple #[.bool true, .int .i64 pos, .int .i32 c]) W') ∧ W'.heap[b]? = some (.stringIter s (pos + n)) ∧ ∀ w, Fresh w wr → w.heap.size ≤ b → Fresh w W' := by
  have hlt : b < wr.heap.size := (Array.getElem?_eq_some_iff.1 hb).1
  refine ⟨{ wr with heap := wr.heap.setIfInBounds b (.stringIter s (pos + n)) }, fun ty => ?_, ?_, fun w hf hwb => ?_⟩
  · simp only [Instr.next, getObj, setObj, Sem.run_bind, Sem.run, hb, Result.andThen, h, if_true, hd]
    simp [goInt, Sem.run, hb]
  · simp [hlt]
  · refine ⟨hf.os, hf.tape, hf.output, ?_, ?_⟩
    · have := Below.size hf
      simpa using this
    · intro k hk
      have := Below.block hf k hk
      simp only [Array.getElem?_setIfInBounds]
      rw [if_neg (by omega)]
      exact this
theorem next_end {P : Program} {wr : World} {b : Nat} {s : ByteArray} {pos : Nat} (hb : wr.heap[b]? = some (.stringIter s pos)) (h : ¬ pos < s.size) (ty : TypeId) :
    (Instr.next (.pointer (some ⟨b, 0, none⟩)) true ty).run P wr = .ok (.tuple #[.bool false]) wr := by
  simp [Instr.next, getObj, Sem.run, hb, h]
theorem iter_fresh {wr w' : World} {b : Nat} {s : ByteArray} {pos : Nat} (hb : wr.heap[b]? = some (.stringIter s pos)) (hf : Fresh wr w') : w'.heap[b]? = some (.stringIter s pos) :=
  (Below.block hf b (Array.getElem?_eq_some_iff.1 hb).1).trans hb
theorem ir_ascii (s : ByteArray) (x : UInt8) (hx : x.toNat < 128) (w : World) :
    Calls Tryz.prog 90 #[.string s, .int .i32 (x.toNat : Int)] w fun e w' => e = .returned (.int .i64 (Lib.indexByte s.data.toList x)) ∧ Fresh w w' := by
  have h : Calls Tryz.prog 90 #[.string s, .int .i32 (x.toNat : Int)] w _ := Any.strings_IndexRune_ascii { lays150 with } s (x.toNat : Int) w (by omega) (by omega)
  refine h.mono ?_
  rintro e w' ⟨rfl, hw⟩
  subst hw
  exact ⟨by simp, Fresh.refl _⟩
theorem ir_big (s : ByteArray) (hA : ∀ (j : Nat) b, s.data.toList[j]? = some b → b.toNat < 128) (c : Nat) (h : Rn c) (w : World) :
    Calls Tryz.prog 90 #[.string s, .int .i32 (c : Int)] w fun e w' => e = .returned (.int .i64 (-1)) ∧ Fresh w w' := by
  by_cases e : c = 65533
  · subst e
    exact ir_error s hA w
  · exact ir_other s hA c h e w
theorem sh_use (n : Int) (w : World) : Calls Tryz.prog 91 #[.int .i64 n] w fun e w' => e = .returned (.bool (decide (8 < n))) ∧ w' = w := by
  have h : Calls Tryz.prog 91 #[.int .i64 n] w _ := Any.strings_shouldUseASCIISet { lays150 with } n w
  exact h
set_option maxHeartbeats 8000000 in
theorem ia_short (s chars : ByteArray) (w : World) (h2 : 2 ≤ chars.size) (h8 : s.size ≤ 8) (hac : ∀ (j : Nat) b, chars.data.toList[j]? = some b → b.toNat < 128) :
    Calls Tryz.prog 68 #[.string s, .string chars] w fun e w' => e = .returned (.int .i64 (Lib.indexAny s.data.toList chars.data.toList)) ∧ Fresh w w' := by
  have hemp : chars.toList.isEmpty = false := by
    rw [Lib.toList_data]
    cases h : chars.data.toList with
    | nil => have := Lib.size_eq chars; rw [h, List.length_nil] at this; omega
    | cons _ _ => rfl
  have hn1 : ((chars.size : Int) == 1) = false := beq_eq_false_iff_ne.2 (by omega)
  have h8z : decide ((8 : Int) < (s.size : Int)) = false := decide_eq_false (by omega)
  have HAC := Lib.hid hac
  have HBIG := Lib.hid (fun c h w => ir_big chars hac c h w)
  clear hac
  obtain ⟨LS, hLS⟩ : ∃ LS, s.data.toList = LS := ⟨_, rfl⟩
  obtain ⟨LC, hLC⟩ : ∃ LC, chars.data.toList = LC := ⟨_, rfl⟩
  rw [hLS, hLC]
  rw [hLC] at HAC
  have HLS := Lib.hid hLS
  have HLC := Lib.hid hLC
  clear hLS hLC
  have HSH := Lib.hid (fun w => sh_use (s.size : Int) w)
  rw [h8z] at HSH
  obtain ⟨b, hb⟩ : ∃ b, w.heap.size = b := ⟨_, rfl⟩
  have HB := Lib.hid hb
  clear hb
  go_enter Tryz.func68, Tryz.ntmps68
  go_wp2_with (first | (go_at_call 91; with_reducible refine (HSH.out _).mono ?_; rintro e w' ⟨rfl, hw⟩; obtain rfl : w = w' := hw.symm) | fail)
  rw [HB.out]
  go_loopg [9, 10] s.size (fun g _ _ wx => ∃ i : Nat, i + g = s.size ∧ wx.heap[b]? = some (.stringIter s i) ∧ Fresh w wx ∧ Lib.NoAny LS LC i)
  case atStart => exact ⟨0, by omega, by rw [← HB.out]; exact World.iter_heap _ _ _, Fresh.alloc _ _, Lib.NoAny.zero _ _⟩
  case round =>
    obtain ⟨i, hig, hit, hfr, hno⟩ := hrel
    have HN := Lib.hid hno
    have HIT := Lib.hid hit
    have HFR := Lib.hid hfr
    clear hno hit hfr
    cases gk with
    | zero =>
      obtain rfl : i = s.size := by omega
      have hnx := next_end (P := Tryz.prog) HIT.out (by omega)
      go_wp2
      go_ret
      exact ⟨by rw [Lib.indexAny_none (by rw [← HLS.out, ← Lib.size_eq]; rw [HLS.out]; exact HN.out)]; rfl, HFR.out⟩
    | succ g =>
      have hi : i < s.size := by omega
      obtain ⟨x, hx⟩ : ∃ x : UInt8, s[i]'hi = x := ⟨_, rfl⟩
      have hxl : LS[i]? = some x := by rw [← HLS.out, ← hx]; exact Lib.data_getElem? s i hi
      have Hx := Lib.hid hxl
      clear hxl
      by_cases hx128 : x.toNat < 128
      · obtain ⟨W1, hnx, hW1, hF1⟩ := next_at (P := Tryz.prog) HIT.out hi (decode_ascii s i hi (by rw [hx]; exact hx128))
        rw [hx] at hnx
        have HW1 := Lib.hid hW1
        have HF1 := Lib.hid (hF1 w HFR.out (by rw [HB.out]; omega))
        have HIR := Lib.hid (fun w => ir_ascii chars x hx128 w)
        rw [HLC.out] at HIR
        have hcon := Lib.contains_iff_indexByte LC x
        obtain ⟨q, hq⟩ : ∃ q, Lib.indexByte LC x = q := ⟨_, rfl⟩
        rw [hq] at hcon HIR
        clear hW1 hF1 hx hq
        cases hin : LC.contains x
        · rw [hin] at hcon
          have hlt : decide ((0 : Int) ≤ q) = false := hcon.symm
          have HIN := Lib.hid hin
          clear hcon hin
          go_wp2_with (first | (go_at_call 90; with_reducible refine (HIR.out _).mono ?_; rintro e w' ⟨rfl, hw⟩; have HW := Lib.hid hw; clear hw) | fail)
          go_roundg g
          case measure => omega
          case rel => exact ⟨i + 1, by omega, iter_fresh HW1.out HW.out, HF1.out.trans HW.out, HN.out.succ Hx.out HIN.out⟩
        · rw [hin] at hcon
          have hge : (0 : Int) ≤ q := of_decide_eq_true hcon.symm
          have HIN := Lib.hid hin
          clear hcon hin
          go_wp2_with (first | (go_at_call 90; with_reducible refine (HIR.out _).mono ?_; rintro e w' ⟨rfl, hw⟩; have HW := Lib.hid hw; clear hw) | fail)
          go_ret
          exact ⟨by rw [Lib.indexAny_hit HN.out Hx.out HIN.out]; rfl, HF1.out.trans HW.out⟩
      · obtain ⟨c, n, hd, hrn, hn, hin, hal⟩ := dec_big s i hi (by rw [hx]; omega)
        obtain ⟨W1, hnx, hW1, hF1⟩ := next_at (P := Tryz.prog) HIT.out hi hd
        have HW1 := Lib.hid hW1
        have HF1 := Lib.hid (hF1 w HFR.out (by rw [HB.out]; omega))
        have HIR := Lib.hid (fun w => HBIG.out c hrn w)
        have HNN : Hid (Lib.NoAny LS LC (i + n)) := Lib.hid (fun j y hj hy => by
          by_cases hji : j < i
          · exact HN.out j y hji hy
          · rw [← HLS.out] at hy
            have hjs : j < s.size := by omega
            have h1 := Lib.data_getElem? s j hjs
            rw [h1] at hy
            cases hy
            have h2 := hal j hjs (by omega) hj
            rw [List.contains_eq_mem, decide_eq_false_iff_not]
            intro hm
            obtain ⟨m, hm⟩ := List.getElem?_of_mem hm
            have := HAC.out m _ hm
            omega)
        clear hW1 hF1 hx hal hd hrn
        go_wp2_with (first | (go_at_call 90; with_reducible refine (HIR.out _).mono ?_; rintro e w' ⟨rfl, hw⟩; have HW := Lib.hid hw; clear hw) | fail)
        go_roundg (s.size - (i + n))
        case measure => omega
        case rel => exact ⟨i + n, by omega, iter_fresh HW1.out HW.out, HF1.out.trans HW.out, HNN.out⟩
end Go.Proofs.YtapikjhfgcbifaaGreatDoor

/-
  Package clean: values.
-/
namespace Go.Proofs.YtapikjhfgcbifaaGreatDoor
set_option maxRecDepth 100000
set_option linter.unusedVariables false
set_option linter.unusedSimpArgs false
open Go.RowKit
/-! Plain words: what the document says of values. -/
def badC (c : UInt8) : Bool := [0, 10, 13].contains c
def blkC (c : UInt8) : Bool := [32, 9].contains c
def valB (l : List UInt8) : Bool := decide (l.length ≤ 4096) && (!Lib.containsAny l [0, 10, 13] && (Lib.trimS l [32, 9] == l))
theorem dw_same {p : UInt8 → Bool} {l : List UInt8} : l.dropWhile p = l ↔ ∀ x, l[0]? = some x → p x = false := by
  cases l with
  | nil => simp
  | cons a t =>
    rw [List.dropWhile_cons]
    constructor
    · intro h x hx
      simp at hx
      subst hx
      cases hp : p a
      · rfl
      · rw [if_pos hp] at h
        have h1 := congrArg List.length h
        have h2 := (List.dropWhile_suffix p (l := t)).length_le
        simp at h1
        omega
    · intro h
      have := h a rfl
      rw [if_neg (by simp [this])]
theorem dw_len {p : UInt8 → Bool} {l : List UInt8} (h : l.length ≤ (l.dropWhile p).length) : l.dropWhile p = l :=
  (List.dropWhile_suffix p (l := l)).eq_of_length (by have := (List.dropWhile_suffix p (l := l)).length_le; omega)
theorem trim_same {l : List UInt8} : Lib.trimS l [32, 9] = l ↔ ∀ (j : Nat) x, l[j]? = some x → (j = 0 ∨ j + 1 = l.length) → blkC x = false := by
  have hr : Lib.trimRightS l [32, 9] = l ↔ ∀ x, l.reverse[0]? = some x → blkC x = false := by
    unfold Lib.trimRightS
    constructor
    · intro h
      have h2 : l.reverse.dropWhile ([32, 9].contains ·) = l.reverse := by
        have := congrArg List.reverse h
        rwa [List.reverse_reverse] at this
      exact fun x hx => dw_same.1 h2 x hx
    · intro h
      rw [show l.reverse.dropWhile ([32, 9].contains ·) = l.reverse from dw_same.2 (fun x hx => h x hx), List.reverse_reverse]
  have hl : Lib.trimLeftS l [32, 9] = l ↔ ∀ x, l[0]? = some x → blkC x = false := dw_same
  have hlast : ∀ x, l.reverse[0]? = some x ↔ 0 < l.length ∧ l[l.length - 1]? = some x := fun x => by
    by_cases h0 : 0 < l.length
    · rw [List.getElem?_reverse (by omega)]
      simp [h0]
    · have : l = [] := List.length_eq_zero_iff.1 (by omega)
      subst this
      simp
  constructor
  · intro h
    have h1 : l.length ≤ (Lib.trimRightS l [32, 9]).length := by
      have := congrArg List.length h
      unfold Lib.trimS Lib.trimLeftS at this
      have h3 := (List.dropWhile_suffix ([32, 9].contains ·) (l := Lib.trimRightS l [32, 9])).length_le
      omega
    have h2 : Lib.trimRightS l [32, 9] = l := by
      unfold Lib.trimRightS at h1 ⊢
      rw [List.length_reverse] at h1
      rw [dw_len (by rw [List.length_reverse]; exact h1), List.reverse_reverse]
    have h4 : Lib.trimLeftS l [32, 9] = l := by
      unfold Lib.trimS at h
      rwa [h2] at h
    intro j x hx hj
    rcases hj with rfl | hj
    · exact hl.1 h4 x hx
    · exact hr.1 h2 x ((hlast x).2 ⟨by omega, by rw [← hj, Nat.add_sub_cancel]; exact hx⟩)
  · intro h
    unfold Lib.trimS
    rw [hr.2 (fun x hx => by
      obtain ⟨h0, h1⟩ := (hlast x).1 hx
      exact h _ x h1 (.inr (by omega))), hl.2 (fun x hx => h 0 x hx (.inl rfl))]
theorem any_no {l : List UInt8} : Lib.containsAny l [0, 10, 13] = false ↔ ∀ (j : Nat) x, l[j]? = some x → badC x = false := by
  unfold Lib.containsAny
  constructor
  · intro h j x hx
    cases hb : badC x with
    | false => rfl
    | true =>
      exfalso
      have hex : ∃ j, ∃ x, l[j]? = some x ∧ badC x = true := ⟨j, x, hx, hb⟩
      have : ∀ m : Nat, (∃ x, l[m]? = some x ∧ badC x = true) → ∃ m, Lib.NoAny l [0, 10, 13] m ∧ ∃ x, l[m]? = some x ∧ badC x = true := by
        intro m
        induction m using Nat.strongRecOn with
        | ind m ih =>
          intro hm
          by_cases hq : ∃ k, k < m ∧ ∃ x, l[k]? = some x ∧ badC x = true
          · obtain ⟨k, hk, h⟩ := hq
            exact ih k hk h
          · refine ⟨m, fun k b hk hb => ?_, hm⟩
            cases hc : badC b with
            | false => exact hc
            | true => exact absurd ⟨k, hk, b, hb, hc⟩ hq
      obtain ⟨m, hno, y, hy, hyb⟩ := this j ⟨x, hx, hb⟩
      have h1 := Lib.indexAny_hit hno hy hyb
      rw [h1] at h
      have := of_decide_eq_false h
      omega
  · intro h
    rw [Lib.indexAny_none (fun j b _ hb => h j b hb)]
    rfl
theorem valB_len {l : List UInt8} (h : 4096 < l.length) : valB l = false := by unfold valB; rw [decide_eq_false (by omega)]; rfl
theorem valB_bad {l : List UInt8} {j : Nat} {x : UInt8} (hx : l[j]? = some x) (hb : badC x = true) : valB l = false := by
  unfold valB
  have : Lib.containsAny l [0, 10, 13] = true := by
    cases h : Lib.containsAny l [0, 10, 13] with
    | true => rfl
    | false => rw [any_no.1 h j x hx] at hb; cases hb
  rw [this]
  simp
theorem valB_edge {l : List UInt8} {j : Nat} {x : UInt8} (hx : l[j]? = some x) (hj : j = 0 ∨ j + 1 = l.length) (hb : blkC x = true) : valB l = false := by
  unfold valB
  have : (Lib.trimS l [32, 9] == l) = false := by
    rw [beq_eq_false_iff_ne]
    intro h
    rw [trim_same.1 h j x hx hj] at hb
    cases hb
  rw [this]
  simp
theorem valB_all {l : List UInt8} (h0 : l.length ≤ 4096) (h : ∀ (j : Nat) x, l[j]? = some x → badC x = false ∧ ((j = 0 ∨ j + 1 = l.length) → blkC x = false)) : valB l = true := by
  unfold valB
  rw [decide_eq_true h0, any_no.2 (fun j x hx => (h j x hx).1), beq_iff_eq.2 (trim_same.2 (fun j x hx hj => (h j x hx).2 hj))]
  rfl
theorem ends_ascii : ∀ (j : Nat) b, (⟨#[0, 10, 13]⟩ : ByteArray).data.toList[j]? = some b → b.toNat < 128 := ascii_of_all (by decide)
theorem set116 : (Tryz.prog.info? (lays150_ren.t 116)).map (fun i => (i.zero, i.size)) = some (some (.agg (Array.replicate 256 (.bool false))), 256) := by kernel_rfl
theorem ia_any (s : ByteArray) (w : World) (hs : s.size ≤ 1000000) :
    Calls Tryz.prog 68 #[.string s, .string ⟨#[0, 10, 13]⟩] w fun e w' => e = .returned (.int .i64 (Lib.indexAny s.data.toList [0, 10, 13])) ∧ Fresh w w' := by
  by_cases h8 : s.size ≤ 8
  · exact ia_short s ⟨#[0, 10, 13]⟩ w (by decide) h8 ends_ascii
  · have h : Calls Tryz.prog 68 #[.string s, .string ⟨#[0, 10, 13]⟩] w _ := Any.strings_IndexAny_long { lays150 with } (zero_of_info set116).1 (zero_of_info set116).2 s ⟨#[0, 10, 13]⟩ w (by decide) (by omega) (by omega) (by decide) ends_ascii
    refine h.mono ?_
    rintro e w' ⟨rfl, hw⟩
    subst hw
    exact ⟨rfl, (Fresh.alloc _ _).trans (Fresh.alloc _ _)⟩
theorem ca_any (s : ByteArray) (w : World) (hs : s.size ≤ 1000000) (r : Bool) (hr : Lib.containsAny s.data.toList [0, 10, 13] = r) :
    Calls Tryz.prog 52 #[.string s, .string ⟨#[0, 10, 13]⟩] w fun e w' => e = .returned (.bool r) ∧ Fresh w w' := by
  have HI := Lib.hid (fun w => ia_any s w hs)
  unfold Lib.containsAny at hr
  generalize Lib.indexAny s.data.toList [0, 10, 13] = q at *
  go_enter Tryz.func52, Tryz.ntmps52
  go_wp2_with fail
  with_reducible refine (HI.out _).mono ?_
  rintro e w1 ⟨rfl, hf⟩
  go_wp2_with fail
  go_ret
  exact ⟨by rw [← hr]; rfl, hf⟩
theorem blanks_ascii : ∀ (j : Nat) b, (⟨#[32, 9]⟩ : ByteArray).data.toList[j]? = some b → b.toNat < 128 := ascii_of_all (by decide)
theorem tr_any (s : ByteArray) (w : World) (hs : s.size ≤ 1000000) (r : Bool) (hr : (Lib.trimS s.data.toList [32, 9] == s.data.toList) = r) :
    Calls Tryz.prog 53 #[.string s, .string ⟨#[32, 9]⟩] w fun e w' => ∃ T : ByteArray, e = .returned (.string T) ∧ (T.toList == s.toList) = r ∧ Fresh w w' := by
  have h : Calls Tryz.prog 53 #[.string s, .string ⟨#[32, 9]⟩] w _ := Any.strings_Trim_laid lays160 (by kernel_rfl) s ⟨#[32, 9]⟩ w (by omega) (by decide) blanks_ascii
  refine h.mono ?_
  rintro e w' ⟨rfl, hf⟩
  refine ⟨_, rfl, ?_, hf⟩
  rw [← hr, ByteArray.toList_mk, Lib.toList_data]
set_option maxHeartbeats 3200000 in
theorem cl_value (s : ByteArray) (w : World) (hs : s.size ≤ 1000000) :
    Calls Tryz.prog 38 #[.string s] w fun e w' => e = .returned (.bool (valB s.data.toList)) ∧ Fresh w w' := by
  obtain ⟨r, hr⟩ : ∃ r, valB s.data.toList = r := ⟨_, rfl⟩
  rw [hr]
  unfold valB at hr
  rw [← Lib.size_eq] at hr
  obtain ⟨q, hq⟩ : ∃ q, Lib.containsAny s.data.toList [0, 10, 13] = q := ⟨_, rfl⟩
  obtain ⟨u, hu⟩ : ∃ u, (Lib.trimS s.data.toList [32, 9] == s.data.toList) = u := ⟨_, rfl⟩
  rw [hq, hu] at hr
  have HC := Lib.hid (fun w => ca_any s w hs q hq)
  have HT := Lib.hid (fun w => tr_any s w hs u hu)
  clear hq hu
  by_cases h0 : s.size ≤ 4096
  · rw [decide_eq_true h0, Bool.true_and] at hr
    have d0 : (s.size : Int) ≤ 4096 := by omega
    clear h0
    cases q
    · simp only [Bool.not_false, Bool.true_and] at hr
      subst hr
      go_enter Tryz.func38, Tryz.ntmps38
      go_wp2_with (first | (go_at_call 52; with_reducible refine (HC.out _).mono ?_; rintro e w1 ⟨rfl, hf1⟩; have HF1 := Lib.hid hf1; clear hf1) | (go_at_call 53; with_reducible refine (HT.out _).mono ?_; rintro e w2 ⟨T, rfl, hT, hf2⟩; have HF2 := Lib.hid hf2; clear hf2) | fail)
      go_ret
      exact ⟨by rw [← hT]; rfl, HF1.out.trans HF2.out⟩
    · simp only [Bool.not_true, Bool.false_and] at hr
      subst hr
      go_enter Tryz.func38, Tryz.ntmps38
      go_wp2_with (first | (go_at_call 52; with_reducible refine (HC.out _).mono ?_; rintro e w1 ⟨rfl, hf1⟩; have HF1 := Lib.hid hf1; clear hf1) | fail)
      go_ret
      exact ⟨rfl, HF1.out⟩
  · rw [decide_eq_false h0, Bool.false_and] at hr
    subst hr
    have d0 : decide ((s.size : Int) ≤ 4096) = false := decide_eq_false (by omega)
    clear h0
    go_enter Tryz.func38, Tryz.ntmps38
    go_wp2
    go_ret
    exact ⟨rfl, Fresh.refl _⟩
end Go.Proofs.YtapikjhfgcbifaaGreatDoor

/-
  Package clean: the document's Value.
-/
namespace Go.Proofs.YtapikjhfgcbifaaGreatDoor
set_option maxRecDepth 100000
set_option linter.unusedVariables false
set_option linter.unusedSimpArgs false
open Go.RowKit
def okV (l : List UInt8) (j : Nat) (x : UInt8) : Prop := badC x = false ∧ ((j = 0 ∨ j + 1 = l.length) → blkC x = false)
theorem okV_succ {l : List UInt8} {k : Nat} {x : UInt8} (h : ∀ (j : Nat) y, j < k → l[j]? = some y → okV l j y) (hk : l[k]? = some x) (hx : okV l k x) : ∀ (j : Nat) y, j < k + 1 → l[j]? = some y → okV l j y := by
  intro j y hj hy
  by_cases e : j = k
  · subst e
    rw [hk] at hy
    cases hy
    exact hx
  · exact h j y (by omega) hy
theorem badC_eq (x : UInt8) : badC x = (decide (x.toNat = 0) || decide (x.toNat = 10) || decide (x.toNat = 13)) := by
  have h : ∀ n : Fin 256, badC n.val.toUInt8 = (decide (n.val = 0) || decide (n.val = 10) || decide (n.val = 13)) := by decide +kernel
  simpa using h ⟨x.toNat, x.toNat_lt⟩
theorem blkC_eq (x : UInt8) : blkC x = (decide (x.toNat = 32) || decide (x.toNat = 9)) := by
  have h : ∀ n : Fin 256, blkC n.val.toUInt8 = (decide (n.val = 32) || decide (n.val = 9)) := by decide +kernel
  simpa using h ⟨x.toNat, x.toNat_lt⟩
theorem byte_is {x : UInt8} {n : Nat} {b : Bool} (h : decide (x.toNat = n) = b) : ((x.toNat : Int) == (n : Int)) = b := by
  rw [← h]
  by_cases e : x.toNat = n
  · rw [decide_eq_true e, e]; simp
  · rw [decide_eq_false e, beq_eq_false_iff_ne]
    omega
end Go.Proofs.YtapikjhfgcbifaaGreatDoor

