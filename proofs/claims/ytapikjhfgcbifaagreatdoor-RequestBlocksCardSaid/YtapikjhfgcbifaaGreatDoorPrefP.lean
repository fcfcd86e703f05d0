/-
  Texts laid together: Prefix PrefixD PrefixL.
-/
import Derived.Test.YtapikjhfgcbifaaGreatDoorPrefixM
import Derived.Test.YtapikjhfgcbifaaGreatDoorOwn
/-
  Contracts of package prefix: Encode, Len.
-/
namespace Go.Proofs.YtapikjhfgcbifaaGreatDoor
set_option linter.unusedVariables false
open Go.RowKit

theorem pu8_info : (Tryz.prog.info? 5).map (fun i => (i.zero, i.size, i.bytes)) = some (some (.int .u8 0), 1, 1) := by kernel_rfl

theorem or_i64 (a b p : Nat) (hb : b < 2 ^ p) (hp : p ≤ 8) (ha : a < 1048576) : bits .or .i64 ((a : Int) * ((2 ^ p : Nat) : Int)) (b : Int) = ((a * 2 ^ p + b : Nat) : Int) := by
  have h256 : 2 ^ p ≤ 256 := by have : 2 ^ p ≤ 2 ^ 8 := Nat.pow_le_pow_right (by omega) hp; omega
  have hm : a * 2 ^ p < 1048576 * 256 := Nat.lt_of_lt_of_le (Nat.mul_lt_mul_of_pos_right ha (Nat.pow_pos (by omega))) (Nat.mul_le_mul_left _ h256)
  show IntKind.i64.wrap ((BitVec.ofInt 64 ((a : Int) * ((2 ^ p : Nat) : Int)) ||| BitVec.ofInt 64 (b : Int)).toNat : Int) = _
  rw [← Int.natCast_mul, BitVec.ofInt_natCast, BitVec.ofInt_natCast, BitVec.toNat_or, BitVec.toNat_ofNat, BitVec.toNat_ofNat, Nat.mod_eq_of_lt (by omega), Nat.mod_eq_of_lt (by omega)]
  have e3 : a * 2 ^ p ||| b = a * 2 ^ p + b := by
    have := Nat.shiftLeft_add_eq_or_of_lt hb a
    rw [Nat.shiftLeft_eq] at this
    exact this.symm
  rw [e3]
  exact IntWalk.i64_in _ (by omega)
theorem and127 (r : Nat) (hr : r < 9223372036854775808) : bits .and .i64 (r : Int) 127 = ((r % 128 : Nat) : Int) := by
  show IntKind.i64.wrap ((BitVec.ofInt 64 (r : Int) &&& BitVec.ofInt 64 ((127 : Nat) : Int)).toNat : Int) = _
  rw [BitVec.ofInt_natCast, BitVec.ofInt_natCast, BitVec.toNat_and, BitVec.toNat_ofNat, BitVec.toNat_ofNat, Nat.mod_eq_of_lt (by omega), Nat.mod_eq_of_lt (by omega)]
  rw [show (127 : Nat) = 2 ^ 7 - 1 from rfl, Nat.and_two_pow_sub_one_eq_mod]
  exact IntWalk.i64_in _ (by omega)
theorem or128 (r : Nat) (hr : r < 128) : bits .or .i64 128 (r : Int) = ((128 + r : Nat) : Int) := by
  have := or_i64 1 r 7 hr (by omega) (by omega)
  rw [show ((1 : Nat) : Int) * ((2 ^ 7 : Nat) : Int) = 128 from rfl] at this
  rw [this]

def EncPost (l : List UInt8) (w : World) (e : Ending) (w' : World) : Prop :=
  ∃ A c, e = .returned (.tuple #[.slice A l.length c, .int .i64 0]) ∧ Own w' w.heap.size 5 1 (.slice A l.length c) l.length (l.map byteV) ∧ Fresh w w'

def EncRel (w : World) (l : List UInt8) (y v : Value) (wr : World) : Prop :=
  ∃ (r f : Nat) (xs : List UInt8), y = .int .i64 r ∧ f ≤ 5 ∧ xs.length + f = 6 ∧ r < 128 ^ f ∧ xs ++ tailF f r = l ∧ Own wr w.heap.size 5 1 v xs.length (xs.map byteV) ∧ Below w.heap.size w wr

set_option maxRecDepth 100000 in
set_option maxHeartbeats 3200000 in
theorem enc_1 (n m : Nat) (w : World) (hn : n ≤ 2147483647) (hm : m < 128) :
    Calls Tryz.prog 56 #[.int .i64 n, .int .i64 1, .int .i64 m] w (EncPost (encL n 1 m) w) := by
  by_cases h : n < 1
  · have hl : encL n 1 m = [UInt8.ofNat (m * 2 + n)] := by unfold encL; rw [if_pos (by omega)]
    have hor := or_i64 m n 1 (by omega) (by omega) (by omega)
    rw [show ((2 ^ 1 : Nat) : Int) = 2 from rfl] at hor
    have h8 : ((m * 2 ^ 1 + n : Nat) : Int) % 256 = ((UInt8.ofNat (m * 2 + n)).toNat : Int) := by simp
    rw [hl]
    clear hl
    generalize UInt8.ofNat (m * 2 + n) = c at *
    generalize m * 2 ^ 1 + n = q at *
    go_enter Tryz.func56, Tryz.ntmps56
    go_wp2
    go_ret2
    exact ⟨_, _, rfl, Own.lit (cs := #[byteV c]) (Nat.le_refl _) (by simp [maxLen]) rfl, Fresh.alloc _ _⟩
  · have hl : encL n 1 m = UInt8.ofNat (m * 2 + 1) :: tailF 5 (n - 1) := by unfold encL; rw [if_neg (by omega)]
    have hor := or_i64 m 1 1 (by omega) (by omega) (by omega)
    rw [show ((2 ^ 1 : Nat) : Int) = 2 from rfl, show ((1 : Nat) : Int) = 1 from rfl] at hor
    have h8 : ((m * 2 ^ 1 + 1 : Nat) : Int) % 256 = ((UInt8.ofNat (m * 2 + 1)).toNat : Int) := by simp
    have HL := Lib.hid hl
    generalize encL n 1 m = L at *
    clear hl
    generalize UInt8.ofNat (m * 2 + 1) = c at *
    generalize m * 2 ^ 1 + 1 = q at *
    go_enter Tryz.func56, Tryz.ntmps56
    go_wp2
    go_loopw [0, 9] (fun y v wr => EncRel w L y v wr) (fun y _ _ => (intOf y).toNat)
    case atStart =>
      have hsub : (n : Int) - 1 = ((n - 1 : Nat) : Int) := by omega
      exact ⟨n - 1, 5, [c], by rw [hsub], by omega, by simp, by simp; omega, by rw [HL.out]; rfl, Own.lit (cs := #[byteV c]) (Nat.le_refl _) (by simp [maxLen]) rfl, (Below.refl _ _).alloc (Nat.le_refl _) _⟩
    case round =>
      obtain ⟨r, f, xs, rfl, hf5, hxf, hrf, hxl, ho, hb⟩ := hrel
      obtain ⟨A, cc, rfl, _, _, _⟩ := ho.slice
      have hr34 : r < 34359738368 := Nat.lt_of_lt_of_le hrf (Nat.le_trans (Nat.pow_le_pow_right (by omega) hf5) (by decide))
      by_cases hr : 127 < r
      · have hr1 : (127 : Int) < r := by omega
        have hb8 : bits .or .i64 128 (bits .and .i64 (r : Int) 127) % 256 = ((UInt8.ofNat (128 + r % 128)).toNat : Int) := by
          rw [and127 r (by omega), or128 _ (by omega)]; simp
        obtain ⟨v', w', hap, ho', hb', hne, _⟩ := ho.push (P := Tryz.prog) Tryz.underlying23 pu8_info rfl (by omega) 23 hb (Nat.le_refl _) #[byteV (UInt8.ofNat (128 + r % 128))] rfl (by intro u hu; simp at hu; subst hu; rfl) (by unfold maxLen; omega) (by omega)
        have HREL : Hid (∀ q : Nat, q = r / 128 → EncRel w L (.int .i64 q) v' w') := fun q hq => by
          subst hq
          obtain ⟨g, rfl⟩ : ∃ g, f = g + 1 := ⟨f - 1, by
            have : f ≠ 0 := by intro e; subst e; simp at hrf; omega
            omega⟩
          refine ⟨r / 128, g, xs ++ [UInt8.ofNat (128 + r % 128)], rfl, by omega, by simp; omega, by rw [Nat.pow_succ] at hrf; omega, ?_, ?_, hb'⟩
          · rw [← hxl, tailF, if_pos (by omega)]; simp
          · simpa using ho'
        unfold byteV at hap
        generalize UInt8.ofNat (128 + r % 128) = c2 at *
        clear hb hne ho' hb' ho hxl hrf hxf
        go_wp2_with (at_builtin; refine wp_app rfl _ _ _ rfl hap rfl rfl rfl ?_)
        go_roundw
        case rel => rw [show (r : Int) / 128 = ((r / 128 : Nat) : Int) by omega]; first | exact HREL.out _ rfl | ((repeat apply Exists.intro); refine ⟨HREL.out _ rfl, ?_⟩; first | rfl | (rw [h8]; rfl))
        case measure => simp [intOf]; omega
      · have hr1 : (r : Int) ≤ 127 := by omega
        have hb8 : (r : Int) % 256 = ((UInt8.ofNat r).toNat : Int) := by simp
        obtain ⟨v', w', hap, ho', hb', hne, _⟩ := ho.push (P := Tryz.prog) Tryz.underlying23 pu8_info rfl (by omega) 23 hb (Nat.le_refl _) #[byteV (UInt8.ofNat r)] rfl (by intro u hu; simp at hu; subst hu; rfl) (by unfold maxLen; omega) (by omega)
        have hend : L = xs ++ [UInt8.ofNat r] := by
          rw [← hxl]
          cases f with
          | zero => rfl
          | succ f => rw [tailF, if_neg (by omega)]
        have HE := Lib.hid hend
        clear hend hxl
        have HLEN : Hid (L.length = xs.length + 1) := by show _ = _; rw [HE.out]; simp
        have HO : Hid (Own w' w.heap.size 5 1 v' L.length (L.map byteV)) := by
          show Own _ _ _ _ _ _ _
          rw [HLEN.out, HE.out]; simpa using ho'
        have HB := Lib.hid hb'
        have hbv : byteV (UInt8.ofNat r) = .int .u8 (r : Int) := by unfold byteV; congr 1; simp; omega
        rw [hbv] at hap
        clear hb8 hbv
        generalize UInt8.ofNat r = c2 at *
        clear hb hne ho' hb' ho hrf hxf
        obtain ⟨A', c', rfl, _, _, _⟩ := HO.out.slice
        go_wp2_with (at_builtin; refine wp_app rfl _ _ _ rfl hap rfl rfl rfl ?_)
        go_ret2
        exact ⟨_, _, rfl, HO.out, HB.out⟩
set_option maxRecDepth 100000 in
set_option maxHeartbeats 3200000 in
theorem enc_2 (n m : Nat) (w : World) (hn : n ≤ 2147483647) (hm : m < 64) :
    Calls Tryz.prog 56 #[.int .i64 n, .int .i64 2, .int .i64 m] w (EncPost (encL n 2 m) w) := by
  by_cases h : n < 3
  · have hl : encL n 2 m = [UInt8.ofNat (m * 4 + n)] := by unfold encL; rw [if_pos (by omega)]
    have hor := or_i64 m n 2 (by omega) (by omega) (by omega)
    rw [show ((2 ^ 2 : Nat) : Int) = 4 from rfl] at hor
    have h8 : ((m * 2 ^ 2 + n : Nat) : Int) % 256 = ((UInt8.ofNat (m * 4 + n)).toNat : Int) := by simp
    rw [hl]
    clear hl
    generalize UInt8.ofNat (m * 4 + n) = c at *
    generalize m * 2 ^ 2 + n = q at *
    go_enter Tryz.func56, Tryz.ntmps56
    go_wp2
    go_ret2
    exact ⟨_, _, rfl, Own.lit (cs := #[byteV c]) (Nat.le_refl _) (by simp [maxLen]) rfl, Fresh.alloc _ _⟩
  · have hl : encL n 2 m = UInt8.ofNat (m * 4 + 3) :: tailF 5 (n - 3) := by unfold encL; rw [if_neg (by omega)]
    have hor := or_i64 m 3 2 (by omega) (by omega) (by omega)
    rw [show ((2 ^ 2 : Nat) : Int) = 4 from rfl, show ((3 : Nat) : Int) = 3 from rfl] at hor
    have h8 : ((m * 2 ^ 2 + 3 : Nat) : Int) % 256 = ((UInt8.ofNat (m * 4 + 3)).toNat : Int) := by simp
    have HL := Lib.hid hl
    generalize encL n 2 m = L at *
    clear hl
    generalize UInt8.ofNat (m * 4 + 3) = c at *
    generalize m * 2 ^ 2 + 3 = q at *
    go_enter Tryz.func56, Tryz.ntmps56
    go_wp2
    go_loopw [0, 9] (fun y v wr => EncRel w L y v wr) (fun y _ _ => (intOf y).toNat)
    case atStart =>
      have hsub : (n : Int) - 3 = ((n - 3 : Nat) : Int) := by omega
      exact ⟨n - 3, 5, [c], by rw [hsub], by omega, by simp, by simp; omega, by rw [HL.out]; rfl, Own.lit (cs := #[byteV c]) (Nat.le_refl _) (by simp [maxLen]) rfl, (Below.refl _ _).alloc (Nat.le_refl _) _⟩
    case round =>
      obtain ⟨r, f, xs, rfl, hf5, hxf, hrf, hxl, ho, hb⟩ := hrel
      obtain ⟨A, cc, rfl, _, _, _⟩ := ho.slice
      have hr34 : r < 34359738368 := Nat.lt_of_lt_of_le hrf (Nat.le_trans (Nat.pow_le_pow_right (by omega) hf5) (by decide))
      by_cases hr : 127 < r
      · have hr1 : (127 : Int) < r := by omega
        have hb8 : bits .or .i64 128 (bits .and .i64 (r : Int) 127) % 256 = ((UInt8.ofNat (128 + r % 128)).toNat : Int) := by
          rw [and127 r (by omega), or128 _ (by omega)]; simp
        obtain ⟨v', w', hap, ho', hb', hne, _⟩ := ho.push (P := Tryz.prog) Tryz.underlying23 pu8_info rfl (by omega) 23 hb (Nat.le_refl _) #[byteV (UInt8.ofNat (128 + r % 128))] rfl (by intro u hu; simp at hu; subst hu; rfl) (by unfold maxLen; omega) (by omega)
        have HREL : Hid (∀ q : Nat, q = r / 128 → EncRel w L (.int .i64 q) v' w') := fun q hq => by
          subst hq
          obtain ⟨g, rfl⟩ : ∃ g, f = g + 1 := ⟨f - 1, by
            have : f ≠ 0 := by intro e; subst e; simp at hrf; omega
            omega⟩
          refine ⟨r / 128, g, xs ++ [UInt8.ofNat (128 + r % 128)], rfl, by omega, by simp; omega, by rw [Nat.pow_succ] at hrf; omega, ?_, ?_, hb'⟩
          · rw [← hxl, tailF, if_pos (by omega)]; simp
          · simpa using ho'
        unfold byteV at hap
        generalize UInt8.ofNat (128 + r % 128) = c2 at *
        clear hb hne ho' hb' ho hxl hrf hxf
        go_wp2_with (at_builtin; refine wp_app rfl _ _ _ rfl hap rfl rfl rfl ?_)
        go_roundw
        case rel => rw [show (r : Int) / 128 = ((r / 128 : Nat) : Int) by omega]; first | exact HREL.out _ rfl | ((repeat apply Exists.intro); refine ⟨HREL.out _ rfl, ?_⟩; first | rfl | (rw [h8]; rfl))
        case measure => simp [intOf]; omega
      · have hr1 : (r : Int) ≤ 127 := by omega
        have hb8 : (r : Int) % 256 = ((UInt8.ofNat r).toNat : Int) := by simp
        obtain ⟨v', w', hap, ho', hb', hne, _⟩ := ho.push (P := Tryz.prog) Tryz.underlying23 pu8_info rfl (by omega) 23 hb (Nat.le_refl _) #[byteV (UInt8.ofNat r)] rfl (by intro u hu; simp at hu; subst hu; rfl) (by unfold maxLen; omega) (by omega)
        have hend : L = xs ++ [UInt8.ofNat r] := by
          rw [← hxl]
          cases f with
          | zero => rfl
          | succ f => rw [tailF, if_neg (by omega)]
        have HE := Lib.hid hend
        clear hend hxl
        have HLEN : Hid (L.length = xs.length + 1) := by show _ = _; rw [HE.out]; simp
        have HO : Hid (Own w' w.heap.size 5 1 v' L.length (L.map byteV)) := by
          show Own _ _ _ _ _ _ _
          rw [HLEN.out, HE.out]; simpa using ho'
        have HB := Lib.hid hb'
        have hbv : byteV (UInt8.ofNat r) = .int .u8 (r : Int) := by unfold byteV; congr 1; simp; omega
        rw [hbv] at hap
        clear hb8 hbv
        generalize UInt8.ofNat r = c2 at *
        clear hb hne ho' hb' ho hrf hxf
        obtain ⟨A', c', rfl, _, _, _⟩ := HO.out.slice
        go_wp2_with (at_builtin; refine wp_app rfl _ _ _ rfl hap rfl rfl rfl ?_)
        go_ret2
        exact ⟨_, _, rfl, HO.out, HB.out⟩
set_option maxRecDepth 100000 in
set_option maxHeartbeats 3200000 in
theorem enc_3 (n m : Nat) (w : World) (hn : n ≤ 2147483647) (hm : m < 32) :
    Calls Tryz.prog 56 #[.int .i64 n, .int .i64 3, .int .i64 m] w (EncPost (encL n 3 m) w) := by
  by_cases h : n < 7
  · have hl : encL n 3 m = [UInt8.ofNat (m * 8 + n)] := by unfold encL; rw [if_pos (by omega)]
    have hor := or_i64 m n 3 (by omega) (by omega) (by omega)
    rw [show ((2 ^ 3 : Nat) : Int) = 8 from rfl] at hor
    have h8 : ((m * 2 ^ 3 + n : Nat) : Int) % 256 = ((UInt8.ofNat (m * 8 + n)).toNat : Int) := by simp
    rw [hl]
    clear hl
    generalize UInt8.ofNat (m * 8 + n) = c at *
    generalize m * 2 ^ 3 + n = q at *
    go_enter Tryz.func56, Tryz.ntmps56
    go_wp2
    go_ret2
    exact ⟨_, _, rfl, Own.lit (cs := #[byteV c]) (Nat.le_refl _) (by simp [maxLen]) rfl, Fresh.alloc _ _⟩
  · have hl : encL n 3 m = UInt8.ofNat (m * 8 + 7) :: tailF 5 (n - 7) := by unfold encL; rw [if_neg (by omega)]
    have hor := or_i64 m 7 3 (by omega) (by omega) (by omega)
    rw [show ((2 ^ 3 : Nat) : Int) = 8 from rfl, show ((7 : Nat) : Int) = 7 from rfl] at hor
    have h8 : ((m * 2 ^ 3 + 7 : Nat) : Int) % 256 = ((UInt8.ofNat (m * 8 + 7)).toNat : Int) := by simp
    have HL := Lib.hid hl
    generalize encL n 3 m = L at *
    clear hl
    generalize UInt8.ofNat (m * 8 + 7) = c at *
    generalize m * 2 ^ 3 + 7 = q at *
    go_enter Tryz.func56, Tryz.ntmps56
    go_wp2
    go_loopw [0, 9] (fun y v wr => EncRel w L y v wr) (fun y _ _ => (intOf y).toNat)
    case atStart =>
      have hsub : (n : Int) - 7 = ((n - 7 : Nat) : Int) := by omega
      exact ⟨n - 7, 5, [c], by rw [hsub], by omega, by simp, by simp; omega, by rw [HL.out]; rfl, Own.lit (cs := #[byteV c]) (Nat.le_refl _) (by simp [maxLen]) rfl, (Below.refl _ _).alloc (Nat.le_refl _) _⟩
    case round =>
      obtain ⟨r, f, xs, rfl, hf5, hxf, hrf, hxl, ho, hb⟩ := hrel
      obtain ⟨A, cc, rfl, _, _, _⟩ := ho.slice
      have hr34 : r < 34359738368 := Nat.lt_of_lt_of_le hrf (Nat.le_trans (Nat.pow_le_pow_right (by omega) hf5) (by decide))
      by_cases hr : 127 < r
      · have hr1 : (127 : Int) < r := by omega
        have hb8 : bits .or .i64 128 (bits .and .i64 (r : Int) 127) % 256 = ((UInt8.ofNat (128 + r % 128)).toNat : Int) := by
          rw [and127 r (by omega), or128 _ (by omega)]; simp
        obtain ⟨v', w', hap, ho', hb', hne, _⟩ := ho.push (P := Tryz.prog) Tryz.underlying23 pu8_info rfl (by omega) 23 hb (Nat.le_refl _) #[byteV (UInt8.ofNat (128 + r % 128))] rfl (by intro u hu; simp at hu; subst hu; rfl) (by unfold maxLen; omega) (by omega)
        have HREL : Hid (∀ q : Nat, q = r / 128 → EncRel w L (.int .i64 q) v' w') := fun q hq => by
          subst hq
          obtain ⟨g, rfl⟩ : ∃ g, f = g + 1 := ⟨f - 1, by
            have : f ≠ 0 := by intro e; subst e; simp at hrf; omega
            omega⟩
          refine ⟨r / 128, g, xs ++ [UInt8.ofNat (128 + r % 128)], rfl, by omega, by simp; omega, by rw [Nat.pow_succ] at hrf; omega, ?_, ?_, hb'⟩
          · rw [← hxl, tailF, if_pos (by omega)]; simp
          · simpa using ho'
        unfold byteV at hap
        generalize UInt8.ofNat (128 + r % 128) = c2 at *
        clear hb hne ho' hb' ho hxl hrf hxf
        go_wp2_with (at_builtin; refine wp_app rfl _ _ _ rfl hap rfl rfl rfl ?_)
        go_roundw
        case rel => rw [show (r : Int) / 128 = ((r / 128 : Nat) : Int) by omega]; first | exact HREL.out _ rfl | ((repeat apply Exists.intro); refine ⟨HREL.out _ rfl, ?_⟩; first | rfl | (rw [h8]; rfl))
        case measure => simp [intOf]; omega
      · have hr1 : (r : Int) ≤ 127 := by omega
        have hb8 : (r : Int) % 256 = ((UInt8.ofNat r).toNat : Int) := by simp
        obtain ⟨v', w', hap, ho', hb', hne, _⟩ := ho.push (P := Tryz.prog) Tryz.underlying23 pu8_info rfl (by omega) 23 hb (Nat.le_refl _) #[byteV (UInt8.ofNat r)] rfl (by intro u hu; simp at hu; subst hu; rfl) (by unfold maxLen; omega) (by omega)
        have hend : L = xs ++ [UInt8.ofNat r] := by
          rw [← hxl]
          cases f with
          | zero => rfl
          | succ f => rw [tailF, if_neg (by omega)]
        have HE := Lib.hid hend
        clear hend hxl
        have HLEN : Hid (L.length = xs.length + 1) := by show _ = _; rw [HE.out]; simp
        have HO : Hid (Own w' w.heap.size 5 1 v' L.length (L.map byteV)) := by
          show Own _ _ _ _ _ _ _
          rw [HLEN.out, HE.out]; simpa using ho'
        have HB := Lib.hid hb'
        have hbv : byteV (UInt8.ofNat r) = .int .u8 (r : Int) := by unfold byteV; congr 1; simp; omega
        rw [hbv] at hap
        clear hb8 hbv
        generalize UInt8.ofNat r = c2 at *
        clear hb hne ho' hb' ho hrf hxf
        obtain ⟨A', c', rfl, _, _, _⟩ := HO.out.slice
        go_wp2_with (at_builtin; refine wp_app rfl _ _ _ rfl hap rfl rfl rfl ?_)
        go_ret2
        exact ⟨_, _, rfl, HO.out, HB.out⟩
set_option maxRecDepth 100000 in
set_option maxHeartbeats 3200000 in
theorem enc_4 (n m : Nat) (w : World) (hn : n ≤ 2147483647) (hm : m < 16) :
    Calls Tryz.prog 56 #[.int .i64 n, .int .i64 4, .int .i64 m] w (EncPost (encL n 4 m) w) := by
  by_cases h : n < 15
  · have hl : encL n 4 m = [UInt8.ofNat (m * 16 + n)] := by unfold encL; rw [if_pos (by omega)]
    have hor := or_i64 m n 4 (by omega) (by omega) (by omega)
    rw [show ((2 ^ 4 : Nat) : Int) = 16 from rfl] at hor
    have h8 : ((m * 2 ^ 4 + n : Nat) : Int) % 256 = ((UInt8.ofNat (m * 16 + n)).toNat : Int) := by simp
    rw [hl]
    clear hl
    generalize UInt8.ofNat (m * 16 + n) = c at *
    generalize m * 2 ^ 4 + n = q at *
    go_enter Tryz.func56, Tryz.ntmps56
    go_wp2
    go_ret2
    exact ⟨_, _, rfl, Own.lit (cs := #[byteV c]) (Nat.le_refl _) (by simp [maxLen]) rfl, Fresh.alloc _ _⟩
  · have hl : encL n 4 m = UInt8.ofNat (m * 16 + 15) :: tailF 5 (n - 15) := by unfold encL; rw [if_neg (by omega)]
    have hor := or_i64 m 15 4 (by omega) (by omega) (by omega)
    rw [show ((2 ^ 4 : Nat) : Int) = 16 from rfl, show ((15 : Nat) : Int) = 15 from rfl] at hor
    have h8 : ((m * 2 ^ 4 + 15 : Nat) : Int) % 256 = ((UInt8.ofNat (m * 16 + 15)).toNat : Int) := by simp
    have HL := Lib.hid hl
    generalize encL n 4 m = L at *
    clear hl
    generalize UInt8.ofNat (m * 16 + 15) = c at *
    generalize m * 2 ^ 4 + 15 = q at *
    go_enter Tryz.func56, Tryz.ntmps56
    go_wp2
    go_loopw [0, 9] (fun y v wr => EncRel w L y v wr) (fun y _ _ => (intOf y).toNat)
    case atStart =>
      have hsub : (n : Int) - 15 = ((n - 15 : Nat) : Int) := by omega
      exact ⟨n - 15, 5, [c], by rw [hsub], by omega, by simp, by simp; omega, by rw [HL.out]; rfl, Own.lit (cs := #[byteV c]) (Nat.le_refl _) (by simp [maxLen]) rfl, (Below.refl _ _).alloc (Nat.le_refl _) _⟩
    case round =>
      obtain ⟨r, f, xs, rfl, hf5, hxf, hrf, hxl, ho, hb⟩ := hrel
      obtain ⟨A, cc, rfl, _, _, _⟩ := ho.slice
      have hr34 : r < 34359738368 := Nat.lt_of_lt_of_le hrf (Nat.le_trans (Nat.pow_le_pow_right (by omega) hf5) (by decide))
      by_cases hr : 127 < r
      · have hr1 : (127 : Int) < r := by omega
        have hb8 : bits .or .i64 128 (bits .and .i64 (r : Int) 127) % 256 = ((UInt8.ofNat (128 + r % 128)).toNat : Int) := by
          rw [and127 r (by omega), or128 _ (by omega)]; simp
        obtain ⟨v', w', hap, ho', hb', hne, _⟩ := ho.push (P := Tryz.prog) Tryz.underlying23 pu8_info rfl (by omega) 23 hb (Nat.le_refl _) #[byteV (UInt8.ofNat (128 + r % 128))] rfl (by intro u hu; simp at hu; subst hu; rfl) (by unfold maxLen; omega) (by omega)
        have HREL : Hid (∀ q : Nat, q = r / 128 → EncRel w L (.int .i64 q) v' w') := fun q hq => by
          subst hq
          obtain ⟨g, rfl⟩ : ∃ g, f = g + 1 := ⟨f - 1, by
            have : f ≠ 0 := by intro e; subst e; simp at hrf; omega
            omega⟩
          refine ⟨r / 128, g, xs ++ [UInt8.ofNat (128 + r % 128)], rfl, by omega, by simp; omega, by rw [Nat.pow_succ] at hrf; omega, ?_, ?_, hb'⟩
          · rw [← hxl, tailF, if_pos (by omega)]; simp
          · simpa using ho'
        unfold byteV at hap
        generalize UInt8.ofNat (128 + r % 128) = c2 at *
        clear hb hne ho' hb' ho hxl hrf hxf
        go_wp2_with (at_builtin; refine wp_app rfl _ _ _ rfl hap rfl rfl rfl ?_)
        go_roundw
        case rel => rw [show (r : Int) / 128 = ((r / 128 : Nat) : Int) by omega]; first | exact HREL.out _ rfl | ((repeat apply Exists.intro); refine ⟨HREL.out _ rfl, ?_⟩; first | rfl | (rw [h8]; rfl))
        case measure => simp [intOf]; omega
      · have hr1 : (r : Int) ≤ 127 := by omega
        have hb8 : (r : Int) % 256 = ((UInt8.ofNat r).toNat : Int) := by simp
        obtain ⟨v', w', hap, ho', hb', hne, _⟩ := ho.push (P := Tryz.prog) Tryz.underlying23 pu8_info rfl (by omega) 23 hb (Nat.le_refl _) #[byteV (UInt8.ofNat r)] rfl (by intro u hu; simp at hu; subst hu; rfl) (by unfold maxLen; omega) (by omega)
        have hend : L = xs ++ [UInt8.ofNat r] := by
          rw [← hxl]
          cases f with
          | zero => rfl
          | succ f => rw [tailF, if_neg (by omega)]
        have HE := Lib.hid hend
        clear hend hxl
        have HLEN : Hid (L.length = xs.length + 1) := by show _ = _; rw [HE.out]; simp
        have HO : Hid (Own w' w.heap.size 5 1 v' L.length (L.map byteV)) := by
          show Own _ _ _ _ _ _ _
          rw [HLEN.out, HE.out]; simpa using ho'
        have HB := Lib.hid hb'
        have hbv : byteV (UInt8.ofNat r) = .int .u8 (r : Int) := by unfold byteV; congr 1; simp; omega
        rw [hbv] at hap
        clear hb8 hbv
        generalize UInt8.ofNat r = c2 at *
        clear hb hne ho' hb' ho hrf hxf
        obtain ⟨A', c', rfl, _, _, _⟩ := HO.out.slice
        go_wp2_with (at_builtin; refine wp_app rfl _ _ _ rfl hap rfl rfl rfl ?_)
        go_ret2
        exact ⟨_, _, rfl, HO.out, HB.out⟩
set_option maxRecDepth 100000 in
set_option maxHeartbeats 3200000 in
theorem enc_5 (n m : Nat) (w : World) (hn : n ≤ 2147483647) (hm : m < 8) :
    Calls Tryz.prog 56 #[.int .i64 n, .int .i64 5, .int .i64 m] w (EncPost (encL n 5 m) w) := by
  by_cases h : n < 31
  · have hl : encL n 5 m = [UInt8.ofNat (m * 32 + n)] := by unfold encL; rw [if_pos (by omega)]
    have hor := or_i64 m n 5 (by omega) (by omega) (by omega)
    rw [show ((2 ^ 5 : Nat) : Int) = 32 from rfl] at hor
    have h8 : ((m * 2 ^ 5 + n : Nat) : Int) % 256 = ((UInt8.ofNat (m * 32 + n)).toNat : Int) := by simp
    rw [hl]
    clear hl
    generalize UInt8.ofNat (m * 32 + n) = c at *
    generalize m * 2 ^ 5 + n = q at *
    go_enter Tryz.func56, Tryz.ntmps56
    go_wp2
    go_ret2
    exact ⟨_, _, rfl, Own.lit (cs := #[byteV c]) (Nat.le_refl _) (by simp [maxLen]) rfl, Fresh.alloc _ _⟩
  · have hl : encL n 5 m = UInt8.ofNat (m * 32 + 31) :: tailF 5 (n - 31) := by unfold encL; rw [if_neg (by omega)]
    have hor := or_i64 m 31 5 (by omega) (by omega) (by omega)
    rw [show ((2 ^ 5 : Nat) : Int) = 32 from rfl, show ((31 : Nat) : Int) = 31 from rfl] at hor
    have h8 : ((m * 2 ^ 5 + 31 : Nat) : Int) % 256 = ((UInt8.ofNat (m * 32 + 31)).toNat : Int) := by simp
    have HL := Lib.hid hl
    generalize encL n 5 m = L at *
    clear hl
    generalize UInt8.ofNat (m * 32 + 31) = c at *
    generalize m * 2 ^ 5 + 31 = q at *
    go_enter Tryz.func56, Tryz.ntmps56
    go_wp2
    go_loopw [0, 9] (fun y v wr => EncRel w L y v wr) (fun y _ _ => (intOf y).toNat)
    case atStart =>
      have hsub : (n : Int) - 31 = ((n - 31 : Nat) : Int) := by omega
      exact ⟨n - 31, 5, [c], by rw [hsub], by omega, by simp, by simp; omega, by rw [HL.out]; rfl, Own.lit (cs := #[byteV c]) (Nat.le_refl _) (by simp [maxLen]) rfl, (Below.refl _ _).alloc (Nat.le_refl _) _⟩
    case round =>
      obtain ⟨r, f, xs, rfl, hf5, hxf, hrf, hxl, ho, hb⟩ := hrel
      obtain ⟨A, cc, rfl, _, _, _⟩ := ho.slice
      have hr34 : r < 34359738368 := Nat.lt_of_lt_of_le hrf (Nat.le_trans (Nat.pow_le_pow_right (by omega) hf5) (by decide))
      by_cases hr : 127 < r
      · have hr1 : (127 : Int) < r := by omega
        have hb8 : bits .or .i64 128 (bits .and .i64 (r : Int) 127) % 256 = ((UInt8.ofNat (128 + r % 128)).toNat : Int) := by
          rw [and127 r (by omega), or128 _ (by omega)]; simp
        obtain ⟨v', w', hap, ho', hb', hne, _⟩ := ho.push (P := Tryz.prog) Tryz.underlying23 pu8_info rfl (by omega) 23 hb (Nat.le_refl _) #[byteV (UInt8.ofNat (128 + r % 128))] rfl (by intro u hu; simp at hu; subst hu; rfl) (by unfold maxLen; omega) (by omega)
        have HREL : Hid (∀ q : Nat, q = r / 128 → EncRel w L (.int .i64 q) v' w') := fun q hq => by
          subst hq
          obtain ⟨g, rfl⟩ : ∃ g, f = g + 1 := ⟨f - 1, by
            have : f ≠ 0 := by intro e; subst e; simp at hrf; omega
            omega⟩
          refine ⟨r / 128, g, xs ++ [UInt8.ofNat (128 + r % 128)], rfl, by omega, by simp; omega, by rw [Nat.pow_succ] at hrf; omega, ?_, ?_, hb'⟩
          · rw [← hxl, tailF, if_pos (by omega)]; simp
          · simpa using ho'
        unfold byteV at hap
        generalize UInt8.ofNat (128 + r % 128) = c2 at *
        clear hb hne ho' hb' ho hxl hrf hxf
        go_wp2_with (at_builtin; refine wp_app rfl _ _ _ rfl hap rfl rfl rfl ?_)
        go_roundw
        case rel => rw [show (r : Int) / 128 = ((r / 128 : Nat) : Int) by omega]; first | exact HREL.out _ rfl | ((repeat apply Exists.intro); refine ⟨HREL.out _ rfl, ?_⟩; first | rfl | (rw [h8]; rfl))
        case measure => simp [intOf]; omega
      · have hr1 : (r : Int) ≤ 127 := by omega
        have hb8 : (r : Int) % 256 = ((UInt8.ofNat r).toNat : Int) := by simp
        obtain ⟨v', w', hap, ho', hb', hne, _⟩ := ho.push (P := Tryz.prog) Tryz.underlying23 pu8_info rfl (by omega) 23 hb (Nat.le_refl _) #[byteV (UInt8.ofNat r)] rfl (by intro u hu; simp at hu; subst hu; rfl) (by unfold maxLen; omega) (by omega)
        have hend : L = xs ++ [UInt8.ofNat r] := by
          rw [← hxl]
          cases f with
          | zero => rfl
          | succ f => rw [tailF, if_neg (by omega)]
        have HE := Lib.hid hend
        clear hend hxl
        have HLEN : Hid (L.length = xs.length + 1) := by show _ = _; rw [HE.out]; simp
        have HO : Hid (Own w' w.heap.size 5 1 v' L.length (L.map byteV)) := by
          show Own _ _ _ _ _ _ _
          rw [HLEN.out, HE.out]; simpa using ho'
        have HB := Lib.hid hb'
        have hbv : byteV (UInt8.ofNat r) = .int .u8 (r : Int) := by unfold byteV; congr 1; simp; omega
        rw [hbv] at hap
        clear hb8 hbv
        generalize UInt8.ofNat r = c2 at *
        clear hb hne ho' hb' ho hrf hxf
        obtain ⟨A', c', rfl, _, _, _⟩ := HO.out.slice
        go_wp2_with (at_builtin; refine wp_app rfl _ _ _ rfl hap rfl rfl rfl ?_)
        go_ret2
        exact ⟨_, _, rfl, HO.out, HB.out⟩
set_option maxRecDepth 100000 in
set_option maxHeartbeats 3200000 in
theorem enc_6 (n m : Nat) (w : World) (hn : n ≤ 2147483647) (hm : m < 4) :
    Calls Tryz.prog 56 #[.int .i64 n, .int .i64 6, .int .i64 m] w (EncPost (encL n 6 m) w) := by
  by_cases h : n < 63
  · have hl : encL n 6 m = [UInt8.ofNat (m * 64 + n)] := by unfold encL; rw [if_pos (by omega)]
    have hor := or_i64 m n 6 (by omega) (by omega) (by omega)
    rw [show ((2 ^ 6 : Nat) : Int) = 64 from rfl] at hor
    have h8 : ((m * 2 ^ 6 + n : Nat) : Int) % 256 = ((UInt8.ofNat (m * 64 + n)).toNat : Int) := by simp
    rw [hl]
    clear hl
    generalize UInt8.ofNat (m * 64 + n) = c at *
    generalize m * 2 ^ 6 + n = q at *
    go_enter Tryz.func56, Tryz.ntmps56
    go_wp2
    go_ret2
    exact ⟨_, _, rfl, Own.lit (cs := #[byteV c]) (Nat.le_refl _) (by simp [maxLen]) rfl, Fresh.alloc _ _⟩
  · have hl : encL n 6 m = UInt8.ofNat (m * 64 + 63) :: tailF 5 (n - 63) := by unfold encL; rw [if_neg (by omega)]
    have hor := or_i64 m 63 6 (by omega) (by omega) (by omega)
    rw [show ((2 ^ 6 : Nat) : Int) = 64 from rfl, show ((63 : Nat) : Int) = 63 from rfl] at hor
    have h8 : ((m * 2 ^ 6 + 63 : Nat) : Int) % 256 = ((UInt8.ofNat (m * 64 + 63)).toNat : Int) := by simp
    have HL := Lib.hid hl
    generalize encL n 6 m = L at *
    clear hl
    generalize UInt8.ofNat (m * 64 + 63) = c at *
    generalize m * 2 ^ 6 + 63 = q at *
    go_enter Tryz.func56, Tryz.ntmps56
    go_wp2
    go_loopw [0, 9] (fun y v wr => EncRel w L y v wr) (fun y _ _ => (intOf y).toNat)
    case atStart =>
      have hsub : (n : Int) - 63 = ((n - 63 : Nat) : Int) := by omega
      exact ⟨n - 63, 5, [c], by rw [hsub], by omega, by simp, by simp; omega, by rw [HL.out]; rfl, Own.lit (cs := #[byteV c]) (Nat.le_refl _) (by simp [maxLen]) rfl, (Below.refl _ _).alloc (Nat.le_refl _) _⟩
    case round =>
      obtain ⟨r, f, xs, rfl, hf5, hxf, hrf, hxl, ho, hb⟩ := hrel
      obtain ⟨A, cc, rfl, _, _, _⟩ := ho.slice
      have hr34 : r < 34359738368 := Nat.lt_of_lt_of_le hrf (Nat.le_trans (Nat.pow_le_pow_right (by omega) hf5) (by decide))
      by_cases hr : 127 < r
      · have hr1 : (127 : Int) < r := by omega
        have hb8 : bits .or .i64 128 (bits .and .i64 (r : Int) 127) % 256 = ((UInt8.ofNat (128 + r % 128)).toNat : Int) := by
          rw [and127 r (by omega), or128 _ (by omega)]; simp
        obtain ⟨v', w', hap, ho', hb', hne, _⟩ := ho.push (P := Tryz.prog) Tryz.underlying23 pu8_info rfl (by omega) 23 hb (Nat.le_refl _) #[byteV (UInt8.ofNat (128 + r % 128))] rfl (by intro u hu; simp at hu; subst hu; rfl) (by unfold maxLen; omega) (by omega)
        have HREL : Hid (∀ q : Nat, q = r / 128 → EncRel w L (.int .i64 q) v' w') := fun q hq => by
          subst hq
          obtain ⟨g, rfl⟩ : ∃ g, f = g + 1 := ⟨f - 1, by
            have : f ≠ 0 := by intro e; subst e; simp at hrf; omega
            omega⟩
          refine ⟨r / 128, g, xs ++ [UInt8.ofNat (128 + r % 128)], rfl, by omega, by simp; omega, by rw [Nat.pow_succ] at hrf; omega, ?_, ?_, hb'⟩
          · rw [← hxl, tailF, if_pos (by omega)]; simp
          · simpa using ho'
        unfold byteV at hap
        generalize UInt8.ofNat (128 + r % 128) = c2 at *
        clear hb hne ho' hb' ho hxl hrf hxf
        go_wp2_with (at_builtin; refine wp_app rfl _ _ _ rfl hap rfl rfl rfl ?_)
        go_roundw
        case rel => rw [show (r : Int) / 128 = ((r / 128 : Nat) : Int) by omega]; first | exact HREL.out _ rfl | ((repeat apply Exists.intro); refine ⟨HREL.out _ rfl, ?_⟩; first | rfl | (rw [h8]; rfl))
        case measure => simp [intOf]; omega
      · have hr1 : (r : Int) ≤ 127 := by omega
        have hb8 : (r : Int) % 256 = ((UInt8.ofNat r).toNat : Int) := by simp
        obtain ⟨v', w', hap, ho', hb', hne, _⟩ := ho.push (P := Tryz.prog) Tryz.underlying23 pu8_info rfl (by omega) 23 hb (Nat.le_refl _) #[byteV (UInt8.ofNat r)] rfl (by intro u hu; simp at hu; subst hu; rfl) (by unfold maxLen; omega) (by omega)
        have hend : L = xs ++ [UInt8.ofNat r] := by
          rw [← hxl]
          cases f with
          | zero => rfl
          | succ f => rw [tailF, if_neg (by omega)]
        have HE := Lib.hid hend
        clear hend hxl
        have HLEN : Hid (L.length = xs.length + 1) := by show _ = _; rw [HE.out]; simp
        have HO : Hid (Own w' w.heap.size 5 1 v' L.length (L.map byteV)) := by
          show Own _ _ _ _ _ _ _
          rw [HLEN.out, HE.out]; simpa using ho'
        have HB := Lib.hid hb'
        have hbv : byteV (UInt8.ofNat r) = .int .u8 (r : Int) := by unfold byteV; congr 1; simp; omega
        rw [hbv] at hap
        clear hb8 hbv
        generalize UInt8.ofNat r = c2 at *
        clear hb hne ho' hb' ho hrf hxf
        obtain ⟨A', c', rfl, _, _, _⟩ := HO.out.slice
        go_wp2_with (at_builtin; refine wp_app rfl _ _ _ rfl hap rfl rfl rfl ?_)
        go_ret2
        exact ⟨_, _, rfl, HO.out, HB.out⟩
set_option maxRecDepth 100000 in
set_option maxHeartbeats 3200000 in
set_option maxRecDepth 4096 in
theorem enc_7 (n m : Nat) (w : World) (hn : n ≤ 2147483647) (hm : m < 2) :
    Calls Tryz.prog 56 #[.int .i64 n, .int .i64 7, .int .i64 m] w (EncPost (encL n 7 m) w) := by
  by_cases h : n < 127
  · have hl : encL n 7 m = [UInt8.ofNat (m * 128 + n)] := by unfold encL; rw [if_pos (by omega)]
    have hor := or_i64 m n 7 (by omega) (by omega) (by omega)
    rw [show ((2 ^ 7 : Nat) : Int) = 128 from rfl] at hor
    have h8 : ((m * 2 ^ 7 + n : Nat) : Int) % 256 = ((UInt8.ofNat (m * 128 + n)).toNat : Int) := by simp
    rw [hl]
    clear hl
    generalize UInt8.ofNat (m * 128 + n) = c at *
    generalize m * 2 ^ 7 + n = q at *
    go_enter Tryz.func56, Tryz.ntmps56
    go_wp2
    go_ret2
    exact ⟨_, _, rfl, Own.lit (cs := #[byteV c]) (Nat.le_refl _) (by simp [maxLen]) rfl, Fresh.alloc _ _⟩
  · have hl : encL n 7 m = UInt8.ofNat (m * 128 + 127) :: tailF 5 (n - 127) := by unfold encL; rw [if_neg (by omega)]
    have hor := or_i64 m 127 7 (by omega) (by omega) (by omega)
    rw [show ((2 ^ 7 : Nat) : Int) = 128 from rfl, show ((127 : Nat) : Int) = 127 from rfl] at hor
    have h8 : ((m * 2 ^ 7 + 127 : Nat) : Int) % 256 = ((UInt8.ofNat (m * 128 + 127)).toNat : Int) := by simp
    have HL := Lib.hid hl
    generalize encL n 7 m = L at *
    clear hl
    generalize UInt8.ofNat (m * 128 + 127) = c at *
    generalize m * 2 ^ 7 + 127 = q at *
    go_enter Tryz.func56, Tryz.ntmps56
    go_wp2
    go_loopw [0, 9] (fun y v wr => EncRel w L y v wr) (fun y _ _ => (intOf y).toNat)
    case atStart =>
      have hsub : (n : Int) - 127 = ((n - 127 : Nat) : Int) := by omega
      exact ⟨n - 127, 5, [c], by rw [hsub], by omega, by simp, by simp; omega, by rw [HL.out]; rfl, Own.lit (cs := #[byteV c]) (Nat.le_refl _) (by simp [maxLen]) rfl, (Below.refl _ _).alloc (Nat.le_refl _) _⟩
    case round =>
      obtain ⟨r, f, xs, rfl, hf5, hxf, hrf, hxl, ho, hb⟩ := hrel
      obtain ⟨A, cc, rfl, _, _, _⟩ := ho.slice
      have hr34 : r < 34359738368 := Nat.lt_of_lt_of_le hrf (Nat.le_trans (Nat.pow_le_pow_right (by omega) hf5) (by decide))
      by_cases hr : 127 < r
      · have hr1 : (127 : Int) < r := by omega
        have hb8 : bits .or .i64 128 (bits .and .i64 (r : Int) 127) % 256 = ((UInt8.ofNat (128 + r % 128)).toNat : Int) := by
          rw [and127 r (by omega), or128 _ (by omega)]; simp
        obtain ⟨v', w', hap, ho', hb', hne, _⟩ := ho.push (P := Tryz.prog) Tryz.underlying23 pu8_info rfl (by omega) 23 hb (Nat.le_refl _) #[byteV (UInt8.ofNat (128 + r % 128))] rfl (by intro u hu; simp at hu; subst hu; rfl) (by unfold maxLen; omega) (by omega)
        have HREL : Hid (∀ q : Nat, q = r / 128 → EncRel w L (.int .i64 q) v' w') := fun q hq => by
          subst hq
          obtain ⟨g, rfl⟩ : ∃ g, f = g + 1 := ⟨f - 1, by
            have : f ≠ 0 := by intro e; subst e; simp at hrf; omega
            omega⟩
          refine ⟨r / 128, g, xs ++ [UInt8.ofNat (128 + r % 128)], rfl, by omega, by simp; omega, by rw [Nat.pow_succ] at hrf; omega, ?_, ?_, hb'⟩
          · rw [← hxl, tailF, if_pos (by omega)]; simp
          · simpa using ho'
        unfold byteV at hap
        generalize UInt8.ofNat (128 + r % 128) = c2 at *
        clear hb hne ho' hb' ho hxl hrf hxf
        go_wp2_with (at_builtin; refine wp_app rfl _ _ _ rfl hap rfl rfl rfl ?_)
        go_roundw
        case rel => rw [show (r : Int) / 128 = ((r / 128 : Nat) : Int) by omega]; first | exact HREL.out _ rfl | ((repeat apply Exists.intro); refine ⟨HREL.out _ rfl, ?_⟩; first | rfl | (rw [h8]; rfl))
        case measure => simp [intOf]; omega
      · have hr1 : (r : Int) ≤ 127 := by omega
        have hb8 : (r : Int) % 256 = ((UInt8.ofNat r).toNat : Int) := by simp
        obtain ⟨v', w', hap, ho', hb', hne, _⟩ := ho.push (P := Tryz.prog) Tryz.underlying23 pu8_info rfl (by omega) 23 hb (Nat.le_refl _) #[byteV (UInt8.ofNat r)] rfl (by intro u hu; simp at hu; subst hu; rfl) (by unfold maxLen; omega) (by omega)
        have hend : L = xs ++ [UInt8.ofNat r] := by
          rw [← hxl]
          cases f with
          | zero => rfl
          | succ f => rw [tailF, if_neg (by omega)]
        have HE := Lib.hid hend
        clear hend hxl
        have HLEN : Hid (L.length = xs.length + 1) := by show _ = _; rw [HE.out]; simp
        have HO : Hid (Own w' w.heap.size 5 1 v' L.length (L.map byteV)) := by
          show Own _ _ _ _ _ _ _
          rw [HLEN.out, HE.out]; simpa using ho'
        have HB := Lib.hid hb'
        have hbv : byteV (UInt8.ofNat r) = .int .u8 (r : Int) := by unfold byteV; congr 1; simp; omega
        rw [hbv] at hap
        clear hb8 hbv
        generalize UInt8.ofNat r = c2 at *
        clear hb hne ho' hb' ho hrf hxf
        obtain ⟨A', c', rfl, _, _, _⟩ := HO.out.slice
        go_wp2_with (at_builtin; refine wp_app rfl _ _ _ rfl hap rfl rfl rfl ?_)
        go_ret2
        exact ⟨_, _, rfl, HO.out, HB.out⟩
set_option maxRecDepth 100000 in
set_option maxHeartbeats 3200000 in
set_option maxRecDepth 4096 in
theorem enc_8 (n m : Nat) (w : World) (hn : n ≤ 2147483647) (hm : m < 1) :
    Calls Tryz.prog 56 #[.int .i64 n, .int .i64 8, .int .i64 m] w (EncPost (encL n 8 m) w) := by
  by_cases h : n < 255
  · have hl : encL n 8 m = [UInt8.ofNat (m * 256 + n)] := by unfold encL; rw [if_pos (by omega)]
    have hor := or_i64 m n 8 (by omega) (by omega) (by omega)
    rw [show ((2 ^ 8 : Nat) : Int) = 256 from rfl] at hor
    have h8 : ((m * 2 ^ 8 + n : Nat) : Int) % 256 = ((UInt8.ofNat (m * 256 + n)).toNat : Int) := by simp
    rw [hl]
    clear hl
    generalize UInt8.ofNat (m * 256 + n) = c at *
    generalize m * 2 ^ 8 + n = q at *
    go_enter Tryz.func56, Tryz.ntmps56
    go_wp2
    go_ret2
    exact ⟨_, _, rfl, Own.lit (cs := #[byteV c]) (Nat.le_refl _) (by simp [maxLen]) rfl, Fresh.alloc _ _⟩
  · have hl : encL n 8 m = UInt8.ofNat (m * 256 + 255) :: tailF 5 (n - 255) := by unfold encL; rw [if_neg (by omega)]
    have hor := or_i64 m 255 8 (by omega) (by omega) (by omega)
    rw [show ((2 ^ 8 : Nat) : Int) = 256 from rfl, show ((255 : Nat) : Int) = 255 from rfl] at hor
    have h8 : ((m * 2 ^ 8 + 255 : Nat) : Int) % 256 = ((UInt8.ofNat (m * 256 + 255)).toNat : Int) := by simp
    have HL := Lib.hid hl
    generalize encL n 8 m = L at *
    clear hl
    generalize UInt8.ofNat (m * 256 + 255) = c at *
    generalize m * 2 ^ 8 + 255 = q at *
    go_enter Tryz.func56, Tryz.ntmps56
    go_wp2
    go_loopw [0, 9] (fun y v wr => EncRel w L y v wr) (fun y _ _ => (intOf y).toNat)
    case atStart =>
      have hsub : (n : Int) - 255 = ((n - 255 : Nat) : Int) := by omega
      exact ⟨n - 255, 5, [c], by rw [hsub], by omega, by simp, by simp; omega, by rw [HL.out]; rfl, Own.lit (cs := #[byteV c]) (Nat.le_refl _) (by simp [maxLen]) rfl, (Below.refl _ _).alloc (Nat.le_refl _) _⟩
    case round =>
      obtain ⟨r, f, xs, rfl, hf5, hxf, hrf, hxl, ho, hb⟩ := hrel
      obtain ⟨A, cc, rfl, _, _, _⟩ := ho.slice
      have hr34 : r < 34359738368 := Nat.lt_of_lt_of_le hrf (Nat.le_trans (Nat.pow_le_pow_right (by omega) hf5) (by decide))
      by_cases hr : 127 < r
      · have hr1 : (127 : Int) < r := by omega
        have hb8 : bits .or .i64 128 (bits .and .i64 (r : Int) 127) % 256 = ((UInt8.ofNat (128 + r % 128)).toNat : Int) := by
          rw [and127 r (by omega), or128 _ (by omega)]; simp
        obtain ⟨v', w', hap, ho', hb', hne, _⟩ := ho.push (P := Tryz.prog) Tryz.underlying23 pu8_info rfl (by omega) 23 hb (Nat.le_refl _) #[byteV (UInt8.ofNat (128 + r % 128))] rfl (by intro u hu; simp at hu; subst hu; rfl) (by unfold maxLen; omega) (by omega)
        have HREL : Hid (∀ q : Nat, q = r / 128 → EncRel w L (.int .i64 q) v' w') := fun q hq => by
          subst hq
          obtain ⟨g, rfl⟩ : ∃ g, f = g + 1 := ⟨f - 1, by
            have : f ≠ 0 := by intro e; subst e; simp at hrf; omega
            omega⟩
          refine ⟨r / 128, g, xs ++ [UInt8.ofNat (128 + r % 128)], rfl, by omega, by simp; omega, by rw [Nat.pow_succ] at hrf; omega, ?_, ?_, hb'⟩
          · rw [← hxl, tailF, if_pos (by omega)]; simp
          · simpa using ho'
        unfold byteV at hap
        generalize UInt8.ofNat (128 + r % 128) = c2 at *
        clear hb hne ho' hb' ho hxl hrf hxf
        go_wp2_with (at_builtin; refine wp_app rfl _ _ _ rfl hap rfl rfl rfl ?_)
        go_roundw
        case rel => rw [show (r : Int) / 128 = ((r / 128 : Nat) : Int) by omega]; first | exact HREL.out _ rfl | ((repeat apply Exists.intro); refine ⟨HREL.out _ rfl, ?_⟩; first | rfl | (rw [h8]; rfl) | (rw [h8, show decide (0 < m) = false from decide_eq_false (by omega)]; simp only [Bool.or_false]; rfl))
        case measure => simp [intOf]; omega
      · have hr1 : (r : Int) ≤ 127 := by omega
        have hb8 : (r : Int) % 256 = ((UInt8.ofNat r).toNat : Int) := by simp
        obtain ⟨v', w', hap, ho', hb', hne, _⟩ := ho.push (P := Tryz.prog) Tryz.underlying23 pu8_info rfl (by omega) 23 hb (Nat.le_refl _) #[byteV (UInt8.ofNat r)] rfl (by intro u hu; simp at hu; subst hu; rfl) (by unfold maxLen; omega) (by omega)
        have hend : L = xs ++ [UInt8.ofNat r] := by
          rw [← hxl]
          cases f with
          | zero => rfl
          | succ f => rw [tailF, if_neg (by omega)]
        have HE := Lib.hid hend
        clear hend hxl
        have HLEN : Hid (L.length = xs.length + 1) := by show _ = _; rw [HE.out]; simp
        have HO : Hid (Own w' w.heap.size 5 1 v' L.length (L.map byteV)) := by
          show Own _ _ _ _ _ _ _
          rw [HLEN.out, HE.out]; simpa using ho'
        have HB := Lib.hid hb'
        have hbv : byteV (UInt8.ofNat r) = .int .u8 (r : Int) := by unfold byteV; congr 1; simp; omega
        rw [hbv] at hap
        clear hb8 hbv
        generalize UInt8.ofNat r = c2 at *
        clear hb hne ho' hb' ho hrf hxf
        obtain ⟨A', c', rfl, _, _, _⟩ := HO.out.slice
        go_wp2_with (at_builtin; refine wp_app rfl _ _ _ rfl hap rfl rfl rfl ?_)
        go_ret2
        exact ⟨_, _, rfl, HO.out, HB.out⟩

end Go.Proofs.YtapikjhfgcbifaaGreatDoor

/-
  Contracts of package prefix: ones, Encode for all, Len, Decode, Mark.
-/
namespace Go.Proofs.YtapikjhfgcbifaaGreatDoor
set_option linter.unusedVariables false
open Go.RowKit

theorem ones_c (b : Nat) (hb : b ≤ 8) (w : World) :
    Calls Tryz.prog 81 #[.int .i64 b] w fun e w' => e = .returned (.int .i64 ((2 ^ b - 1 : Nat) : Int)) ∧ w = w' := by
  have h : b = 0 ∨ b = 1 ∨ b = 2 ∨ b = 3 ∨ b = 4 ∨ b = 5 ∨ b = 6 ∨ b = 7 ∨ b = 8 := by omega
  rcases h with rfl | rfl | rfl | rfl | rfl | rfl | rfl | rfl | rfl <;>
  · go_enter Tryz.func81, Tryz.ntmps81
    go_wp2
    go_ret
    exact ⟨rfl, rfl⟩

theorem rb_c (b : Nat) (hb1 : 1 ≤ b) (hb : b ≤ 8) (w : World) :
    Calls Tryz.prog 80 #[.int .i64 b] w fun e w' => e = .returned (.bool true) ∧ w = w' := by
  have h1 : (1 : Int) ≤ b := by omega
  have h2 : (b : Int) ≤ 8 := by omega
  go_enter Tryz.func80, Tryz.ntmps80
  go_wp2
  go_ret
  exact ⟨rfl, rfl⟩
theorem rb_no (b : Int) (hb : ¬ (1 ≤ b ∧ b ≤ 8)) (w : World) :
    Calls Tryz.prog 80 #[.int .i64 b] w fun e w' => e = .returned (.bool false) ∧ w = w' := by
  by_cases h1 : b < 1
  · clear hb
    go_enter Tryz.func80, Tryz.ntmps80
    go_wp2
    go_ret
    exact ⟨rfl, rfl⟩
  · have h2 : 8 < b := by omega
    clear hb
    go_enter Tryz.func80, Tryz.ntmps80
    go_wp2
    go_ret
    exact ⟨ret_bool (decide_eq_false (by omega)), rfl⟩

theorem and_ones (c b : Nat) (hc : c < 256) (hb : b ≤ 8) : bits .and .i64 (c : Int) ((2 ^ b - 1 : Nat) : Int) = ((c % 2 ^ b : Nat) : Int) := by
  have h256 : 2 ^ b ≤ 256 := by have : 2 ^ b ≤ 2 ^ 8 := Nat.pow_le_pow_right (by omega) hb; omega
  show IntKind.i64.wrap ((BitVec.ofInt 64 (c : Int) &&& BitVec.ofInt 64 ((2 ^ b - 1 : Nat) : Int)).toNat : Int) = _
  rw [BitVec.ofInt_natCast, BitVec.ofInt_natCast, BitVec.toNat_and, BitVec.toNat_ofNat, BitVec.toNat_ofNat, Nat.mod_eq_of_lt (by omega), Nat.mod_eq_of_lt (by omega), Nat.and_two_pow_sub_one_eq_mod]
  have := Nat.mod_le c (2 ^ b)
  exact IntWalk.i64_in _ (by omega)

theorem and127u (c : Nat) (hc : c < 256) : bits .and .u8 (c : Int) 127 = ((c % 128 : Nat) : Int) := by
  show IntKind.u8.wrap ((BitVec.ofInt 8 (c : Int) &&& BitVec.ofInt 8 ((127 : Nat) : Int)).toNat : Int) = _
  rw [BitVec.ofInt_natCast, BitVec.ofInt_natCast, BitVec.toNat_and, BitVec.toNat_ofNat, BitVec.toNat_ofNat, Nat.mod_eq_of_lt (by omega), Nat.mod_eq_of_lt (by omega)]
  rw [show (127 : Nat) = 2 ^ 7 - 1 from rfl, Nat.and_two_pow_sub_one_eq_mod]
  rw [IntKind.wrap_u8]
  omega

theorem enc_any (n b m : Nat) (w : World) (hb1 : 1 ≤ b) (hb8 : b ≤ 8) (hn : n ≤ 2147483647) (hm : m < 2 ^ (8 - b)) :
    Calls Tryz.prog 56 #[.int .i64 n, .int .i64 b, .int .i64 m] w (EncPost (encL n b m) w) := by
  have h : b = 1 ∨ b = 2 ∨ b = 3 ∨ b = 4 ∨ b = 5 ∨ b = 6 ∨ b = 7 ∨ b = 8 := by omega
  rcases h with rfl | rfl | rfl | rfl | rfl | rfl | rfl | rfl
  · exact enc_1 n m w hn hm
  · exact enc_2 n m w hn hm
  · exact enc_3 n m w hn hm
  · exact enc_4 n m w hn hm
  · exact enc_5 n m w hn hm
  · exact enc_6 n m w hn hm
  · exact enc_7 n m w hn hm
  · exact enc_8 n m w hn hm

/-- May these be? -/
def okP (n b m : Int) : Prop := 1 ≤ b ∧ b ≤ 8 ∧ 0 ≤ n ∧ n ≤ 2147483647 ∧ 0 ≤ m ∧ m < 2 ^ (8 - b.toNat)

theorem enc_no (n b m : Int) (w : World) (h : ¬ okP n b m) :
    Calls Tryz.prog 56 #[.int .i64 n, .int .i64 b, .int .i64 m] w fun e w' => e = .returned (.tuple #[.slice none 0 0, .int .i64 11]) ∧ w = w' := by
  by_cases h1 : b < 1
  · clear h
    go_enter Tryz.func56, Tryz.ntmps56
    go_wp2
    go_ret2
    exact ⟨rfl, rfl⟩
  · by_cases h2 : 8 < b
    · clear h
      go_enter Tryz.func56, Tryz.ntmps56
      go_wp2
      go_ret2
      exact ⟨rfl, rfl⟩
    · by_cases h3 : n < 0
      · clear h
        go_enter Tryz.func56, Tryz.ntmps56
        go_wp2
        go_ret2
        exact ⟨rfl, rfl⟩
      · by_cases h4 : 2147483647 < n
        · clear h
          go_enter Tryz.func56, Tryz.ntmps56
          go_wp2
          go_ret2
          exact ⟨rfl, rfl⟩
        · by_cases h5 : m < 0
          · clear h
            go_enter Tryz.func56, Tryz.ntmps56
            go_wp2
            go_ret2
            exact ⟨rfl, rfl⟩
          · obtain ⟨b', rfl⟩ : ∃ b' : Nat, b = b' := ⟨b.toNat, by omega⟩
            have h6 : ((2 ^ (8 - b') - 1 : Nat) : Int) < m := by
              have hp : 0 < 2 ^ (8 - b') := Nat.pow_pos (by omega)
              have h7 : ¬ m < 2 ^ (8 - b') := fun h7 => h ⟨by omega, by omega, by omega, by omega, by omega, by simpa using h7⟩
              have h8 : ((2 ^ (8 - b') : Nat) : Int) ≤ m := by simp only [Int.natCast_pow]; push_cast; omega
              omega
            have HO := Lib.hid (ones_c (8 - b') (by omega))
            have hw : (8 : Int) - (b' : Int) = ((8 - b' : Nat) : Int) := by omega
            clear h
            generalize 2 ^ (8 - b') - 1 = t at *
            go_enter Tryz.func56, Tryz.ntmps56
            have HB := Lib.hid (rb_c b' (by omega) (by omega) w)
            go_wp2_with fail
            refine HB.out.mono ?_
            rintro e w1 ⟨rfl, rfl⟩
            go_wp2_with fail
            refine (HO.out _).mono ?_
            rintro e w1 ⟨rfl, rfl⟩
            go_wp2
            go_ret2
            exact ⟨rfl, rfl⟩

theorem len_yes (n b : Nat) (w : World) (hb1 : 1 ≤ b) (hb8 : b ≤ 8) (hn : n ≤ 2147483647) :
    Calls Tryz.prog 114 #[.int .i64 n, .int .i64 b] w fun e w' => e = .returned (.int .i64 (encL n b 0).length) ∧ Fresh w w' := by
  have HE := Lib.hid (enc_any n b 0 w hb1 hb8 hn (Nat.pow_pos (by omega)))
  go_enter Tryz.func114, Tryz.ntmps114
  go_wp2_with fail
  refine HE.out.mono ?_
  rintro e w1 ⟨A, c, rfl, ho, hf⟩
  have HF := Lib.hid hf
  clear ho hf
  go_wp2
  go_ret
  exact ⟨rfl, HF.out⟩
theorem len_no (n b : Int) (w : World) (h : ¬ okP n b 0) :
    Calls Tryz.prog 114 #[.int .i64 n, .int .i64 b] w fun e w' => e = .returned (.int .i64 0) ∧ Fresh w w' := by
  have HE := Lib.hid (enc_no n b 0 w h)
  clear h
  go_enter Tryz.func114, Tryz.ntmps114
  go_wp2_with fail
  refine HE.out.mono ?_
  rintro e w1 ⟨rfl, rfl⟩
  go_wp2
  go_ret
  exact ⟨rfl, Fresh.refl _⟩

def decV (r : Int × Int × Int) : Value := .tuple #[.int .i64 r.1, .int .i64 r.2.1, .int .i64 r.2.2]

theorem dec_bits (A : Option Addr) (c n : Nat) (b : Int) (w : World) (h : ¬ (1 ≤ b ∧ b ≤ 8)) :
    Calls Tryz.prog 59 #[.slice A n c, .int .i64 b] w fun e w' => e = .returned (decV (0, 0, 11)) ∧ Fresh w w' := by
  have HB := Lib.hid (rb_no b h w)
  clear h
  go_enter Tryz.func59, Tryz.ntmps59
  go_wp2_with fail
  refine HB.out.mono ?_
  rintro e w1 ⟨rfl, rfl⟩
  go_wp2
  go_ret3
  exact ⟨rfl, Fresh.refl _⟩

set_option maxRecDepth 100000 in
set_option maxHeartbeats 1600000 in
theorem dec_any (A : Option Addr) (c b : Nat) (l : List UInt8) (w : World) (hb1 : 1 ≤ b) (hb8 : b ≤ 8) (hmx : l.length ≤ 9223372036854775807) (h : BS w A l) :
    Calls Tryz.prog 59 #[.slice A l.length c, .int .i64 b] w fun e w' => e = .returned (decV (decL l b)) ∧ Fresh w w' := by
  by_cases h0 : l.length = 0
  · have hl : decL l b = (0, 0, 16) := by unfold decL; rw [List.getElem?_eq_none (by omega)]
    rw [hl, h0]
    clear hl h
    have HB := Lib.hid (rb_c b hb1 hb8 w)
    go_enter Tryz.func59, Tryz.ntmps59
    go_wp2_with fail
    refine HB.out.mono ?_
    rintro e w1 ⟨rfl, rfl⟩
    go_wp2
    go_ret3
    exact ⟨rfl, Fresh.refl _⟩
  · obtain ⟨blk, o, rfl, _, hcs⟩ := h.addr (by omega)
    have hc0 := hcs 0 (by omega)
    simp only [byteV, Nat.add_zero] at hc0
    have HB := Lib.hid (rb_c b hb1 hb8 w)
    have HCS := Lib.hid hcs
    clear hcs h
    have HO := Lib.hid (ones_c b hb8)
    have hand := and_ones l[0].toNat b (UInt8.toNat_lt _) hb8
    have hlt0 := UInt8.toNat_lt l[0]
    have hwc : IntKind.i64.wrap (l[0].toNat : Int) = (l[0].toNat : Int) := IntWalk.i64_in _ (by omega)
    have hl0 : 0 < l.length := by omega
    by_cases h1 : l[0].toNat % 2 ^ b < 2 ^ b - 1
    · have HL : Hid (decL l b = (((l[0].toNat % 2 ^ b : Nat) : Int), 1, 0)) := by
        show _ = _
        unfold decL; rw [List.getElem?_eq_getElem hl0]; simp only []; rw [if_pos h1]
      generalize l[0].toNat % 2 ^ b = q at *
      generalize 2 ^ b - 1 = t at *
      have h1' : (q : Int) < (t : Int) := by omega
      go_enter Tryz.func59, Tryz.ntmps59
      go_wp2_with fail
      refine HB.out.mono ?_
      rintro e w1 ⟨rfl, rfl⟩
      go_wp2
      go_quiet ((go_at_call 81; exact Calls.quiet_of_same ((HO.out _).mono fun _ _ ⟨a, b⟩ => ⟨a, b.symm⟩)))
      go_wp2_with (go_at_call 81; refine (HO.out _).mono ?_; rintro e w2 ⟨rfl, rfl⟩)
      go_ret3
      exact ⟨by rw [HL.out]; rfl, Fresh.drewN _ _⟩
    · have HL : Hid (decL l b = decF 6 l 1 (l[0].toNat % 2 ^ b)) := by
        show _ = _
        unfold decL; rw [List.getElem?_eq_getElem hl0]; simp only []; rw [if_neg h1]
      have hq9 : l[0].toNat % 2 ^ b ≤ 255 := by have := Nat.mod_le l[0].toNat (2 ^ b); omega
      generalize l[0].toNat % 2 ^ b = q at *
      generalize 2 ^ b - 1 = t at *
      have h1' : ¬ (q : Int) < (t : Int) := by omega
      go_enter Tryz.func59, Tryz.ntmps59
      go_wp2_with fail
      refine HB.out.mono ?_
      rintro e w1 ⟨rfl, rfl⟩
      go_wp2
      go_quiet ((go_at_call 81; exact Calls.quiet_of_same ((HO.out _).mono fun _ _ ⟨a, b⟩ => ⟨a, b.symm⟩)))
      go_wp2_with (go_at_call 81; refine (HO.out _).mono ?_; rintro e w2 ⟨rfl, rfl⟩)
      clear hwc hc0 hand hlt0 h1' h1
      go_loop [4, 7] (fun y i => ∃ (k m : Nat), k ≤ l.length ∧ 1 ≤ k ∧ k ≤ 6 ∧ m ≤ 2147483647 ∧ i = .int .i64 k ∧ y = .int .i64 m ∧ decF (7 - k) l k m = decL l b) (fun _ i => 7 - (intOf i).toNat)
      case atStart => exact ⟨1, q, by omega, by omega, by omega, by omega, rfl, rfl, HL.out.symm⟩
      case round =>
        obtain ⟨k, m, hkl, hk1, hk6, hm, rfl, rfl, hd⟩ := hrel
        have HD := Lib.hid hd
        clear hd
        by_cases hlt : k < l.length
        · by_cases hk : k = 6
          · subst hk
            have HE : Hid (decL l b = (0, 0, 22)) := by
              show _ = _
              rw [← HD.out, decF, List.getElem?_eq_getElem hlt]; simp only []; rw [if_pos (by omega)]
            have hne : ((6 : Int) == (l.length : Int)) = false := by simp; omega
            go_wp2
            go_ret3
            exact ⟨by rw [HE.out]; rfl, Fresh.drewN _ _⟩
          · have hck := HCS.out k hlt
            unfold byteV at hck
            have hltk := UInt8.toNat_lt l[k]
            have hkk : k = 1 ∨ k = 2 ∨ k = 3 ∨ k = 4 ∨ k = 5 := by omega
            have hand := and127u l[k].toNat hltk
            have hy : l[k].toNat % 128 < 128 := Nat.mod_lt _ (by omega)
            have HD2 : Hid (decL l b = if 2147483647 < m + l[k].toNat % 128 * 128 ^ (k - 1) then (0, 0, 22)
                else if l[k].toNat < 128 then (((m + l[k].toNat % 128 * 128 ^ (k - 1) : Nat) : Int), ((k + 1 : Nat) : Int), 0)
                else decF (6 - k) l (k + 1) (m + l[k].toNat % 128 * 128 ^ (k - 1))) := by
              show _ = _
              rw [← HD.out, show 7 - k = (6 - k) + 1 by omega, decF, List.getElem?_eq_getElem hlt]; simp only []; rw [if_neg (by omega)]
            clear HD HL
            generalize l[k].toNat % 128 = y at *
            generalize l[k].toNat = z at *
            rcases hkk with rfl | rfl | rfl | rfl | rfl
            · have hne : ((1 : Int) == (l.length : Int)) = false := by simp; omega
              by_cases hbig : 2147483647 < m + y
              · have HE : Hid (decL l b = (0, 0, 22)) := by
                  show _ = _
                  rw [HD2.out]; exact if_pos (by simpa using hbig)
                have hbig' : (2147483647 : Int) < (m : Int) + (y : Int) := by omega
                clear hbig HD2
                go_wp2
                go_ret3
                exact ⟨by rw [HE.out]; rfl, Fresh.drewN _ _⟩
              · have HE : Hid (decL l b = if z < 128 then (((m + y : Nat) : Int), ((1 + 1 : Nat) : Int), 0) else decF 5 l (1 + 1) (m + y)) := by
                  show _ = _
                  rw [HD2.out]
                  rw [if_neg (show ¬ 2147483647 < m + y * 128 ^ (1 - 1) from by simpa using hbig)]
                  simp
                have hbig' : (m : Int) + (y : Int) ≤ 2147483647 := by omega
                have hN : ((m + y : Nat) : Int) = (m : Int) + (y : Int) := by omega
                have HN := Lib.hid hN
                clear hbig HD2 hN
                by_cases h128 : z < 128
                · have h128' : (z : Int) < 128 := by omega
                  go_wp2
                  go_ret3
                  exact ⟨by rw [HE.out, if_pos h128, HN.out]; rfl, Fresh.drewN _ _⟩
                · have h128' : ¬ (z : Int) < 128 := by omega
                  go_wp2
                  go_round
                  case rel => exact ⟨2, m + y, by omega, by omega, by omega, by have := HN.out; omega, by go_num, by rw [HN.out], by rw [HE.out, if_neg h128]⟩
                  case measure => simp [intOf]
            · have hne : ((2 : Int) == (l.length : Int)) = false := by simp; omega
              by_cases hbig : 2147483647 < m + y * 128
              · have HE : Hid (decL l b = (0, 0, 22)) := by
                  show _ = _
                  rw [HD2.out]; exact if_pos (by simpa using hbig)
                have hbig' : (2147483647 : Int) < (m : Int) + (y : Int) * 128 := by omega
                clear hbig HD2
                go_wp2
                go_ret3
                exact ⟨by rw [HE.out]; rfl, Fresh.drewN _ _⟩
              · have HE : Hid (decL l b = if z < 128 then (((m + y * 128 : Nat) : Int), ((2 + 1 : Nat) : Int), 0) else decF 4 l (2 + 1) (m + y * 128)) := by
                  show _ = _
                  rw [HD2.out]
                  rw [if_neg (show ¬ 2147483647 < m + y * 128 ^ (2 - 1) from by simpa using hbig)]
                have hbig' : (m : Int) + (y : Int) * 128 ≤ 2147483647 := by omega
                have hN : ((m + y * 128 : Nat) : Int) = (m : Int) + (y : Int) * 128 := by omega
                have HN := Lib.hid hN
                clear hbig HD2 hN
                by_cases h128 : z < 128
                · have h128' : (z : Int) < 128 := by omega
                  go_wp2
                  go_ret3
                  exact ⟨by rw [HE.out, if_pos h128, HN.out]; rfl, Fresh.drewN _ _⟩
                · have h128' : ¬ (z : Int) < 128 := by omega
                  go_wp2
                  go_round
                  case rel => exact ⟨3, m + y * 128, by omega, by omega, by omega, by have := HN.out; omega, by go_num, by rw [HN.out], by rw [HE.out, if_neg h128]⟩
                  case measure => simp [intOf]
            · have hne : ((3 : Int) == (l.length : Int)) = false := by simp; omega
              by_cases hbig : 2147483647 < m + y * 16384
              · have HE : Hid (decL l b = (0, 0, 22)) := by
                  show _ = _
                  rw [HD2.out]; exact if_pos (by simpa using hbig)
                have hbig' : (2147483647 : Int) < (m : Int) + (y : Int) * 16384 := by omega
                clear hbig HD2
                go_wp2
                go_ret3
                exact ⟨by rw [HE.out]; rfl, Fresh.drewN _ _⟩
              · have HE : Hid (decL l b = if z < 128 then (((m + y * 16384 : Nat) : Int), ((3 + 1 : Nat) : Int), 0) else decF 3 l (3 + 1) (m + y * 16384)) := by
                  show _ = _
                  rw [HD2.out]
                  rw [if_neg (show ¬ 2147483647 < m + y * 128 ^ (3 - 1) from by simpa using hbig)]
                have hbig' : (m : Int) + (y : Int) * 16384 ≤ 2147483647 := by omega
                have hN : ((m + y * 16384 : Nat) : Int) = (m : Int) + (y : Int) * 16384 := by omega
                have HN := Lib.hid hN
                clear hbig HD2 hN
                by_cases h128 : z < 128
                · have h128' : (z : Int) < 128 := by omega
                  go_wp2
                  go_ret3
                  exact ⟨by rw [HE.out, if_pos h128, HN.out]; rfl, Fresh.drewN _ _⟩
                · have h128' : ¬ (z : Int) < 128 := by omega
                  go_wp2
                  go_round
                  case rel => exact ⟨4, m + y * 16384, by omega, by omega, by omega, by have := HN.out; omega, by go_num, by rw [HN.out], by rw [HE.out, if_neg h128]⟩
                  case measure => simp [intOf]
            · have hne : ((4 : Int) == (l.length : Int)) = false := by simp; omega
              by_cases hbig : 2147483647 < m + y * 2097152
              · have HE : Hid (decL l b = (0, 0, 22)) := by
                  show _ = _
                  rw [HD2.out]; exact if_pos (by simpa using hbig)
                have hbig' : (2147483647 : Int) < (m : Int) + (y : Int) * 2097152 := by omega
                clear hbig HD2
                go_wp2
                go_ret3
                exact ⟨by rw [HE.out]; rfl, Fresh.drewN _ _⟩
              · have HE : Hid (decL l b = if z < 128 then (((m + y * 2097152 : Nat) : Int), ((4 + 1 : Nat) : Int), 0) else decF 2 l (4 + 1) (m + y * 2097152)) := by
                  show _ = _
                  rw [HD2.out]
                  rw [if_neg (show ¬ 2147483647 < m + y * 128 ^ (4 - 1) from by simpa using hbig)]
                have hbig' : (m : Int) + (y : Int) * 2097152 ≤ 2147483647 := by omega
                have hN : ((m + y * 2097152 : Nat) : Int) = (m : Int) + (y : Int) * 2097152 := by omega
                have HN := Lib.hid hN
                clear hbig HD2 hN
                by_cases h128 : z < 128
                · have h128' : (z : Int) < 128 := by omega
                  go_wp2
                  go_ret3
                  exact ⟨by rw [HE.out, if_pos h128, HN.out]; rfl, Fresh.drewN _ _⟩
                · have h128' : ¬ (z : Int) < 128 := by omega
                  go_wp2
                  go_round
                  case rel => exact ⟨5, m + y * 2097152, by omega, by omega, by omega, by have := HN.out; omega, by go_num, by rw [HN.out], by rw [HE.out, if_neg h128]⟩
                  case measure => simp [intOf]
            · have hne : ((5 : Int) == (l.length : Int)) = false := by simp; omega
              by_cases hbig : 2147483647 < m + y * 268435456
              · have HE : Hid (decL l b = (0, 0, 22)) := by
                  show _ = _
                  rw [HD2.out]; exact if_pos (by simpa using hbig)
                have hbig' : (2147483647 : Int) < (m : Int) + (y : Int) * 268435456 := by omega
                clear hbig HD2
                go_wp2
                go_ret3
                exact ⟨by rw [HE.out]; rfl, Fresh.drewN _ _⟩
              · have HE : Hid (decL l b = if z < 128 then (((m + y * 268435456 : Nat) : Int), ((5 + 1 : Nat) : Int), 0) else decF 1 l (5 + 1) (m + y * 268435456)) := by
                  show _ = _
                  rw [HD2.out]
                  rw [if_neg (show ¬ 2147483647 < m + y * 128 ^ (5 - 1) from by simpa using hbig)]
                have hbig' : (m : Int) + (y : Int) * 268435456 ≤ 2147483647 := by omega
                have hN : ((m + y * 268435456 : Nat) : Int) = (m : Int) + (y : Int) * 268435456 := by omega
                have HN := Lib.hid hN
                clear hbig HD2 hN
                by_cases h128 : z < 128
                · have h128' : (z : Int) < 128 := by omega
                  go_wp2
                  go_ret3
                  exact ⟨by rw [HE.out, if_pos h128, HN.out]; rfl, Fresh.drewN _ _⟩
                · have h128' : ¬ (z : Int) < 128 := by omega
                  go_wp2
                  go_round
                  case rel => exact ⟨6, m + y * 268435456, by omega, by omega, by omega, by have := HN.out; omega, by go_num, by rw [HN.out], by rw [HE.out, if_neg h128]⟩
                  case measure => simp [intOf]
        · have hkl' : k = l.length := by omega
          have HE : Hid (decL l b = (0, 0, 16)) := by
            show _ = _
            rw [← HD.out, show 7 - k = (6 - k) + 1 by omega, decF, List.getElem?_eq_none (by omega)]
          have hne : ((k : Int) == (l.length : Int)) = true := by simp; omega
          go_wp2
          go_ret3
          exact ⟨by rw [HE.out]; rfl, Fresh.drewN _ _⟩


theorem mark_no (A : Option Addr) (c n : Nat) (b : Int) (w : World) (h : n = 0 ∨ ¬ (1 ≤ b ∧ b ≤ 8)) :
    Calls Tryz.prog 58 #[.slice A n c, .int .i64 b] w fun e w' => e = .returned (.tuple #[.int .i64 0, .bool false]) ∧ w = w' := by
  by_cases h0 : n = 0
  · subst h0
    clear h
    go_enter Tryz.func58, Tryz.ntmps58
    go_wp2
    go_ret2
    exact ⟨rfl, rfl⟩
  · have h1 : ¬ (1 ≤ b ∧ b ≤ 8) := h.resolve_left h0
    have HB := Lib.hid (rb_no b h1 w)
    clear h h1
    have h0' : ((n : Int) == 0) = false := by simp; omega
    go_enter Tryz.func58, Tryz.ntmps58
    go_wp2_with fail
    refine HB.out.mono ?_
    rintro e w1 ⟨rfl, rfl⟩
    go_wp2
    go_ret2
    exact ⟨rfl, rfl⟩
theorem mark_yes (A : Option Addr) (c b : Nat) (l : List UInt8) (w : World) (hb1 : 1 ≤ b) (hb8 : b ≤ 8) (hl : 0 < l.length) (h : BS w A l) :
    Calls Tryz.prog 58 #[.slice A l.length c, .int .i64 b] w fun e w' => e = .returned (.tuple #[.int .i64 ((l[0].toNat / 2 ^ b : Nat) : Int), .bool true]) ∧ Fresh w w' := by
  obtain ⟨blk, o, rfl, _, hcs⟩ := h.addr hl
  have hc0 := hcs 0 hl
  simp only [byteV, Nat.add_zero] at hc0
  have h0' : ((l.length : Int) == 0) = false := by rw [beq_eq_false_iff_ne]; omega
  have hlt0 := UInt8.toNat_lt l[0]
  clear hcs h
  generalize l[0].toNat = x at *
  have hh : b = 1 ∨ b = 2 ∨ b = 3 ∨ b = 4 ∨ b = 5 ∨ b = 6 ∨ b = 7 ∨ b = 8 := by omega
  rcases hh with rfl | rfl | rfl | rfl | rfl | rfl | rfl | rfl <;>
  · go_enter Tryz.func58, Tryz.ntmps58
    go_wp2
    go_ret2
    exact ⟨rfl, Fresh.refl _⟩
end Go.Proofs.YtapikjhfgcbifaaGreatDoor

/-
  The document's answers for layer 3.
-/
namespace Go.Proofs.YtapikjhfgcbifaaGreatDoor
set_option linter.unusedVariables false
open Go.RowKit

theorem okP_yes {n b m : Int} (h : okP n b m) : ∃ n' b' m' : Nat, n = n' ∧ b = b' ∧ m = m' ∧ 1 ≤ b' ∧ b' ≤ 8 ∧ n' ≤ 2147483647 ∧ m' < 2 ^ (8 - b') := by
  obtain ⟨h1, h2, h3, h4, h5, h6⟩ := h
  obtain ⟨b', rfl⟩ : ∃ b' : Nat, b = b' := ⟨b.toNat, by omega⟩
  refine ⟨n.toNat, b', m.toNat, by omega, rfl, by omega, by omega, by omega, by omega, ?_⟩
  have : m < ((2 ^ (8 - b') : Nat) : Int) := by simpa using h6
  omega

theorem u8_mod (x : Nat) : UInt8.ofNat (((x : Nat) : Int) % 256).toNat = UInt8.ofNat x := by
  have : (((x : Nat) : Int) % 256).toNat = x % 256 := by omega
  rw [this]
  exact UInt8.toNat_inj.1 (by simp)

end Go.Proofs.YtapikjhfgcbifaaGreatDoor

