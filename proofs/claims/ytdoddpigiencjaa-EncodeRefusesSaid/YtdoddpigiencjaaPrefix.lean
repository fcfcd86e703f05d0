/-
  Contracts of package prefix: Encode, Len.
-/
import Derived.Test.YtdoddpigiencjaaPrefixM
import Derived.Test.YtdoddpigiencjaaOwn
namespace Go.Proofs.Ytdoddpigiencjaa
set_option linter.unusedVariables false
open Go.RowKit

theorem pu8_info : (Try.prog.info? 5).map (fun i => (i.zero, i.size, i.bytes)) = some (some (.int .u8 0), 1, 1) := by kernel_rfl

theorem or_i64 (a b p : Nat) (hb : b < 2 ^ p) (hp : p ≤ 8) (ha : a < 1048576) : bits .or .i64 ((a : Int) * ((2 ^ p : Nat) : Int)) (b : Int) = ((a * 2 ^ p + b : Nat) : Int) := by
  have h256 : 2 ^ p ≤ 256 := by have : 2 ^ p ≤ 2 ^ 8 := Nat.pow_le_pow_right (by omega) hp; omega
  have hm : a * 2 ^ p < 1048576 * 256 := Nat.lt_of_lt_of_le (Nat.mul_lt_mul_of_pos_right ha (Nat.pow_pos (by omega))) (Nat.mul_le_mul_left _ h256)
  show IntKind.i64.wrap ((BitVec.ofInt 64 ((a : Int) * ((2 ^ p : Nat) : Int)) ||| BitVec.ofInt 64 (b : Int)).toNat : Int) = _
  rw [← Int.natCast_mul, BitVec.ofInt_natCast, BitVec.ofInt_natCast, BitVec.toNat_or, BitVec.toNat_ofNat, BitVec.toNat_ofNat, Nat.mod_eq_of_lt (by omega), Nat.mod_eq_of_lt (by omega)]
  have e3 : a * 2 ^ p ||| b = a * 2 ^ p + b := by
    have := Nat.shiftLeft_add_eq_or_of_lt hb a
    rw [Nat.shiftLeft_eq] at this
    exact this.symm
  rw [e3]
  exact IntWalk.i64_in _ (by omega)
theorem and127 (r : Nat) (hr : r < 9223372036854775808) : bits .and .i64 (r : Int) 127 = ((r % 128 : Nat) : Int) := by
  show IntKind.i64.wrap ((BitVec.ofInt 64 (r : Int) &&& BitVec.ofInt 64 ((127 : Nat) : Int)).toNat : Int) = _
  rw [BitVec.ofInt_natCast, BitVec.ofInt_natCast, BitVec.toNat_and, BitVec.toNat_ofNat, BitVec.toNat_ofNat, Nat.mod_eq_of_lt (by omega), Nat.mod_eq_of_lt (by omega)]
  rw [show (127 : Nat) = 2 ^ 7 - 1 from rfl, Nat.and_two_pow_sub_one_eq_mod]
  exact IntWalk.i64_in _ (by omega)
theorem or128 (r : Nat) (hr : r < 128) : bits .or .i64 128 (r : Int) = ((128 + r : Nat) : Int) := by
  have := or_i64 1 r 7 hr (by omega) (by omega)
  rw [show ((1 : Nat) : Int) * ((2 ^ 7 : Nat) : Int) = 128 from rfl] at this
  rw [this]

def EncPost (l : List UInt8) (w : World) (e : Ending) (w' : World) : Prop :=
  ∃ A c, e = .returned (.tuple #[.slice A l.length c, .int .i64 0]) ∧ Own w' w.heap.size 5 1 (.slice A l.length c) l.length (l.map byteV) ∧ Fresh w w'

def EncRel (w : World) (l : List UInt8) (y v : Value) (wr : World) : Prop :=
  ∃ (r f : Nat) (xs : List UInt8), y = .int .i64 r ∧ f ≤ 5 ∧ xs.length + f = 6 ∧ r < 128 ^ f ∧ xs ++ tailF f r = l ∧ Own wr w.heap.size 5 1 v xs.length (xs.map byteV) ∧ Below w.heap.size w wr

set_option maxRecDepth 100000 in
set_option maxHeartbeats 3200000 in
theorem enc_1 (n m : Nat) (w : World) (hn : n ≤ 2147483647) (hm : m < 128) :
    Calls Try.prog 26 #[.int .i64 n, .int .i64 1, .int .i64 m] w (EncPost (encL n 1 m) w) := by
  by_cases h : n < 1
  · have hl : encL n 1 m = [UInt8.ofNat (m * 2 + n)] := by unfold encL; rw [if_pos (by omega)]
    have hor := or_i64 m n 1 (by omega) (by omega) (by omega)
    rw [show ((2 ^ 1 : Nat) : Int) = 2 from rfl] at hor
    have h8 : ((m * 2 ^ 1 + n : Nat) : Int) % 256 = ((UInt8.ofNat (m * 2 + n)).toNat : Int) := by simp
    rw [hl]
    clear hl
    generalize UInt8.ofNat (m * 2 + n) = c at *
    generalize m * 2 ^ 1 + n = q at *
    go_enter Try.func26, Try.ntmps26
    go_wp2
    go_ret2
    exact ⟨_, _, rfl, Own.lit (cs := #[byteV c]) (Nat.le_refl _) (by simp [maxLen]) rfl, Fresh.alloc _ _⟩
  · have hl : encL n 1 m = UInt8.ofNat (m * 2 + 1) :: tailF 5 (n - 1) := by unfold encL; rw [if_neg (by omega)]
    have hor := or_i64 m 1 1 (by omega) (by omega) (by omega)
    rw [show ((2 ^ 1 : Nat) : Int) = 2 from rfl, show ((1 : Nat) : Int) = 1 from rfl] at hor
    have h8 : ((m * 2 ^ 1 + 1 : Nat) : Int) % 256 = ((UInt8.ofNat (m * 2 + 1)).toNat : Int) := by simp
    have HL := Lib.hid hl
    generalize encL n 1 m = L at *
    clear hl
    generalize UInt8.ofNat (m * 2 + 1) = c at *
    generalize m * 2 ^ 1 + 1 = q at *
    go_enter Try.func26, Try.ntmps26
    go_wp2
    go_loopw [0, 9] (fun y v wr => EncRel w L y v wr) (fun y _ _ => (intOf y).toNat)
    case atStart =>
      have hsub : (n : Int) - 1 = ((n - 1 : Nat) : Int) := by omega
      exact ⟨n - 1, 5, [c], by rw [hsub], by omega, by simp, by simp; omega, by rw [HL.out]; rfl, Own.lit (cs := #[byteV c]) (Nat.le_refl _) (by simp [maxLen]) rfl, (Below.refl _ _).alloc (Nat.le_refl _) _⟩
    case round =>
      obtain ⟨r, f, xs, rfl, hf5, hxf, hrf, hxl, ho, hb⟩ := hrel
      obtain ⟨A, cc, rfl, _, _, _⟩ := ho.slice
      have hr34 : r < 34359738368 := Nat.lt_of_lt_of_le hrf (Nat.le_trans (Nat.pow_le_pow_right (by omega) hf5) (by decide))
      by_cases hr : 127 < r
      · have hr1 : (127 : Int) < r := by omega
        have hb8 : bits .or .i64 128 (bits .and .i64 (r : Int) 127) % 256 = ((UInt8.ofNat (128 + r % 128)).toNat : Int) := by
          rw [and127 r (by omega), or128 _ (by omega)]; simp
        obtain ⟨v', w', hap, ho', hb', hne, _⟩ := ho.push (P := Try.prog) Try.underlying29 pu8_info rfl (by omega) 29 hb (Nat.le_refl _) #[byteV (UInt8.ofNat (128 + r % 128))] rfl (by intro u hu; simp at hu; subst hu; rfl) (by unfold maxLen; omega) (by omega)
        have HREL : Hid (∀ q : Nat, q = r / 128 → EncRel w L (.int .i64 q) v' w') := fun q hq => by
          subst hq
          obtain ⟨g, rfl⟩ : ∃ g, f = g + 1 := ⟨f - 1, by
            have : f ≠ 0 := by intro e; subst e; simp at hrf; omega
            omega⟩
          refine ⟨r / 128, g, xs ++ [UInt8.ofNat (128 + r % 128)], rfl, by omega, by simp; omega, by rw [Nat.pow_succ] at hrf; omega, ?_, ?_, hb'⟩
          · rw [← hxl, tailF, if_pos (by omega)]; simp
          · simpa using ho'
        unfold byteV at hap
        generalize UInt8.ofNat (128 + r % 128) = c2 at *
        clear hb hne ho' hb' ho hxl hrf hxf
        go_wp2_with (at_builtin; refine wp_app rfl _ _ _ rfl hap rfl rfl rfl ?_)
        go_roundw
        case rel => rw [show (r : Int) / 128 = ((r / 128 : Nat) : Int) by omega]; first | exact HREL.out _ rfl | ((repeat apply Exists.intro); refine ⟨HREL.out _ rfl, ?_⟩; first | rfl | (rw [h8]; rfl))
        case measure => simp [intOf]; omega
      · have hr1 : (r : Int) ≤ 127 := by omega
        have hb8 : (r : Int) % 256 = ((UInt8.ofNat r).toNat : Int) := by simp
        obtain ⟨v', w', hap, ho', hb', hne, _⟩ := ho.push (P := Try.prog) Try.underlying29 pu8_info rfl (by omega) 29 hb (Nat.le_refl _) #[byteV (UInt8.ofNat r)] rfl (by intro u hu; simp at hu; subst hu; rfl) (by unfold maxLen; omega) (by omega)
        have hend : L = xs ++ [UInt8.ofNat r] := by
          rw [← hxl]
          cases f with
          | zero => rfl
          | succ f => rw [tailF, if_neg (by omega)]
        have HE := Lib.hid hend
        clear hend hxl
        have HLEN : Hid (L.length = xs.length + 1) := by show _ = _; rw [HE.out]; simp
        have HO : Hid (Own w' w.heap.size 5 1 v' L.length (L.map byteV)) := by
          show Own _ _ _ _ _ _ _
          rw [HLEN.out, HE.out]; simpa using ho'
        have HB := Lib.hid hb'
        have hbv : byteV (UInt8.ofNat r) = .int .u8 (r : Int) := by unfold byteV; congr 1; simp; omega
        rw [hbv] at hap
        clear hb8 hbv
        generalize UInt8.ofNat r = c2 at *
        clear hb hne ho' hb' ho hrf hxf
        obtain ⟨A', c', rfl, _, _, _⟩ := HO.out.slice
        go_wp2_with (at_builtin; refine wp_app rfl _ _ _ rfl hap rfl rfl rfl ?_)
        go_ret2
        exact ⟨_, _, rfl, HO.out, HB.out⟩
set_option maxRecDepth 100000 in
set_option maxHeartbeats 3200000 in
theorem enc_2 (n m : Nat) (w : World) (hn : n ≤ 2147483647) (hm : m < 64) :
    Calls Try.prog 26 #[.int .i64 n, .int .i64 2, .int .i64 m] w (EncPost (encL n 2 m) w) := by
  by_cases h : n < 3
  · have hl : encL n 2 m = [UInt8.ofNat (m * 4 + n)] := by unfold encL; rw [if_pos (by omega)]
    have hor := or_i64 m n 2 (by omega) (by omega) (by omega)
    rw [show ((2 ^ 2 : Nat) : Int) = 4 from rfl] at hor
    have h8 : ((m * 2 ^ 2 + n : Nat) : Int) % 256 = ((UInt8.ofNat (m * 4 + n)).toNat : Int) := by simp
    rw [hl]
    clear hl
    generalize UInt8.ofNat (m * 4 + n) = c at *
    generalize m * 2 ^ 2 + n = q at *
    go_enter Try.func26, Try.ntmps26
    go_wp2
    go_ret2
    exact ⟨_, _, rfl, Own.lit (cs := #[byteV c]) (Nat.le_refl _) (by simp [maxLen]) rfl, Fresh.alloc _ _⟩
  · have hl : encL n 2 m = UInt8.ofNat (m * 4 + 3) :: tailF 5 (n - 3) := by unfold encL; rw [if_neg (by omega)]
    have hor := or_i64 m 3 2 (by omega) (by omega) (by omega)
    rw [show ((2 ^ 2 : Nat) : Int) = 4 from rfl, show ((3 : Nat) : Int) = 3 from rfl] at hor
    have h8 : ((m * 2 ^ 2 + 3 : Nat) : Int) % 256 = ((UInt8.ofNat (m * 4 + 3)).toNat : Int) := by simp
    have HL := Lib.hid hl
    generalize encL n 2 m = L at *
    clear hl
    generalize UInt8.ofNat (m * 4 + 3) = c at *
    generalize m * 2 ^ 2 + 3 = q at *
    go_enter Try.func26, Try.ntmps26
    go_wp2
    go_loopw [0, 9] (fun y v wr => EncRel w L y v wr) (fun y _ _ => (intOf y).toNat)
    case atStart =>
      have hsub : (n : Int) - 3 = ((n - 3 : Nat) : Int) := by omega
      exact ⟨n - 3, 5, [c], by rw [hsub], by omega, by simp, by simp; omega, by rw [HL.out]; rfl, Own.lit (cs := #[byteV c]) (Nat.le_refl _) (by simp [maxLen]) rfl, (Below.refl _ _).alloc (Nat.le_refl _) _⟩
    case round =>
      obtain ⟨r, f, xs, rfl, hf5, hxf, hrf, hxl, ho, hb⟩ := hrel
      obtain ⟨A, cc, rfl, _, _, _⟩ := ho.slice
      have hr34 : r < 34359738368 := Nat.lt_of_lt_of_le hrf (Nat.le_trans (Nat.pow_le_pow_right (by omega) hf5) (by decide))
      by_cases hr : 127 < r
      · have hr1 : (127 : Int) < r := by omega
        have hb8 : bits .or .i64 128 (bits .and .i64 (r : Int) 127) % 256 = ((UInt8.ofNat (128 + r % 128)).toNat : Int) := by
          rw [and127 r (by omega), or128 _ (by omega)]; simp
        obtain ⟨v', w', hap, ho', hb', hne, _⟩ := ho.push (P := Try.prog) Try.underlying29 pu8_info rfl (by omega) 29 hb (Nat.le_refl _) #[byteV (UInt8.ofNat (128 + r % 128))] rfl (by intro u hu; simp at hu; subst hu; rfl) (by unfold maxLen; omega) (by omega)
        have HREL : Hid (∀ q : Nat, q = r / 128 → EncRel w L (.int .i64 q) v' w') := fun q hq => by
          subst hq
          obtain ⟨g, rfl⟩ : ∃ g, f = g + 1 := ⟨f - 1, by
            have : f ≠ 0 := by intro e; subst e; simp at hrf; omega
            omega⟩
          refine ⟨r / 128, g, xs ++ [UInt8.ofNat (128 + r % 128)], rfl, by omega, by simp; omega, by rw [Nat.pow_succ] at hrf; omega, ?_, ?_, hb'⟩
          · rw [← hxl, tailF, if_pos (by omega)]; simp
          · simpa using ho'
        unfold byteV at hap
        generalize UInt8.ofNat (128 + r % 128) = c2 at *
        clear hb hne ho' hb' ho hxl hrf hxf
        go_wp2_with (at_builtin; refine wp_app rfl _ _ _ rfl hap rfl rfl rfl ?_)
        go_roundw
        case rel => rw [show (r : Int) / 128 = ((r / 128 : Nat) : Int) by omega]; first | exact HREL.out _ rfl | ((repeat apply Exists.intro); refine ⟨HREL.out _ rfl, ?_⟩; first | rfl | (rw [h8]; rfl))
        case measure => simp [intOf]; omega
      · have hr1 : (r : Int) ≤ 127 := by omega
        have hb8 : (r : Int) % 256 = ((UInt8.ofNat r).toNat : Int) := by simp
        obtain ⟨v', w', hap, ho', hb', hne, _⟩ := ho.push (P := Try.prog) Try.underlying29 pu8_info rfl (by omega) 29 hb (Nat.le_refl _) #[byteV (UInt8.ofNat r)] rfl (by intro u hu; simp at hu; subst hu; rfl) (by unfold maxLen; omega) (by omega)
        have hend : L = xs ++ [UInt8.ofNat r] := by
          rw [← hxl]
          cases f with
          | zero => rfl
          | succ f => rw [tailF, if_neg (by omega)]
        have HE := Lib.hid hend
        clear hend hxl
        have HLEN : Hid (L.length = xs.length + 1) := by show _ = _; rw [HE.out]; simp
        have HO : Hid (Own w' w.heap.size 5 1 v' L.length (L.map byteV)) := by
          show Own _ _ _ _ _ _ _
          rw [HLEN.out, HE.out]; simpa using ho'
        have HB := Lib.hid hb'
        have hbv : byteV (UInt8.ofNat r) = .int .u8 (r : Int) := by unfold byteV; congr 1; simp; omega
        rw [hbv] at hap
        clear hb8 hbv
        generalize UInt8.ofNat r = c2 at *
        clear hb hne ho' hb' ho hrf hxf
        obtain ⟨A', c', rfl, _, _, _⟩ := HO.out.slice
        go_wp2_with (at_builtin; refine wp_app rfl _ _ _ rfl hap rfl rfl rfl ?_)
        go_ret2
        exact ⟨_, _, rfl, HO.out, HB.out⟩
set_option maxRecDepth 100000 in
set_option maxHeartbeats 3200000 in
theorem enc_3 (n m : Nat) (w : World) (hn : n ≤ 2147483647) (hm : m < 32) :
    Calls Try.prog 26 #[.int .i64 n, .int .i64 3, .int .i64 m] w (EncPost (encL n 3 m) w) := by
  by_cases h : n < 7
  · have hl : encL n 3 m = [UInt8.ofNat (m * 8 + n)] := by unfold encL; rw [if_pos (by omega)]
    have hor := or_i64 m n 3 (by omega) (by omega) (by omega)
    rw [show ((2 ^ 3 : Nat) : Int) = 8 from rfl] at hor
    have h8 : ((m * 2 ^ 3 + n : Nat) : Int) % 256 = ((UInt8.ofNat (m * 8 + n)).toNat : Int) := by simp
    rw [hl]
    clear hl
    generalize UInt8.ofNat (m * 8 + n) = c at *
    generalize m * 2 ^ 3 + n = q at *
    go_enter Try.func26, Try.ntmps26
    go_wp2
    go_ret2
    exact ⟨_, _, rfl, Own.lit (cs := #[byteV c]) (Nat.le_refl _) (by simp [maxLen]) rfl, Fresh.alloc _ _⟩
  · have hl : encL n 3 m = UInt8.ofNat (m * 8 + 7) :: tailF 5 (n - 7) := by unfold encL; rw [if_neg (by omega)]
    have hor := or_i64 m 7 3 (by omega) (by omega) (by omega)
    rw [show ((2 ^ 3 : Nat) : Int) = 8 from rfl, show ((7 : Nat) : Int) = 7 from rfl] at hor
    have h8 : ((m * 2 ^ 3 + 7 : Nat) : Int) % 256 = ((UInt8.ofNat (m * 8 + 7)).toNat : Int) := by simp
    have HL := Lib.hid hl
    generalize encL n 3 m = L at *
    clear hl
    generalize UInt8.ofNat (m * 8 + 7) = c at *
    generalize m * 2 ^ 3 + 7 = q at *
    go_enter Try.func26, Try.ntmps26
    go_wp2
    go_loopw [0, 9] (fun y v wr => EncRel w L y v wr) (fun y _ _ => (intOf y).toNat)
    case atStart =>
      have hsub : (n : Int) - 7 = ((n - 7 : Nat) : Int) := by omega
      exact ⟨n - 7, 5, [c], by rw [hsub], by omega, by simp, by simp; omega, by rw [HL.out]; rfl, Own.lit (cs := #[byteV c]) (Nat.le_refl _) (by simp [maxLen]) rfl, (Below.refl _ _).alloc (Nat.le_refl _) _⟩
    case round =>
      obtain ⟨r, f, xs, rfl, hf5, hxf, hrf, hxl, ho, hb⟩ := hrel
      obtain ⟨A, cc, rfl, _, _, _⟩ := ho.slice
      have hr34 : r < 34359738368 := Nat.lt_of_lt_of_le hrf (Nat.le_trans (Nat.pow_le_pow_right (by omega) hf5) (by decide))
      by_cases hr : 127 < r
      · have hr1 : (127 : Int) < r := by omega
        have hb8 : bits .or .i64 128 (bits .and .i64 (r : Int) 127) % 256 = ((UInt8.ofNat (128 + r % 128)).toNat : Int) := by
          rw [and127 r (by omega), or128 _ (by omega)]; simp
        obtain ⟨v', w', hap, ho', hb', hne, _⟩ := ho.push (P := Try.prog) Try.underlying29 pu8_info rfl (by omega) 29 hb (Nat.le_refl _) #[byteV (UInt8.ofNat (128 + r % 128))] rfl (by intro u hu; simp at hu; subst hu; rfl) (by unfold maxLen; omega) (by omega)
        have HREL : Hid (∀ q : Nat, q = r / 128 → EncRel w L (.int .i64 q) v' w') := fun q hq => by
          subst hq
          obtain ⟨g, rfl⟩ : ∃ g, f = g + 1 := ⟨f - 1, by
            have : f ≠ 0 := by intro e; subst e; simp at hrf; omega
            omega⟩
          refine ⟨r / 128, g, xs ++ [UInt8.ofNat (128 + r % 128)], rfl, by omega, by simp; omega, by rw [Nat.pow_succ] at hrf; omega, ?_, ?_, hb'⟩
          · rw [← hxl, tailF, if_pos (by omega)]; simp
          · simpa using ho'
        unfold byteV at hap
        generalize UInt8.ofNat (128 + r % 128) = c2 at *
        clear hb hne ho' hb' ho hxl hrf hxf
        go_wp2_with (at_builtin; refine wp_app rfl _ _ _ rfl hap rfl rfl rfl ?_)
        go_roundw
        case rel => rw [show (r : Int) / 128 = ((r / 128 : Nat) : Int) by omega]; first | exact HREL.out _ rfl | ((repeat apply Exists.intro); refine ⟨HREL.out _ rfl, ?_⟩; first | rfl | (rw [h8]; rfl))
        case measure => simp [intOf]; omega
      · have hr1 : (r : Int) ≤ 127 := by omega
        have hb8 : (r : Int) % 256 = ((UInt8.ofNat r).toNat : Int) := by simp
        obtain ⟨v', w', hap, ho', hb', hne, _⟩ := ho.push (P := Try.prog) Try.underlying29 pu8_info rfl (by omega) 29 hb (Nat.le_refl _) #[byteV (UInt8.ofNat r)] rfl (by intro u hu; simp at hu; subst hu; rfl) (by unfold maxLen; omega) (by omega)
        have hend : L = xs ++ [UInt8.ofNat r] := by
          rw [← hxl]
          cases f with
          | zero => rfl
          | succ f => rw [tailF, if_neg (by omega)]
        have HE := Lib.hid hend
        clear hend hxl
        have HLEN : Hid (L.length = xs.length + 1) := by show _ = _; rw [HE.out]; simp
        have HO : Hid (Own w' w.heap.size 5 1 v' L.length (L.map byteV)) := by
          show Own _ _ _ _ _ _ _
          rw [HLEN.out, HE.out]; simpa using ho'
        have HB := Lib.hid hb'
        have hbv : byteV (UInt8.ofNat r) = .int .u8 (r : Int) := by unfold byteV; congr 1; simp; omega
        rw [hbv] at hap
        clear hb8 hbv
        generalize UInt8.ofNat r = c2 at *
        clear hb hne ho' hb' ho hrf hxf
        obtain ⟨A', c', rfl, _, _, _⟩ := HO.out.slice
        go_wp2_with (at_builtin; refine wp_app rfl _ _ _ rfl hap rfl rfl rfl ?_)
        go_ret2
        exact ⟨_, _, rfl, HO.out, HB.out⟩
set_option maxRecDepth 100000 in
set_option maxHeartbeats 3200000 in
theorem enc_4 (n m : Nat) (w : World) (hn : n ≤ 2147483647) (hm : m < 16) :
    Calls Try.prog 26 #[.int .i64 n, .int .i64 4, .int .i64 m] w (EncPost (encL n 4 m) w) := by
  by_cases h : n < 15
  · have hl : encL n 4 m = [UInt8.ofNat (m * 16 + n)] := by unfold encL; rw [if_pos (by omega)]
    have hor := or_i64 m n 4 (by omega) (by omega) (by omega)
    rw [show ((2 ^ 4 : Nat) : Int) = 16 from rfl] at hor
    have h8 : ((m * 2 ^ 4 + n : Nat) : Int) % 256 = ((UInt8.ofNat (m * 16 + n)).toNat : Int) := by simp
    rw [hl]
    clear hl
    generalize UInt8.ofNat (m * 16 + n) = c at *
    generalize m * 2 ^ 4 + n = q at *
    go_enter Try.func26, Try.ntmps26
    go_wp2
    go_ret2
    exact ⟨_, _, rfl, Own.lit (cs := #[byteV c]) (Nat.le_refl _) (by simp [maxLen]) rfl, Fresh.alloc _ _⟩
  · have hl : encL n 4 m = UInt8.ofNat (m * 16 + 15) :: tailF 5 (n - 15) := by unfold encL; rw [if_neg (by omega)]
    have hor := or_i64 m 15 4 (by omega) (by omega) (by omega)
    rw [show ((2 ^ 4 : Nat) : Int) = 16 from rfl, show ((15 : Nat) : Int) = 15 from rfl] at hor
    have h8 : ((m * 2 ^ 4 + 15 : Nat) : Int) % 256 = ((UInt8.ofNat (m * 16 + 15)).toNat : Int) := by simp
    have HL := Lib.hid hl
    generalize encL n 4 m = L at *
    clear hl
    generalize UInt8.ofNat (m * 16 + 15) = c at *
    generalize m * 2 ^ 4 + 15 = q at *
    go_enter Try.func26, Try.ntmps26
    go_wp2
    go_loopw [0, 9] (fun y v wr => EncRel w L y v wr) (fun y _ _ => (intOf y).toNat)
    case atStart =>
      have hsub : (n : Int) - 15 = ((n - 15 : Nat) : Int) := by omega
      exact ⟨n - 15, 5, [c], by rw [hsub], by omega, by simp, by simp; omega, by rw [HL.out]; rfl, Own.lit (cs := #[byteV c]) (Nat.le_refl _) (by simp [maxLen]) rfl, (Below.refl _ _).alloc (Nat.le_refl _) _⟩
    case round =>
      obtain ⟨r, f, xs, rfl, hf5, hxf, hrf, hxl, ho, hb⟩ := hrel
      obtain ⟨A, cc, rfl, _, _, _⟩ := ho.slice
      have hr34 : r < 34359738368 := Nat.lt_of_lt_of_le hrf (Nat.le_trans (Nat.pow_le_pow_right (by omega) hf5) (by decide))
      by_cases hr : 127 < r
      · have hr1 : (127 : Int) < r := by omega
        have hb8 : bits .or .i64 128 (bits .and .i64 (r : Int) 127) % 256 = ((UInt8.ofNat (128 + r % 128)).toNat : Int) := by
          rw [and127 r (by omega), or128 _ (by omega)]; simp
        obtain ⟨v', w', hap, ho', hb', hne, _⟩ := ho.push (P := Try.prog) Try.underlying29 pu8_info rfl (by omega) 29 hb (Nat.le_refl _) #[byteV (UInt8.ofNat (128 + r % 128))] rfl (by intro u hu; simp at hu; subst hu; rfl) (by unfold maxLen; omega) (by omega)
        have HREL : Hid (∀ q : Nat, q = r / 128 → EncRel w L (.int .i64 q) v' w') := fun q hq => by
          subst hq
          obtain ⟨g, rfl⟩ : ∃ g, f = g + 1 := ⟨f - 1, by
            have : f ≠ 0 := by intro e; subst e; simp at hrf; omega
            omega⟩
          refine ⟨r / 128, g, xs ++ [UInt8.ofNat (128 + r % 128)], rfl, by omega, by simp; omega, by rw [Nat.pow_succ] at hrf; omega, ?_, ?_, hb'⟩
          · rw [← hxl, tailF, if_pos (by omega)]; simp
          · simpa using ho'
        unfold byteV at hap
        generalize UInt8.ofNat (128 + r % 128) = c2 at *
        clear hb hne ho' hb' ho hxl hrf hxf
        go_wp2_with (at_builtin; refine wp_app rfl _ _ _ rfl hap rfl rfl rfl ?_)
        go_roundw
        case rel => rw [show (r : Int) / 128 = ((r / 128 : Nat) : Int) by omega]; first | exact HREL.out _ rfl | ((repeat apply Exists.intro); refine ⟨HREL.out _ rfl, ?_⟩; first | rfl | (rw [h8]; rfl))
        case measure => simp [intOf]; omega
      · have hr1 : (r : Int) ≤ 127 := by omega
        have hb8 : (r : Int) % 256 = ((UInt8.ofNat r).toNat : Int) := by simp
        obtain ⟨v', w', hap, ho', hb', hne, _⟩ := ho.push (P := Try.prog) Try.underlying29 pu8_info rfl (by omega) 29 hb (Nat.le_refl _) #[byteV (UInt8.ofNat r)] rfl (by intro u hu; simp at hu; subst hu; rfl) (by unfold maxLen; omega) (by omega)
        have hend : L = xs ++ [UInt8.ofNat r] := by
          rw [← hxl]
          cases f with
          | zero => rfl
          | succ f => rw [tailF, if_neg (by omega)]
        have HE := Lib.hid hend
        clear hend hxl
        have HLEN : Hid (L.length = xs.length + 1) := by show _ = _; rw [HE.out]; simp
        have HO : Hid (Own w' w.heap.size 5 1 v' L.length (L.map byteV)) := by
          show Own _ _ _ _ _ _ _
          rw [HLEN.out, HE.out]; simpa using ho'
        have HB := Lib.hid hb'
        have hbv : byteV (UInt8.ofNat r) = .int .u8 (r : Int) := by unfold byteV; congr 1; simp; omega
        rw [hbv] at hap
        clear hb8 hbv
        generalize UInt8.ofNat r = c2 at *
        clear hb hne ho' hb' ho hrf hxf
        obtain ⟨A', c', rfl, _, _, _⟩ := HO.out.slice
        go_wp2_with (at_builtin; refine wp_app rfl _ _ _ rfl hap rfl rfl rfl ?_)
        go_ret2
        exact ⟨_, _, rfl, HO.out, HB.out⟩
set_option maxRecDepth 100000 in
set_option maxHeartbeats 3200000 in
theorem enc_5 (n m : Nat) (w : World) (hn : n ≤ 2147483647) (hm : m < 8) :
    Calls Try.prog 26 #[.int .i64 n, .int .i64 5, .int .i64 m] w (EncPost (encL n 5 m) w) := by
  by_cases h : n < 31
  · have hl : encL n 5 m = [UInt8.ofNat (m * 32 + n)] := by unfold encL; rw [if_pos (by omega)]
    have hor := or_i64 m n 5 (by omega) (by omega) (by omega)
    rw [show ((2 ^ 5 : Nat) : Int) = 32 from rfl] at hor
    have h8 : ((m * 2 ^ 5 + n : Nat) : Int) % 256 = ((UInt8.ofNat (m * 32 + n)).toNat : Int) := by simp
    rw [hl]
    clear hl
    generalize UInt8.ofNat (m * 32 + n) = c at *
    generalize m * 2 ^ 5 + n = q at *
    go_enter Try.func26, Try.ntmps26
    go_wp2
    go_ret2
    exact ⟨_, _, rfl, Own.lit (cs := #[byteV c]) (Nat.le_refl _) (by simp [maxLen]) rfl, Fresh.alloc _ _⟩
  · have hl : encL n 5 m = UInt8.ofNat (m * 32 + 31) :: tailF 5 (n - 31) := by unfold encL; rw [if_neg (by omega)]
    have hor := or_i64 m 31 5 (by omega) (by omega) (by omega)
    rw [show ((2 ^ 5 : Nat) : Int) = 32 from rfl, show ((31 : Nat) : Int) = 31 from rfl] at hor
    have h8 : ((m * 2 ^ 5 + 31 : Nat) : Int) % 256 = ((UInt8.ofNat (m * 32 + 31)).toNat : Int) := by simp
    have HL := Lib.hid hl
    generalize encL n 5 m = L at *
    clear hl
    generalize UInt8.ofNat (m * 32 + 31) = c at *
    generalize m * 2 ^ 5 + 31 = q at *
    go_enter Try.func26, Try.ntmps26
    go_wp2
    go_loopw [0, 9] (fun y v wr => EncRel w L y v wr) (fun y _ _ => (intOf y).toNat)
    case atStart =>
      have hsub : (n : Int) - 31 = ((n - 31 : Nat) : Int) := by omega
      exact ⟨n - 31, 5, [c], by rw [hsub], by omega, by simp, by simp; omega, by rw [HL.out]; rfl, Own.lit (cs := #[byteV c]) (Nat.le_refl _) (by simp [maxLen]) rfl, (Below.refl _ _).alloc (Nat.le_refl _) _⟩
    case round =>
      obtain ⟨r, f, xs, rfl, hf5, hxf, hrf, hxl, ho, hb⟩ := hrel
      obtain ⟨A, cc, rfl, _, _, _⟩ := ho.slice
      have hr34 : r < 34359738368 := Nat.lt_of_lt_of_le hrf (Nat.le_trans (Nat.pow_le_pow_right (by omega) hf5) (by decide))
      by_cases hr : 127 < r
      · have hr1 : (127 : Int) < r := by omega
        have hb8 : bits .or .i64 128 (bits .and .i64 (r : Int) 127) % 256 = ((UInt8.ofNat (128 + r % 128)).toNat : Int) := by
          rw [and127 r (by omega), or128 _ (by omega)]; simp
        obtain ⟨v', w', hap, ho', hb', hne, _⟩ := ho.push (P := Try.prog) Try.underlying29 pu8_info rfl (by omega) 29 hb (Nat.le_refl _) #[byteV (UInt8.ofNat (128 + r % 128))] rfl (by intro u hu; simp at hu; subst hu; rfl) (by unfold maxLen; omega) (by omega)
        have HREL : Hid (∀ q : Nat, q = r / 128 → EncRel w L (.int .i64 q) v' w') := fun q hq => by
          subst hq
          obtain ⟨g, rfl⟩ : ∃ g, f = g + 1 := ⟨f - 1, by
            have : f ≠ 0 := by intro e; subst e; simp at hrf; omega
            omega⟩
          refine ⟨r / 128, g, xs ++ [UInt8.ofNat (128 + r % 128)], rfl, by omega, by simp; omega, by rw [Nat.pow_succ] at hrf; omega, ?_, ?_, hb'⟩
          · rw [← hxl, tailF, if_pos (by omega)]; simp
          · simpa using ho'
        unfold byteV at hap
        generalize UInt8.ofNat (128 + r % 128) = c2 at *
        clear hb hne ho' hb' ho hxl hrf hxf
        go_wp2_with (at_builtin; refine wp_app rfl _ _ _ rfl hap rfl rfl rfl ?_)
        go_roundw
        case rel => rw [show (r : Int) / 128 = ((r / 128 : Nat) : Int) by omega]; first | exact HREL.out _ rfl | ((repeat apply Exists.intro); refine ⟨HREL.out _ rfl, ?_⟩; first | rfl | (rw [h8]; rfl))
        case measure => simp [intOf]; omega
      · have hr1 : (r : Int) ≤ 127 := by omega
        have hb8 : (r : Int) % 256 = ((UInt8.ofNat r).toNat : Int) := by simp
        obtain ⟨v', w', hap, ho', hb', hne, _⟩ := ho.push (P := Try.prog) Try.underlying29 pu8_info rfl (by omega) 29 hb (Nat.le_refl _) #[byteV (UInt8.ofNat r)] rfl (by intro u hu; simp at hu; subst hu; rfl) (by unfold maxLen; omega) (by omega)
        have hend : L = xs ++ [UInt8.ofNat r] := by
          rw [← hxl]
          cases f with
          | zero => rfl
          | succ f => rw [tailF, if_neg (by omega)]
        have HE := Lib.hid hend
        clear hend hxl
        have HLEN : Hid (L.length = xs.length + 1) := by show _ = _; rw [HE.out]; simp
        have HO : Hid (Own w' w.heap.size 5 1 v' L.length (L.map byteV)) := by
          show Own _ _ _ _ _ _ _
          rw [HLEN.out, HE.out]; simpa using ho'
        have HB := Lib.hid hb'
        have hbv : byteV (UInt8.ofNat r) = .int .u8 (r : Int) := by unfold byteV; congr 1; simp; omega
        rw [hbv] at hap
        clear hb8 hbv
        generalize UInt8.ofNat r = c2 at *
        clear hb hne ho' hb' ho hrf hxf
        obtain ⟨A', c', rfl, _, _, _⟩ := HO.out.slice
        go_wp2_with (at_builtin; refine wp_app rfl _ _ _ rfl hap rfl rfl rfl ?_)
        go_ret2
        exact ⟨_, _, rfl, HO.out, HB.out⟩
set_option maxRecDepth 100000 in
set_option maxHeartbeats 3200000 in
theorem enc_6 (n m : Nat) (w : World) (hn : n ≤ 2147483647) (hm : m < 4) :
    Calls Try.prog 26 #[.int .i64 n, .int .i64 6, .int .i64 m] w (EncPost (encL n 6 m) w) := by
  by_cases h : n < 63
  · have hl : encL n 6 m = [UInt8.ofNat (m * 64 + n)] := by unfold encL; rw [if_pos (by omega)]
    have hor := or_i64 m n 6 (by omega) (by omega) (by omega)
    rw [show ((2 ^ 6 : Nat) : Int) = 64 from rfl] at hor
    have h8 : ((m * 2 ^ 6 + n : Nat) : Int) % 256 = ((UInt8.ofNat (m * 64 + n)).toNat : Int) := by simp
    rw [hl]
    clear hl
    generalize UInt8.ofNat (m * 64 + n) = c at *
    generalize m * 2 ^ 6 + n = q at *
    go_enter Try.func26, Try.ntmps26
    go_wp2
    go_ret2
    exact ⟨_, _, rfl, Own.lit (cs := #[byteV c]) (Nat.le_refl _) (by simp [maxLen]) rfl, Fresh.alloc _ _⟩
  · have hl : encL n 6 m = UInt8.ofNat (m * 64 + 63) :: tailF 5 (n - 63) := by unfold encL; rw [if_neg (by omega)]
    have hor := or_i64 m 63 6 (by omega) (by omega) (by omega)
    rw [show ((2 ^ 6 : Nat) : Int) = 64 from rfl, show ((63 : Nat) : Int) = 63 from rfl] at hor
    have h8 : ((m * 2 ^ 6 + 63 : Nat) : Int) % 256 = ((UInt8.ofNat (m * 64 + 63)).toNat : Int) := by simp
    have HL := Lib.hid hl
    generalize encL n 6 m = L at *
    clear hl
    generalize UInt8.ofNat (m * 64 + 63) = c at *
    generalize m * 2 ^ 6 + 63 = q at *
    go_enter Try.func26, Try.ntmps26
    go_wp2
    go_loopw [0, 9] (fun y v wr => EncRel w L y v wr) (fun y _ _ => (intOf y).toNat)
    case atStart =>
      have hsub : (n : Int) - 63 = ((n - 63 : Nat) : Int) := by omega
      exact ⟨n - 63, 5, [c], by rw [hsub], by omega, by simp, by simp; omega, by rw [HL.out]; rfl, Own.lit (cs := #[byteV c]) (Nat.le_refl _) (by simp [maxLen]) rfl, (Below.refl _ _).alloc (Nat.le_refl _) _⟩
    case round =>
      obtain ⟨r, f, xs, rfl, hf5, hxf, hrf, hxl, ho, hb⟩ := hrel
      obtain ⟨A, cc, rfl, _, _, _⟩ := ho.slice
      have hr34 : r < 34359738368 := Nat.lt_of_lt_of_le hrf (Nat.le_trans (Nat.pow_le_pow_right (by omega) hf5) (by decide))
      by_cases hr : 127 < r
      · have hr1 : (127 : Int) < r := by omega
        have hb8 : bits .or .i64 128 (bits .and .i64 (r : Int) 127) % 256 = ((UInt8.ofNat (128 + r % 128)).toNat : Int) := by
          rw [and127 r (by omega), or128 _ (by omega)]; simp
        obtain ⟨v', w', hap, ho', hb', hne, _⟩ := ho.push (P := Try.prog) Try.underlying29 pu8_info rfl (by omega) 29 hb (Nat.le_refl _) #[byteV (UInt8.ofNat (128 + r % 128))] rfl (by intro u hu; simp at hu; subst hu; rfl) (by unfold maxLen; omega) (by omega)
        have HREL : Hid (∀ q : Nat, q = r / 128 → EncRel w L (.int .i64 q) v' w') := fun q hq => by
          subst hq
          obtain ⟨g, rfl⟩ : ∃ g, f = g + 1 := ⟨f - 1, by
            have : f ≠ 0 := by intro e; subst e; simp at hrf; omega
            omega⟩
          refine ⟨r / 128, g, xs ++ [UInt8.ofNat (128 + r % 128)], rfl, by omega, by simp; omega, by rw [Nat.pow_succ] at hrf; omega, ?_, ?_, hb'⟩
          · rw [← hxl, tailF, if_pos (by omega)]; simp
          · simpa using ho'
        unfold byteV at hap
        generalize UInt8.ofNat (128 + r % 128) = c2 at *
        clear hb hne ho' hb' ho hxl hrf hxf
        go_wp2_with (at_builtin; refine wp_app rfl _ _ _ rfl hap rfl rfl rfl ?_)
        go_roundw
        case rel => rw [show (r : Int) / 128 = ((r / 128 : Nat) : Int) by omega]; first | exact HREL.out _ rfl | ((repeat apply Exists.intro); refine ⟨HREL.out _ rfl, ?_⟩; first | rfl | (rw [h8]; rfl))
        case measure => simp [intOf]; omega
      · have hr1 : (r : Int) ≤ 127 := by omega
        have hb8 : (r : Int) % 256 = ((UInt8.ofNat r).toNat : Int) := by simp
        obtain ⟨v', w', hap, ho', hb', hne, _⟩ := ho.push (P := Try.prog) Try.underlying29 pu8_info rfl (by omega) 29 hb (Nat.le_refl _) #[byteV (UInt8.ofNat r)] rfl (by intro u hu; simp at hu; subst hu; rfl) (by unfold maxLen; omega) (by omega)
        have hend : L = xs ++ [UInt8.ofNat r] := by
          rw [← hxl]
          cases f with
          | zero => rfl
          | succ f => rw [tailF, if_neg (by omega)]
        have HE := Lib.hid hend
        clear hend hxl
        have HLEN : Hid (L.length = xs.length + 1) := by show _ = _; rw [HE.out]; simp
        have HO : Hid (Own w' w.heap.size 5 1 v' L.length (L.map byteV)) := by
          show Own _ _ _ _ _ _ _
          rw [HLEN.out, HE.out]; simpa using ho'
        have HB := Lib.hid hb'
        have hbv : byteV (UInt8.ofNat r) = .int .u8 (r : Int) := by unfold byteV; congr 1; simp; omega
        rw [hbv] at hap
        clear hb8 hbv
        generalize UInt8.ofNat r = c2 at *
        clear hb hne ho' hb' ho hrf hxf
        obtain ⟨A', c', rfl, _, _, _⟩ := HO.out.slice
        go_wp2_with (at_builtin; refine wp_app rfl _ _ _ rfl hap rfl rfl rfl ?_)
        go_ret2
        exact ⟨_, _, rfl, HO.out, HB.out⟩
set_option maxRecDepth 100000 in
set_option maxHeartbeats 3200000 in
set_option maxRecDepth 4096 in
theorem enc_7 (n m : Nat) (w : World) (hn : n ≤ 2147483647) (hm : m < 2) :
    Calls Try.prog 26 #[.int .i64 n, .int .i64 7, .int .i64 m] w (EncPost (encL n 7 m) w) := by
  by_cases h : n < 127
  · have hl : encL n 7 m = [UInt8.ofNat (m * 128 + n)] := by unfold encL; rw [if_pos (by omega)]
    have hor := or_i64 m n 7 (by omega) (by omega) (by omega)
    rw [show ((2 ^ 7 : Nat) : Int) = 128 from rfl] at hor
    have h8 : ((m * 2 ^ 7 + n : Nat) : Int) % 256 = ((UInt8.ofNat (m * 128 + n)).toNat : Int) := by simp
    rw [hl]
    clear hl
    generalize UInt8.ofNat (m * 128 + n) = c at *
    generalize m * 2 ^ 7 + n = q at *
    go_enter Try.func26, Try.ntmps26
    go_wp2
    go_ret2
    exact ⟨_, _, rfl, Own.lit (cs := #[byteV c]) (Nat.le_refl _) (by simp [maxLen]) rfl, Fresh.alloc _ _⟩
  · have hl : encL n 7 m = UInt8.ofNat (m * 128 + 127) :: tailF 5 (n - 127) := by unfold encL; rw [if_neg (by omega)]
    have hor := or_i64 m 127 7 (by omega) (by omega) (by omega)
    rw [show ((2 ^ 7 : Nat) : Int) = 128 from rfl, show ((127 : Nat) : Int) = 127 from rfl] at hor
    have h8 : ((m * 2 ^ 7 + 127 : Nat) : Int) % 256 = ((UInt8.ofNat (m * 128 + 127)).toNat : Int) := by simp
    have HL := Lib.hid hl
    generalize encL n 7 m = L at *
    clear hl
    generalize UInt8.ofNat (m * 128 + 127) = c at *
    generalize m * 2 ^ 7 + 127 = q at *
    go_enter Try.func26, Try.ntmps26
    go_wp2
    go_loopw [0, 9] (fun y v wr => EncRel w L y v wr) (fun y _ _ => (intOf y).toNat)
    case atStart =>
      have hsub : (n : Int) - 127 = ((n - 127 : Nat) : Int) := by omega
      exact ⟨n - 127, 5, [c], by rw [hsub], by omega, by simp, by simp; omega, by rw [HL.out]; rfl, Own.lit (cs := #[byteV c]) (Nat.le_refl _) (by simp [maxLen]) rfl, (Below.refl _ _).alloc (Nat.le_refl _) _⟩
    case round =>
      obtain ⟨r, f, xs, rfl, hf5, hxf, hrf, hxl, ho, hb⟩ := hrel
      obtain ⟨A, cc, rfl, _, _, _⟩ := ho.slice
      have hr34 : r < 34359738368 := Nat.lt_of_lt_of_le hrf (Nat.le_trans (Nat.pow_le_pow_right (by omega) hf5) (by decide))
      by_cases hr : 127 < r
      · have hr1 : (127 : Int) < r := by omega
        have hb8 : bits .or .i64 128 (bits .and .i64 (r : Int) 127) % 256 = ((UInt8.ofNat (128 + r % 128)).toNat : Int) := by
          rw [and127 r (by omega), or128 _ (by omega)]; simp
        obtain ⟨v', w', hap, ho', hb', hne, _⟩ := ho.push (P := Try.prog) Try.underlying29 pu8_info rfl (by omega) 29 hb (Nat.le_refl _) #[byteV (UInt8.ofNat (128 + r % 128))] rfl (by intro u hu; simp at hu; subst hu; rfl) (by unfold maxLen; omega) (by omega)
        have HREL : Hid (∀ q : Nat, q = r / 128 → EncRel w L (.int .i64 q) v' w') := fun q hq => by
          subst hq
          obtain ⟨g, rfl⟩ : ∃ g, f = g + 1 := ⟨f - 1, by
            have : f ≠ 0 := by intro e; subst e; simp at hrf; omega
            omega⟩
          refine ⟨r / 128, g, xs ++ [UInt8.ofNat (128 + r % 128)], rfl, by omega, by simp; omega, by rw [Nat.pow_succ] at hrf; omega, ?_, ?_, hb'⟩
          · rw [← hxl, tailF, if_pos (by omega)]; simp
          · simpa using ho'
        unfold byteV at hap
        generalize UInt8.ofNat (128 + r % 128) = c2 at *
        clear hb hne ho' hb' ho hxl hrf hxf
        go_wp2_with (at_builtin; refine wp_app rfl _ _ _ rfl hap rfl rfl rfl ?_)
        go_roundw
        case rel => rw [show (r : Int) / 128 = ((r / 128 : Nat) : Int) by omega]; first | exact HREL.out _ rfl | ((repeat apply Exists.intro); refine ⟨HREL.out _ rfl, ?_⟩; first | rfl | (rw [h8]; rfl))
        case measure => simp [intOf]; omega
      · have hr1 : (r : Int) ≤ 127 := by omega
        have hb8 : (r : Int) % 256 = ((UInt8.ofNat r).toNat : Int) := by simp
        obtain ⟨v', w', hap, ho', hb', hne, _⟩ := ho.push (P := Try.prog) Try.underlying29 pu8_info rfl (by omega) 29 hb (Nat.le_refl _) #[byteV (UInt8.ofNat r)] rfl (by intro u hu; simp at hu; subst hu; rfl) (by unfold maxLen; omega) (by omega)
        have hend : L = xs ++ [UInt8.ofNat r] := by
          rw [← hxl]
          cases f with
          | zero => rfl
          | succ f => rw [tailF, if_neg (by omega)]
        have HE := Lib.hid hend
        clear hend hxl
        have HLEN : Hid (L.length = xs.length + 1) := by show _ = _; rw [HE.out]; simp
        have HO : Hid (Own w' w.heap.size 5 1 v' L.length (L.map byteV)) := by
          show Own _ _ _ _ _ _ _
          rw [HLEN.out, HE.out]; simpa using ho'
        have HB := Lib.hid hb'
        have hbv : byteV (UInt8.ofNat r) = .int .u8 (r : Int) := by unfold byteV; congr 1; simp; omega
        rw [hbv] at hap
        clear hb8 hbv
        generalize UInt8.ofNat r = c2 at *
        clear hb hne ho' hb' ho hrf hxf
        obtain ⟨A', c', rfl, _, _, _⟩ := HO.out.slice
        go_wp2_with (at_builtin; refine wp_app rfl _ _ _ rfl hap rfl rfl rfl ?_)
        go_ret2
        exact ⟨_, _, rfl, HO.out, HB.out⟩
set_option maxRecDepth 100000 in
set_option maxHeartbeats 3200000 in
set_option maxRecDepth 4096 in
theorem enc_8 (n m : Nat) (w : World) (hn : n ≤ 2147483647) (hm : m < 1) :
    Calls Try.prog 26 #[.int .i64 n, .int .i64 8, .int .i64 m] w (EncPost (encL n 8 m) w) := by
  by_cases h : n < 255
  · have hl : encL n 8 m = [UInt8.ofNat (m * 256 + n)] := by unfold encL; rw [if_pos (by omega)]
    have hor := or_i64 m n 8 (by omega) (by omega) (by omega)
    rw [show ((2 ^ 8 : Nat) : Int) = 256 from rfl] at hor
    have h8 : ((m * 2 ^ 8 + n : Nat) : Int) % 256 = ((UInt8.ofNat (m * 256 + n)).toNat : Int) := by simp
    rw [hl]
    clear hl
    generalize UInt8.ofNat (m * 256 + n) = c at *
    generalize m * 2 ^ 8 + n = q at *
    go_enter Try.func26, Try.ntmps26
    go_wp2
    go_ret2
    exact ⟨_, _, rfl, Own.lit (cs := #[byteV c]) (Nat.le_refl _) (by simp [maxLen]) rfl, Fresh.alloc _ _⟩
  · have hl : encL n 8 m = UInt8.ofNat (m * 256 + 255) :: tailF 5 (n - 255) := by unfold encL; rw [if_neg (by omega)]
    have hor := or_i64 m 255 8 (by omega) (by omega) (by omega)
    rw [show ((2 ^ 8 : Nat) : Int) = 256 from rfl, show ((255 : Nat) : Int) = 255 from rfl] at hor
    have h8 : ((m * 2 ^ 8 + 255 : Nat) : Int) % 256 = ((UInt8.ofNat (m * 256 + 255)).toNat : Int) := by simp
    have HL := Lib.hid hl
    generalize encL n 8 m = L at *
    clear hl
    generalize UInt8.ofNat (m * 256 + 255) = c at *
    generalize m * 2 ^ 8 + 255 = q at *
    go_enter Try.func26, Try.ntmps26
    go_wp2
    go_loopw [0, 9] (fun y v wr => EncRel w L y v wr) (fun y _ _ => (intOf y).toNat)
    case atStart =>
      have hsub : (n : Int) - 255 = ((n - 255 : Nat) : Int) := by omega
      exact ⟨n - 255, 5, [c], by rw [hsub], by omega, by simp, by simp; omega, by rw [HL.out]; rfl, Own.lit (cs := #[byteV c]) (Nat.le_refl _) (by simp [maxLen]) rfl, (Below.refl _ _).alloc (Nat.le_refl _) _⟩
    case round =>
      obtain ⟨r, f, xs, rfl, hf5, hxf, hrf, hxl, ho, hb⟩ := hrel
      obtain ⟨A, cc, rfl, _, _, _⟩ := ho.slice
      have hr34 : r < 34359738368 := Nat.lt_of_lt_of_le hrf (Nat.le_trans (Nat.pow_le_pow_right (by omega) hf5) (by decide))
      by_cases hr : 127 < r
      · have hr1 : (127 : Int) < r := by omega
        have hb8 : bits .or .i64 128 (bits .and .i64 (r : Int) 127) % 256 = ((UInt8.ofNat (128 + r % 128)).toNat : Int) := by
          rw [and127 r (by omega), or128 _ (by omega)]; simp
        obtain ⟨v', w', hap, ho', hb', hne, _⟩ := ho.push (P := Try.prog) Try.underlying29 pu8_info rfl (by omega) 29 hb (Nat.le_refl _) #[byteV (UInt8.ofNat (128 + r % 128))] rfl (by intro u hu; simp at hu; subst hu; rfl) (by unfold maxLen; omega) (by omega)
        have HREL : Hid (∀ q : Nat, q = r / 128 → EncRel w L (.int .i64 q) v' w') := fun q hq => by
          subst hq
          obtain ⟨g, rfl⟩ : ∃ g, f = g + 1 := ⟨f - 1, by
            have : f ≠ 0 := by intro e; subst e; simp at hrf; omega
            omega⟩
          refine ⟨r / 128, g, xs ++ [UInt8.ofNat (128 + r % 128)], rfl, by omega, by simp; omega, by rw [Nat.pow_succ] at hrf; omega, ?_, ?_, hb'⟩
          · rw [← hxl, tailF, if_pos (by omega)]; simp
          · simpa using ho'
        unfold byteV at hap
        generalize UInt8.ofNat (128 + r % 128) = c2 at *
        clear hb hne ho' hb' ho hxl hrf hxf
        go_wp2_with (at_builtin; refine wp_app rfl _ _ _ rfl hap rfl rfl rfl ?_)
        go_roundw
        case rel => rw [show (r : Int) / 128 = ((r / 128 : Nat) : Int) by omega]; first | exact HREL.out _ rfl | ((repeat apply Exists.intro); refine ⟨HREL.out _ rfl, ?_⟩; first | rfl | (rw [h8]; rfl) | (rw [h8, show decide (0 < m) = false from decide_eq_false (by omega)]; simp only [Bool.or_false]; rfl))
        case measure => simp [intOf]; omega
      · have hr1 : (r : Int) ≤ 127 := by omega
        have hb8 : (r : Int) % 256 = ((UInt8.ofNat r).toNat : Int) := by simp
        obtain ⟨v', w', hap, ho', hb', hne, _⟩ := ho.push (P := Try.prog) Try.underlying29 pu8_info rfl (by omega) 29 hb (Nat.le_refl _) #[byteV (UInt8.ofNat r)] rfl (by intro u hu; simp at hu; subst hu; rfl) (by unfold maxLen; omega) (by omega)
        have hend : L = xs ++ [UInt8.ofNat r] := by
          rw [← hxl]
          cases f with
          | zero => rfl
          | succ f => rw [tailF, if_neg (by omega)]
        have HE := Lib.hid hend
        clear hend hxl
        have HLEN : Hid (L.length = xs.length + 1) := by show _ = _; rw [HE.out]; simp
        have HO : Hid (Own w' w.heap.size 5 1 v' L.length (L.map byteV)) := by
          show Own _ _ _ _ _ _ _
          rw [HLEN.out, HE.out]; simpa using ho'
        have HB := Lib.hid hb'
        have hbv : byteV (UInt8.ofNat r) = .int .u8 (r : Int) := by unfold byteV; congr 1; simp; omega
        rw [hbv] at hap
        clear hb8 hbv
        generalize UInt8.ofNat r = c2 at *
        clear hb hne ho' hb' ho hrf hxf
        obtain ⟨A', c', rfl, _, _, _⟩ := HO.out.slice
        go_wp2_with (at_builtin; refine wp_app rfl _ _ _ rfl hap rfl rfl rfl ?_)
        go_ret2
        exact ⟨_, _, rfl, HO.out, HB.out⟩

end Go.Proofs.Ytdoddpigiencjaa

