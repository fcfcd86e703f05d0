/-
  Contracts of package prefix: ones, Encode for all, Len, Decode, Mark.
-/
import Derived.Test.YtdoddpigiencjaaPrefix
namespace Go.Proofs.Ytdoddpigiencjaa
set_option linter.unusedVariables false
open Go.RowKit

theorem ones_c (b : Nat) (hb : b ≤ 8) (w : World) :
    Calls Try.prog 46 #[.int .i64 b] w fun e w' => e = .returned (.int .i64 ((2 ^ b - 1 : Nat) : Int)) ∧ w = w' := by
  have h : b = 0 ∨ b = 1 ∨ b = 2 ∨ b = 3 ∨ b = 4 ∨ b = 5 ∨ b = 6 ∨ b = 7 ∨ b = 8 := by omega
  rcases h with rfl | rfl | rfl | rfl | rfl | rfl | rfl | rfl | rfl <;>
  · go_enter Try.func46, Try.ntmps46
    go_wp2
    go_ret
    exact ⟨rfl, rfl⟩

theorem rb_c (b : Nat) (hb1 : 1 ≤ b) (hb : b ≤ 8) (w : World) :
    Calls Try.prog 45 #[.int .i64 b] w fun e w' => e = .returned (.bool true) ∧ w = w' := by
  have h1 : (1 : Int) ≤ b := by omega
  have h2 : (b : Int) ≤ 8 := by omega
  go_enter Try.func45, Try.ntmps45
  go_wp2
  go_ret
  exact ⟨rfl, rfl⟩
theorem rb_no (b : Int) (hb : ¬ (1 ≤ b ∧ b ≤ 8)) (w : World) :
    Calls Try.prog 45 #[.int .i64 b] w fun e w' => e = .returned (.bool false) ∧ w = w' := by
  by_cases h1 : b < 1
  · clear hb
    go_enter Try.func45, Try.ntmps45
    go_wp2
    go_ret
    exact ⟨rfl, rfl⟩
  · have h2 : 8 < b := by omega
    clear hb
    go_enter Try.func45, Try.ntmps45
    go_wp2
    go_ret
    exact ⟨ret_bool (decide_eq_false (by omega)), rfl⟩

theorem and_ones (c b : Nat) (hc : c < 256) (hb : b ≤ 8) : bits .and .i64 (c : Int) ((2 ^ b - 1 : Nat) : Int) = ((c % 2 ^ b : Nat) : Int) := by
  have h256 : 2 ^ b ≤ 256 := by have : 2 ^ b ≤ 2 ^ 8 := Nat.pow_le_pow_right (by omega) hb; omega
  show IntKind.i64.wrap ((BitVec.ofInt 64 (c : Int) &&& BitVec.ofInt 64 ((2 ^ b - 1 : Nat) : Int)).toNat : Int) = _
  rw [BitVec.ofInt_natCast, BitVec.ofInt_natCast, BitVec.toNat_and, BitVec.toNat_ofNat, BitVec.toNat_ofNat, Nat.mod_eq_of_lt (by omega), Nat.mod_eq_of_lt (by omega), Nat.and_two_pow_sub_one_eq_mod]
  have := Nat.mod_le c (2 ^ b)
  exact IntWalk.i64_in _ (by omega)

theorem and127u (c : Nat) (hc : c < 256) : bits .and .u8 (c : Int) 127 = ((c % 128 : Nat) : Int) := by
  show IntKind.u8.wrap ((BitVec.ofInt 8 (c : Int) &&& BitVec.ofInt 8 ((127 : Nat) : Int)).toNat : Int) = _
  rw [BitVec.ofInt_natCast, BitVec.ofInt_natCast, BitVec.toNat_and, BitVec.toNat_ofNat, BitVec.toNat_ofNat, Nat.mod_eq_of_lt (by omega), Nat.mod_eq_of_lt (by omega)]
  rw [show (127 : Nat) = 2 ^ 7 - 1 from rfl, Nat.and_two_pow_sub_one_eq_mod]
  rw [IntKind.wrap_u8]
  omega

theorem enc_any (n b m : Nat) (w : World) (hb1 : 1 ≤ b) (hb8 : b ≤ 8) (hn : n ≤ 2147483647) (hm : m < 2 ^ (8 - b)) :
    Calls Try.prog 26 #[.int .i64 n, .int .i64 b, .int .i64 m] w (EncPost (encL n b m) w) := by
  have h : b = 1 ∨ b = 2 ∨ b = 3 ∨ b = 4 ∨ b = 5 ∨ b = 6 ∨ b = 7 ∨ b = 8 := by omega
  rcases h with rfl | rfl | rfl | rfl | rfl | rfl | rfl | rfl
  · exact enc_1 n m w hn hm
  · exact enc_2 n m w hn hm
  · exact enc_3 n m w hn hm
  · exact enc_4 n m w hn hm
  · exact enc_5 n m w hn hm
  · exact enc_6 n m w hn hm
  · exact enc_7 n m w hn hm
  · exact enc_8 n m w hn hm

/-- May these be? -/
def okP (n b m : Int) : Prop := 1 ≤ b ∧ b ≤ 8 ∧ 0 ≤ n ∧ n ≤ 2147483647 ∧ 0 ≤ m ∧ m < 2 ^ (8 - b.toNat)

theorem enc_no (n b m : Int) (w : World) (h : ¬ okP n b m) :
    Calls Try.prog 26 #[.int .i64 n, .int .i64 b, .int .i64 m] w fun e w' => e = .returned (.tuple #[.slice none 0 0, .int .i64 11]) ∧ w = w' := by
  by_cases h1 : b < 1
  · clear h
    go_enter Try.func26, Try.ntmps26
    go_wp2
    go_ret2
    exact ⟨rfl, rfl⟩
  · by_cases h2 : 8 < b
    · clear h
      go_enter Try.func26, Try.ntmps26
      go_wp2
      go_ret2
      exact ⟨rfl, rfl⟩
    · by_cases h3 : n < 0
      · clear h
        go_enter Try.func26, Try.ntmps26
        go_wp2
        go_ret2
        exact ⟨rfl, rfl⟩
      · by_cases h4 : 2147483647 < n
        · clear h
          go_enter Try.func26, Try.ntmps26
          go_wp2
          go_ret2
          exact ⟨rfl, rfl⟩
        · by_cases h5 : m < 0
          · clear h
            go_enter Try.func26, Try.ntmps26
            go_wp2
            go_ret2
            exact ⟨rfl, rfl⟩
          · obtain ⟨b', rfl⟩ : ∃ b' : Nat, b = b' := ⟨b.toNat, by omega⟩
            have h6 : ((2 ^ (8 - b') - 1 : Nat) : Int) < m := by
              have hp : 0 < 2 ^ (8 - b') := Nat.pow_pos (by omega)
              have h7 : ¬ m < 2 ^ (8 - b') := fun h7 => h ⟨by omega, by omega, by omega, by omega, by omega, by simpa using h7⟩
              have h8 : ((2 ^ (8 - b') : Nat) : Int) ≤ m := by simp only [Int.natCast_pow]; push_cast; omega
              omega
            have HO := Lib.hid (ones_c (8 - b') (by omega))
            have hw : (8 : Int) - (b' : Int) = ((8 - b' : Nat) : Int) := by omega
            clear h
            generalize 2 ^ (8 - b') - 1 = t at *
            go_enter Try.func26, Try.ntmps26
            have HB := Lib.hid (rb_c b' (by omega) (by omega) w)
            go_wp2_with fail
            refine HB.out.mono ?_
            rintro e w1 ⟨rfl, rfl⟩
            go_wp2_with fail
            refine (HO.out _).mono ?_
            rintro e w1 ⟨rfl, rfl⟩
            go_wp2
            go_ret2
            exact ⟨rfl, rfl⟩

theorem len_yes (n b : Nat) (w : World) (hb1 : 1 ≤ b) (hb8 : b ≤ 8) (hn : n ≤ 2147483647) :
    Calls Try.prog 79 #[.int .i64 n, .int .i64 b] w fun e w' => e = .returned (.int .i64 (encL n b 0).length) ∧ Fresh w w' := by
  have HE := Lib.hid (enc_any n b 0 w hb1 hb8 hn (Nat.pow_pos (by omega)))
  go_enter Try.func79, Try.ntmps79
  go_wp2_with fail
  refine HE.out.mono ?_
  rintro e w1 ⟨A, c, rfl, ho, hf⟩
  have HF := Lib.hid hf
  clear ho hf
  go_wp2
  go_ret
  exact ⟨rfl, HF.out⟩
theorem len_no (n b : Int) (w : World) (h : ¬ okP n b 0) :
    Calls Try.prog 79 #[.int .i64 n, .int .i64 b] w fun e w' => e = .returned (.int .i64 0) ∧ Fresh w w' := by
  have HE := Lib.hid (enc_no n b 0 w h)
  clear h
  go_enter Try.func79, Try.ntmps79
  go_wp2_with fail
  refine HE.out.mono ?_
  rintro e w1 ⟨rfl, rfl⟩
  go_wp2
  go_ret
  exact ⟨rfl, Fresh.refl _⟩

def decV (r : Int × Int × Int) : Value := .tuple #[.int .i64 r.1, .int .i64 r.2.1, .int .i64 r.2.2]

theorem dec_bits (A : Option Addr) (c n : Nat) (b : Int) (w : World) (h : ¬ (1 ≤ b ∧ b ≤ 8)) :
    Calls Try.prog 52 #[.slice A n c, .int .i64 b] w fun e w' => e = .returned (decV (0, 0, 11)) ∧ Fresh w w' := by
  have HB := Lib.hid (rb_no b h w)
  clear h
  go_enter Try.func52, Try.ntmps52
  go_wp2_with fail
  refine HB.out.mono ?_
  rintro e w1 ⟨rfl, rfl⟩
  go_wp2
  go_ret3
  exact ⟨rfl, Fresh.refl _⟩

set_option maxRecDepth 100000 in
set_option maxHeartbeats 1600000 in
theorem dec_any (A : Option Addr) (c b : Nat) (l : List UInt8) (w : World) (hb1 : 1 ≤ b) (hb8 : b ≤ 8) (hmx : l.length ≤ 9223372036854775807) (h : BS w A l) :
    Calls Try.prog 52 #[.slice A l.length c, .int .i64 b] w fun e w' => e = .returned (decV (decL l b)) ∧ Fresh w w' := by
  by_cases h0 : l.length = 0
  · have hl : decL l b = (0, 0, 16) := by unfold decL; rw [List.getElem?_eq_none (by omega)]
    rw [hl, h0]
    clear hl h
    have HB := Lib.hid (rb_c b hb1 hb8 w)
    go_enter Try.func52, Try.ntmps52
    go_wp2_with fail
    refine HB.out.mono ?_
    rintro e w1 ⟨rfl, rfl⟩
    go_wp2
    go_ret3
    exact ⟨rfl, Fresh.refl _⟩
  · obtain ⟨blk, o, rfl, _, hcs⟩ := h.addr (by omega)
    have hc0 := hcs 0 (by omega)
    simp only [byteV, Nat.add_zero] at hc0
    have HB := Lib.hid (rb_c b hb1 hb8 w)
    have HCS := Lib.hid hcs
    clear hcs h
    have HO := Lib.hid (ones_c b hb8)
    have hand := and_ones l[0].toNat b (UInt8.toNat_lt _) hb8
    have hlt0 := UInt8.toNat_lt l[0]
    have hwc : IntKind.i64.wrap (l[0].toNat : Int) = (l[0].toNat : Int) := IntWalk.i64_in _ (by omega)
    have hl0 : 0 < l.length := by omega
    by_cases h1 : l[0].toNat % 2 ^ b < 2 ^ b - 1
    · have HL : Hid (decL l b = (((l[0].toNat % 2 ^ b : Nat) : Int), 1, 0)) := by
        show _ = _
        unfold decL; rw [List.getElem?_eq_getElem hl0]; simp only []; rw [if_pos h1]
      generalize l[0].toNat % 2 ^ b = q at *
      generalize 2 ^ b - 1 = t at *
      have h1' : (q : Int) < (t : Int) := by omega
      go_enter Try.func52, Try.ntmps52
      go_wp2_with fail
      refine HB.out.mono ?_
      rintro e w1 ⟨rfl, rfl⟩
      go_wp2
      go_quiet ((go_at_call 46; exact Calls.quiet_of_same ((HO.out _).mono fun _ _ ⟨a, b⟩ => ⟨a, b.symm⟩)))
      go_wp2_with (go_at_call 46; refine (HO.out _).mono ?_; rintro e w2 ⟨rfl, rfl⟩)
      go_ret3
      exact ⟨by rw [HL.out]; rfl, Fresh.drewN _ _⟩
    · have HL : Hid (decL l b = decF 6 l 1 (l[0].toNat % 2 ^ b)) := by
        show _ = _
        unfold decL; rw [List.getElem?_eq_getElem hl0]; simp only []; rw [if_neg h1]
      have hq9 : l[0].toNat % 2 ^ b ≤ 255 := by have := Nat.mod_le l[0].toNat (2 ^ b); omega
      generalize l[0].toNat % 2 ^ b = q at *
      generalize 2 ^ b - 1 = t at *
      have h1' : ¬ (q : Int) < (t : Int) := by omega
      go_enter Try.func52, Try.ntmps52
      go_wp2_with fail
      refine HB.out.mono ?_
      rintro e w1 ⟨rfl, rfl⟩
      go_wp2
      go_quiet ((go_at_call 46; exact Calls.quiet_of_same ((HO.out _).mono fun _ _ ⟨a, b⟩ => ⟨a, b.symm⟩)))
      go_wp2_with (go_at_call 46; refine (HO.out _).mono ?_; rintro e w2 ⟨rfl, rfl⟩)
      clear hwc hc0 hand hlt0 h1' h1
      go_loop [4, 7] (fun y i => ∃ (k m : Nat), k ≤ l.length ∧ 1 ≤ k ∧ k ≤ 6 ∧ m ≤ 2147483647 ∧ i = .int .i64 k ∧ y = .int .i64 m ∧ decF (7 - k) l k m = decL l b) (fun _ i => 7 - (intOf i).toNat)
      case atStart => exact ⟨1, q, by omega, by omega, by omega, by omega, rfl, rfl, HL.out.symm⟩
      case round =>
        obtain ⟨k, m, hkl, hk1, hk6, hm, rfl, rfl, hd⟩ := hrel
        have HD := Lib.hid hd
        clear hd
        by_cases hlt : k < l.length
        · by_cases hk : k = 6
          · subst hk
            have HE : Hid (decL l b = (0, 0, 22)) := by
              show _ = _
              rw [← HD.out, decF, List.getElem?_eq_getElem hlt]; simp only []; rw [if_pos (by omega)]
            have hne : ((6 : Int) == (l.length : Int)) = false := by simp; omega
            go_wp2
            go_ret3
            exact ⟨by rw [HE.out]; rfl, Fresh.drewN _ _⟩
          · have hck := HCS.out k hlt
            unfold byteV at hck
            have hltk := UInt8.toNat_lt l[k]
            have hkk : k = 1 ∨ k = 2 ∨ k = 3 ∨ k = 4 ∨ k = 5 := by omega
            have hand := and127u l[k].toNat hltk
            have hy : l[k].toNat % 128 < 128 := Nat.mod_lt _ (by omega)
            have HD2 : Hid (decL l b = if 2147483647 < m + l[k].toNat % 128 * 128 ^ (k - 1) then (0, 0, 22)
                else if l[k].toNat < 128 then (((m + l[k].toNat % 128 * 128 ^ (k - 1) : Nat) : Int), ((k + 1 : Nat) : Int), 0)
                else decF (6 - k) l (k + 1) (m + l[k].toNat % 128 * 128 ^ (k - 1))) := by
              show _ = _
              rw [← HD.out, show 7 - k = (6 - k) + 1 by omega, decF, List.getElem?_eq_getElem hlt]; simp only []; rw [if_neg (by omega)]
            clear HD HL
            generalize l[k].toNat % 128 = y at *
            generalize l[k].toNat = z at *
            rcases hkk with rfl | rfl | rfl | rfl | rfl
            · have hne : ((1 : Int) == (l.length : Int)) = false := by simp; omega
              by_cases hbig : 2147483647 < m + y
              · have HE : Hid (decL l b = (0, 0, 22)) := by
                  show _ = _
                  rw [HD2.out]; exact if_pos (by simpa using hbig)
                have hbig' : (2147483647 : Int) < (m : Int) + (y : Int) := by omega
                clear hbig HD2
                go_wp2
                go_ret3
                exact ⟨by rw [HE.out]; rfl, Fresh.drewN _ _⟩
              · have HE : Hid (decL l b = if z < 128 then (((m + y : Nat) : Int), ((1 + 1 : Nat) : Int), 0) else decF 5 l (1 + 1) (m + y)) := by
                  show _ = _
                  rw [HD2.out]
                  rw [if_neg (show ¬ 2147483647 < m + y * 128 ^ (1 - 1) from by simpa using hbig)]
                  simp
                have hbig' : (m : Int) + (y : Int) ≤ 2147483647 := by omega
                have hN : ((m + y : Nat) : Int) = (m : Int) + (y : Int) := by omega
                have HN := Lib.hid hN
                clear hbig HD2 hN
                by_cases h128 : z < 128
                · have h128' : (z : Int) < 128 := by omega
                  go_wp2
                  go_ret3
                  exact ⟨by rw [HE.out, if_pos h128, HN.out]; rfl, Fresh.drewN _ _⟩
                · have h128' : ¬ (z : Int) < 128 := by omega
                  go_wp2
                  go_round
                  case rel => exact ⟨2, m + y, by omega, by omega, by omega, by have := HN.out; omega, by go_num, by rw [HN.out], by rw [HE.out, if_neg h128]⟩
                  case measure => simp [intOf]
            · have hne : ((2 : Int) == (l.length : Int)) = false := by simp; omega
              by_cases hbig : 2147483647 < m + y * 128
              · have HE : Hid (decL l b = (0, 0, 22)) := by
                  show _ = _
                  rw [HD2.out]; exact if_pos (by simpa using hbig)
                have hbig' : (2147483647 : Int) < (m : Int) + (y : Int) * 128 := by omega
                clear hbig HD2
                go_wp2
                go_ret3
                exact ⟨by rw [HE.out]; rfl, Fresh.drewN _ _⟩
              · have HE : Hid (decL l b = if z < 128 then (((m + y * 128 : Nat) : Int), ((2 + 1 : Nat) : Int), 0) else decF 4 l (2 + 1) (m + y * 128)) := by
                  show _ = _
                  rw [HD2.out]
                  rw [if_neg (show ¬ 2147483647 < m + y * 128 ^ (2 - 1) from by simpa using hbig)]
                have hbig' : (m : Int) + (y : Int) * 128 ≤ 2147483647 := by omega
                have hN : ((m + y * 128 : Nat) : Int) = (m : Int) + (y : Int) * 128 := by omega
                have HN := Lib.hid hN
                clear hbig HD2 hN
                by_cases h128 : z < 128
                · have h128' : (z : Int) < 128 := by omega
                  go_wp2
                  go_ret3
                  exact ⟨by rw [HE.out, if_pos h128, HN.out]; rfl, Fresh.drewN _ _⟩
                · have h128' : ¬ (z : Int) < 128 := by omega
                  go_wp2
                  go_round
                  case rel => exact ⟨3, m + y * 128, by omega, by omega, by omega, by have := HN.out; omega, by go_num, by rw [HN.out], by rw [HE.out, if_neg h128]⟩
                  case measure => simp [intOf]
            · have hne : ((3 : Int) == (l.length : Int)) = false := by simp; omega
              by_cases hbig : 2147483647 < m + y * 16384
              · have HE : Hid (decL l b = (0, 0, 22)) := by
                  show _ = _
                  rw [HD2.out]; exact if_pos (by simpa using hbig)
                have hbig' : (2147483647 : Int) < (m : Int) + (y : Int) * 16384 := by omega
                clear hbig HD2
                go_wp2
                go_ret3
                exact ⟨by rw [HE.out]; rfl, Fresh.drewN _ _⟩
              · have HE : Hid (decL l b = if z < 128 then (((m + y * 16384 : Nat) : Int), ((3 + 1 : Nat) : Int), 0) else decF 3 l (3 + 1) (m + y * 16384)) := by
                  show _ = _
                  rw [HD2.out]
                  rw [if_neg (show ¬ 2147483647 < m + y * 128 ^ (3 - 1) from by simpa using hbig)]
                have hbig' : (m : Int) + (y : Int) * 16384 ≤ 2147483647 := by omega
                have hN : ((m + y * 16384 : Nat) : Int) = (m : Int) + (y : Int) * 16384 := by omega
                have HN := Lib.hid hN
                clear hbig HD2 hN
                by_cases h128 : z < 128
                · have h128' : (z : Int) < 128 := by omega
                  go_wp2
                  go_ret3
                  exact ⟨by rw [HE.out, if_pos h128, HN.out]; rfl, Fresh.drewN _ _⟩
                · have h128' : ¬ (z : Int) < 128 := by omega
                  go_wp2
                  go_round
                  case rel => exact ⟨4, m + y * 16384, by omega, by omega, by omega, by have := HN.out; omega, by go_num, by rw [HN.out], by rw [HE.out, if_neg h128]⟩
                  case measure => simp [intOf]
            · have hne : ((4 : Int) == (l.length : Int)) = false := by simp; omega
              by_cases hbig : 2147483647 < m + y * 2097152
              · have HE : Hid (decL l b = (0, 0, 22)) := by
                  show _ = _
                  rw [HD2.out]; exact if_pos (by simpa using hbig)
                have hbig' : (2147483647 : Int) < (m : Int) + (y : Int) * 2097152 := by omega
                clear hbig HD2
                go_wp2
                go_ret3
                exact ⟨by rw [HE.out]; rfl, Fresh.drewN _ _⟩
              · have HE : Hid (decL l b = if z < 128 then (((m + y * 2097152 : Nat) : Int), ((4 + 1 : Nat) : Int), 0) else decF 2 l (4 + 1) (m + y * 2097152)) := by
                  show _ = _
                  rw [HD2.out]
                  rw [if_neg (show ¬ 2147483647 < m + y * 128 ^ (4 - 1) from by simpa using hbig)]
                have hbig' : (m : Int) + (y : Int) * 2097152 ≤ 2147483647 := by omega
                have hN : ((m + y * 2097152 : Nat) : Int) = (m : Int) + (y : Int) * 2097152 := by omega
                have HN := Lib.hid hN
                clear hbig HD2 hN
                by_cases h128 : z < 128
                · have h128' : (z : Int) < 128 := by omega
                  go_wp2
                  go_ret3
                  exact ⟨by rw [HE.out, if_pos h128, HN.out]; rfl, Fresh.drewN _ _⟩
                · have h128' : ¬ (z : Int) < 128 := by omega
                  go_wp2
                  go_round
                  case rel => exact ⟨5, m + y * 2097152, by omega, by omega, by omega, by have := HN.out; omega, by go_num, by rw [HN.out], by rw [HE.out, if_neg h128]⟩
                  case measure => simp [intOf]
            · have hne : ((5 : Int) == (l.length : Int)) = false := by simp; omega
              by_cases hbig : 2147483647 < m + y * 268435456
              · have HE : Hid (decL l b = (0, 0, 22)) := by
                  show _ = _
                  rw [HD2.out]; exact if_pos (by simpa using hbig)
                have hbig' : (2147483647 : Int) < (m : Int) + (y : Int) * 268435456 := by omega
                clear hbig HD2
                go_wp2
                go_ret3
                exact ⟨by rw [HE.out]; rfl, Fresh.drewN _ _⟩
              · have HE : Hid (decL l b = if z < 128 then (((m + y * 268435456 : Nat) : Int), ((5 + 1 : Nat) : Int), 0) else decF 1 l (5 + 1) (m + y * 268435456)) := by
                  show _ = _
                  rw [HD2.out]
                  rw [if_neg (show ¬ 2147483647 < m + y * 128 ^ (5 - 1) from by simpa using hbig)]
                have hbig' : (m : Int) + (y : Int) * 268435456 ≤ 2147483647 := by omega
                have hN : ((m + y * 268435456 : Nat) : Int) = (m : Int) + (y : Int) * 268435456 := by omega
                have HN := Lib.hid hN
                clear hbig HD2 hN
                by_cases h128 : z < 128
                · have h128' : (z : Int) < 128 := by omega
                  go_wp2
                  go_ret3
                  exact ⟨by rw [HE.out, if_pos h128, HN.out]; rfl, Fresh.drewN _ _⟩
                · have h128' : ¬ (z : Int) < 128 := by omega
                  go_wp2
                  go_round
                  case rel => exact ⟨6, m + y * 268435456, by omega, by omega, by omega, by have := HN.out; omega, by go_num, by rw [HN.out], by rw [HE.out, if_neg h128]⟩
                  case measure => simp [intOf]
        · have hkl' : k = l.length := by omega
          have HE : Hid (decL l b = (0, 0, 16)) := by
            show _ = _
            rw [← HD.out, show 7 - k = (6 - k) + 1 by omega, decF, List.getElem?_eq_none (by omega)]
          have hne : ((k : Int) == (l.length : Int)) = true := by simp; omega
          go_wp2
          go_ret3
          exact ⟨by rw [HE.out]; rfl, Fresh.drewN _ _⟩


theorem mark_no (A : Option Addr) (c n : Nat) (b : Int) (w : World) (h : n = 0 ∨ ¬ (1 ≤ b ∧ b ≤ 8)) :
    Calls Try.prog 57 #[.slice A n c, .int .i64 b] w fun e w' => e = .returned (.tuple #[.int .i64 0, .bool false]) ∧ w = w' := by
  by_cases h0 : n = 0
  · subst h0
    clear h
    go_enter Try.func57, Try.ntmps57
    go_wp2
    go_ret2
    exact ⟨rfl, rfl⟩
  · have h1 : ¬ (1 ≤ b ∧ b ≤ 8) := h.resolve_left h0
    have HB := Lib.hid (rb_no b h1 w)
    clear h h1
    have h0' : ((n : Int) == 0) = false := by simp; omega
    go_enter Try.func57, Try.ntmps57
    go_wp2_with fail
    refine HB.out.mono ?_
    rintro e w1 ⟨rfl, rfl⟩
    go_wp2
    go_ret2
    exact ⟨rfl, rfl⟩
theorem mark_yes (A : Option Addr) (c b : Nat) (l : List UInt8) (w : World) (hb1 : 1 ≤ b) (hb8 : b ≤ 8) (hl : 0 < l.length) (h : BS w A l) :
    Calls Try.prog 57 #[.slice A l.length c, .int .i64 b] w fun e w' => e = .returned (.tuple #[.int .i64 ((l[0].toNat / 2 ^ b : Nat) : Int), .bool true]) ∧ Fresh w w' := by
  obtain ⟨blk, o, rfl, _, hcs⟩ := h.addr hl
  have hc0 := hcs 0 hl
  simp only [byteV, Nat.add_zero] at hc0
  have h0' : ((l.length : Int) == 0) = false := by rw [beq_eq_false_iff_ne]; omega
  have hlt0 := UInt8.toNat_lt l[0]
  clear hcs h
  generalize l[0].toNat = x at *
  have hh : b = 1 ∨ b = 2 ∨ b = 3 ∨ b = 4 ∨ b = 5 ∨ b = 6 ∨ b = 7 ∨ b = 8 := by omega
  rcases hh with rfl | rfl | rfl | rfl | rfl | rfl | rfl | rfl <;>
  · go_enter Try.func57, Try.ntmps57
    go_wp2
    go_ret2
    exact ⟨rfl, Fresh.refl _⟩
end Go.Proofs.Ytdoddpigiencjaa

