/-
  The document's answers for layer 3.
-/
import Derived.Test.YtdoddpigiencjaaPrefixD
namespace Go.Proofs.Ytdoddpigiencjaa
set_option linter.unusedVariables false
open Go.RowKit

theorem pow_c (n : Nat) (hn : n ≤ 8) (w : World) :
    Calls Try.prog 48 #[.int .i64 n] w fun e w' => e = .returned (.int .i64 ((2 ^ n : Nat) : Int)) ∧ w = w' := by
  go_enter Try.func48, Try.ntmps48
  go_wp2
  go_loop [3, 4] (fun x i => ∃ k : Nat, k ≤ n ∧ i = .int .i64 k ∧ x = .int .i64 ((2 ^ k : Nat) : Int)) (fun _ i => n - (intOf i).toNat)
  case atStart => exact ⟨0, by omega, rfl, rfl⟩
  case round =>
    obtain ⟨k, hk, rfl, rfl⟩ := hrel
    by_cases hlt : k < n
    · have hp : 2 ^ k ≤ 2 ^ 8 := Nat.pow_le_pow_right (by omega) (by omega)
      have hp' : ((2 ^ k : Nat) : Int) ≤ 256 := by omega
      have hp0 : (0 : Int) ≤ ((2 ^ k : Nat) : Int) := Int.natCast_nonneg _
      have HS : Hid (((2 ^ (k + 1) : Nat) : Int) = ((2 ^ k : Nat) : Int) * 2) := by show _ = _; rw [Nat.pow_succ]; omega
      clear hp
      generalize ((2 ^ k : Nat) : Int) = p at *
      have hlt' : (k : Int) < (n : Int) := by omega
      go_wp2
      go_round
      case rel => exact ⟨k + 1, by omega, by go_num, by rw [HS.out]⟩
      case measure => simp [intOf]; omega
    · obtain rfl : k = n := by omega
      go_wp2
      go_ret
      exact ⟨rfl, rfl⟩

theorem okP_yes {n b m : Int} (h : okP n b m) : ∃ n' b' m' : Nat, n = n' ∧ b = b' ∧ m = m' ∧ 1 ≤ b' ∧ b' ≤ 8 ∧ n' ≤ 2147483647 ∧ m' < 2 ^ (8 - b') := by
  obtain ⟨h1, h2, h3, h4, h5, h6⟩ := h
  obtain ⟨b', rfl⟩ : ∃ b' : Nat, b = b' := ⟨b.toNat, by omega⟩
  refine ⟨n.toNat, b', m.toNat, by omega, rfl, by omega, by omega, by omega, by omega, ?_⟩
  have : m < ((2 ^ (8 - b') : Nat) : Int) := by simpa using h6
  omega

theorem u8_mod (x : Nat) : UInt8.ofNat (((x : Nat) : Int) % 256).toNat = UInt8.ofNat x := by
  have : (((x : Nat) : Int) % 256).toNat = x % 256 := by omega
  rw [this]
  exact UInt8.toNat_inj.1 (by simp)

set_option maxRecDepth 100000 in
set_option maxHeartbeats 1600000 in
theorem ref_enc (n b m : Nat) (w : World) (hb1 : 1 ≤ b) (hb8 : b ≤ 8) (hn : n ≤ 2147483647) (hm : m < 2 ^ (8 - b)) :
    Calls Try.prog 28 #[.int .i64 n, .int .i64 b, .int .i64 m] w fun e w' => e = .returned (.string (strB (encL n b m))) ∧ Fresh w w' := by
  have hm8 : m < 256 := by have : 2 ^ (8 - b) ≤ 2 ^ 8 := Nat.pow_le_pow_right (by omega) (by omega); omega
  have h7 : 1 ≤ 2 ^ b := Nat.pow_pos (by omega)
  have h78 : 2 ^ b ≤ 256 := by have : 2 ^ b ≤ 2 ^ 8 := Nat.pow_le_pow_right (by omega) hb8; omega
  have HO := Lib.hid (pow_c b hb8)
  have hw : ((2 ^ b : Nat) : Int) - 1 = ((2 ^ b - 1 : Nat) : Int) := by omega
  have ht : 2 ^ b - 1 ≤ 255 := by omega
  have hmp : m * 2 ^ b ≤ 65536 := by have := Nat.mul_le_mul (Nat.le_of_lt hm8) h78; omega
  have hmw : (m : Int) * ((2 ^ b : Nat) : Int) = ((m * 2 ^ b : Nat) : Int) := (Int.natCast_mul _ _).symm
  by_cases h : n < 2 ^ b - 1
  · have HL : Hid (encL n b m = [UInt8.ofNat (m * 2 ^ b + n)]) := by show _ = _; unfold encL; rw [if_pos h]
    generalize 2 ^ b - 1 = t at *
    generalize hz : m * 2 ^ b = z at *
    generalize ((2 ^ b : Nat) : Int) = p at *
    have HCV : Hid (∀ (W : World), (convert 29 9 (.slice (some ⟨W.heap.size, 0, none⟩) 1 1)).run Try.prog (W.alloc (.cells #[.int .u8 (((z + n : Nat) : Int) % 256)] 5)) = .ok (.string (strB [UInt8.ofNat (z + n)])) (W.alloc (.cells #[.int .u8 (((z + n : Nat) : Int) % 256)] 5))) := by
      intro W
      refine run_str (l := [UInt8.ofNat (z + n)]) (BS.row (t := 5) ?_) _ _ _ Try.underlying29 Try.underlying5 Try.underlying9 1
      rw [byte_mk _ (by omega) (by omega), u8_mod]
      exact Blk.new _ _ _
    have hsum : (z : Int) + (n : Int) = ((z + n : Nat) : Int) := by omega
    have hcv := HCV.out w
    generalize z + n = y at *
    obtain ⟨S, hS⟩ : ∃ S, S = strB [UInt8.ofNat y] := ⟨_, rfl⟩
    rw [← hS] at hcv
    have HS := Lib.hid hS
    clear hm hS HCV
    have hlt : (n : Int) < (t : Int) := by omega
    go_enter Try.func28, Try.ntmps28
    go_wp2_with (go_at_call 48; refine (HO.out _).mono ?_; rintro e w1 ⟨rfl, rfl⟩)
    go_ret
    exact ⟨by rw [HL.out, ← HS.out]; rfl, Fresh.alloc _ _⟩
  · have HL : Hid (encL n b m = UInt8.ofNat (m * 2 ^ b + (2 ^ b - 1)) :: tailF 5 (n - (2 ^ b - 1))) := by show _ = _; unfold encL; rw [if_neg h]
    generalize encL n b m = L at *
    generalize 2 ^ b - 1 = t at *
    generalize hz : m * 2 ^ b = z at *
    generalize ((2 ^ b : Nat) : Int) = p at *
    have hsum : (z : Int) + (t : Int) = ((z + t : Nat) : Int) := by omega
    have hsub : (n : Int) - (t : Int) = ((n - t : Nat) : Int) := by omega
    have h8 : ((z + t : Nat) : Int) % 256 = ((UInt8.ofNat (z + t)).toNat : Int) := by simp
    generalize z + t = y at *
    generalize UInt8.ofNat y = c at *
    have hlt : ¬ (n : Int) < (t : Int) := by omega
    clear hm hb1
    go_enter Try.func28, Try.ntmps28
    go_wp2_with (go_at_call 48; refine (HO.out _).mono ?_; rintro e w1 ⟨rfl, rfl⟩)
    go_loopw [8, 9] (fun v y wr => EncRel w L y v wr) (fun _ y _ => (intOf y).toNat)
    case atStart =>
      exact ⟨n - t, 5, [c], rfl, by omega, by simp, by simp; omega, by rw [HL.out]; rfl, Own.lit (cs := #[byteV c]) (Nat.le_refl _) (by simp [maxLen]) rfl, (Below.refl _ _).alloc (Nat.le_refl _) _⟩
    case round =>
      obtain ⟨r, f, xs, rfl, hf5, hxf, hrf, hxl, ho, hb⟩ := hrel
      obtain ⟨A, cc, rfl, _, _, _⟩ := ho.slice
      have hr34 : r < 34359738368 := Nat.lt_of_lt_of_le hrf (Nat.le_trans (Nat.pow_le_pow_right (by omega) hf5) (by decide))
      by_cases hr : 127 < r
      · have hr1 : (128 : Int) ≤ r := by omega
        obtain ⟨v', w', hap, ho', hb', hne, _⟩ := ho.push (P := Try.prog) Try.underlying29 pu8_info rfl (by omega) 29 hb (Nat.le_refl _) #[byteV (UInt8.ofNat (128 + r % 128))] rfl (by intro u hu; simp at hu; subst hu; rfl) (by unfold maxLen; omega) (by omega)
        have HREL : Hid (∀ q : Nat, q = r / 128 → EncRel w L (.int .i64 q) v' w') := fun q hq => by
          subst hq
          obtain ⟨g, rfl⟩ : ∃ g, f = g + 1 := ⟨f - 1, by
            have : f ≠ 0 := by intro e; subst e; simp at hrf; omega
            omega⟩
          refine ⟨r / 128, g, xs ++ [UInt8.ofNat (128 + r % 128)], rfl, by omega, by simp; omega, by rw [Nat.pow_succ] at hrf; omega, ?_, ?_, hb'⟩
          · rw [← hxl, tailF, if_pos (by omega)]; simp
          · simpa using ho'
        have hbv : byteV (UInt8.ofNat (128 + r % 128)) = .int .u8 (128 + (r : Int) % 128) := by unfold byteV; congr 1; simp; omega
        rw [hbv] at hap
        clear hbv
        generalize UInt8.ofNat (128 + r % 128) = c2 at *
        clear hb hne ho' hb' ho hrf hxf
        go_wp2_with (at_builtin; refine wp_app rfl _ _ _ rfl hap rfl rfl rfl ?_)
        go_roundw
        case rel => rw [show (r : Int) / 128 = ((r / 128 : Nat) : Int) by omega]; first | exact HREL.out _ rfl | ((repeat apply Exists.intro); refine ⟨HREL.out _ rfl, ?_⟩; first | rfl | (rw [h8]; done) | (rw [h8]; rfl))
        case measure => simp [intOf]; omega
      · have hr1 : ¬ (128 : Int) ≤ r := by omega
        have hb8 : (r : Int) % 256 = ((UInt8.ofNat r).toNat : Int) := by simp
        obtain ⟨v', w', hap, ho', hb', hne, _⟩ := ho.push (P := Try.prog) Try.underlying29 pu8_info rfl (by omega) 29 hb (Nat.le_refl _) #[byteV (UInt8.ofNat r)] rfl (by intro u hu; simp at hu; subst hu; rfl) (by unfold maxLen; omega) (by omega)
        have hend : L = xs ++ [UInt8.ofNat r] := by
          rw [← hxl]
          cases f with
          | zero => rfl
          | succ f => rw [tailF, if_neg (by omega)]
        have HE := Lib.hid hend
        clear hend hxl
        have HLEN : Hid (L.length = xs.length + 1) := by show _ = _; rw [HE.out]; simp
        have HO2 : Hid (Own w' w.heap.size 5 1 v' L.length (L.map byteV)) := by
          show Own _ _ _ _ _ _ _
          rw [HLEN.out, HE.out]; simpa using ho'
        have HB := Lib.hid hb'
        have hbv : byteV (UInt8.ofNat r) = .int .u8 (r : Int) := by unfold byteV; congr 1; simp; omega
        rw [hbv] at hap
        clear hb8 hbv
        generalize UInt8.ofNat r = c2 at *
        clear hb hne ho' hb' ho hrf hxf
        obtain ⟨A', c', rfl, hlc, hcm, _⟩ := HO2.out.slice
        have hcv := run_str HO2.out.bytes.1 29 9 5 Try.underlying29 Try.underlying5 Try.underlying9 c'
        obtain ⟨S, hS⟩ : ∃ S, S = strB L := ⟨_, rfl⟩
        rw [← hS] at hcv
        have HS := Lib.hid hS
        clear hS
        go_wp2_with (at_builtin; refine wp_app rfl _ _ _ rfl hap rfl rfl rfl ?_)
        go_ret
        exact ⟨by rw [← HS.out]; rfl, HB.out⟩

set_option maxRecDepth 100000 in
set_option maxHeartbeats 1600000 in
theorem ref_dec (b : Nat) (l : List UInt8) (w : World) (hb1 : 1 ≤ b) (hb8 : b ≤ 8) (hmx : l.length ≤ 100000000) :
    Calls Try.prog 35 #[.string (strB l), .int .i64 b] w fun e w' => e = .returned (decV (decL l b)) ∧ Fresh w w' := by
  have hsz : (strB l).size = l.length := strB_size l
  have hget : ∀ i (h : i < (strB l).size), (strB l)[i] = l[i]'(by rw [hsz] at h; exact h) := fun i h => rfl
  obtain ⟨s, hs⟩ : ∃ s, s = strB l := ⟨_, rfl⟩
  rw [← hs]
  by_cases h0 : l.length = 0
  · have HL : Hid (decL l b = (0, 0, 16)) := by show _ = _; unfold decL; rw [List.getElem?_eq_none (by omega)]
    have hs0 : s.size = 0 := by rw [hs, hsz, h0]
    clear hs hget hsz
    go_enter Try.func35, Try.ntmps35
    go_wp2
    go_ret3
    exact ⟨by rw [HL.out]; rfl, Fresh.refl _⟩
  · have hl0 : 0 < l.length := by omega
    have hs0 : (0 : Int) < (s.size : Int) := by rw [hs, hsz]; omega
    have hs0n : 0 < s.size := by omega
    have hsl : s.size = l.length := by rw [hs, hsz]
    have h7 : 0 < 2 ^ b := Nat.pow_pos (by omega)
    have h78 : 2 ^ b ≤ 256 := by have : 2 ^ b ≤ 2 ^ 8 := Nat.pow_le_pow_right (by omega) hb8; omega
    have HO := Lib.hid (pow_c b hb8)
    have hw : ((2 ^ b : Nat) : Int) - 1 = ((2 ^ b - 1 : Nat) : Int) := by omega
    have hx0 : s[0] = l[0] := by subst hs; rfl
    have hxk : ∀ k (h : k < s.size) (h' : k < l.length), s[k] = l[k] := fun k h h' => by subst hs; rfl
    have HXK := Lib.hid hxk
    clear hxk hget hsz
    have hlt0 := UInt8.toNat_lt s[0]
    have hmod : Int.tmod (s[0].toNat : Int) ((2 ^ b : Nat) : Int) = ((s[0].toNat % 2 ^ b : Nat) : Int) := rfl
    have hwc : IntKind.i64.wrap (s[0].toNat : Int) = (s[0].toNat : Int) := IntWalk.i64_in _ (by omega)
    have hwm : IntKind.i64.wrap ((s[0].toNat % 2 ^ b : Nat) : Int) = ((s[0].toNat % 2 ^ b : Nat) : Int) := IntWalk.i64_in _ (by have := Nat.mod_le s[0].toNat (2 ^ b); omega)
    have hne0 : ((s.size : Int) == 0) = false := by rw [beq_eq_false_iff_ne]; omega
    have hpne : (((2 ^ b : Nat) : Int) == 0) = false := by rw [beq_eq_false_iff_ne]; omega
    have hpp : (0 : Int) < ((2 ^ b : Nat) : Int) := by omega
    have hp256 : ((2 ^ b : Nat) : Int) ≤ 256 := by omega
    have HL : Hid (decL l b = if s[0].toNat % 2 ^ b < 2 ^ b - 1 then (((s[0].toNat % 2 ^ b : Nat) : Int), 1, 0) else decF 6 l 1 (s[0].toNat % 2 ^ b)) := by
      show _ = _
      rw [hx0]
      unfold decL; rw [List.getElem?_eq_getElem hl0]
    have hq9 : s[0].toNat % 2 ^ b ≤ 255 := by have := Nat.mod_le s[0].toNat (2 ^ b); omega
    clear hs hx0
    generalize s[0].toNat % 2 ^ b = q at *
    have ht9 : 2 ^ b - 1 ≤ 255 := by omega
    generalize 2 ^ b - 1 = t at *
    generalize ((2 ^ b : Nat) : Int) = p at *
    by_cases h1 : q < t
    · have h1' : (q : Int) < (t : Int) := by omega
      go_enter Try.func35, Try.ntmps35
      go_wp2_with (go_at_call 48; refine (HO.out _).mono ?_; rintro e w1 ⟨rfl, rfl⟩)
      go_quiet ((go_at_call 48; exact Calls.quiet_of_same ((HO.out _).mono fun _ _ ⟨a, b⟩ => ⟨a, b.symm⟩)))
      go_wp2
      go_ret3
      exact ⟨by rw [HL.out, if_pos h1]; rfl, Fresh.drewN _ _⟩
    · have h1' : ¬ (q : Int) < (t : Int) := by omega
      go_enter Try.func35, Try.ntmps35
      go_wp2_with (go_at_call 48; refine (HO.out _).mono ?_; rintro e w1 ⟨rfl, rfl⟩)
      go_quiet ((go_at_call 48; exact Calls.quiet_of_same ((HO.out _).mono fun _ _ ⟨a, b⟩ => ⟨a, b.symm⟩)))
      have hd : decL l b = decF 6 l 1 q := by rw [HL.out, if_neg h1]
      have HD0 := Lib.hid hd
      clear hd HL hwc hwm hmod hlt0
      go_wp2
      go_loop [8, 9, 10] (fun y g i => ∃ (k m : Nat), 1 ≤ k ∧ k ≤ 6 ∧ m ≤ 2147483647 ∧ i = .int .i64 k ∧ y = .int .i64 m ∧ g = .int .i64 ((128 ^ (k - 1) : Nat) : Int) ∧ decF (7 - k) l k m = decL l b) (fun _ _ i => 7 - (intOf i).toNat)
      case atStart => exact ⟨1, q, by omega, by omega, by omega, rfl, rfl, rfl, HD0.out.symm⟩
      case round =>
        obtain ⟨k, m, hk1, hk6, hm, rfl, rfl, rfl, hd⟩ := hrel
        have HD := Lib.hid hd
        clear hd HD0
        by_cases hlt : k < s.size
        · have hlt' : k < l.length := by omega
          have hlti : (k : Int) < (s.size : Int) := by omega
          by_cases hk : k = 6
          · subst hk
            have HE : Hid (decL l b = (0, 0, 22)) := by
              show _ = _
              rw [← HD.out, decF, List.getElem?_eq_getElem hlt']; simp only []; rw [if_pos (by omega)]
            go_wp2
            go_ret3
            exact ⟨by rw [HE.out]; rfl, Fresh.drewN _ _⟩
          · have hltk := UInt8.toNat_lt s[k]
            have hkk : k = 1 ∨ k = 2 ∨ k = 3 ∨ k = 4 ∨ k = 5 := by omega
            have hyz : (s[k].toNat : Int) % 128 = ((s[k].toNat % 128 : Nat) : Int) := by omega
            have hy : s[k].toNat % 128 < 128 := Nat.mod_lt _ (by omega)
            have HD2 : Hid (decL l b = if 2147483647 < m + s[k].toNat % 128 * 128 ^ (k - 1) then (0, 0, 22)
                else if s[k].toNat < 128 then (((m + s[k].toNat % 128 * 128 ^ (k - 1) : Nat) : Int), ((k + 1 : Nat) : Int), 0)
                else decF (6 - k) l (k + 1) (m + s[k].toNat % 128 * 128 ^ (k - 1))) := by
              show _ = _
              rw [← HD.out, show 7 - k = (6 - k) + 1 by omega, decF, List.getElem?_eq_getElem hlt', HXK.out k hlt hlt']; simp only []; rw [if_neg (by omega)]
            clear HD
            generalize s[k].toNat % 128 = y at *
            rcases hkk with rfl | rfl | rfl | rfl | rfl
            · have hpow : ((128 ^ (1 - 1) : Nat) : Int) = 1 := by decide
              rw [hpow]
              have hb2 : (s[1].toNat : Int) < 256 := by omega
              by_cases hbig : 2147483647 < m + y
              · have HE : Hid (decL l b = (0, 0, 22)) := by
                  show _ = _
                  rw [HD2.out]; exact if_pos (by simpa using hbig)
                have hbig' : (2147483647 : Int) < (m : Int) + (y : Int) := by omega
                clear hbig HD2
                go_wp2
                go_ret3
                exact ⟨by rw [HE.out]; rfl, Fresh.drewN _ _⟩
              · have HE : Hid (decL l b = if s[1].toNat < 128 then (((m + y : Nat) : Int), ((1 + 1 : Nat) : Int), 0) else decF 5 l (1 + 1) (m + y)) := by
                  show _ = _
                  rw [HD2.out]
                  rw [if_neg (show ¬ 2147483647 < m + y * 128 ^ (1 - 1) from by simpa using hbig)]
                  simp
                have hbig' : (m : Int) + (y : Int) ≤ 2147483647 := by omega
                have hN : ((m + y : Nat) : Int) = (m : Int) + (y : Int) := by omega
                have HN := Lib.hid hN
                clear hbig HD2 hN
                by_cases h128 : s[1].toNat < 128
                · have h128' : (s[1].toNat : Int) < 128 := by omega
                  go_wp2
                  go_ret3
                  exact ⟨by rw [HE.out, if_pos h128, HN.out]; rfl, Fresh.drewN _ _⟩
                · have h128' : ¬ (s[1].toNat : Int) < 128 := by omega
                  go_wp2
                  go_round
                  case rel => exact ⟨2, m + y, by omega, by omega, by have := HN.out; omega, by go_num, by rw [HN.out], rfl, by rw [HE.out, if_neg h128]⟩
                  case measure => simp [intOf]
            · have hpow : ((128 ^ (2 - 1) : Nat) : Int) = 128 := by decide
              rw [hpow]
              have hb2 : (s[2].toNat : Int) < 256 := by omega
              by_cases hbig : 2147483647 < m + y * 128
              · have HE : Hid (decL l b = (0, 0, 22)) := by
                  show _ = _
                  rw [HD2.out]; exact if_pos (by simpa using hbig)
                have hbig' : (2147483647 : Int) < (m : Int) + (y : Int) * 128 := by omega
                clear hbig HD2
                go_wp2
                go_ret3
                exact ⟨by rw [HE.out]; rfl, Fresh.drewN _ _⟩
              · have HE : Hid (decL l b = if s[2].toNat < 128 then (((m + y * 128 : Nat) : Int), ((2 + 1 : Nat) : Int), 0) else decF 4 l (2 + 1) (m + y * 128)) := by
                  show _ = _
                  rw [HD2.out]
                  rw [if_neg (show ¬ 2147483647 < m + y * 128 ^ (2 - 1) from by simpa using hbig)]
                have hbig' : (m : Int) + (y : Int) * 128 ≤ 2147483647 := by omega
                have hN : ((m + y * 128 : Nat) : Int) = (m : Int) + (y : Int) * 128 := by omega
                have HN := Lib.hid hN
                clear hbig HD2 hN
                by_cases h128 : s[2].toNat < 128
                · have h128' : (s[2].toNat : Int) < 128 := by omega
                  go_wp2
                  go_ret3
                  exact ⟨by rw [HE.out, if_pos h128, HN.out]; rfl, Fresh.drewN _ _⟩
                · have h128' : ¬ (s[2].toNat : Int) < 128 := by omega
                  go_wp2
                  go_round
                  case rel => exact ⟨3, m + y * 128, by omega, by omega, by have := HN.out; omega, by go_num, by rw [HN.out], rfl, by rw [HE.out, if_neg h128]⟩
                  case measure => simp [intOf]
            · have hpow : ((128 ^ (3 - 1) : Nat) : Int) = 16384 := by decide
              rw [hpow]
              have hb2 : (s[3].toNat : Int) < 256 := by omega
              by_cases hbig : 2147483647 < m + y * 16384
              · have HE : Hid (decL l b = (0, 0, 22)) := by
                  show _ = _
                  rw [HD2.out]; exact if_pos (by simpa using hbig)
                have hbig' : (2147483647 : Int) < (m : Int) + (y : Int) * 16384 := by omega
                clear hbig HD2
                go_wp2
                go_ret3
                exact ⟨by rw [HE.out]; rfl, Fresh.drewN _ _⟩
              · have HE : Hid (decL l b = if s[3].toNat < 128 then (((m + y * 16384 : Nat) : Int), ((3 + 1 : Nat) : Int), 0) else decF 3 l (3 + 1) (m + y * 16384)) := by
                  show _ = _
                  rw [HD2.out]
                  rw [if_neg (show ¬ 2147483647 < m + y * 128 ^ (3 - 1) from by simpa using hbig)]
                have hbig' : (m : Int) + (y : Int) * 16384 ≤ 2147483647 := by omega
                have hN : ((m + y * 16384 : Nat) : Int) = (m : Int) + (y : Int) * 16384 := by omega
                have HN := Lib.hid hN
                clear hbig HD2 hN
                by_cases h128 : s[3].toNat < 128
                · have h128' : (s[3].toNat : Int) < 128 := by omega
                  go_wp2
                  go_ret3
                  exact ⟨by rw [HE.out, if_pos h128, HN.out]; rfl, Fresh.drewN _ _⟩
                · have h128' : ¬ (s[3].toNat : Int) < 128 := by omega
                  go_wp2
                  go_round
                  case rel => exact ⟨4, m + y * 16384, by omega, by omega, by have := HN.out; omega, by go_num, by rw [HN.out], rfl, by rw [HE.out, if_neg h128]⟩
                  case measure => simp [intOf]
            · have hpow : ((128 ^ (4 - 1) : Nat) : Int) = 2097152 := by decide
              rw [hpow]
              have hb2 : (s[4].toNat : Int) < 256 := by omega
              by_cases hbig : 2147483647 < m + y * 2097152
              · have HE : Hid (decL l b = (0, 0, 22)) := by
                  show _ = _
                  rw [HD2.out]; exact if_pos (by simpa using hbig)
                have hbig' : (2147483647 : Int) < (m : Int) + (y : Int) * 2097152 := by omega
                clear hbig HD2
                go_wp2
                go_ret3
                exact ⟨by rw [HE.out]; rfl, Fresh.drewN _ _⟩
              · have HE : Hid (decL l b = if s[4].toNat < 128 then (((m + y * 2097152 : Nat) : Int), ((4 + 1 : Nat) : Int), 0) else decF 2 l (4 + 1) (m + y * 2097152)) := by
                  show _ = _
                  rw [HD2.out]
                  rw [if_neg (show ¬ 2147483647 < m + y * 128 ^ (4 - 1) from by simpa using hbig)]
                have hbig' : (m : Int) + (y : Int) * 2097152 ≤ 2147483647 := by omega
                have hN : ((m + y * 2097152 : Nat) : Int) = (m : Int) + (y : Int) * 2097152 := by omega
                have HN := Lib.hid hN
                clear hbig HD2 hN
                by_cases h128 : s[4].toNat < 128
                · have h128' : (s[4].toNat : Int) < 128 := by omega
                  go_wp2
                  go_ret3
                  exact ⟨by rw [HE.out, if_pos h128, HN.out]; rfl, Fresh.drewN _ _⟩
                · have h128' : ¬ (s[4].toNat : Int) < 128 := by omega
                  go_wp2
                  go_round
                  case rel => exact ⟨5, m + y * 2097152, by omega, by omega, by have := HN.out; omega, by go_num, by rw [HN.out], rfl, by rw [HE.out, if_neg h128]⟩
                  case measure => simp [intOf]
            · have hpow : ((128 ^ (5 - 1) : Nat) : Int) = 268435456 := by decide
              rw [hpow]
              have hb2 : (s[5].toNat : Int) < 256 := by omega
              by_cases hbig : 2147483647 < m + y * 268435456
              · have HE : Hid (decL l b = (0, 0, 22)) := by
                  show _ = _
                  rw [HD2.out]; exact if_pos (by simpa using hbig)
                have hbig' : (2147483647 : Int) < (m : Int) + (y : Int) * 268435456 := by omega
                clear hbig HD2
                go_wp2
                go_ret3
                exact ⟨by rw [HE.out]; rfl, Fresh.drewN _ _⟩
              · have HE : Hid (decL l b = if s[5].toNat < 128 then (((m + y * 268435456 : Nat) : Int), ((5 + 1 : Nat) : Int), 0) else decF 1 l (5 + 1) (m + y * 268435456)) := by
                  show _ = _
                  rw [HD2.out]
                  rw [if_neg (show ¬ 2147483647 < m + y * 128 ^ (5 - 1) from by simpa using hbig)]
                have hbig' : (m : Int) + (y : Int) * 268435456 ≤ 2147483647 := by omega
                have hN : ((m + y * 268435456 : Nat) : Int) = (m : Int) + (y : Int) * 268435456 := by omega
                have HN := Lib.hid hN
                clear hbig HD2 hN
                by_cases h128 : s[5].toNat < 128
                · have h128' : (s[5].toNat : Int) < 128 := by omega
                  go_wp2
                  go_ret3
                  exact ⟨by rw [HE.out, if_pos h128, HN.out]; rfl, Fresh.drewN _ _⟩
                · have h128' : ¬ (s[5].toNat : Int) < 128 := by omega
                  go_wp2
                  go_round
                  case rel => exact ⟨6, m + y * 268435456, by omega, by omega, by have := HN.out; omega, by go_num, by rw [HN.out], rfl, by rw [HE.out, if_neg h128]⟩
                  case measure => simp [intOf]
        · have hnlt : (s.size : Int) ≤ (k : Int) := by omega
          have HE : Hid (decL l b = (0, 0, 16)) := by
            show _ = _
            rw [← HD.out, show 7 - k = (6 - k) + 1 by omega, decF, List.getElem?_eq_none (by omega)]
          go_wp2
          go_ret3
          exact ⟨by rw [HE.out]; rfl, Fresh.drewN _ _⟩
end Go.Proofs.Ytdoddpigiencjaa

