/-
  Contracts of package frame: Bytes.
-/
import Derived.Test.YtpokpkijhakpjaaFrame
import Derived.Test.YtpokpkijhakpjaaMake
namespace Go.Proofs.Ytpokpkijhakpjaa
set_option linter.unusedVariables false
open Go.RowKit

/-- New bytes are told, and an error's number. -/
def BytesPost (L : List UInt8) (w : World) (e : Ending) (w' : World) : Prop :=
  ∃ A c, e = .returned (.tuple #[.slice A L.length c, .int .i64 0]) ∧ L.length ≤ c ∧ c ≤ maxLen ∧ Own w' w.heap.size 5 1 (.slice A L.length c) L.length (L.map byteV) ∧ Fresh w w'

/-- A right frame's bytes. -/
def frB2 (x y : UInt8) (st : Nat) (l : List UInt8) : List UInt8 := bigL l.length 3 ++ ([x, y] ++ (bigL st 4 ++ l))
theorem frB2_length (x y : UInt8) (st : Nat) (l : List UInt8) : (frB2 x y st l).length = 9 + l.length := by
  simp [frB2, bigL_length]; omega

theorem BytesPost.mk {L : List UInt8} {w w' : World} {A : Option Addr} {c n : Nat} (hn : n = L.length) (ho : Own w' w.heap.size 5 1 (.slice A n c) n (L.map byteV)) (hf : Fresh w w') : BytesPost L w (.returned (.tuple #[.slice A n c, .int .i64 0])) w' := by
  subst hn
  obtain ⟨A', c', e, h1, h2, _⟩ := ho.slice
  simp at e
  obtain ⟨rfl, rfl⟩ := e
  exact ⟨_, _, rfl, h1, h2, ho, hf⟩

theorem fbytes_no (ty fl st : Int) (A : Option Addr) (n c : Nat) (w : World) (h : frR ty fl st n = false) :
    Calls Try.prog 26 #[.agg #[.int .i64 ty, .int .i64 fl, .int .i64 st, .slice A n c]] w fun e w' => e = .returned (.tuple #[.slice none 0 0, .int .i64 10]) ∧ Fresh w w' := by
  have HR := Lib.hid (fun W => fright ty fl st A n c W)
  rw [h] at HR
  clear h
  go_enter Try.func26, Try.ntmps26
  go_wp2_with fail
  with_reducible refine (HR.out _).mono ?_
  rintro e w2 ⟨rfl, hf2⟩
  go_wp2
  go_ret2
  exact ⟨rfl, hf2.tA⟩

set_option maxRecDepth 100000 in
set_option maxHeartbeats 1600000 in
theorem fbytes_yes (x y : UInt8) (st : Nat) (A : Option Addr) (c : Nat) (l : List UInt8) (w : World) (hst : st ≤ 2147483647) (hl : l.length ≤ 16777215) (hA : BS w A l) (hlc : l.length ≤ c) :
    Calls Try.prog 26 #[.agg #[.int .i64 (x.toNat : Int), .int .i64 (y.toNat : Int), .int .i64 (st : Int), .slice A l.length c]] w (BytesPost (frB2 x y st l) w) := by
  have hx := UInt8.toNat_lt x
  have hy := UInt8.toNat_lt y
  have hR : frR (x.toNat : Int) (y.toNat : Int) (st : Int) l.length = true := by unfold frR; exact decide_eq_true (by omega)
  have HR := Lib.hid (fun W => fright (x.toNat : Int) (y.toNat : Int) (st : Int) A l.length c W)
  rw [hR] at HR
  have HL := Lib.hid (fun W => flen (x.toNat : Int) (y.toNat : Int) (st : Int) A l.length c W (by omega))
  have hmk := run_make0 (P := Try.prog) Try.underlying22 u8_info rfl (9 + l.length) (by omega) (by omega)
  rw [show ((9 + l.length : Nat) : Int) = 9 + (l.length : Int) by omega] at hmk
  have hxx : (x.toNat : Int) < 256 := by omega
  have hyy : (y.toNat : Int) < 256 := by omega
  have HLEN := Lib.hid (frB2_length x y st l)
  have HB1 := Lib.hid (Blk.new w 33 #[.int .i64 (x.toNat : Int), .int .i64 (y.toNat : Int), .int .i64 (st : Int), .slice A l.length c])
  have HA := Lib.hid (hA.fresh (Fresh.alloc w (.cells #[.int .i64 (x.toNat : Int), .int .i64 (y.toNat : Int), .int .i64 (st : Int), .slice A l.length c] 33)))
  have hz1 : w.heap.size + 1 = (w.alloc (.cells #[.int .i64 (x.toNat : Int), .int .i64 (y.toNat : Int), .int .i64 (st : Int), .slice A l.length c] 33)).heap.size := by simp
  have HZ1 := Lib.hid hz1
  have HFr := Lib.hid (Fresh.alloc w (.cells #[.int .i64 (x.toNat : Int), .int .i64 (y.toNat : Int), .int .i64 (st : Int), .slice A l.length c] 33))
  clear hR hA hz1
  go_enter Try.func26, Try.ntmps26
  go_wp2_with fail
  generalize w.alloc (.cells #[.int .i64 (x.toNat : Int), .int .i64 (y.toNat : Int), .int .i64 (st : Int), .slice A l.length c] 33) = W1 at *
  with_reducible refine (HR.out _).mono ?_
  rintro e w2 ⟨rfl, hf2⟩
  obtain ⟨c0, c1, c2, c3⟩ := (HB1.out.fresh hf2).c4
  have HF2 := Lib.hid hf2
  clear hf2
  go_wp2_with fail
  with_reducible refine (HL.out _).mono ?_
  rintro e w3 ⟨rfl, hf3⟩
  have HF3 := Lib.hid (HF2.out.trans hf3)
  obtain ⟨d0, d1, d2, d3⟩ := (HB1.out.fresh HF3.out).c4
  have hz3 := (HB1.out.fresh HF3.out).lt
  have HO3 := Lib.hid ((Own.made w3 5 (.int .u8 0) (9 + l.length) (by unfold maxLen; omega)).base_le (base' := w.heap.size + 1) (by omega))
  have HF3' := Lib.hid (HF3.out.trans (Fresh.alloc w3 (.cells (madeCells #[.int .u8 0] (9 + l.length)) 5)))
  clear hf3 c0 c1 c2 c3
  go_wp2_with fail
  with_reducible refine (obig_at l.length 3 (l.length : Int) 3 _ rfl (by omega) (by omega) (by omega) (by omega)).mono ?_
  rintro e w4 ⟨g4, rfl, _, hb4, hf4⟩
  have HF4 : Hid (Below (w.heap.size + 1) W1 w4) := by have := HF3'.out.trans hf4; rw [HZ1.out]; exact this
  obtain ⟨A5, c5, w5, hap5, ho5, hbl5, _⟩ := Own.moreN (P := Try.prog) (X := []) Try.underlying22 u8_info 22 (HO3.out.fresh hf4) HF4.out (by rw [HZ1.out]; exact Nat.le_refl _) _ 3 _ 3 3 (bigL_length _ _) (by omega) (BS.row hb4) (Nat.le_refl _) (by omega)
  obtain ⟨c0, c1, c2, c3⟩ := (HB1.out.below hbl5 (by omega)).c4
  have HO5 := Lib.hid ho5
  have HF5 := Lib.hid hbl5
  clear ho5 hbl5 hb4 hf4 d0 d1 d2 d3
  obtain ⟨A6, c6, w6, hap6, ho6, hbl6, _⟩ := Own.moreN (P := Try.prog) Try.underlying22 u8_info 22 (HO5.out.fresh (Fresh.alloc w5 (.cells #[.int .u8 (x.toNat : Int), .int .u8 (y.toNat : Int)] 5))) (HF5.out.alloc (by have := HF5.out.size; have := HZ1.out; omega) (.cells #[.int .u8 (x.toNat : Int), .int .u8 (y.toNat : Int)] 5)) (by rw [HZ1.out]; exact Nat.le_refl _) (some ⟨w5.heap.size, 0, none⟩) 2 [x, y] 2 5 rfl (by omega) (BS.row (Blk.new w5 5 #[.int .u8 (x.toNat : Int), .int .u8 (y.toNat : Int)])) (Nat.le_refl _) (by omega)
  obtain ⟨d0, d1, d2, d3⟩ := (HB1.out.below hbl6 (by omega)).c4
  have HO6 := Lib.hid ho6
  have HF6 := Lib.hid hbl6
  clear ho6 hbl6
  go_wp2_with (at_builtin; first | with_reducible refine wp_app rfl (.tmp 11) (.tmp 16) _ rfl hap5 rfl rfl rfl ?_ | with_reducible refine wp_app rfl (.tmp 18) (.tmp 25) _ rfl hap6 rfl rfl rfl ?_)
  with_reducible refine (obig_at st 4 (st : Int) 4 _ rfl (by omega) (by omega) (by omega) (by omega)).mono ?_
  rintro e w7 ⟨g7, rfl, _, hb7, hf7⟩
  have HF7 : Hid (Below (w.heap.size + 1) W1 w7) := by have := HF6.out.trans (hf7.mono (by have := HF6.out.size; have := HZ1.out; omega)); exact this
  obtain ⟨A8, c8, w8, hap8, ho8, hbl8, _⟩ := Own.moreN (P := Try.prog) Try.underlying22 u8_info 22 (HO6.out.fresh hf7) HF7.out (by rw [HZ1.out]; exact Nat.le_refl _) _ 4 _ 4 9 (bigL_length _ _) (by omega) (BS.row hb7) (Nat.le_refl _) (by omega)
  obtain ⟨c0, c1, c2, c3⟩ := (HB1.out.below hbl8 (by omega)).c4
  have HO8 := Lib.hid ho8
  have HF8 := Lib.hid hbl8
  clear ho8 hbl8 hb7 hf7 d0 d1 d2 d3 hap5 hap6
  obtain ⟨A9, c9, w9, hap9, ho9, hbl9, _⟩ := Own.moreN (P := Try.prog) Try.underlying22 u8_info 22 HO8.out HF8.out (by rw [HZ1.out]; exact Nat.le_refl _) A c l l.length (9 + l.length) rfl (by omega) (HA.out.fresh (by have := HF8.out; rw [HZ1.out] at this; exact this)) hlc (by omega)
  have HO9 := Lib.hid ho9
  have HF9 := Lib.hid hbl9
  clear ho9 hbl9
  go_wp2_with (at_builtin; first | with_reducible refine wp_app rfl (.tmp 27) (.tmp 31) _ rfl hap8 rfl rfl rfl ?_ | with_reducible refine wp_app rfl (.tmp 33) (.tmp 35) _ rfl hap9 rfl rfl rfl ?_)
  go_ret2
  refine BytesPost.mk HLEN.out.symm ?_ ?_
  · have := HO9.out.base_le (base' := w.heap.size) (by omega)
    simpa [frB2] using this
  · exact HFr.out.trans (by have := HF9.out; rw [HZ1.out] at this; exact this)
/-- New bytes, n of them. -/
def BytesN (L : List UInt8) (n : Nat) (w : World) (e : Ending) (w' : World) : Prop :=
  ∃ A c, e = .returned (.tuple #[.slice A n c, .int .i64 0]) ∧ n ≤ c ∧ c ≤ maxLen ∧ Own w' w.heap.size 5 1 (.slice A n c) n (L.map byteV) ∧ Fresh w w'
theorem fbytes_at (ty fl stz : Int) (x y : UInt8) (st : Nat) (A : Option Addr) (n r c : Nat) (l L : List UInt8) (w : World) (hx : ty = (x.toNat : Int)) (hy : fl = (y.toNat : Int)) (hz : stz = (st : Int)) (hn : l.length = n) (hL : frB2 x y st l = L) (hr : L.length = r) (hst : st ≤ 2147483647) (hl : n ≤ 16777215) (hA : BS w A l) (hlc : n ≤ c) :
    Calls Try.prog 26 #[.agg #[.int .i64 ty, .int .i64 fl, .int .i64 stz, .slice A n c]] w (BytesN L r w) := by
  subst hx hy hz hn hL hr
  exact fbytes_yes x y st A c l w hst hl hA hlc
def ping : List UInt8 := [49, 50, 51, 52, 53, 54, 55, 56]
def pingB : List UInt8 := [0, 0, 8, 6, 0, 0, 0, 0, 0, 49, 50, 51, 52, 53, 54, 55, 56]
theorem ping_bytes : frB2 6 0 0 ping = pingB := by decide
end Go.Proofs.Ytpokpkijhakpjaa
