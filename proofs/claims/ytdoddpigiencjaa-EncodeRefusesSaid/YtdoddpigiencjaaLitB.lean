/-
  Package lit: lay, Encode, Len, Short.
-/
import Derived.Test.YtdoddpigiencjaaLitA
import Derived.Test.YtdoddpigiencjaaPrefixD
import Derived.Test.YtdoddpigiencjaaMake
namespace Go.Proofs.Ytdoddpigiencjaa
set_option linter.unusedVariables false
set_option linter.unusedSimpArgs false
open Go.RowKit
theorem u8_sizeL : ∀ W : World, (Go.sizeOf 5).run Try.prog W = .ok 1 W := fun W => by kernel_rfl
theorem over_twoL (z : Nat) (l m : List UInt8) (h : l.length + m.length = z) : over (over (bytesA (List.replicate z 0)) 0 (l.map byteV)) l.length (m.map byteV) = bytesA (l ++ m) := by
  apply Array.toList_inj.1
  unfold over bytesA
  simp only [List.take_zero, List.nil_append, Nat.zero_add, List.length_map, List.map_append]
  rw [List.take_left' (by simp)]
  rw [List.drop_eq_nil_of_le (by simp; omega), List.append_nil]
theorem Own.full {w : World} {base g : Nat} {P : List UInt8} (h : Blk w g 5 (bytesA P)) (hb : base ≤ g) (hm : P.length ≤ maxLen) : Own w base 5 1 (.slice (some ⟨g, 0, none⟩) P.length P.length) P.length (P.map byteV) :=
  ⟨by simp, .inr ⟨g, P.length, bytesA P, rfl, hb, h, Nat.le_refl _, hm, by simp [bytesA_size], by simp only [bytesA, List.toList_toArray]; exact List.take_of_length_le (by simp)⟩⟩
/-- Bytes told in new memory. -/
def OwnP (P : List UInt8) (w : World) (e : Ending) (w' : World) : Prop := ∃ (A : Option Addr) (c : Nat), e = .returned (.slice A P.length c) ∧ Own w' w.heap.size 5 1 (.slice A P.length c) P.length (P.map byteV) ∧ Fresh w w'
set_option maxRecDepth 100000 in
set_option maxHeartbeats 1600000 in
theorem lit_lay (A : Option Addr) (c m : Nat) (O : List UInt8) (w : World) (hm : m < 2) (hl : O.length ≤ 100000000) (hB : BS w A O) :
    Calls Try.prog 76 #[.slice A O.length c, .int .i64 (m : Int)] w (OwnP (encL O.length 7 m ++ O) w) := by
  have HE := Lib.hid (enc_any O.length 7 m w (by omega) (by omega) (by omega) hm)
  have hlen := encL_length O.length 7 m (by omega)
  obtain ⟨n, hn⟩ : ∃ n, O.length = n := ⟨_, rfl⟩
  obtain ⟨X, hX⟩ : ∃ X, encL O.length 7 m = X := ⟨_, rfl⟩
  rw [hX] at HE hlen ⊢
  have HN := Lib.hid hn
  have HB := Lib.hid hB
  clear hX hB
  rw [hn] at hl HE ⊢
  obtain ⟨x, hx⟩ : ∃ x, X.length = x := ⟨_, rfl⟩
  rw [hx] at hlen
  obtain ⟨hx1, hx6⟩ := hlen
  have HX := Lib.hid hx
  have hPl : (X ++ O).length = x + n := by rw [List.length_append, hx, hn]
  have hmk := run_makeZ (P := Try.prog) Try.underlying29 u8_infoH rfl (x + n) ((x : Int) + (n : Int)) (by omega) (by omega) (by omega)
  clear hn hx
  have HPL := Lib.hid hPl
  clear hPl
  go_enter Try.func76, Try.ntmps76
  go_wp2_with fail
  refine HE.out.mono ?_
  rintro e w1 ⟨A1, c1, rfl, ho1, hf1⟩
  have HB1 := Lib.hid ho1.bytes.1
  have HF1 := Lib.hid hf1
  clear ho1 hf1 HE
  rw [HX.out]
  obtain ⟨W3, hcp3, hb3, ho3, hs3⟩ := run_copy_bs (P := Try.prog) (HB1.out.fresh (Fresh.alloc w1 (.cells (madeCells #[.int .u8 0] (x + n)) 5))) 29 5 3 Try.underlying29 (by kernel_rfl) w1.heap.size 0 (x + n) (x + n) c1 _ _ (Blk.new _ _ _) (by rw [HX.out]; omega) (by rw [size_madeCells, HX.out]; omega) (some ⟨w1.heap.size, 0, none⟩) (fun _ => rfl)
  have hct := run_cut_from (P := Try.prog) Try.underlying29 u8_sizeL (some ⟨w1.heap.size, 0, none⟩) (x + n) (x + n) x (by omega)
  rw [show x + n - x = n by omega] at hct
  have hcut : 0 < n → cutA (some ⟨w1.heap.size, 0, none⟩) x (x + n) = some ⟨w1.heap.size, x, none⟩ := fun h => by rw [cutA_some _ _ _ _ (by omega), Nat.zero_add]
  rw [madeCells_zero] at hb3
  have hB3 : BS W3 A O := fun hn0 => (((HB.out.fresh HF1.out).fresh (Fresh.alloc w1 _)).only ho3 (fun b o e hh => by
    obtain ⟨b', o', e', hb', _⟩ := HB.out hn0
    rw [e] at e'; simp at e'
    have := HF1.out.size
    omega)) hn0
  obtain ⟨W4, hcp4, hb4, ho4, hs4⟩ := run_copy_bs (P := Try.prog) hB3 29 5 3 Try.underlying29 (by kernel_rfl) w1.heap.size x n n c _ _ hb3 (by rw [HN.out]; exact Nat.le_refl _) (by rw [over_size _ _ _ (by simp [bytesA_size, HX.out]), bytesA_size, HN.out]; simp) (cutA (some ⟨w1.heap.size, 0, none⟩) x (x + n)) (fun h => hcut (by rw [← HN.out]; exact h))
  rw [← HX.out, over_twoL _ _ _ (by rw [HX.out, HN.out])] at hb4
  rw [HN.out] at hcp4
  rw [HX.out] at hcp3
  have HFIN : Hid (OwnP (X ++ O) w (.returned (.slice (some ⟨w1.heap.size, 0, none⟩) (x + n) (x + n))) W4) := Lib.hid ⟨some ⟨w1.heap.size, 0, none⟩, x + n, by rw [HPL.out], by
    have := Own.full (base := w.heap.size) hb4 HF1.out.size (by unfold maxLen; rw [HPL.out]; omega)
    rwa [HPL.out] at this ⊢, Only.fresh (S := fun i => i = w1.heap.size) ((((Only.of_fresh HF1.out).allocS _).trans ho3).trans ho4) (fun i hi e => by have := HF1.out.size; omega)⟩
  clear hb3 ho3 hs3 hB3 hb4 ho4 hs4 hcut
  generalize cutA (some ⟨w1.heap.size, 0, none⟩) x (x + n) = D at *
  go_wp2
  go_ret
  exact HFIN.out
end Go.Proofs.Ytdoddpigiencjaa

