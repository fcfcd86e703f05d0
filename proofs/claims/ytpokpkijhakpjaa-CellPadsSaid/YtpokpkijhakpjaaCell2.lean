/-
  Contract of cell.Fill.
-/
import Derived.Test.YtpokpkijhakpjaaCell
namespace Go.Proofs.Ytpokpkijhakpjaa
set_option linter.unusedVariables false
open Go.RowKit

def fillL (l : List UInt8) (n : Nat) : List UInt8 := l ++ frB2 250 0 0 (List.replicate (n + 9 - l.length) 0)
theorem fillL_length (l : List UInt8) (n : Nat) (h : l.length ≤ n + 9) : (fillL l n).length = n + 18 := by
  unfold fillL
  rw [List.length_append, frB2_length, List.length_replicate]; omega
theorem over_two (z : Nat) (l m : List UInt8) (h : l.length + m.length = z) : over (over (bytesA (List.replicate z 0)) 0 (l.map byteV)) l.length (m.map byteV) = bytesA (l ++ m) := by
  apply Array.toList_inj.1
  unfold over bytesA
  simp only [List.take_zero, List.nil_append, Nat.zero_add, List.length_map, List.map_append]
  rw [List.take_left' (by simp)]
  rw [List.drop_eq_nil_of_le (by simp; omega), List.append_nil]
def FillOk (l : List UInt8) (n : Nat) (w : World) (e : Ending) (w' : World) : Prop := ∃ g, e = .returned (.tuple #[.slice (some ⟨g, 0, none⟩) (n + 18) (n + 18), .int .i64 0]) ∧ w.heap.size ≤ g ∧ Blk w' g 5 (bytesA (fillL l n)) ∧ Fresh w w'
theorem fill_range (v : Value) (n : Int) (w : World) (h : ¬ (1 ≤ n ∧ n ≤ 1024)) :
    Calls Try.prog 10 #[v, .int .i64 n] w fun e w' => e = .returned (.tuple #[.slice none 0 0, .int .i64 11]) ∧ w = w' := by
  have H := Lib.hid (fun w => ce_right_no n w h)
  clear h
  go_enter Try.func10, Try.ntmps10
  go_wp2_with fail
  with_reducible refine (H.out _).mono ?_
  rintro e w1 ⟨rfl, rfl⟩
  go_wp2_with fail
  go_ret2
  exact ⟨rfl, rfl⟩
theorem fill_full (A : Option Addr) (m c : Nat) (n : Int) (w : World) (h0 : 1 ≤ n) (h1 : n ≤ 1024) (h : n + 9 < (m : Int)) :
    Calls Try.prog 10 #[.slice A m c, .int .i64 n] w fun e w' => e = .returned (.tuple #[.slice none 0 0, .int .i64 15]) ∧ w = w' := by
  go_enter Try.func10, Try.ntmps10
  go_wp2_with fail
  with_reducible refine (ce_right_yes n _ h0 h1).mono ?_
  rintro e w1 ⟨rfl, rfl⟩
  go_wp2_with fail
  with_reducible refine (ce_room_yes n _ h0 h1).mono ?_
  rintro e w1 ⟨rfl, rfl⟩
  go_wp2_with fail
  go_ret2
  exact ⟨rfl, rfl⟩
set_option maxHeartbeats 1600000 in
theorem fill_ok (A : Option Addr) (c : Nat) (l : List UInt8) (n : Nat) (w : World) (h0 : 1 ≤ n) (h1 : n ≤ 1024) (hl : l.length ≤ n + 9) (hA : BS w A l) :
    Calls Try.prog 10 #[.slice A l.length c, .int .i64 (n : Int)] w (FillOk l n w) := by
  have hmk1 := run_makeZ (P := Try.prog) Try.underlying22 u8_info rfl (n + 9 - l.length) ((n : Int) + 9 - (l.length : Int)) (by omega) (by omega) (by omega)
  have hmk2 := run_makeZ (P := Try.prog) Try.underlying22 u8_info rfl (n + 18) ((n : Int) + 18) (by omega) (by omega) (by omega)
  have hZ : BS (w.alloc (.cells (madeCells #[.int .u8 0] (n + 9 - l.length)) 5)) (some ⟨w.heap.size, 0, none⟩) (List.replicate (n + 9 - l.length) 0) := by
    rw [madeCells_zero]; exact BS.row (Blk.new _ _ _)
  have HZ := Lib.hid (hZ.fresh (Fresh.alloc _ (.cells #[.int .i64 250, .int .i64 0, .int .i64 0, .slice (some ⟨w.heap.size, 0, none⟩) (n + 9 - l.length) (n + 9 - l.length)] 33)))
  have HF0 := Lib.hid ((Fresh.alloc w (.cells (madeCells #[.int .u8 0] (n + 9 - l.length)) 5)).allocS (.cells #[.int .i64 250, .int .i64 0, .int .i64 0, .slice (some ⟨w.heap.size, 0, none⟩) (n + 9 - l.length) (n + 9 - l.length)] 33))
  have HA := Lib.hid hA
  have hgt : ¬ ((n : Int) + 9 < (l.length : Int)) := by omega
  have HC := Lib.hid (fbytes_at 250 0 0 250 0 0 (some ⟨w.heap.size, 0, none⟩) (n + 9 - l.length) (n + 18 - l.length) (n + 9 - l.length) (List.replicate (n + 9 - l.length) 0) _ _ rfl rfl rfl (by simp) rfl (by rw [frB2_length]; simp; omega) (by omega) (by omega) HZ.out (Nat.le_refl _))
  obtain ⟨m, hm⟩ : ∃ m, n + 9 - l.length = m := ⟨_, rfl⟩
  have hm2 : n + 18 - l.length = m + 9 := by omega
  rw [hm] at hmk1 HC HF0
  rw [hm2] at HC
  have HM := Lib.hid hm
  clear hA hZ HZ hm hm2
  obtain ⟨L2, hL2⟩ : ∃ L2, frB2 250 0 0 (List.replicate m 0) = L2 := ⟨_, rfl⟩
  rw [hL2] at HC
  have HL2 := Lib.hid hL2
  clear hL2
  generalize hzc : madeCells #[Value.int IntKind.u8 0] m = Z at *
  clear hzc
  go_enter Try.func10, Try.ntmps10
  go_wp2_with fail
  with_reducible refine (ce_right_yes n _ (by omega) (by omega)).mono ?_
  rintro e w1 ⟨rfl, rfl⟩
  go_wp2_with fail
  with_reducible refine (ce_room_yes n _ (by omega) (by omega)).mono ?_
  rintro e w1 ⟨rfl, rfl⟩
  go_wp2_with fail
  with_reducible refine (ce_room_yes n _ (by omega) (by omega)).mono ?_
  rintro e w1 ⟨rfl, rfl⟩
  go_wp2_with fail
  refine HC.out.mono ?_
  rintro e w2 ⟨A2, c2, rfl, hlc, hcm, ho2, hf2⟩
  have hL : L2.length = m + 9 := by have := ho2.length; simpa using this
  have hb2 : BS w2 A2 L2 := ho2.bytes.1
  have HF2 := Lib.hid (HF0.out.trans hf2)
  have HB2 := Lib.hid hb2
  clear hf2 ho2 hb2 hcm hlc HC HF0
  go_wp2_with fail
  with_reducible refine (ce_len_yes n _ (by omega) (by omega)).mono ?_
  rintro e w3 ⟨rfl, rfl⟩
  obtain ⟨W3, hcp3, hb3, ho3, hs3⟩ := run_copy_bs (P := Try.prog) ((HA.out.fresh HF2.out).fresh (Fresh.alloc w2 (.cells (madeCells #[.int .u8 0] (n + 18)) 5))) 22 5 3 Try.underlying22 (by kernel_rfl) w2.heap.size 0 (n + 18) (n + 18) c _ _ (Blk.new _ _ _) (by omega) (by rw [size_madeCells]; omega) (some ⟨w2.heap.size, 0, none⟩) (fun _ => rfl)
  have hct := run_cut_from (P := Try.prog) Try.underlying22 u8_size' (some ⟨w2.heap.size, 0, none⟩) (n + 18) (n + 18) l.length (by omega)
  rw [cutA_some _ _ _ _ (by omega), Nat.zero_add, show n + 18 - l.length = m + 9 by have := HM.out; omega] at hct
  rw [madeCells_zero] at hb3
  have hB3 : BS W3 A2 L2 := (HB2.out.fresh (Fresh.alloc w2 _)).only ho3 (fun b o e hh => by
    have h2 : 0 < L2.length := by omega
    obtain ⟨b', o', e', hb', _⟩ := HB2.out.addr h2
    rw [e] at e'; cases e'; omega)
  obtain ⟨W4, hcp4, hb4, ho4, hs4⟩ := run_copy_bs (P := Try.prog) hB3 22 5 3 Try.underlying22 (by kernel_rfl) w2.heap.size l.length (m + 9) (m + 9) c2 _ _ hb3 (by omega) (by rw [over_size _ _ _ (by simp [bytesA_size]; omega), bytesA_size]; simp; have := HM.out; omega) (some ⟨w2.heap.size, l.length, none⟩) (fun _ => rfl)
  rw [over_two _ _ _ (by have := HM.out; omega)] at hb4
  rw [hL] at hcp4
  have HB4 := Lib.hid hb4
  have HF4 : Hid (Fresh w W4) := Lib.hid (Only.fresh (S := fun i => i = w2.heap.size) ((((Only.of_fresh HF2.out).allocS _).trans ho3).trans ho4) (fun i hi e => by have := HF2.out.size; omega))
  have HG : Hid (w.heap.size ≤ w2.heap.size) := Lib.hid HF2.out.size
  clear hb3 ho3 hs3 hB3 hb4 ho4 hs4 hL
  go_wp2_with fail
  go_ret2
  refine ⟨w2.heap.size, rfl, HG.out, ?_, HF4.out⟩
  have := HB4.out
  unfold fillL
  rw [HM.out, HL2.out]
  exact this
end Go.Proofs.Ytpokpkijhakpjaa
