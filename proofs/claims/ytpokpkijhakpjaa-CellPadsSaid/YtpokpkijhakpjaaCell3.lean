/-
  Contract of cell.Pad; a fixed answer.
-/
import Derived.Test.YtpokpkijhakpjaaCell2
import Derived.Test.YtpokpkijhakpjaaChain
import Derived.Deep.Cut
import Derived.Deep.CutBlock
import Derived.Handy
namespace Go.Proofs.Ytpokpkijhakpjaa
set_option linter.unusedVariables false
open Go.RowKit

def padL (p : Nat) (l : List UInt8) : List UInt8 := UInt8.ofNat p :: (l ++ List.replicate p 0)
def PadNo (r : Int) (w : World) (e : Ending) (w' : World) : Prop := e = .returned (.tuple #[.agg #[.int .i64 0, .int .i64 0, .int .i64 0, .slice none 0 0], .int .i64 r]) ∧ Fresh w w'
def PadOk (st fl : Int) (n : Nat) (L : List UInt8) (w : World) (e : Ending) (w' : World) : Prop := ∃ g, e = .returned (.tuple #[.agg #[.int .i64 0, .int .i64 fl, .int .i64 st, .slice (some ⟨g, 0, none⟩) n n], .int .i64 0]) ∧ w.heap.size ≤ g ∧ Blk w' g 5 (bytesA L) ∧ Fresh w w'
theorem pad_range (st n : Int) (v : Value) (b : Bool) (w : World) (h : ¬ (1 ≤ st ∧ st ≤ 2147483647 ∧ 2 ≤ n ∧ n ≤ 1024)) :
    Calls Try.prog 20 #[.int .i64 st, v, .bool b, .int .i64 n] w (PadNo 11 w) := by
  by_cases h0 : st < 1
  · clear h
    go_enter Try.func20, Try.ntmps20
    go_wp2_with fail
    go_returns
    exact ⟨rfl, Fresh.alloc _ _⟩
  · have h0' : decide (st < 1) = false := by simpa using h0
    by_cases h1 : 2147483647 < st
    · clear h
      go_enter Try.func20, Try.ntmps20
      go_wp2_with fail
      go_returns
      exact ⟨rfl, Fresh.alloc _ _⟩
    · have h1' : decide (2147483647 < st) = false := by simpa using h1
      by_cases h2 : n < 2
      · clear h
        go_enter Try.func20, Try.ntmps20
        go_wp2_with fail
        go_returns
        exact ⟨rfl, Fresh.alloc _ _⟩
      · have h2' : decide (n < 2) = false := by simpa using h2
        have H := Lib.hid (fun w => ce_right_no n w (by omega))
        clear h
        go_enter Try.func20, Try.ntmps20
        go_wp2_with fail
        with_reducible refine (H.out _).mono ?_
        rintro e w1 ⟨rfl, rfl⟩
        go_wp2_with fail
        go_returns
        exact ⟨rfl, Fresh.alloc _ _⟩
theorem pad_full (st n : Int) (A : Option Addr) (m c : Nat) (b : Bool) (w : World) (h1 : 1 ≤ st) (h2 : st ≤ 2147483647) (h3 : 2 ≤ n) (h4 : n ≤ 1024) (hm : (m : Int) ≤ 9223372036854775807) (h5 : n - 1 - (m : Int) < 0 ∨ 255 < n - 1 - (m : Int)) :
    Calls Try.prog 20 #[.int .i64 st, .slice A m c, .bool b, .int .i64 n] w (PadNo 15 w) := by
  have a1 : decide (st < 1) = false := by simp; omega
  have a2 : decide (2147483647 < st) = false := by simp; omega
  have a3 : decide (n < 2) = false := by simp; omega
  have H := Lib.hid (fun w => ce_right_yes n w (by omega) h4)
  rcases h5 with h5 | h5
  · go_enter Try.func20, Try.ntmps20
    go_wp2_with fail
    with_reducible refine (H.out _).mono ?_
    rintro e w1 ⟨rfl, rfl⟩
    go_wp2_with fail
    go_returns
    exact ⟨rfl, Fresh.alloc _ _⟩
  · have a4 : decide (n - 1 - (m : Int) < 0) = false := by simp; omega
    go_enter Try.func20, Try.ntmps20
    go_wp2_with fail
    with_reducible refine (H.out _).mono ?_
    rintro e w1 ⟨rfl, rfl⟩
    go_wp2_with fail
    go_returns
    exact ⟨rfl, Fresh.alloc _ _⟩
theorem over_pad (p n : Nat) (l : List UInt8) (h : l.length + p + 1 = n) : over ((bytesA (List.replicate n 0)).setIfInBounds 0 (.int .u8 (p : Int))) 1 (l.map byteV) = bytesA (padL p l) ∨ 255 < p := by
  by_cases hp : p ≤ 255
  · left
    apply Array.toList_inj.1
    subst h
    unfold over bytesA padL
    simp only [List.length_map, List.map_append, List.map_cons, Array.toList_setIfInBounds, List.replicate_succ, List.set_cons_zero, List.take_succ_cons, List.take_zero, List.cons_append, List.nil_append]
    rw [byte_mk (p : Int) (by omega) (by omega)]
    simp only [Int.toNat_natCast, List.cons.injEq, true_and]
    rw [show 1 + l.length = l.length + 1 by omega, List.drop_succ_cons]
    simp
  · right; omega
set_option maxRecDepth 100000 in
set_option maxHeartbeats 3200000 in
theorem pad_ok (st n : Nat) (A : Option Addr) (c : Nat) (l : List UInt8) (b : Bool) (w : World) (p : Nat) (h1 : 1 ≤ st) (h2 : st ≤ 2147483647) (h3 : 2 ≤ n) (h4 : n ≤ 1024) (hp : l.length + p + 1 = n) (hp2 : p ≤ 255) (hA : BS w A l) :
    Calls Try.prog 20 #[.int .i64 (st : Int), .slice A l.length c, .bool b, .int .i64 (n : Int)] w (PadOk st (if b then 9 else 8) n (padL p l) w) := by
  have a1 : decide ((st : Int) < 1) = false := by simp; omega
  have a2 : decide (2147483647 < (st : Int)) = false := by simp; omega
  have a3 : decide ((n : Int) < 2) = false := by simp; omega
  have a5 : (n : Int) - 1 - (l.length : Int) = (p : Int) := by omega
  have a6 : decide (255 < (p : Int)) = false := by simp; omega
  have a7 : decide ((p : Int) < 0) = false := by simp
  have H := Lib.hid (fun w => ce_right_yes (n : Int) w (by omega) (by omega))
  have hmk := run_makeZ (P := Try.prog) Try.underlying22 u8_info rfl n (n : Int) rfl (by omega) (by omega)
  rw [madeCells_zero] at hmk
  have HA := Lib.hid hA
  clear hA
  generalize hZ : bytesA (List.replicate n 0) = Z at *
  have HZ := Lib.hid hZ
  clear hZ
  have hb9 : bits BinOp.or IntKind.i64 8 1 = 9 := by decide
  have z00 : Z[0]? = some (.int .u8 0) := by rw [← HZ.out, bytesA_get, List.getElem?_replicate, if_pos (by omega)]; rfl
  have zsz : Z.size = n := by rw [← HZ.out]; simp [bytesA]
  have HZ0 := Lib.hid z00
  have HZS := Lib.hid zsz
  clear z00 zsz
  have HOV := Lib.hid ((over_pad p n l hp).resolve_right (by omega))
  rw [HZ.out] at HOV
  have hw8 : IntKind.u8.wrap (p : Int) = (p : Int) := by rw [IntKind.wrap_u8]; omega
  have hlb : l.length ≤ n - 1 := by omega
  have n1 : 1 ≤ n := by omega
  have hct := run_cut_from (P := Try.prog) Try.underlying22 u8_size' (some ⟨w.heap.size + 1, 0, none⟩) n n 1 n1
  rw [cutA_some _ _ _ _ (by omega), Nat.zero_add] at hct
  cases b
  · go_enter Try.func20, Try.ntmps20
    go_wp2_with fail
    with_reducible refine (H.out _).mono ?_
    rintro e w1 ⟨rfl, rfl⟩
    go_upto_region 9 with (fail)
    refine wp_gen (fun W => Blk W (w.heap.size + 1) 5 Z ∧ Blk W (w.heap.size + 1 + 1) 33 #[.int .i64 0, .int .i64 8, .int .i64 (st : Int), .slice (some ⟨w.heap.size + 1, 0, none⟩) n n] ∧ Blk W w.heap.size 33 #[.int .i64 0, .int .i64 0, .int .i64 0, .slice none 0 0] ∧ Fresh w W) ?_ ?_
    focus
      refine ⟨Blk.alloc (by simpa using Blk.new (w.alloc _) 5 Z) _, by simpa using Blk.new ((w.alloc (.cells #[.int .i64 0, .int .i64 0, .int .i64 0, .slice none 0 0] 33)).alloc (.cells Z 5)) 33 _, ((Blk.mkAt rfl).alloc _).alloc _, ((Fresh.alloc _ _).allocS _).allocS _⟩
    clear hmk
    intro W ⟨hg, hf, ht, hfr⟩
    obtain ⟨f0, f1, f2, f3⟩ := hf.c4
    have g0 := (hg.cell 0).trans HZ0.out
    have y0 := hg.frozen 0
    have HG := Lib.hid (hg.set 0 (.int .u8 (p : Int)))
    have HF := Lib.hid (hf.far (p := ⟨w.heap.size + 1, 0, none⟩) (by simp) (.int .u8 (p : Int)))
    have HT := Lib.hid (ht.far (p := ⟨w.heap.size + 1, 0, none⟩) (by simp) (.int .u8 (p : Int)))
    have HFR := Lib.hid (hfr.step ⟨w.heap.size + 1, 0, none⟩ (.int .u8 (p : Int)) (by simp))
    have HA2 : Hid (BS (W.setCell ⟨w.heap.size + 1, 0, none⟩ (.int .u8 (p : Int))) A l) := Lib.hid (HA.out.fresh HFR.out)
    obtain ⟨W3, hcp3, hb3, ho3, hs3⟩ := run_copy_bs (P := Try.prog) HA2.out 22 5 3 Try.underlying22 (by kernel_rfl) (w.heap.size + 1) 1 (n - 1) (n - 1) c _ _ HG.out hlb (by simp; have := HZS.out; omega) (some ⟨w.heap.size + 1, 1, none⟩) (fun _ => rfl)
    rw [HOV.out] at hb3
    have HB3 := Lib.hid hb3
    have hf3 := HF.out.only ho3 (by omega)
    have ht3 := HT.out.only ho3 (by omega)
    have HF3 : Hid (Fresh w W3) := Lib.hid (Only.fresh (S := fun i => i = w.heap.size + 1) ((Only.of_fresh HFR.out).trans ho3) (fun i hi e => by omega))
    have HT3 := Lib.hid ht3
    obtain ⟨u0, u1, u2, u3⟩ := hf3.c4
    obtain ⟨t0, t1, t2, t3⟩ := ht3.c4
    obtain ⟨x0, x1, x2, x3⟩ := ht3.z4
    clear hg hf ht hfr hb3 hf3 ht3 ho3 hs3
    go_wp2_with fail
    refine wx_gen (fun W4 => Blk W4 w.heap.size 33 #[.int .i64 0, .int .i64 8, .int .i64 (st : Int), .slice (some ⟨w.heap.size + 1, 0, none⟩) n n] ∧ Blk W4 (w.heap.size + 1) 5 (bytesA (padL p l)) ∧ Fresh w W4) ?_ ?_
    focus
      refine ⟨by simpa using (((HT3.out.set 0 _).set 1 _).set 2 _).set 3 _, (((HB3.out.far (by simp) _).far (by simp) _).far (by simp) _).far (by simp) _, (((HF3.out.step _ _ (Nat.le_refl _)).step _ _ (Nat.le_refl _)).step _ _ (Nat.le_refl _)).step _ _ (Nat.le_refl _)⟩
    clear u0 u1 u2 u3 t0 t1 t2 t3 x0 x1 x2 x3 f0 f1 f2 f3 g0 y0 hcp3
    intro W4 ⟨hb4, hg4, hf4⟩
    have HG4 := Lib.hid hg4
    have HF4 := Lib.hid hf4
    obtain ⟨t0, t1, t2, t3⟩ := hb4.c4
    clear hb4 hg4 hf4
    go_wp2_with fail
    refine bodyPost_ret (v := .tuple #[.agg #[.int .i64 0, .int .i64 8, .int .i64 (st : Int), .slice (some ⟨w.heap.size + 1, 0, none⟩) n n], .int .i64 0]) (by simp [results, Try.results20, go_sem, t0, t1, t2, t3]) rfl ?_
    exact ⟨w.heap.size + 1, by simp, by omega, HG4.out, HF4.out⟩
  · go_enter Try.func20, Try.ntmps20
    go_wp2_with fail
    with_reducible refine (H.out _).mono ?_
    rintro e w1 ⟨rfl, rfl⟩
    go_upto_region 9 with (fail)
    refine wp_gen (fun W => Blk W (w.heap.size + 1) 5 Z ∧ Blk W (w.heap.size + 1 + 1) 33 #[.int .i64 0, .int .i64 9, .int .i64 (st : Int), .slice (some ⟨w.heap.size + 1, 0, none⟩) n n] ∧ Blk W w.heap.size 33 #[.int .i64 0, .int .i64 0, .int .i64 0, .slice none 0 0] ∧ Fresh w W) ?_ ?_
    focus
      refine ⟨Blk.alloc (by simpa using Blk.new (w.alloc _) 5 Z) _, by simpa using Blk.new ((w.alloc (.cells #[.int .i64 0, .int .i64 0, .int .i64 0, .slice none 0 0] 33)).alloc (.cells Z 5)) 33 _, ((Blk.mkAt rfl).alloc _).alloc _, ((Fresh.alloc _ _).allocS _).allocS _⟩
    clear hmk
    intro W ⟨hg, hf, ht, hfr⟩
    obtain ⟨f0, f1, f2, f3⟩ := hf.c4
    have g0 := (hg.cell 0).trans HZ0.out
    have y0 := hg.frozen 0
    have HG := Lib.hid (hg.set 0 (.int .u8 (p : Int)))
    have HF := Lib.hid (hf.far (p := ⟨w.heap.size + 1, 0, none⟩) (by simp) (.int .u8 (p : Int)))
    have HT := Lib.hid (ht.far (p := ⟨w.heap.size + 1, 0, none⟩) (by simp) (.int .u8 (p : Int)))
    have HFR := Lib.hid (hfr.step ⟨w.heap.size + 1, 0, none⟩ (.int .u8 (p : Int)) (by simp))
    have HA2 : Hid (BS (W.setCell ⟨w.heap.size + 1, 0, none⟩ (.int .u8 (p : Int))) A l) := Lib.hid (HA.out.fresh HFR.out)
    obtain ⟨W3, hcp3, hb3, ho3, hs3⟩ := run_copy_bs (P := Try.prog) HA2.out 22 5 3 Try.underlying22 (by kernel_rfl) (w.heap.size + 1) 1 (n - 1) (n - 1) c _ _ HG.out hlb (by simp; have := HZS.out; omega) (some ⟨w.heap.size + 1, 1, none⟩) (fun _ => rfl)
    rw [HOV.out] at hb3
    have HB3 := Lib.hid hb3
    have hf3 := HF.out.only ho3 (by omega)
    have ht3 := HT.out.only ho3 (by omega)
    have HF3 : Hid (Fresh w W3) := Lib.hid (Only.fresh (S := fun i => i = w.heap.size + 1) ((Only.of_fresh HFR.out).trans ho3) (fun i hi e => by omega))
    have HT3 := Lib.hid ht3
    obtain ⟨u0, u1, u2, u3⟩ := hf3.c4
    obtain ⟨t0, t1, t2, t3⟩ := ht3.c4
    obtain ⟨x0, x1, x2, x3⟩ := ht3.z4
    clear hg hf ht hfr hb3 hf3 ht3 ho3 hs3
    go_wp2_with fail
    refine wx_gen (fun W4 => Blk W4 w.heap.size 33 #[.int .i64 0, .int .i64 9, .int .i64 (st : Int), .slice (some ⟨w.heap.size + 1, 0, none⟩) n n] ∧ Blk W4 (w.heap.size + 1) 5 (bytesA (padL p l)) ∧ Fresh w W4) ?_ ?_
    focus
      refine ⟨by simpa using (((HT3.out.set 0 _).set 1 _).set 2 _).set 3 _, (((HB3.out.far (by simp) _).far (by simp) _).far (by simp) _).far (by simp) _, (((HF3.out.step _ _ (Nat.le_refl _)).step _ _ (Nat.le_refl _)).step _ _ (Nat.le_refl _)).step _ _ (Nat.le_refl _)⟩
    clear u0 u1 u2 u3 t0 t1 t2 t3 x0 x1 x2 x3 f0 f1 f2 f3 g0 y0 hcp3
    intro W4 ⟨hb4, hg4, hf4⟩
    have HG4 := Lib.hid hg4
    have HF4 := Lib.hid hf4
    obtain ⟨t0, t1, t2, t3⟩ := hb4.c4
    clear hb4 hg4 hf4
    go_wp2_with fail
    refine bodyPost_ret (v := .tuple #[.agg #[.int .i64 0, .int .i64 9, .int .i64 (st : Int), .slice (some ⟨w.heap.size + 1, 0, none⟩) n n], .int .i64 0]) (by simp [results, Try.results20, go_sem, t0, t1, t2, t3]) rfl ?_
    exact ⟨w.heap.size + 1, by simp, by omega, HG4.out, HF4.out⟩
end Go.Proofs.Ytpokpkijhakpjaa
