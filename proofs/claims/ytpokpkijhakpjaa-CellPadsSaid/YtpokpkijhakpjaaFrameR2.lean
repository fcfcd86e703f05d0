/-
  The document's answer for layer 9: Parse.
-/
import Derived.Test.YtpokpkijhakpjaaFrameR
import Derived.StillTailTactics
namespace Go.Proofs.Ytpokpkijhakpjaa
set_option linter.unusedVariables false
open Go.RowKit

theorem strB_cut (l : List UInt8) (i j : Nat) : (strB l).extract i j = strB ((l.take j).drop i) := by
  apply ByteArray.ext
  simp [strB, ByteArray.data_extract]
  try rw [List.drop_take]
theorem rnum_at (l : List UInt8) (x : Nat) (w : World) (hl : l.length ≤ 8) (hx : numL l = x) :
    Calls Try.prog 31 #[.string (strB l)] w fun e w' => e = .returned (.int .u64 (x : Int)) ∧ w = w' := by
  subst hx
  exact ref_num l w hl

def RParse (a b c d k : Int) (w : World) (e : Ending) (w' : World) : Prop :=
  e = .returned (.tuple #[.agg #[.int .i64 a, .int .i64 b, .int .i64 c, .int .i64 d], .int .i64 k]) ∧ Fresh w w'

set_option maxRecDepth 100000 in
set_option maxHeartbeats 1600000 in
theorem rparse_no (l : List UInt8) (most : Int) (w : World) (hl : l.length ≤ 9223372036854775000) (k : Nat) (z : Int) (hk : parseK l most = k) (hk0 : k ≠ 0) (hz : z = (k : Int)) :
    Calls Try.prog 19 #[.string (strB l), .int .i64 most] w (RParse 0 0 0 0 z w) := by
  have hS : (strB l).size = l.length := strB_size l
  have hE : (strB l).extract 0 3 = strB (l.take 3) := by rw [strB_cut]; rfl
  have HN := Lib.hid (fun W => rnum_at (l.take 3) _ W (by simp; omega) rfl)
  have hN3 := numL_take3 l
  unfold parseK at hk
  generalize numL (l.take 3) = N at *
  generalize strB (l.take 3) = T at *
  generalize strB l = S at *
  by_cases h9 : l.length < 9
  · rw [if_pos h9] at hk
    subst hk
    have h9' : (l.length : Int) < 9 := by omega
    have HZ := Lib.hid hz
    clear hz h9 hk0
    go_enter Try.func19, Try.ntmps19
    go_wp2
    refine bodyPost_ret (v := .tuple #[.agg #[.int .i64 0, .int .i64 0, .int .i64 0, .int .i64 0], .int .i64 16]) (by simp [results, Try.results19, go_sem]) rfl ⟨by rw [HZ.out]; rfl, ?_⟩
    exact (Fresh.alloc _ _)
  · rw [if_neg h9] at hk
    have h9' : ¬ (l.length : Int) < 9 := by omega
    by_cases hm : most < (N : Int)
    · rw [if_pos hm] at hk
      subst hk
      have HZ := Lib.hid hz
      clear hz h9 hk0
      go_enter Try.func19, Try.ntmps19
      go_wp2_with fail
      with_reducible refine (HN.out _).mono ?_
      rintro e w2 ⟨rfl, rfl⟩
      go_wp2
      refine bodyPost_ret (v := .tuple #[.agg #[.int .i64 0, .int .i64 0, .int .i64 0, .int .i64 0], .int .i64 106]) (by simp [results, Try.results19, go_sem]) rfl ⟨by rw [HZ.out]; rfl, ?_⟩
      exact (Fresh.alloc _ _)
    · rw [if_neg hm] at hk
      by_cases hs : l.length < 9 + N
      · rw [if_pos hs] at hk
        subst hk
        have HZ := Lib.hid hz
        have hs' : (l.length : Int) < 9 + (N : Int) := by omega
        clear hz h9 hk0 hs
        go_enter Try.func19, Try.ntmps19
        go_wp2_with fail
        with_reducible refine (HN.out _).mono ?_
        rintro e w2 ⟨rfl, rfl⟩
        go_wp2
        refine bodyPost_ret (v := .tuple #[.agg #[.int .i64 0, .int .i64 0, .int .i64 0, .int .i64 0], .int .i64 16]) (by simp [results, Try.results19, go_sem]) rfl ⟨by rw [HZ.out]; rfl, ?_⟩
        exact (Fresh.alloc _ _)
      · rw [if_neg hs] at hk
        exact absurd hk.symm hk0

set_option maxRecDepth 100000 in
set_option maxHeartbeats 1600000 in
theorem rparse_ok (l : List UInt8) (most : Int) (w : World) (hl : l.length ≤ 9223372036854775000) (x y : UInt8) (N S31 : Nat) (hk : parseK l most = 0) (hN : numL (l.take 3) = N) (hx : l[3]? = some x) (hy : l[4]? = some y) (hS : numL ((l.drop 5).take 4) % 2147483648 = S31) :
    Calls Try.prog 19 #[.string (strB l), .int .i64 most] w (RParse (x.toNat : Int) (y.toNat : Int) (S31 : Int) (9 + (N : Int)) 0 w) := by
  obtain ⟨h9, hm, hs⟩ := parseK_ok hk
  clear hk
  have hSz : (strB l).size = l.length := strB_size l
  have hE : (strB l).extract 0 3 = strB (l.take 3) := by rw [strB_cut]; rfl
  have hE2 : (strB l).extract 5 9 = strB ((l.drop 5).take 4) := by rw [strB_cut, List.drop_take]
  have HN := Lib.hid (fun W => rnum_at (l.take 3) N W (by simp; omega) hN)
  have HN2 := Lib.hid (fun W => rnum_at ((l.drop 5).take 4) _ W (by simp; omega) rfl)
  have hN3 := numL_take3 l
  rw [hN] at hN3 hm hs
  have hx3 : ∀ h : 3 < (strB l).size, (strB l)[3] = x := fun h => by
    have h3 : 3 < l.length := by omega
    rw [List.getElem?_eq_getElem h3] at hx
    exact Option.some.inj hx
  have hy3 : ∀ h : 4 < (strB l).size, (strB l)[4] = y := fun h => by
    have h3 : 4 < l.length := by omega
    rw [List.getElem?_eq_getElem h3] at hy
    exact Option.some.inj hy
  have hS4 := numL_take_lt (l.drop 5) 4 4 (Nat.le_refl _)
  rw [show (256 : Nat) ^ 4 = 4294967296 from rfl] at hS4
  have hx8 := UInt8.toNat_lt x
  have hy8 := UInt8.toNat_lt y
  generalize numL ((l.drop 5).take 4) = Q at *
  have hmod : ((Q : Int) % 2147483648) = (S31 : Int) := by omega
  have HMOD := Lib.hid hmod
  clear hmod hS hx hy hN
  generalize strB ((l.drop 5).take 4) = T2 at *
  generalize strB (l.take 3) = T at *
  generalize strB l = S at *
  have h9' : ¬ (l.length : Int) < 9 := by omega
  have hm' : ¬ most < (N : Int) := by omega
  have hs' : ¬ (l.length : Int) < 9 + (N : Int) := by omega
  go_enter Try.func19, Try.ntmps19
  go_wp2_with fail
  with_reducible refine (HN.out _).mono ?_
  rintro e w2 ⟨rfl, rfl⟩
  go_wp2_with fail
  have i3 : (3 : Int) < (l.length : Int) := by omega
  have i4 : (4 : Int) < (l.length : Int) := by omega
  have i9 : (9 : Int) ≤ (l.length : Int) := by omega
  have q1 : (Q : Int).tmod 2147483648 = (S31 : Int) := by rw [Int.tmod_eq_emod_of_nonneg (by omega)]; exact HMOD.out
  have hS31 : (S31 : Int) < 2147483648 := by have := HMOD.out; omega
  have q3 : IntKind.i64.wrap (S31 : Int) = (S31 : Int) := IntWalk.i64_in _ (by omega)
  have q4 : IntKind.i64.wrap (9 + (N : Int)) = 9 + (N : Int) := IntWalk.i64_in _ (by omega)
  have q5 : IntKind.u64.wrap (S31 : Int) = (S31 : Int) := by rw [IntKind.wrap_u64]; omega
  go_still_tail 14, (by kernel_rfl)
  still_call ((HN2.out _).mono fun _ _ ⟨a, b⟩ => ⟨a, b.symm⟩)
  repeat still_step
  refine wpStill_nil ?_
  change wpList _ _ _ _ _ (World.drew _)
  clear q1 q3 q4 q5
  go_wp2
  refine bodyPost_ret (v := .tuple #[.agg #[.int .i64 (x.toNat : Int), .int .i64 (y.toNat : Int), .int .i64 (S31 : Int), .int .i64 (9 + (N : Int))], .int .i64 0]) (by simp [results, Try.results19, go_sem]) rfl ⟨rfl, ?_⟩
  exact (Fresh.alloc _ _).trans (Fresh.drew _)
end Go.Proofs.Ytpokpkijhakpjaa
