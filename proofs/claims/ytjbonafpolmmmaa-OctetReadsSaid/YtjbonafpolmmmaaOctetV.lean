/-
  The laws OctetBig, OctetNum, OctetOrder: their walks.
-/
import Derived.Test.YtjbonafpolmmmaaOctetL
import Derived.Deep.RegionWith
import Derived.Deep.RegionHeld3
namespace Go.Proofs.Ytjbonafpolmmmaa
set_option linter.unusedVariables false
open Go.RowKit

theorem str_eq_big (x n : Nat) (w : World) (g : Nat) (h : Blk w g 5 (bytesA (bigL x n))) :
    (convert 23 9 (.slice (some ⟨g, 0, none⟩) n n)).run Try.prog w = .ok (.string (strB (bigL x n))) w := by
  have := run_str (P := Try.prog) (BS.row h) 23 9 5 Try.underlying23 Try.underlying5 Try.underlying9 n
  rwa [bigL_length] at this

set_option maxRecDepth 100000 in
set_option maxHeartbeats 1600000 in
theorem OctetBig_long (x n : Nat) (w : World) (hx : x < 18446744073709551616) (h1 : 9 ≤ n) (h2 : n ≤ 64) :
    Calls Try.prog 3 #[.int .u64 x, .int .i64 n] w fun e w' => e = .returned (.bool true) ∧ Fresh w w' := by
  have HB := Lib.hid (fun w => obig_yes x n w hx (by omega) (by omega))
  have HR := Lib.hid (fun w => ref_big x n w hx (by omega))
  have HS := Lib.hid (fun w g h => str_eq_big x n w g h)
  obtain ⟨S, hS⟩ : ∃ S, S = strB (bigL x n) := ⟨_, rfl⟩
  rw [← hS] at HR HS
  clear hS
  have e9 : (8 : Int) < (n : Int) := by omega
  clear hx
  go_enter Try.func3, Try.ntmps3
  go_wp2_with fail
  refine (HB.out _).mono ?_
  rintro e w1 ⟨rfl, hb1, hf1⟩
  have hc1 := HS.out w1.drew _ hb1.drew
  have HB1 := Lib.hid hb1
  clear hb1
  go_wp2_with fail
  go_region_with (go_at_call 9; refine (HR.out _).mono ?_; rintro e w2 ⟨rfl, hf2⟩; have hc2 := HS.out w2 _ ((HB1.out.fresh (Fresh.drew _)).fresh hf2))
  all_goals
    have hb2 := (HB1.out.fresh (Fresh.drew _)).fresh hf2
    have HB2 := Lib.hid hb2
    clear hb2 hc1 hc2
    go_wp2_with fail
    refine (onum_no _ n n _ (by omega) (by omega)).mono ?_
    rintro e w3 ⟨rfl, rfl⟩
    go_wp2_with fail
    refine (awake_true _).mono ?_
    rintro e w4 ⟨rfl, hf4⟩
    go_wp2_with fail
    go_ret
    exact ⟨rfl, (hf1.trans ((Fresh.drew _).trans hf2)).trans hf4⟩

set_option maxRecDepth 100000 in
set_option maxHeartbeats 1600000 in
theorem OctetBig_8 (x n : Nat) (w : World) (hx : x < 18446744073709551616) (h1 : n = 8) :
    Calls Try.prog 3 #[.int .u64 x, .int .i64 n] w fun e w' => e = .returned (.bool true) ∧ Fresh w w' := by
  have HB := Lib.hid (fun w => obig_yes x n w hx (by omega) (by omega))
  have HR := Lib.hid (fun w => ref_big x n w hx (by omega))
  have HS := Lib.hid (fun w g h => str_eq_big x n w g h)
  obtain ⟨S, hS⟩ : ∃ S, S = strB (bigL x n) := ⟨_, rfl⟩
  rw [← hS] at HR HS
  clear hS
  subst h1
  have HN : Hid (numL (bigL x 8) = x) := by
    show _ = _
    rw [numL_bigL]
    exact Nat.mod_eq_of_lt (by rw [show (256 : Nat) ^ 8 = 18446744073709551616 from rfl]; exact hx)
  clear hx
  go_enter Try.func3, Try.ntmps3
  go_wp2_with fail
  refine (HB.out _).mono ?_
  rintro e w1 ⟨rfl, hb1, hf1⟩
  have hc1 := HS.out w1.drew _ hb1.drew
  have HB1 := Lib.hid hb1
  clear hb1
  go_wp2_with fail
  go_region_with (go_at_call 9; refine (HR.out _).mono ?_; rintro e w2 ⟨rfl, hf2⟩; have hc2 := HS.out w2 _ ((HB1.out.fresh (Fresh.drew _)).fresh hf2))
  all_goals
    have hb2 := (HB1.out.fresh (Fresh.drew _)).fresh hf2
    have HB2 := Lib.hid hb2
    clear hb2 hc1 hc2
    go_wp2_with fail
    have hN := onum_yes _ 8 (bigL x 8) _ (by rw [bigL_length]; omega) (BS.row HB2.out)
    rw [bigL_length, HN.out] at hN
    have HNN := Lib.hid hN
    clear hN
    refine HNN.out.mono ?_
    rintro e w3 ⟨rfl, rfl⟩
    go_wp2_with fail
    refine (awake_true _).mono ?_
    rintro e w4 ⟨rfl, hf4⟩
    go_wp2_with fail
    go_ret
    exact ⟨rfl, (hf1.trans ((Fresh.drew _).trans hf2)).trans hf4⟩

set_option maxRecDepth 100000 in
set_option maxHeartbeats 1600000 in
theorem OctetBig_1 (x n : Nat) (w : World) (hx : x < 18446744073709551616) (h1 : n = 1) :
    Calls Try.prog 3 #[.int .u64 x, .int .i64 n] w fun e w' => e = .returned (.bool true) ∧ Fresh w w' := by
  have HB := Lib.hid (fun w => obig_yes x n w hx (by omega) (by omega))
  have HR := Lib.hid (fun w => ref_big x n w hx (by omega))
  have HS := Lib.hid (fun w g h => str_eq_big x n w g h)
  obtain ⟨S, hS⟩ : ∃ S, S = strB (bigL x n) := ⟨_, rfl⟩
  rw [← hS] at HR HS
  clear hS
  subst h1
  have HN : Hid (((numL (bigL x 1) : Nat) : Int) = (x : Int) % 256) := by
    show _ = _
    rw [numL_bigL, show (256 : Nat) ^ 1 = 256 from rfl]
    omega
  clear hx
  go_enter Try.func3, Try.ntmps3
  go_wp2_with fail
  refine (HB.out _).mono ?_
  rintro e w1 ⟨rfl, hb1, hf1⟩
  have hc1 := HS.out w1.drew _ hb1.drew
  have HB1 := Lib.hid hb1
  clear hb1
  go_wp2_with fail
  go_region_with (go_at_call 9; refine (HR.out _).mono ?_; rintro e w2 ⟨rfl, hf2⟩; have hc2 := HS.out w2 _ ((HB1.out.fresh (Fresh.drew _)).fresh hf2))
  all_goals
    have hb2 := (HB1.out.fresh (Fresh.drew _)).fresh hf2
    have HB2 := Lib.hid hb2
    clear hb2 hc1 hc2
    go_wp2_with fail
    have hN := onum_yes _ 1 (bigL x 1) _ (by rw [bigL_length]; omega) (BS.row HB2.out)
    rw [bigL_length, HN.out] at hN
    have HNN := Lib.hid hN
    clear hN
    refine HNN.out.mono ?_
    rintro e w3 ⟨rfl, rfl⟩
    go_wp2_with fail
    refine (awake_true _).mono ?_
    rintro e w4 ⟨rfl, hf4⟩
    go_wp2_with fail
    go_ret
    exact ⟨rfl, (hf1.trans ((Fresh.drew _).trans hf2)).trans hf4⟩

set_option maxRecDepth 100000 in
set_option maxHeartbeats 1600000 in
theorem OctetBig_2 (x n : Nat) (w : World) (hx : x < 18446744073709551616) (h1 : n = 2) :
    Calls Try.prog 3 #[.int .u64 x, .int .i64 n] w fun e w' => e = .returned (.bool true) ∧ Fresh w w' := by
  have HB := Lib.hid (fun w => obig_yes x n w hx (by omega) (by omega))
  have HR := Lib.hid (fun w => ref_big x n w hx (by omega))
  have HS := Lib.hid (fun w g h => str_eq_big x n w g h)
  obtain ⟨S, hS⟩ : ∃ S, S = strB (bigL x n) := ⟨_, rfl⟩
  rw [← hS] at HR HS
  clear hS
  subst h1
  have HN : Hid (((numL (bigL x 2) : Nat) : Int) = (x : Int) % 65536) := by
    show _ = _
    rw [numL_bigL, show (256 : Nat) ^ 2 = 65536 from rfl]
    omega
  clear hx
  go_enter Try.func3, Try.ntmps3
  go_wp2_with fail
  refine (HB.out _).mono ?_
  rintro e w1 ⟨rfl, hb1, hf1⟩
  have hc1 := HS.out w1.drew _ hb1.drew
  have HB1 := Lib.hid hb1
  clear hb1
  go_wp2_with fail
  go_region_with (go_at_call 9; refine (HR.out _).mono ?_; rintro e w2 ⟨rfl, hf2⟩; have hc2 := HS.out w2 _ ((HB1.out.fresh (Fresh.drew _)).fresh hf2))
  all_goals
    have hb2 := (HB1.out.fresh (Fresh.drew _)).fresh hf2
    have HB2 := Lib.hid hb2
    clear hb2 hc1 hc2
    go_wp2_with fail
    have hN := onum_yes _ 2 (bigL x 2) _ (by rw [bigL_length]; omega) (BS.row HB2.out)
    rw [bigL_length, HN.out] at hN
    have HNN := Lib.hid hN
    clear hN
    refine HNN.out.mono ?_
    rintro e w3 ⟨rfl, rfl⟩
    go_wp2_with fail
    refine (awake_true _).mono ?_
    rintro e w4 ⟨rfl, hf4⟩
    go_wp2_with fail
    go_ret
    exact ⟨rfl, (hf1.trans ((Fresh.drew _).trans hf2)).trans hf4⟩

set_option maxRecDepth 100000 in
set_option maxHeartbeats 1600000 in
theorem OctetBig_3 (x n : Nat) (w : World) (hx : x < 18446744073709551616) (h1 : n = 3) :
    Calls Try.prog 3 #[.int .u64 x, .int .i64 n] w fun e w' => e = .returned (.bool true) ∧ Fresh w w' := by
  have HB := Lib.hid (fun w => obig_yes x n w hx (by omega) (by omega))
  have HR := Lib.hid (fun w => ref_big x n w hx (by omega))
  have HS := Lib.hid (fun w g h => str_eq_big x n w g h)
  obtain ⟨S, hS⟩ : ∃ S, S = strB (bigL x n) := ⟨_, rfl⟩
  rw [← hS] at HR HS
  clear hS
  subst h1
  have HN : Hid (((numL (bigL x 3) : Nat) : Int) = (x : Int) % 16777216) := by
    show _ = _
    rw [numL_bigL, show (256 : Nat) ^ 3 = 16777216 from rfl]
    omega
  clear hx
  go_enter Try.func3, Try.ntmps3
  go_wp2_with fail
  refine (HB.out _).mono ?_
  rintro e w1 ⟨rfl, hb1, hf1⟩
  have hc1 := HS.out w1.drew _ hb1.drew
  have HB1 := Lib.hid hb1
  clear hb1
  go_wp2_with fail
  go_region_with (go_at_call 9; refine (HR.out _).mono ?_; rintro e w2 ⟨rfl, hf2⟩; have hc2 := HS.out w2 _ ((HB1.out.fresh (Fresh.drew _)).fresh hf2))
  all_goals
    have hb2 := (HB1.out.fresh (Fresh.drew _)).fresh hf2
    have HB2 := Lib.hid hb2
    clear hb2 hc1 hc2
    go_wp2_with fail
    have hN := onum_yes _ 3 (bigL x 3) _ (by rw [bigL_length]; omega) (BS.row HB2.out)
    rw [bigL_length, HN.out] at hN
    have HNN := Lib.hid hN
    clear hN
    refine HNN.out.mono ?_
    rintro e w3 ⟨rfl, rfl⟩
    go_wp2_with fail
    refine (awake_true _).mono ?_
    rintro e w4 ⟨rfl, hf4⟩
    go_wp2_with fail
    go_ret
    exact ⟨rfl, (hf1.trans ((Fresh.drew _).trans hf2)).trans hf4⟩

set_option maxRecDepth 100000 in
set_option maxHeartbeats 1600000 in
theorem OctetBig_4 (x n : Nat) (w : World) (hx : x < 18446744073709551616) (h1 : n = 4) :
    Calls Try.prog 3 #[.int .u64 x, .int .i64 n] w fun e w' => e = .returned (.bool true) ∧ Fresh w w' := by
  have HB := Lib.hid (fun w => obig_yes x n w hx (by omega) (by omega))
  have HR := Lib.hid (fun w => ref_big x n w hx (by omega))
  have HS := Lib.hid (fun w g h => str_eq_big x n w g h)
  obtain ⟨S, hS⟩ : ∃ S, S = strB (bigL x n) := ⟨_, rfl⟩
  rw [← hS] at HR HS
  clear hS
  subst h1
  have HN : Hid (((numL (bigL x 4) : Nat) : Int) = (x : Int) % 4294967296) := by
    show _ = _
    rw [numL_bigL, show (256 : Nat) ^ 4 = 4294967296 from rfl]
    omega
  clear hx
  go_enter Try.func3, Try.ntmps3
  go_wp2_with fail
  refine (HB.out _).mono ?_
  rintro e w1 ⟨rfl, hb1, hf1⟩
  have hc1 := HS.out w1.drew _ hb1.drew
  have HB1 := Lib.hid hb1
  clear hb1
  go_wp2_with fail
  go_region_with (go_at_call 9; refine (HR.out _).mono ?_; rintro e w2 ⟨rfl, hf2⟩; have hc2 := HS.out w2 _ ((HB1.out.fresh (Fresh.drew _)).fresh hf2))
  all_goals
    have hb2 := (HB1.out.fresh (Fresh.drew _)).fresh hf2
    have HB2 := Lib.hid hb2
    clear hb2 hc1 hc2
    go_wp2_with fail
    have hN := onum_yes _ 4 (bigL x 4) _ (by rw [bigL_length]; omega) (BS.row HB2.out)
    rw [bigL_length, HN.out] at hN
    have HNN := Lib.hid hN
    clear hN
    refine HNN.out.mono ?_
    rintro e w3 ⟨rfl, rfl⟩
    go_wp2_with fail
    refine (awake_true _).mono ?_
    rintro e w4 ⟨rfl, hf4⟩
    go_wp2_with fail
    go_ret
    exact ⟨rfl, (hf1.trans ((Fresh.drew _).trans hf2)).trans hf4⟩

set_option maxRecDepth 100000 in
set_option maxHeartbeats 1600000 in
theorem OctetBig_5 (x n : Nat) (w : World) (hx : x < 18446744073709551616) (h1 : n = 5) :
    Calls Try.prog 3 #[.int .u64 x, .int .i64 n] w fun e w' => e = .returned (.bool true) ∧ Fresh w w' := by
  have HB := Lib.hid (fun w => obig_yes x n w hx (by omega) (by omega))
  have HR := Lib.hid (fun w => ref_big x n w hx (by omega))
  have HS := Lib.hid (fun w g h => str_eq_big x n w g h)
  obtain ⟨S, hS⟩ : ∃ S, S = strB (bigL x n) := ⟨_, rfl⟩
  rw [← hS] at HR HS
  clear hS
  subst h1
  have HN : Hid (((numL (bigL x 5) : Nat) : Int) = (x : Int) % 1099511627776) := by
    show _ = _
    rw [numL_bigL, show (256 : Nat) ^ 5 = 1099511627776 from rfl]
    omega
  clear hx
  go_enter Try.func3, Try.ntmps3
  go_wp2_with fail
  refine (HB.out _).mono ?_
  rintro e w1 ⟨rfl, hb1, hf1⟩
  have hc1 := HS.out w1.drew _ hb1.drew
  have HB1 := Lib.hid hb1
  clear hb1
  go_wp2_with fail
  go_region_with (go_at_call 9; refine (HR.out _).mono ?_; rintro e w2 ⟨rfl, hf2⟩; have hc2 := HS.out w2 _ ((HB1.out.fresh (Fresh.drew _)).fresh hf2))
  all_goals
    have hb2 := (HB1.out.fresh (Fresh.drew _)).fresh hf2
    have HB2 := Lib.hid hb2
    clear hb2 hc1 hc2
    go_wp2_with fail
    have hN := onum_yes _ 5 (bigL x 5) _ (by rw [bigL_length]; omega) (BS.row HB2.out)
    rw [bigL_length, HN.out] at hN
    have HNN := Lib.hid hN
    clear hN
    refine HNN.out.mono ?_
    rintro e w3 ⟨rfl, rfl⟩
    go_wp2_with fail
    refine (awake_true _).mono ?_
    rintro e w4 ⟨rfl, hf4⟩
    go_wp2_with fail
    go_ret
    exact ⟨rfl, (hf1.trans ((Fresh.drew _).trans hf2)).trans hf4⟩

set_option maxRecDepth 100000 in
set_option maxHeartbeats 1600000 in
theorem OctetBig_6 (x n : Nat) (w : World) (hx : x < 18446744073709551616) (h1 : n = 6) :
    Calls Try.prog 3 #[.int .u64 x, .int .i64 n] w fun e w' => e = .returned (.bool true) ∧ Fresh w w' := by
  have HB := Lib.hid (fun w => obig_yes x n w hx (by omega) (by omega))
  have HR := Lib.hid (fun w => ref_big x n w hx (by omega))
  have HS := Lib.hid (fun w g h => str_eq_big x n w g h)
  obtain ⟨S, hS⟩ : ∃ S, S = strB (bigL x n) := ⟨_, rfl⟩
  rw [← hS] at HR HS
  clear hS
  subst h1
  have HN : Hid (((numL (bigL x 6) : Nat) : Int) = (x : Int) % 281474976710656) := by
    show _ = _
    rw [numL_bigL, show (256 : Nat) ^ 6 = 281474976710656 from rfl]
    omega
  clear hx
  go_enter Try.func3, Try.ntmps3
  go_wp2_with fail
  refine (HB.out _).mono ?_
  rintro e w1 ⟨rfl, hb1, hf1⟩
  have hc1 := HS.out w1.drew _ hb1.drew
  have HB1 := Lib.hid hb1
  clear hb1
  go_wp2_with fail
  go_region_with (go_at_call 9; refine (HR.out _).mono ?_; rintro e w2 ⟨rfl, hf2⟩; have hc2 := HS.out w2 _ ((HB1.out.fresh (Fresh.drew _)).fresh hf2))
  all_goals
    have hb2 := (HB1.out.fresh (Fresh.drew _)).fresh hf2
    have HB2 := Lib.hid hb2
    clear hb2 hc1 hc2
    go_wp2_with fail
    have hN := onum_yes _ 6 (bigL x 6) _ (by rw [bigL_length]; omega) (BS.row HB2.out)
    rw [bigL_length, HN.out] at hN
    have HNN := Lib.hid hN
    clear hN
    refine HNN.out.mono ?_
    rintro e w3 ⟨rfl, rfl⟩
    go_wp2_with fail
    refine (awake_true _).mono ?_
    rintro e w4 ⟨rfl, hf4⟩
    go_wp2_with fail
    go_ret
    exact ⟨rfl, (hf1.trans ((Fresh.drew _).trans hf2)).trans hf4⟩

set_option maxRecDepth 100000 in
set_option maxHeartbeats 1600000 in
theorem OctetBig_7 (x n : Nat) (w : World) (hx : x < 18446744073709551616) (h1 : n = 7) :
    Calls Try.prog 3 #[.int .u64 x, .int .i64 n] w fun e w' => e = .returned (.bool true) ∧ Fresh w w' := by
  have HB := Lib.hid (fun w => obig_yes x n w hx (by omega) (by omega))
  have HR := Lib.hid (fun w => ref_big x n w hx (by omega))
  have HS := Lib.hid (fun w g h => str_eq_big x n w g h)
  obtain ⟨S, hS⟩ : ∃ S, S = strB (bigL x n) := ⟨_, rfl⟩
  rw [← hS] at HR HS
  clear hS
  subst h1
  have HN : Hid (((numL (bigL x 7) : Nat) : Int) = (x : Int) % 72057594037927936) := by
    show _ = _
    rw [numL_bigL, show (256 : Nat) ^ 7 = 72057594037927936 from rfl]
    omega
  clear hx
  go_enter Try.func3, Try.ntmps3
  go_wp2_with fail
  refine (HB.out _).mono ?_
  rintro e w1 ⟨rfl, hb1, hf1⟩
  have hc1 := HS.out w1.drew _ hb1.drew
  have HB1 := Lib.hid hb1
  clear hb1
  go_wp2_with fail
  go_region_with (go_at_call 9; refine (HR.out _).mono ?_; rintro e w2 ⟨rfl, hf2⟩; have hc2 := HS.out w2 _ ((HB1.out.fresh (Fresh.drew _)).fresh hf2))
  all_goals
    have hb2 := (HB1.out.fresh (Fresh.drew _)).fresh hf2
    have HB2 := Lib.hid hb2
    clear hb2 hc1 hc2
    go_wp2_with fail
    have hN := onum_yes _ 7 (bigL x 7) _ (by rw [bigL_length]; omega) (BS.row HB2.out)
    rw [bigL_length, HN.out] at hN
    have HNN := Lib.hid hN
    clear hN
    refine HNN.out.mono ?_
    rintro e w3 ⟨rfl, rfl⟩
    go_wp2_with fail
    refine (awake_true _).mono ?_
    rintro e w4 ⟨rfl, hf4⟩
    go_wp2_with fail
    go_ret
    exact ⟨rfl, (hf1.trans ((Fresh.drew _).trans hf2)).trans hf4⟩


theorem wf_u64_bd {n : Int} (h : (Lit.int .u64 n).wf = true) : 0 ≤ n ∧ n < 18446744073709551616 := by
  have := bounds_u64 h
  omega

set_option maxHeartbeats 800000 in
theorem OctetBig_any (x n : Int) (w : World) (wx : (Lit.int .u64 x).wf = true) (_ : (Lit.int .i64 n).wf = true) :
    Calls Try.prog 3 #[.int .u64 x, .int .i64 n] w fun e w' => e = .returned (.bool true) ∧ Below w.heap.size w w' := by
  by_cases h : 1 ≤ n ∧ n ≤ 64
  · obtain ⟨hx0, hx1⟩ := wf_u64_bd wx
    obtain ⟨y, rfl⟩ : ∃ y : Nat, x = y := ⟨x.toNat, by omega⟩
    obtain ⟨m, rfl⟩ : ∃ m : Nat, n = m := ⟨n.toNat, by omega⟩
    have hy : y < 18446744073709551616 := by omega
    by_cases h9 : 9 ≤ m
    · exact OctetBig_long y m w hy h9 (by omega)
    · have hm : m = 1 ∨ m = 2 ∨ m = 3 ∨ m = 4 ∨ m = 5 ∨ m = 6 ∨ m = 7 ∨ m = 8 := by omega
      rcases hm with h | h | h | h | h | h | h | h
      · exact OctetBig_1 y m w hy h
      · exact OctetBig_2 y m w hy h
      · exact OctetBig_3 y m w hy h
      · exact OctetBig_4 y m w hy h
      · exact OctetBig_5 y m w hy h
      · exact OctetBig_6 y m w hy h
      · exact OctetBig_7 y m w hy h
      · exact OctetBig_8 y m w hy h
  · have HB := Lib.hid (fun w => obig_no x n w h)
    clear wx
    by_cases h1 : n < 1
    · clear h
      go_enter Try.func3, Try.ntmps3
      go_wp2_with fail
      refine (HB.out _).mono ?_
      rintro e w1 ⟨rfl, rfl⟩
      go_wp2_with fail
      refine (awake_true _).mono ?_
      rintro e w4 ⟨rfl, hf4⟩
      go_wp2_with fail
      go_ret
      exact ⟨rfl, hf4⟩
    · have h2 : 64 < n := by omega
      clear h
      go_enter Try.func3, Try.ntmps3
      go_wp2_with fail
      refine (HB.out _).mono ?_
      rintro e w1 ⟨rfl, rfl⟩
      go_wp2_with fail
      refine (awake_true _).mono ?_
      rintro e w4 ⟨rfl, hf4⟩
      go_wp2_with fail
      go_ret
      exact ⟨rfl, hf4⟩
end Go.Proofs.Ytjbonafpolmmmaa
