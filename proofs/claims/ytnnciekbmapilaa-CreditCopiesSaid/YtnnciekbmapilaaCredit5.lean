/-
  What the document says of credits: squintref17 by contract.
-/
import Derived.Test.YtnnciekbmapilaaCredit4
namespace Go.Proofs.Ytnnciekbmapilaa
set_option linter.unusedVariables false
open Go.RowKit

/-- What a call answers with a row of numbers in new memory. -/
def RowP (n : Nat) (f : Nat → Int) (w : World) (e : Ending) (w' : World) : Prop := ∃ p k, e = .returned (.slice (some ⟨p, 0, none⟩) n k) ∧ w.heap.size ≤ p ∧ Ints w' p n k f ∧ Fresh w w'
theorem push_int {w0 w : World} {base j : Nat} {v : Value} {f : Nat → Int} (h : Own w base 3 1 v j (intsV f j)) (hb : Below base w0 w) (hbase : base ≤ w0.heap.size) (hj : j ≤ 1000) (x : Int) (hx : f j = x) :
    ∃ A' c' w', (Builtin.append_ #[28, 28] 28 #[v, .slice (some ⟨w.heap.size, 0, none⟩) 1 1]).run Try.prog (w.alloc (.cells #[.int .i64 x] 3)) = .ok (.slice A' (j + 1) c') w' ∧ Own w' base 3 1 (.slice A' (j + 1) c') (j + 1) (intsV f (j + 1)) ∧ Below base w0 w' := by
  obtain ⟨v', w', hap, ho', hbl, _, hgr⟩ := Own.push (P := Try.prog) Try.underlying28 int_info rfl (by omega) 28 h hb hbase #[.int .i64 x] rfl (by simp [Value.oneCell']) (by unfold maxLen; omega) (by omega)
  obtain ⟨A', c', rfl, _⟩ := Own.slice ho'
  refine ⟨A', c', w', hap, ?_, hbl⟩
  rw [intsV_succ, hx]
  exact ho'
set_option maxHeartbeats 800000 in
theorem ref_first (n : Nat) (w : World) (h1 : 1 ≤ n) (h2 : n ≤ 64) : Calls Try.prog 9 #[.int .i64 n] w (RowP n (part 65535 n) w) := by
  have d0 := Int.ediv_nonneg (show (0 : Int) ≤ 65535 by omega) (show (0 : Int) ≤ n by omega)
  have d1 := Int.ediv_le_self (n : Int) (show (0 : Int) ≤ 65535 by omega)
  have d2 := Int.emod_nonneg 65535 (show (n : Int) ≠ 0 by omega)
  have d3 := Int.emod_lt_of_pos 65535 (show (0 : Int) < n by omega)
  go_enter Try.func9, Try.ntmps9
  go_wp2_with fail
  go_loopw [3, 4] (fun v i wr => ∃ j : Nat, j ≤ n ∧ i = .int .i64 j ∧ Own wr w.heap.size 3 1 v j (intsV (part 65535 n) j) ∧ Below w.heap.size w wr) (fun _ i _ => n - (intOf i).toNat)
  case atStart => exact ⟨0, by omega, rfl, Own.nil _ _ _ _, Below.refl _ _⟩
  case round =>
    obtain ⟨j, hj, rfl, hO, hB⟩ := hrel
    by_cases hlt : j < n
    · by_cases hm : (j : Int) < 65535 % (n : Int)
      · have hp : part 65535 n j = 65535 / (n : Int) + 1 := by unfold part; rw [if_pos hm]
        obtain ⟨A', c', w', hap, ho', hbl⟩ := push_int hO hB (Nat.le_refl _) (by omega) _ hp
        have HO := Lib.hid ho'
        have HBL := Lib.hid hbl
        clear hO hB ho' hbl hp
        go_wp2_with (at_builtin; with_reducible refine wp_app rfl (.tmp 19) (.tmp 21) _ rfl hap rfl (by simp [Act.eval, Act.put]) (by simp [Act.eval, Act.put]) ?_)
        go_roundw
        case rel => exact ⟨j + 1, by omega, by go_num, HO.out, HBL.out⟩
        case measure => simp [intOf]; omega
      · have hp : part 65535 n j = 65535 / (n : Int) := by unfold part; rw [if_neg hm]; omega
        obtain ⟨A', c', w', hap, ho', hbl⟩ := push_int hO hB (Nat.le_refl _) (by omega) _ hp
        have HO := Lib.hid ho'
        have HBL := Lib.hid hbl
        clear hO hB ho' hbl hp
        go_wp2_with (at_builtin; with_reducible refine wp_app rfl (.tmp 19) (.tmp 21) _ rfl hap rfl (by simp [Act.eval, Act.put]) (by simp [Act.eval, Act.put]) ?_)
        go_roundw
        case rel => exact ⟨j + 1, by omega, by go_num, HO.out, HBL.out⟩
        case measure => simp [intOf]; omega
    · obtain rfl : j = n := by omega
      have HO := Lib.hid hO
      have HB := Lib.hid hB
      clear hO hB d0 d1 d2 d3
      go_wp2_with fail
      go_ret
      obtain ⟨g, k, rfl, hg, hi⟩ := HO.out.ints h1
      exact ⟨g, k, rfl, hg, hi, HB.out⟩
set_option maxHeartbeats 800000 in
theorem ref_sum (p n k : Nat) (f : Nat → Int) (w : World) (h : Ints w p n k f) (hn : n ≤ 64) (hp : ∀ j, j < n → 0 ≤ f j) (hm : sumN f n ≤ 2147483647) :
    Calls Try.prog 20 #[.slice (some ⟨p, 0, none⟩) n k] w fun e w' => e = .returned (.int .i64 (sumN f n)) ∧ w = w' := by
  have HH := Lib.hid h
  have HP := Lib.hid hp
  have HM := Lib.hid hm
  clear h hp hm
  go_enter Try.func20, Try.ntmps20
  go_wp2_with fail
  go_loop [3, 4] (fun s i => ∃ j : Nat, j ≤ n ∧ i = .int .i64 j ∧ s = .int .i64 (sumN f j)) (fun _ i => n - (intOf i).toNat)
  case atStart => exact ⟨0, by omega, rfl, rfl⟩
  case round =>
    obtain ⟨j, hj, rfl, rfl⟩ := hrel
    by_cases hlt : j < n
    · have hc := HH.out.cell hlt
      have b0 := sumN_nonneg (f := f) (n := j) (fun i hi => HP.out i (by omega))
      have b1 := sumN_le (i := j) HP.out hj
      have b2 := HP.out j hlt
      have b3 := sumN_ge HP.out hlt
      have b4 := HM.out
      have e : sumN f (j + 1) = sumN f j + f j := rfl
      have HE := Lib.hid e
      clear e
      generalize f j = x at *
      generalize sumN f j = s at *
      go_wp2_with fail
      go_round
      case rel => exact ⟨j + 1, by omega, by go_num, by rw [HE.out]⟩
      case measure => simp [intOf]; omega
    · obtain rfl : j = n := by omega
      go_wp2_with fail
      go_ret
      exact ⟨rfl, rfl⟩
theorem ref_grant_range (v : Value) (T x : Int) (w : World) (h : ¬ (1 ≤ x ∧ x ≤ 2147483647)) :
    Calls Try.prog 21 #[v, .int .i64 T, .int .i64 x] w fun e w' => e = .returned (.tuple #[v, .int .i64 11]) ∧ w = w' := by
  by_cases h0 : x < 1
  · clear h
    go_enter Try.func21, Try.ntmps21
    go_wp2_with fail
    go_ret2
    exact ⟨rfl, rfl⟩
  · have h1 : 2147483647 < x := by omega
    clear h
    go_enter Try.func21, Try.ntmps21
    go_wp2_with fail
    go_ret2
    exact ⟨rfl, rfl⟩
theorem ref_grant_flow (p n k : Nat) (f : Nat → Int) (T x : Int) (w : World) (h : Ints w p n k f) (hn : n ≤ 64) (hp : ∀ j, j < n → 0 ≤ f j) (hm : sumN f n ≤ 2147483647) (h1 : 1 ≤ x) (h2 : x ≤ 2147483647) (h3 : 2147483647 < sumN f n + x) :
    Calls Try.prog 21 #[.slice (some ⟨p, 0, none⟩) n k, .int .i64 T, .int .i64 x] w fun e w' => e = .returned (.tuple #[.slice (some ⟨p, 0, none⟩) n k, .int .i64 103]) ∧ w = w' := by
  have b0 := sumN_nonneg hp
  have HC := Lib.hid (ref_sum p n k f w h hn hp hm)
  generalize sumN f n = s at *
  clear h hp
  go_enter Try.func21, Try.ntmps21
  go_wp2_with fail
  with_reducible refine HC.out.mono ?_
  rintro e w1 ⟨rfl, rfl⟩
  go_wp2_with fail
  go_ret2
  exact ⟨rfl, rfl⟩
def RowP2 (n : Nat) (f : Nat → Int) (w : World) (e : Ending) (w' : World) : Prop := ∃ p k, e = .returned (.tuple #[.slice (some ⟨p, 0, none⟩) n k, .int .i64 0]) ∧ w.heap.size ≤ p ∧ Ints w' p n k f ∧ Fresh w w'
set_option maxHeartbeats 1600000 in
theorem ref_grant_ok (p n k T : Nat) (f : Nat → Int) (x : Int) (w : World) (h : Ints w p n k f) (n1 : 1 ≤ n) (n2 : n ≤ 64) (hT : T ≤ 1000000) (hp : ∀ j, j < n → 0 ≤ f j) (h1 : 1 ≤ x) (h2 : x ≤ 2147483647) (h3 : sumN f n + x ≤ 2147483647) :
    Calls Try.prog 21 #[.slice (some ⟨p, 0, none⟩) n k, .int .i64 (T : Int), .int .i64 x] w (RowP2 n (grantF n f (T % n) x) w) := by
  have b0 := sumN_nonneg hp
  have HC := Lib.hid (ref_sum p n k f w h n2 hp (by omega))
  have HK : Hid (∀ j, j < n → 0 ≤ f j ∧ f j ≤ sumN f n) := Lib.hid (fun j hj => ⟨hp j hj, sumN_ge hp hj⟩)
  generalize sumN f n = s at *
  have HH := Lib.hid h
  have d0 := Int.ediv_nonneg (show (0 : Int) ≤ x by omega) (show (0 : Int) ≤ n by omega)
  have d1 := Int.ediv_le_self (n : Int) (show (0 : Int) ≤ x by omega)
  have d2 := Int.emod_nonneg x (show (n : Int) ≠ 0 by omega)
  have d3 := Int.emod_lt_of_pos x (show (0 : Int) < n by omega)
  have htl : T % n < n := Nat.mod_lt _ (by omega)
  obtain ⟨t, ht⟩ : ∃ t, T % n = t := ⟨_, rfl⟩
  rw [ht] at htl ⊢
  have HT : Hid ((T : Int) % (n : Int) = (t : Int)) := Lib.hid (by rw [← ht]; simp)
  clear h hp ht
  go_enter Try.func21, Try.ntmps21
  go_wp2_with fail
  with_reducible refine HC.out.mono ?_
  rintro e w1 ⟨rfl, rfl⟩
  go_wp2_with fail
  clear HC
  go_loopw [8, 9, 10, 11] (fun v i _ _ wr => ∃ j : Nat, j ≤ n ∧ i = .int .i64 j ∧ Own wr w.heap.size 3 1 v j (intsV (grantF n f t x) j) ∧ Below w.heap.size w wr) (fun _ i _ _ _ => n - (intOf i).toNat)
  case atStart => exact ⟨0, by omega, rfl, Own.nil _ _ _ _, Below.refl _ _⟩
  case round =>
    obtain ⟨j, hj, rfl, hO, hB⟩ := hrel
    by_cases hlt : j < n
    · have hi := (HH.out.fresh hB)
      have hc := hi.cell hlt
      have hpl := hi.lt
      have hk := HK.out j hlt
      have hbm := bck_mod htl hlt
      have hbl := bckN_lt htl hlt
      have hg : grantF n f t x j = f j + part x n (bckN n t j) := rfl
      generalize f j = y at *
      have hT1 := HT.out
      generalize bckN n t j = z at *
      clear hi
      by_cases hm : (z : Int) < x % (n : Int)
      · have hp : part x n z = x / (n : Int) + 1 := by unfold part; rw [if_pos hm]
        rw [hp] at hg
        obtain ⟨A', c', w', hap, ho', hbl2⟩ := push_int hO hB (Nat.le_refl _) (by omega) _ hg
        have HO := Lib.hid ho'
        have HBL := Lib.hid hbl2
        clear hO hB ho' hbl2 hp hg
        go_wp2_with (at_builtin; with_reducible refine wp_app rfl (.tmp 55) (.tmp 62) _ rfl hap rfl (by simp [Act.eval, Act.put]) (by simp [Act.eval, Act.put]) ?_)
        go_roundw
        case rel => exact ⟨j + 1, by omega, by go_num, HO.out, HBL.out⟩
        case measure => simp [intOf]; omega
      · have hp : part x n z = x / (n : Int) := by unfold part; rw [if_neg hm]; omega
        rw [hp] at hg
        obtain ⟨A', c', w', hap, ho', hbl2⟩ := push_int hO hB (Nat.le_refl _) (by omega) _ hg
        have HO := Lib.hid ho'
        have HBL := Lib.hid hbl2
        clear hO hB ho' hbl2 hp hg
        go_wp2_with (at_builtin; with_reducible refine wp_app rfl (.tmp 55) (.tmp 62) _ rfl hap rfl (by simp [Act.eval, Act.put]) (by simp [Act.eval, Act.put]) ?_)
        go_roundw
        case rel => exact ⟨j + 1, by omega, by go_num, HO.out, HBL.out⟩
        case measure => simp [intOf]; omega
    · obtain rfl : j = n := by omega
      have HO := Lib.hid hO
      have HB := Lib.hid hB
      clear hO hB d0 d1 d2 d3
      go_wp2_with fail
      go_ret2
      obtain ⟨g, k, rfl, hg, hi⟩ := HO.out.ints n1
      exact ⟨g, k, rfl, hg, hi, HB.out⟩
end Go.Proofs.Ytnnciekbmapilaa
