/-
  Texts laid together: ReqE ReqF.
-/
import Derived.Test.YtapikjhfgcbifaaGreatDoorReqM0
import Derived.Test.YtapikjhfgcbifaaGreatDoorClnM3
/-
  Package request: how responses begin and end.
-/
namespace Go.Proofs.YtapikjhfgcbifaaGreatDoor
set_option maxRecDepth 100000
set_option linter.unusedVariables false
set_option linter.unusedSimpArgs false
open Go.RowKit
/-- How a response ends. -/
def TrlP (l : List LnD) (w : World) (e : Ending) (w' : World) : Prop :=
  ∃ (n : Nat) (A : Option Addr) (k : Nat), e = .returned (.tuple #[.slice A k k, .int .i64 (n : Int)]) ∧ ((n = 0 ∧ k = l.length ∧ Many fldD 2 w' A (l.map (·.1)) ∧ psB l = false ∧ chkR l = 0) ∨ (n ≠ 0 ∧ k = 0 ∧ n = if psB l = true then 32 else chkR l)) ∧ Fresh w w'
theorem rq_trailers (A0 : Option Addr) (c0 : Nat) (l : List LnD) (w : World) (hm : Many lnD 3 w A0 l) (hl : l.length ≤ 1000000) (hs : ∀ x ∈ l, x.1.2.size ≤ 1000000) :
    Calls Tryz.prog 30 #[.slice A0 l.length c0] w (TrlP l w) := by
  obtain ⟨ps, hps⟩ : ∃ ps, psB l = ps := ⟨_, rfl⟩
  obtain ⟨n, hn⟩ : ∃ n, chkR l = n := ⟨_, rfl⟩
  have HP := Lib.hid (rq_pseudo A0 c0 l w hm (by omega) ps hps)
  have HM := Lib.hid hm
  have HL := Lib.hid hl
  have HC := Lib.hid (fun W (h : Fresh w W) => cl_check A0 c0 l W (hm.fresh h) hl hs)
  have HF := Lib.hid (fun W (h : Fresh w W) => de_fields A0 c0 l W (hm.fresh h) hl)
  have HO : Hid (∀ W, ps = true → Fresh w W → TrlP l w (.returned (.tuple #[.slice none 0 0, .int .i64 32])) W) := Lib.hid (fun W h hf => ⟨32, none, 0, rfl, .inr ⟨by omega, rfl, by rw [hps, if_pos h]⟩, hf⟩)
  have HE : Hid (∀ W, ps = false → n ≠ 0 → Fresh w W → TrlP l w (.returned (.tuple #[.slice none 0 0, .int .i64 (n : Int)])) W) := Lib.hid (fun W h h0 hf => ⟨n, none, 0, rfl, .inr ⟨h0, rfl, by rw [hps, if_neg (by simp [h]), hn]⟩, hf⟩)
  have HY : Hid (∀ A W, ps = false → n = 0 → Many fldD 2 W A (l.map (·.1)) → Fresh w W → TrlP l w (.returned (.tuple #[.slice A l.length l.length, .int .i64 0])) W) := Lib.hid (fun A W h h0 hm hf => ⟨0, A, l.length, rfl, .inl ⟨rfl, rfl, hm, by rw [hps, h], by rw [hn, h0]⟩, hf⟩)
  unfold ChkP at HC
  unfold FldsP at HF
  clear hm hl hs hps
  generalize TrlP l w = PP at *
  go_enter Tryz.func30, Tryz.ntmps30
  go_wp2_with fail
  with_reducible refine HP.out.mono ?_
  rintro e w1 ⟨rfl, hf⟩
  have HF1 := Lib.hid hf
  clear hf
  cases ps
  rotate_left
  · have HX := Lib.hid (HO.out w1 (by trivial) HF1.out)
    go_wp2_with fail
    exact HX.out
  go_wp2_with fail
  with_reducible refine (HC.out _ HF1.out).mono ?_
  rintro e w2 ⟨n2, rfl, hn2, hf⟩
  rw [hn] at hn2
  subst hn2
  have HF2 := Lib.hid (HF1.out.trans hf)
  clear hf hn
  by_cases h0 : n = 0
  rotate_left
  · have d0 : ((n : Int) != 0) = true := by simp; omega
    have HX := Lib.hid (HE.out w2 (by trivial) h0 HF2.out)
    clear h0
    go_wp2_with fail
    exact HX.out
  have d0 : ((n : Int) != 0) = false := by rw [h0]; rfl
  have H0 := Lib.hid h0
  clear h0
  go_wp2_with fail
  with_reducible refine (HF.out _ HF2.out).mono ?_
  rintro e w3 ⟨p, rfl, hp, hmf, hf⟩
  have HX := Lib.hid (HY.out _ w3 (by trivial) H0.out hmf (HF2.out.trans hf))
  clear hf hmf hp
  go_wp2_with fail
  exact HX.out
/-- The number of three digits; 0: they are none. -/
def stN (l : List UInt8) : Nat := match l with
  | [a, b, c] => if (49 ≤ a.toNat ∧ a.toNat ≤ 53) ∧ (48 ≤ b.toNat ∧ b.toNat ≤ 57) ∧ (48 ≤ c.toNat ∧ c.toNat ≤ 57) then 100 * (a.toNat - 48) + 10 * (b.toNat - 48) + (c.toNat - 48) else 0
  | _ => 0
def digC (c : UInt8) : Prop := 48 ≤ c.toNat ∧ c.toNat ≤ 57
/-- Three digits' number. -/
def numD (l : List UInt8) : Nat := l.foldl (fun n c => 10 * n + (c.toNat - 48)) 0
theorem numD_step {l : List UInt8} {k : Nat} {x : UInt8} (h : l[k]? = some x) : numD (l.take (k + 1)) = 10 * numD (l.take k) + (x.toNat - 48) := by
  obtain ⟨hk, rfl⟩ := List.getElem?_eq_some_iff.1 h
  unfold numD
  rw [List.take_succ_eq_append_getElem hk, List.foldl_append]
  rfl
theorem numD_le {l : List UInt8} (h : ∀ (j : Nat) y, l[j]? = some y → digC y) : ∀ k, k ≤ 3 → k ≤ l.length → numD (l.take k) < 10 ^ k := by
  intro k
  induction k with
  | zero => intro _ _; simp [numD]
  | succ k ih =>
    intro hk hl
    have h1 := ih (by omega) (by omega)
    have h2 := List.getElem?_eq_getElem (show k < l.length by omega)
    rw [numD_step h2]
    have h3 := h k _ h2
    unfold digC at h3
    rw [Nat.pow_succ]
    omega
theorem stN_no {l : List UInt8} {k : Nat} {x : UInt8} (h : l[k]? = some x) (hx : ¬ digC x ∨ 3 ≤ k) : stN l = 0 := by
  unfold stN
  split
  · rename_i a b c
    have hk : k < 3 := (List.getElem?_eq_some_iff.1 h).1
    rw [if_neg]
    intro ⟨h1, h2, h3⟩
    rcases hx with hx | hx
    · apply hx
      unfold digC
      match k, hk with
      | 0, _ => simp at h; subst h; omega
      | 1, _ => simp at h; subst h; omega
      | 2, _ => simp at h; subst h; omega
    · omega
  · rfl
theorem stN_all {l : List UInt8} (h : ∀ (j : Nat) y, l[j]? = some y → digC y) : (stN l ≠ 0 ↔ l.length = 3 ∧ 100 ≤ numD l ∧ numD l ≤ 599) ∧ (stN l ≠ 0 → stN l = numD l) := by
  unfold stN
  split
  · rename_i a b c
    have ha := h 0 a rfl
    have hb := h 1 b rfl
    have hc := h 2 c rfl
    unfold digC at ha hb hc
    have hn : numD [a, b, c] = 10 * (10 * (10 * 0 + (a.toNat - 48)) + (b.toNat - 48)) + (c.toNat - 48) := rfl
    rw [hn]
    split
    · refine ⟨⟨fun _ => ⟨rfl, by omega, by omega⟩, fun _ => by omega⟩, fun _ => by omega⟩
    · rename_i hno
      refine ⟨⟨fun h => absurd rfl h, fun ⟨h0, h1, h2⟩ => ?_⟩, fun h => absurd rfl h⟩
      exact absurd ⟨by omega, by omega, by omega⟩ hno
  · rename_i hno
    refine ⟨⟨fun h => absurd rfl h, fun ⟨h1, _⟩ => ?_⟩, fun h => absurd rfl h⟩
    match l, h1, hno with
    | [a, b, c], _, hno => exact absurd rfl (hno a b c)
def StP (s : ByteArray) (w : World) (e : Ending) (w' : World) : Prop := ∃ (n : Nat) (b : Bool), e = .returned (.tuple #[.int .i64 (n : Int), .bool b]) ∧ b = !decide (stN s.data.toList = 0) ∧ (b = true → n = stN s.data.toList) ∧ w' = w
theorem st_nums {v x : Nat} (hv : v < 1000) (h0 : 48 ≤ x) (h1 : x ≤ 57) : IntKind.i64.wrap (10 * (v : Int)) = 10 * (v : Int) ∧ IntKind.u8.wrap ((x : Int) - 48) = ((x - 48 : Nat) : Int) ∧ IntKind.i64.wrap ((x - 48 : Nat) : Int) = ((x - 48 : Nat) : Int) ∧ IntKind.i64.wrap (10 * (v : Int) + ((x - 48 : Nat) : Int)) = ((10 * v + (x - 48) : Nat) : Int) := by
  refine ⟨IntWalk.i64_in _ (by omega), ?_, IntWalk.i64_in _ (by omega), ?_⟩
  · rw [show ((x : Int) - 48) = ((x - 48 : Nat) : Int) by omega]
    unfold IntKind.wrap
    simp [IntKind.bits, IntKind.signed]
    omega
  · rw [IntWalk.i64_in _ (by omega)]
    omega
set_option maxHeartbeats 3200000 in
theorem rq_status (s : ByteArray) (w : World) (hs : s.size ≤ 4611686018427387904) : Calls Tryz.prog 45 #[.string s] w (StP s w) := by
  have HSZ := Lib.hid (Lib.size_eq s)
  have HNO : Hid (∀ n : Nat, stN s.data.toList = 0 → StP s w (.returned (.tuple #[.int .i64 (n : Int), .bool false])) w) := Lib.hid (fun n h => ⟨n, false, rfl, by rw [h]; rfl, (fun h => by cases h), rfl⟩)
  have HYES : Hid (∀ n : Nat, stN s.data.toList ≠ 0 → n = stN s.data.toList → StP s w (.returned (.tuple #[.int .i64 (n : Int), .bool true])) w) := Lib.hid (fun n h h2 => ⟨n, true, rfl, by rw [decide_eq_false h]; rfl, fun _ => h2, rfl⟩)
  generalize StP s w = PP at *
  have HN0 : Hid (stN s.data.toList = 0 → PP (.returned (.tuple #[.int .i64 0, .bool false])) w) := Lib.hid (HNO.out 0)
  go_enter Tryz.func45, Tryz.ntmps45
  go_wp2_with fail
  go_loop [4, 8] (fun v i => ∃ k n : Nat, k ≤ s.size ∧ k ≤ 3 ∧ i = .int .i64 (k : Int) ∧ v = .int .i64 (n : Int) ∧ n = numD (s.data.toList.take k) ∧ n < 1000 ∧ ∀ (j : Nat) y, j < k → s.data.toList[j]? = some y → digC y) (fun _ i => s.size - (intOf i).toNat)
  case atStart => exact ⟨0, 0, by omega, by omega, rfl, rfl, rfl, by omega, fun j y hj => by omega⟩
  case round =>
    obtain ⟨k, n, hk, hk3, rfl, rfl, hn, hn9, hal⟩ := hrel
    have HAL := Lib.hid hal
    have HNN := Lib.hid hn
    clear hal hn
    by_cases hlt : k < s.size
    · have hlt' : (k : Int) < (s.size : Int) := by omega
      have hkw : IntKind.i64.wrap ((k : Int) + 1) = (k : Int) + 1 := IntWalk.i64_in _ (by omega)
      obtain ⟨x, hx⟩ : ∃ x : UInt8, s[k]'hlt = x := ⟨_, rfl⟩
      have HX := Lib.hid (show s.data.toList[k]? = some x by rw [← hx]; exact Lib.data_getElem? s k hlt)
      by_cases h48 : x.toNat < 48
      · have HQ := Lib.hid (HN0.out (stN_no HX.out (.inl (by unfold digC; omega))))
        have a0 : (x.toNat : Int) < 48 := by omega
        clear h48
        go_wp2_with fail
        exact HQ.out
      have a0 : decide ((x.toNat : Int) < 48) = false := decide_eq_false (by omega)
      by_cases h57 : 57 < x.toNat
      · have HQ := Lib.hid (HN0.out (stN_no HX.out (.inl (by unfold digC; omega))))
        have a1 : (57 : Int) < (x.toNat : Int) := by omega
        clear h48 h57
        go_wp2_with fail
        exact HQ.out
      have a1 : decide ((57 : Int) < (x.toNat : Int)) = false := decide_eq_false (by omega)
      by_cases h3 : 3 ≤ k
      · have HQ := Lib.hid (HN0.out (stN_no HX.out (.inr h3)))
        have a2 : (3 : Int) ≤ (k : Int) := by omega
        clear h48 h57 hn9
        go_wp2_with fail
        exact HQ.out
      have a2 : decide ((3 : Int) ≤ (k : Int)) = false := decide_eq_false (by omega)
      have a3 : decide (3 ≤ k) = false := decide_eq_false h3
      have HD : Hid (digC x) := Lib.hid ⟨by omega, by omega⟩
      have hal2 : ∀ (j : Nat) y, j < k + 1 → s.data.toList[j]? = some y → digC y := fun j y hj hy => by
        by_cases e : j = k
        · subst e
          have := HX.out
          rw [hy] at this
          cases this
          exact HD.out
        · exact HAL.out j y (by omega) hy
      have HS : Hid (10 * n + (x.toNat - 48) = numD (s.data.toList.take (k + 1)) ∧ 10 * n + (x.toNat - 48) < 1000) := Lib.hid (by
        have h1 := numD_step HX.out
        rw [← HNN.out] at h1
        refine ⟨h1.symm, ?_⟩
        rw [← h1]
        have h2 := numD_le (l := s.data.toList.take (k + 1)) (fun j y hy => hal2 j y (by
          have := (List.getElem?_eq_some_iff.1 hy).1
          rw [List.length_take] at this
          omega) (by
          have h3 := (List.getElem?_eq_some_iff.1 hy).1
          rw [List.length_take] at h3
          rw [List.getElem?_take_of_lt (by omega)] at hy
          exact hy)) (k + 1) (by omega) (by
          rw [List.length_take, ← HSZ.out]
          omega)
        rw [List.take_take, Nat.min_self] at h2
        have : 10 ^ (k + 1) ≤ 10 ^ 3 := Nat.pow_le_pow_right (by omega) (by omega)
        omega)
      have HAL2 := Lib.hid hal2
      obtain ⟨n1, n2, n3, n4⟩ := st_nums hn9 (x := x.toNat) (by omega) (by omega)
      clear hal2 h48 h57
      go_wp2_with fail
      go_round
      case rel => exact ⟨k + 1, 10 * n + (x.toNat - 48), by omega, by omega, by go_num, rfl, HS.out.1, HS.out.2, HAL2.out⟩
      case measure => simp [intOf]; omega
    · obtain rfl : k = s.size := by omega
      have hall := stN_all (l := s.data.toList) (fun j y hy => HAL.out j y (by
        have := (List.getElem?_eq_some_iff.1 hy).1
        rw [← HSZ.out] at this
        omega) hy)
      have hnn := HNN.out
      rw [List.take_of_length_le (by rw [← HSZ.out]; exact Nat.le_refl _)] at hnn
      rw [← hnn, ← HSZ.out] at hall
      have HA := Lib.hid hall
      have hnlt : ¬ (s.size : Int) < (s.size : Int) := by omega
      clear hall hnn
      obtain ⟨z, hz⟩ : ∃ z, s.size = z := ⟨_, rfl⟩
      rw [hz] at HA
      by_cases h3 : z = 3
      rotate_left
      · have HQ := Lib.hid (HNO.out n (Classical.byContradiction fun h => h3 (HA.out.1.1 h).1))
        have a0 : ((s.size : Int) == 3) = false := by simp; omega
        clear hz h3
        go_wp2_with fail
        exact HQ.out
      have a0 : ((s.size : Int) == 3) = true := by simp; omega
      by_cases h1 : 100 ≤ n
      rotate_left
      · have HQ := Lib.hid (HNO.out n (Classical.byContradiction fun h => h1 (HA.out.1.1 h).2.1))
        have a1 : decide ((100 : Int) ≤ (n : Int)) = false := decide_eq_false (by omega)
        have a2 : decide (100 ≤ n) = false := decide_eq_false h1
        clear hz h3 h1
        go_wp2_with fail
        exact HQ.out
      have a1 : (100 : Int) ≤ (n : Int) := by omega
      by_cases h2 : n ≤ 599
      rotate_left
      · have HQ := Lib.hid (HNO.out n (Classical.byContradiction fun h => h2 (HA.out.1.1 h).2.2))
        have a2 : decide ((n : Int) ≤ 599) = false := decide_eq_false (by omega)
        have a3 : decide (n ≤ 599) = false := decide_eq_false h2
        clear hz h3 h2
        go_wp2_with fail
        exact HQ.out
      have a2 : (n : Int) ≤ 599 := by omega
      have hne := HA.out.1.2 ⟨h3, h1, h2⟩
      have HQ := Lib.hid (HYES.out n hne (HA.out.2 hne).symm)
      clear hz h3 h1 h2 hne
      go_wp2_with fail
      exact HQ.out
end Go.Proofs.YtapikjhfgcbifaaGreatDoor

/-
  Package request: Response.
-/
namespace Go.Proofs.YtapikjhfgcbifaaGreatDoor
set_option maxRecDepth 100000
set_option linter.unusedVariables false
set_option linter.unusedSimpArgs false
open Go.RowKit
def stsL : List UInt8 := [58, 115, 116, 97, 116, 117, 115]
/-- The first error of a response's beginning. -/
def rspE : List LnD → Nat
  | [] => 32
  | x :: t => if x.1.1.data.toList ≠ stsL then 32 else if psB t = true then 32 else if stN x.1.2.data.toList = 0 then 31 else chkR t
def RspP (l : List LnD) (w : World) (e : Ending) (w' : World) : Prop :=
  ∃ (n m : Nat) (A : Option Addr) (k : Nat), e = .returned (.tuple #[.agg #[.int .i64 (m : Int), .slice A k k], .int .i64 (n : Int)]) ∧ n = rspE l ∧ (n = 0 → ∃ x t, l = x :: t ∧ m = stN x.1.2.data.toList ∧ m ≠ 0 ∧ k = t.length ∧ Many fldD 2 w' A (t.map (·.1))) ∧ (n ≠ 0 → m = 0 ∧ A = none ∧ k = 0) ∧ Fresh w w'
theorem many_tail {w : World} {b o : Nat} {x : LnD} {t : List LnD} (h : Many lnD 3 w (some ⟨b, o, none⟩) (x :: t)) : Many lnD 3 w (some ⟨b, o + 3, none⟩) t := fun ht => by
  obtain ⟨b2, o2, e, hb, hc⟩ := h (by simp)
  cases e
  refine ⟨b, o + 3, rfl, hb, fun k hk j hj => ?_⟩
  have := hc (k + 1) (by simp; omega) j hj
  rw [show o + 3 + k * 3 + j = o + (k + 1) * 3 + j by omega]
  simpa using this
set_option maxHeartbeats 6400000 in
theorem rq_response (A0 : Option Addr) (c0 : Nat) (l : List LnD) (w : World) (hm : Many lnD 3 w A0 l) (hl : l.length ≤ 1000000) (hc : l.length ≤ c0) (hcm : c0 ≤ 140737488355328) (hs : ∀ x ∈ l, x.1.2.size ≤ 1000000) :
    Calls Tryz.prog 24 #[.slice A0 l.length c0] w (RspP l w) := by
  cases l with
  | nil =>
    have HE : Hid (∀ W, Fresh w W → RspP [] w (.returned (.tuple #[.agg #[.int .i64 0, .slice none 0 0], .int .i64 32])) W) := Lib.hid (fun W hf => ⟨32, 0, none, 0, rfl, rfl, (fun h => by omega), (fun _ => ⟨rfl, rfl, rfl⟩), hf⟩)
    clear hm hs
    generalize RspP [] w = PP at *
    rw [List.length_nil]
    go_enter Tryz.func24, Tryz.ntmps24
    go_wp2_with fail
    refine wx_gen (fun W => Blk W w.heap.size 53 #[.int .i64 0, .slice none 0 0] ∧ Fresh w W) ⟨by first | exact Blk.new _ _ _ | simpa using ((Blk.new w 53 #[.int .i64 0, .slice none 0 0]).set 0 (.int .i64 0)).set 1 (.slice none 0 0), by first | exact Fresh.alloc _ _ | exact ((Fresh.alloc w _).step _ _ (Nat.le_refl _)).step _ _ (Nat.le_refl _)⟩ ?_
    rintro W ⟨hb, hf⟩
    obtain ⟨g0, g1⟩ := hb.c2
    exact bodyPost_ret (v := .tuple #[.agg #[.int .i64 0, .slice none 0 0], .int .i64 32]) (by simp [results, Tryz.results24, go_sem, g0, g1]) rfl (HE.out W hf)
  | cons x t =>
    obtain ⟨b, o, rfl, hb, h0, h1, h2⟩ := hm.lnAt 0 x rfl
    obtain ⟨o', c', hmt, hcase⟩ : ∃ o' c', Many lnD 3 w (some ⟨b, o', none⟩) t ∧ ((c0 = 1 ∧ o' = o ∧ c' = 0) ∨ (1 < c0 ∧ o' = o + 3 ∧ c' = c0 - 1)) := by
      by_cases h1 : c0 = 1
      · refine ⟨o, 0, ?_, .inl ⟨h1, rfl, rfl⟩⟩
        rw [List.length_cons] at hc
        have : t = [] := List.length_eq_zero_iff.1 (by omega)
        subst this
        exact Many.nil _ _ _ _
      · rw [List.length_cons] at hc
        exact ⟨o + 3, c0 - 1, many_tail hm, .inr ⟨by omega, rfl, rfl⟩⟩
    have HMT := Lib.hid hmt
    clear hmt
    have HM := Lib.hid hm
    rw [Nat.zero_mul, Nat.add_zero] at h0 h1 h2
    simp only [List.length_cons] at hl hc ⊢
    obtain ⟨n, hn⟩ : ∃ n, t.length = n := ⟨_, rfl⟩
    have HN := Lib.hid hn
    obtain ⟨nm, hnm⟩ : ∃ nm, x.1.1 = nm := ⟨_, rfl⟩
    obtain ⟨vl, hvl⟩ : ∃ vl, x.1.2 = vl := ⟨_, rfl⟩
    obtain ⟨ps, hps⟩ : ∃ ps, psB t = ps := ⟨_, rfl⟩
    obtain ⟨ck, hck⟩ : ∃ ck, chkR t = ck := ⟨_, rfl⟩
    have HVS := Lib.hid (hs x (List.mem_cons_self ..))
    rw [hvl] at HVS
    have HP := Lib.hid (fun W (h : Fresh w W) => rq_pseudo (some ⟨b, o', none⟩) c' t W (HMT.out.fresh h) (by omega) ps hps)
    have HC := Lib.hid (fun W (h : Fresh w W) => cl_check (some ⟨b, o', none⟩) c' t W (HMT.out.fresh h) (by omega) (fun y hy => hs y (List.mem_cons_of_mem _ hy)))
    have HF := Lib.hid (fun W (h : Fresh w W) => de_fields (some ⟨b, o', none⟩) c' t W (HMT.out.fresh h) (by omega))
    have HST := Lib.hid (fun W => rq_status vl W (by have := HVS.out; omega))
    unfold ChkP at HC
    unfold FldsP at HF
    unfold StP at HST
    rw [hn] at HP HC HF hl hc ⊢
    rw [hnm] at h0
    rw [hvl] at h1
    have HE1 : Hid (∀ W, ((nm.toList == stsL) = false ∨ ps = true) → Fresh w W → RspP (x :: t) w (.returned (.tuple #[.agg #[.int .i64 0, .slice none 0 0], .int .i64 32])) W) := Lib.hid (fun W h hf => ⟨32, 0, none, 0, rfl, by
      show 32 = (if x.1.1.data.toList ≠ stsL then 32 else if psB t = true then 32 else if stN x.1.2.data.toList = 0 then 31 else chkR t)
      rw [hnm, hps]
      rcases h with h | h
      · rw [if_pos (by rw [← Lib.toList_data]; simpa using h)]
      · rw [if_pos h]
        simp, (fun h => by omega), (fun _ => ⟨rfl, rfl, rfl⟩), hf⟩)
    have HE2 : Hid (∀ W, (nm.toList == stsL) = true → ps = false → stN vl.data.toList = 0 → Fresh w W → RspP (x :: t) w (.returned (.tuple #[.agg #[.int .i64 0, .slice none 0 0], .int .i64 31])) W) := Lib.hid (fun W h h2 h3 hf => ⟨31, 0, none, 0, rfl, by
      show 31 = (if x.1.1.data.toList ≠ stsL then 32 else if psB t = true then 32 else if stN x.1.2.data.toList = 0 then 31 else chkR t)
      rw [hnm, hps, hvl, if_neg (by rw [← Lib.toList_data]; simpa using h), if_neg (by simp [h2]), if_pos h3], (fun h => by omega), (fun _ => ⟨rfl, rfl, rfl⟩), hf⟩)
    have HE3 : Hid (∀ W, (nm.toList == stsL) = true → ps = false → stN vl.data.toList ≠ 0 → ck ≠ 0 → Fresh w W → RspP (x :: t) w (.returned (.tuple #[.agg #[.int .i64 0, .slice none 0 0], .int .i64 (ck : Int)])) W) := Lib.hid (fun W h h2 h3 h4 hf => ⟨ck, 0, none, 0, rfl, by
      show ck = (if x.1.1.data.toList ≠ stsL then 32 else if psB t = true then 32 else if stN x.1.2.data.toList = 0 then 31 else chkR t)
      rw [hnm, hps, hvl, if_neg (by rw [← Lib.toList_data]; simpa using h), if_neg (by simp [h2]), if_neg h3, hck], (fun h => absurd h h4), (fun _ => ⟨rfl, rfl, rfl⟩), hf⟩)
    have HY : Hid (∀ (m : Nat) (A : Option Addr) W, (nm.toList == stsL) = true → ps = false → stN vl.data.toList ≠ 0 → ck = 0 → m = stN vl.data.toList → Many fldD 2 W A (t.map (·.1)) → Fresh w W → RspP (x :: t) w (.returned (.tuple #[.agg #[.int .i64 (m : Int), .slice A n n], .int .i64 0])) W) := Lib.hid (fun m A W h h2 h3 h4 h5 h6 hf => ⟨0, m, A, n, rfl, by
      show 0 = (if x.1.1.data.toList ≠ stsL then 32 else if psB t = true then 32 else if stN x.1.2.data.toList = 0 then 31 else chkR t)
      rw [hnm, hps, hvl, if_neg (by rw [← Lib.toList_data]; simpa using h), if_neg (by simp [h2]), if_neg h3, hck, h4], (fun _ => ⟨x, t, rfl, by rw [hvl]; exact h5, by rw [h5]; exact h3, hn.symm, h6⟩), (fun h => absurd rfl h), hf⟩)
    have hc1 : (1 : Int) ≤ ((n + 1 : Nat) : Int) := by omega
    have hc2 : n + 1 - 1 = n := by omega
    have hne0 : (((n + 1 : Nat) : Int) == 0) = false := by simp; omega
    have hne1 : ((n : Int) + 1 == 0) = false := by simp; omega
    have h0p : (0 : Int) < ((n + 1 : Nat) : Int) := by omega
    have h0q : (0 : Int) < (n : Int) + 1 := by omega
    have HCK := Lib.hid hck
    clear hm hs hn hnm hvl hps hck HM HMT
    generalize RspP (x :: t) w = PP at *
    obtain ⟨r, hr⟩ : ∃ r, (nm.toList == stsL) = r := ⟨_, rfl⟩
    rw [hr] at HE1 HE2 HE3 HY
    unfold stsL at hr
    have hr2 : (nm.toList != [58, 115, 116, 97, 116, 117, 115]) = !r := by rw [← hr]; rfl
    go_enter Tryz.func24, Tryz.ntmps24
    obtain ⟨QB, hQB⟩ : ∃ QB, bodyPost Tryz.prog Tryz.f24 PP = QB := ⟨_, rfl⟩
    have HQB := Lib.hid hQB
    rw [hQB]
    clear hQB
    go_upto_region 1 with fail
    refine wp_gen (fun W => Blk W w.heap.size 53 #[.int .i64 0, .slice none 0 0] ∧ Fresh w W) ⟨Blk.new w _ _, Fresh.alloc _ _⟩ ?_
    rintro W1 ⟨hbq, hf1⟩
    obtain ⟨p, hp⟩ : ∃ p, w.heap.size = p := ⟨_, rfl⟩
    have HPB := Lib.hid hp
    rw [hp] at hbq ⊢
    clear hp
    have e0 := (hf1.cell (p := ⟨b, o, none⟩) hb).trans h0
    have HV1 : Hid (∀ W, Fresh w W → W.cell? ⟨b, o + 1, none⟩ = some (.string vl)) := Lib.hid (fun W hf => (hf.cell (p := ⟨b, o + 1, none⟩) hb).trans h1)
    have HB1 := Lib.hid hbq
    have HF1 := Lib.hid hf1
    clear h0 h1 h2 hbq hf1
    cases r
    · obtain ⟨g0, g1⟩ := HB1.out.c2
      have z0 := HB1.out.frozen 0
      have z1 := HB1.out.frozen 1
      go_wp2_with fail
      refine wx_gen (fun W => Blk W p 53 #[.int .i64 0, .slice none 0 0] ∧ Fresh w W) ⟨by simpa using (HB1.out.set 0 (.int .i64 0)).set 1 (.slice none 0 0), (HF1.out.step _ _ (by rw [HPB.out]; exact Nat.le_refl _)).step _ _ (by rw [HPB.out]; exact Nat.le_refl _)⟩ ?_
      rintro W9 ⟨hb9, hf9⟩
      obtain ⟨q0, q1⟩ := hb9.c2
      rw [← HQB.out]
      exact bodyPost_ret (v := .tuple #[.agg #[.int .i64 0, .slice none 0 0], .int .i64 32]) (by simp [results, Tryz.results24, go_sem, q0, q1]) rfl (HE1.out W9 (.inl (by trivial)) hf9)
    have hB2 : Hid (∀ W, Fresh W1 W → Blk W p 53 #[.int .i64 0, .slice none 0 0]) := Lib.hid (fun W h => HB1.out.fresh h)
    rcases hcase with ⟨rfl, rfl, rfl⟩ | ⟨hc5, rfl, rfl⟩
    rotate_left
    · have x1 : (c0 ≤ 1) = False := by simp; omega
      have x2 : (c0 - 1 = 0) = False := by simp; omega
      go_wp2_with fail
      with_reducible refine (HP.out _ HF1.out).mono ?_
      rintro e w2 ⟨rfl, hf⟩
      have HF2 := Lib.hid (HF1.out.trans hf)
      have HB2 := Lib.hid (hB2.out _ hf)
      have HG2 := Lib.hid hf
      clear hf e0
      cases ps
      rotate_left
      · obtain ⟨g0, g1⟩ := HB2.out.c2
        have z0 := HB2.out.frozen 0
        have z1 := HB2.out.frozen 1
        go_wp2_with fail
        refine wx_gen (fun W => Blk W p 53 #[.int .i64 0, .slice none 0 0] ∧ Fresh w W) ⟨by simpa using (HB2.out.set 0 (.int .i64 0)).set 1 (.slice none 0 0), (HF2.out.step _ _ (by rw [HPB.out]; exact Nat.le_refl _)).step _ _ (by rw [HPB.out]; exact Nat.le_refl _)⟩ ?_
        rintro W9 ⟨hb9, hf9⟩
        obtain ⟨q0, q1⟩ := hb9.c2
        rw [← HQB.out]
        exact bodyPost_ret (v := .tuple #[.agg #[.int .i64 0, .slice none 0 0], .int .i64 32]) (by simp [results, Tryz.results24, go_sem, q0, q1]) rfl (HE1.out W9 (.inr (by trivial)) hf9)
      have e1 := HV1.out _ HF2.out
      go_wp2_with fail
      with_reducible refine (HST.out _).mono ?_
      rintro e w3 ⟨m, sb, rfl, hsb, hmv, hw⟩
      obtain rfl : w2 = w3 := hw.symm
      have HSB := Lib.hid hsb
      have HMV := Lib.hid hmv
      clear hsb hmv e1
      cases sb
      · obtain ⟨g0, g1⟩ := HB2.out.c2
        have z0 := HB2.out.frozen 0
        have z1 := HB2.out.frozen 1
        have HS0 : Hid (stN vl.data.toList = 0) := Lib.hid (by have := HSB.out; simpa using this)
        go_wp2_with fail
        refine wx_gen (fun W => Blk W p 53 #[.int .i64 0, .slice none 0 0] ∧ Fresh w W) ⟨by simpa using (HB2.out.set 0 (.int .i64 0)).set 1 (.slice none 0 0), (HF2.out.step _ _ (by rw [HPB.out]; exact Nat.le_refl _)).step _ _ (by rw [HPB.out]; exact Nat.le_refl _)⟩ ?_
        rintro W9 ⟨hb9, hf9⟩
        obtain ⟨q0, q1⟩ := hb9.c2
        rw [← HQB.out]
        exact bodyPost_ret (v := .tuple #[.agg #[.int .i64 0, .slice none 0 0], .int .i64 31]) (by simp [results, Tryz.results24, go_sem, q0, q1]) rfl (HE2.out W9 (by trivial) (by trivial) HS0.out hf9)
      have HS0 : Hid (stN vl.data.toList ≠ 0) := Lib.hid (by have := HSB.out; simpa using this)
      go_wp2_with fail
      with_reducible refine (HC.out _ HF2.out).mono ?_
      rintro e w4 ⟨n4, rfl, hn4, hf⟩
      rw [HCK.out] at hn4
      subst hn4
      have HF4 := Lib.hid (HF2.out.trans hf)
      have HB4 := Lib.hid (HB2.out.fresh hf)
      clear hf
      by_cases hck0 : ck = 0
      rotate_left
      · have d0 : ((ck : Int) != 0) = true := by simp; omega
        have HX := Lib.hid (fun W (h : Fresh w W) => HE3.out W (by trivial) (by trivial) HS0.out hck0 h)
        clear hck0
        obtain ⟨g0, g1⟩ := HB4.out.c2
        have z0 := HB4.out.frozen 0
        have z1 := HB4.out.frozen 1
        go_wp2_with fail
        refine wx_gen (fun W => Blk W p 53 #[.int .i64 0, .slice none 0 0] ∧ Fresh w W) ⟨by simpa using (HB4.out.set 0 (.int .i64 0)).set 1 (.slice none 0 0), (HF4.out.step _ _ (by rw [HPB.out]; exact Nat.le_refl _)).step _ _ (by rw [HPB.out]; exact Nat.le_refl _)⟩ ?_
        rintro W9 ⟨hb9, hf9⟩
        obtain ⟨q0, q1⟩ := hb9.c2
        rw [← HQB.out]
        exact bodyPost_ret (v := .tuple #[.agg #[.int .i64 0, .slice none 0 0], .int .i64 (ck : Int)]) (by simp [results, Tryz.results24, go_sem, q0, q1]) rfl (HX.out W9 hf9)
      have d0 : ((ck : Int) != 0) = false := by rw [hck0]; rfl
      have HX := Lib.hid (fun A W (hm : Many fldD 2 W A (t.map (·.1))) (h : Fresh w W) => HY.out m A W (by trivial) (by trivial) HS0.out hck0 (HMV.out (by trivial)) hm h)
      clear hck0
      go_wp2_with fail
      with_reducible refine (HF.out _ HF4.out).mono ?_
      rintro e w5 ⟨P, rfl, hP, hmf, hf⟩
      have HF5 := Lib.hid (HF4.out.trans hf)
      have HB5 := Lib.hid (HB4.out.fresh hf)
      have HP5 := Lib.hid hP
      have HM5 := Lib.hid hmf
      clear hf hmf hP
      obtain ⟨g0, g1⟩ := HB5.out.c2
      have z0 := HB5.out.frozen 0
      have z1 := HB5.out.frozen 1
      have HLP : Hid (p < P) := Lib.hid (Nat.lt_of_lt_of_le HB4.out.lt HP5.out)
      go_wp2_with fail
      refine wx_gen (fun W => Blk W p 53 #[.int .i64 (m : Int), .slice (some ⟨P, 0, none⟩) n n] ∧ Fresh w W ∧ Only (fun k => k = p) w5 W) ⟨by simpa using (HB5.out.set 0 (.int .i64 (m : Int))).set 1 (.slice (some ⟨P, 0, none⟩) n n), (HF5.out.step _ _ (by rw [HPB.out]; exact Nat.le_refl _)).step _ _ (by rw [HPB.out]; exact Nat.le_refl _), by have h0 : Only (fun k => k = p) w5 w5 := Only.of_fresh (Fresh.refl _); exact (h0.step ⟨p, 0, none⟩ _ (.inl rfl)).step ⟨p, 1, none⟩ _ (.inl rfl)⟩ ?_
      rintro W9 ⟨hb9, hf9, ho9⟩
      obtain ⟨q0, q1⟩ := hb9.c2
      rw [← HQB.out]
      exact bodyPost_ret (v := .tuple #[.agg #[.int .i64 (m : Int), .slice (some ⟨P, 0, none⟩) n n], .int .i64 0]) (by simp [results, Tryz.results24, go_sem, q0, q1]) rfl (HX.out (some ⟨P, 0, none⟩) W9 (HM5.out.only ho9 (fun b o e => by cases e; have := HLP.out; omega)) hf9)
    go_wp2_with fail
    with_reducible refine (HP.out _ HF1.out).mono ?_
    rintro e w2 ⟨rfl, hf⟩
    have HF2 := Lib.hid (HF1.out.trans hf)
    have HB2 := Lib.hid (hB2.out _ hf)
    have HG2 := Lib.hid hf
    clear hf e0
    cases ps
    rotate_left
    · obtain ⟨g0, g1⟩ := HB2.out.c2
      have z0 := HB2.out.frozen 0
      have z1 := HB2.out.frozen 1
      go_wp2_with fail
      refine wx_gen (fun W => Blk W p 53 #[.int .i64 0, .slice none 0 0] ∧ Fresh w W) ⟨by simpa using (HB2.out.set 0 (.int .i64 0)).set 1 (.slice none 0 0), (HF2.out.step _ _ (by rw [HPB.out]; exact Nat.le_refl _)).step _ _ (by rw [HPB.out]; exact Nat.le_refl _)⟩ ?_
      rintro W9 ⟨hb9, hf9⟩
      obtain ⟨q0, q1⟩ := hb9.c2
      rw [← HQB.out]
      exact bodyPost_ret (v := .tuple #[.agg #[.int .i64 0, .slice none 0 0], .int .i64 32]) (by simp [results, Tryz.results24, go_sem, q0, q1]) rfl (HE1.out W9 (.inr (by trivial)) hf9)
    have e1 := HV1.out _ HF2.out
    go_wp2_with fail
    with_reducible refine (HST.out _).mono ?_
    rintro e w3 ⟨m, sb, rfl, hsb, hmv, hw⟩
    obtain rfl : w2 = w3 := hw.symm
    have HSB := Lib.hid hsb
    have HMV := Lib.hid hmv
    clear hsb hmv e1
    cases sb
    · obtain ⟨g0, g1⟩ := HB2.out.c2
      have z0 := HB2.out.frozen 0
      have z1 := HB2.out.frozen 1
      have HS0 : Hid (stN vl.data.toList = 0) := Lib.hid (by have := HSB.out; simpa using this)
      go_wp2_with fail
      refine wx_gen (fun W => Blk W p 53 #[.int .i64 0, .slice none 0 0] ∧ Fresh w W) ⟨by simpa using (HB2.out.set 0 (.int .i64 0)).set 1 (.slice none 0 0), (HF2.out.step _ _ (by rw [HPB.out]; exact Nat.le_refl _)).step _ _ (by rw [HPB.out]; exact Nat.le_refl _)⟩ ?_
      rintro W9 ⟨hb9, hf9⟩
      obtain ⟨q0, q1⟩ := hb9.c2
      rw [← HQB.out]
      exact bodyPost_ret (v := .tuple #[.agg #[.int .i64 0, .slice none 0 0], .int .i64 31]) (by simp [results, Tryz.results24, go_sem, q0, q1]) rfl (HE2.out W9 (by trivial) (by trivial) HS0.out hf9)
    have HS0 : Hid (stN vl.data.toList ≠ 0) := Lib.hid (by have := HSB.out; simpa using this)
    go_wp2_with fail
    with_reducible refine (HC.out _ HF2.out).mono ?_
    rintro e w4 ⟨n4, rfl, hn4, hf⟩
    rw [HCK.out] at hn4
    subst hn4
    have HF4 := Lib.hid (HF2.out.trans hf)
    have HB4 := Lib.hid (HB2.out.fresh hf)
    clear hf
    by_cases hck0 : ck = 0
    rotate_left
    · have d0 : ((ck : Int) != 0) = true := by simp; omega
      have HX := Lib.hid (fun W (h : Fresh w W) => HE3.out W (by trivial) (by trivial) HS0.out hck0 h)
      clear hck0
      obtain ⟨g0, g1⟩ := HB4.out.c2
      have z0 := HB4.out.frozen 0
      have z1 := HB4.out.frozen 1
      go_wp2_with fail
      refine wx_gen (fun W => Blk W p 53 #[.int .i64 0, .slice none 0 0] ∧ Fresh w W) ⟨by simpa using (HB4.out.set 0 (.int .i64 0)).set 1 (.slice none 0 0), (HF4.out.step _ _ (by rw [HPB.out]; exact Nat.le_refl _)).step _ _ (by rw [HPB.out]; exact Nat.le_refl _)⟩ ?_
      rintro W9 ⟨hb9, hf9⟩
      obtain ⟨q0, q1⟩ := hb9.c2
      rw [← HQB.out]
      exact bodyPost_ret (v := .tuple #[.agg #[.int .i64 0, .slice none 0 0], .int .i64 (ck : Int)]) (by simp [results, Tryz.results24, go_sem, q0, q1]) rfl (HX.out W9 hf9)
    have d0 : ((ck : Int) != 0) = false := by rw [hck0]; rfl
    have HX := Lib.hid (fun A W (hm : Many fldD 2 W A (t.map (·.1))) (h : Fresh w W) => HY.out m A W (by trivial) (by trivial) HS0.out hck0 (HMV.out (by trivial)) hm h)
    clear hck0
    go_wp2_with fail
    with_reducible refine (HF.out _ HF4.out).mono ?_
    rintro e w5 ⟨P, rfl, hP, hmf, hf⟩
    have HF5 := Lib.hid (HF4.out.trans hf)
    have HB5 := Lib.hid (HB4.out.fresh hf)
    have HP5 := Lib.hid hP
    have HM5 := Lib.hid hmf
    clear hf hmf hP
    obtain ⟨g0, g1⟩ := HB5.out.c2
    have z0 := HB5.out.frozen 0
    have z1 := HB5.out.frozen 1
    have HLP : Hid (p < P) := Lib.hid (Nat.lt_of_lt_of_le HB4.out.lt HP5.out)
    go_wp2_with fail
    refine wx_gen (fun W => Blk W p 53 #[.int .i64 (m : Int), .slice (some ⟨P, 0, none⟩) n n] ∧ Fresh w W ∧ Only (fun k => k = p) w5 W) ⟨by simpa using (HB5.out.set 0 (.int .i64 (m : Int))).set 1 (.slice (some ⟨P, 0, none⟩) n n), (HF5.out.step _ _ (by rw [HPB.out]; exact Nat.le_refl _)).step _ _ (by rw [HPB.out]; exact Nat.le_refl _), by have h0 : Only (fun k => k = p) w5 w5 := Only.of_fresh (Fresh.refl _); exact (h0.step ⟨p, 0, none⟩ _ (.inl rfl)).step ⟨p, 1, none⟩ _ (.inl rfl)⟩ ?_
    rintro W9 ⟨hb9, hf9, ho9⟩
    obtain ⟨q0, q1⟩ := hb9.c2
    rw [← HQB.out]
    exact bodyPost_ret (v := .tuple #[.agg #[.int .i64 (m : Int), .slice (some ⟨P, 0, none⟩) n n], .int .i64 0]) (by simp [results, Tryz.results24, go_sem, q0, q1]) rfl (HX.out (some ⟨P, 0, none⟩) W9 (HM5.out.only ho9 (fun b o e => by cases e; have := HLP.out; omega)) hf9)
end Go.Proofs.YtapikjhfgcbifaaGreatDoor

