/-
  The law CellPads: its walk.
-/
import Derived.Test.YtpokpkijhakpjaaCell11
import Derived.Test.YtpokpkijhakpjaaPay90
import Derived.BigQuiet
namespace Go.Proofs.Ytpokpkijhakpjaa
set_option linter.unusedVariables false
open Go.RowKit

def PadTold (st : Int) (l : List UInt8) (b : Bool) (M : Nat) (w : World) (e : Ending) (w' : World) : Prop :=
  ∃ (A' : Option Addr) (c' : Nat) (PA : Option Addr) (pc : Nat), e = .returned (.tuple #[.agg #[.int .i64 0, .int .i64 st, .slice A' l.length c', .bool b, .bool false, .bool false, .int .i64 (M : Int), .int .i64 0, .int .i64 0, .int .i64 0, .int .i64 0, .int .i64 0, .bool false, .bool false, .slice PA 0 pc], .agg #[.int .i64 0, .bool false]]) ∧ BS w' A' l ∧ Fresh w w'
theorem parse_pad (p : Nat) (l : List UInt8) (b : Bool) (st : Int) (g M : Nat) (w : World) (hst : 1 ≤ st) (hp : p ≤ 255) (hM : l.length + p + 1 = M) (hmx : M ≤ 1024) (hA : Blk w g 5 (bytesA (padL p l))) :
    Calls Try.prog 21 #[.agg #[.int .i64 0, .int .i64 (if b then 9 else 8), .int .i64 st, .slice (some ⟨g, 0, none⟩) M M]] w (PadTold st l b M w) := by
  have hlen : (padL p l).length = M := by rw [padL_len]; exact hM
  have hc := pparse 0 (if b then 9 else 8) st (some ⟨g, 0, none⟩) M (padL p l) w (BS.row hA) (by omega) (by unfold maxLen; omega) (by omega)
  obtain ⟨hno, htold⟩ := pad_told p l b st hst hp
  generalize (if b then (9 : Int) else 8) = fl at *
  rw [hlen] at hc
  refine hc.mono ?_
  rintro e w' ⟨x, k, rfl, ⟨hk, _, hk6⟩, hok, hs, ⟨h1, h2, h3⟩, _, _, hf⟩
  obtain rfl : k = 6 := by
    rcases Nat.lt_or_ge k 6 with h | h
    · rw [hno k] at hk6; exact absurd (hk6 h) (by simp)
    · omega
  have he : prsF 0 fl st (padL p l) 6 = ({ PR0 with l := l, en := b }, 0, false) := by rw [prsF, if_neg (by omega), htold]
  rw [he] at hs
  have hbs := hok.bs
  obtain ⟨ty, st', A, c, l', en, eh, ak, f0, co, la, inc, de, we, wd, ex, PA, pc, ps⟩ := x
  obtain ⟨e1, ⟨e2, e3, e4, e5, e6⟩, ⟨e7, e8, e9, e10, e11⟩, e12⟩ := hs
  simp only [PR0, flowN, hlen, if_pos] at e1 e2 e3 e4 e5 e6 e7 e8 e9 e10 e11 e12 h1 h2 h3 hbs
  subst e1 e2 e3 e4 e5 e6 e7 e8 e9 e10 e11 e12 h1 h2 h3
  exact ⟨A, c, PA, pc, by rw [he]; rfl, hbs, hf⟩
theorem pokT (w : World) : Calls Try.prog 22 #[.agg #[.int .i64 0, .bool false]] w fun e w' => e = .returned (.bool true) ∧ Fresh w w' := by
  go_enter Try.func22, Try.ntmps22
  go_wp2
  go_ret
  exact ⟨rfl, by repeat (first | with_reducible exact Fresh.refl _ | with_reducible apply Fresh.drewS | with_reducible apply Fresh.allocS)⟩
theorem zeq (w : World) : Calls Try.prog 18 #[.agg #[.int .i64 0, .int .i64 0, .int .i64 0, .slice none 0 0], .agg #[.int .i64 0, .int .i64 0, .int .i64 0, .slice none 0 0]] w fun e w' => e = .returned (.bool true) ∧ Fresh w w' :=
  fequal_at 0 0 0 none 0 [] 0 0 0 0 none 0 [] 0 w true rfl rfl (BS.nil _ _) (BS.nil _ _) (by simp [frEq])
theorem right_pad (b : Bool) (N M g : Nat) (w : World) (h : N ≤ 2147483647) (hM : M ≤ 1024) : Calls Try.prog 15 #[.agg #[.int .i64 0, .int .i64 (if b then 9 else 8), .int .i64 (N : Int), .slice (some ⟨g, 0, none⟩) M M]] w fun e w' => e = .returned (.bool true) ∧ Fresh w w' := by
  have := fright 0 (if b then 9 else 8) (N : Int) (some ⟨g, 0, none⟩) M M w
  rwa [show frR 0 (if b then 9 else 8) (N : Int) M = true by cases b <;> simp [frR] <;> omega] at this
section
variable {st n : Int} {A : Option Addr} {c : Nat} {l : List UInt8} {e : Bool} {w : World}
def PQ (w : World) (e : Ending) (w' : World) : Prop := e = .returned (.bool true) ∧ Below w.heap.size w w'
set_option maxRecDepth 100000 in
set_option maxHeartbeats 6400000 in
theorem pads_long (hl : 1200 < l.length) (hmx : l.length ≤ maxLen) : Calls Try.prog 6 #[.agg #[.int .i64 st, .slice A l.length c, .bool e, .int .i64 n]] w (PQ w) := by
  unfold maxLen at hmx
  have d0 : (1200 : Int) < (l.length : Int) := by omega
  go_enter Try.func6, Try.ntmps6
  go_wp2_with fail
  go_quiet (fail)
  go_wp2_with fail
  with_reducible refine (ce_awake _).mono ?_
  rintro e w1 ⟨rfl, hf1⟩
  have HF := Lib.hid (((Fresh.alloc _ _).trans (Fresh.drewN _ _)).trans hf1)
  clear hf1
  go_wp2_with fail
  go_ret
  exact ⟨rfl, HF.out⟩
set_option maxRecDepth 100000 in
set_option maxHeartbeats 6400000 in
theorem pads_range_a (hl : l.length ≤ 1200) (h : st < 1) : Calls Try.prog 6 #[.agg #[.int .i64 st, .slice A l.length c, .bool e, .int .i64 n]] w (PQ w) := by
  have HP := Lib.hid (fun W => pad_range st n (.slice A l.length c) e W (by omega))
  have d0 : decide ((1200 : Int) < (l.length : Int)) = false := by simp; omega
  go_enter Try.func6, Try.ntmps6
  go_wp2_with fail
  go_quiet (fail)
  go_wp2_with fail
  with_reducible refine (HP.out _).mono ?_
  rintro e w1 ⟨rfl, hf1⟩
  have HF := Lib.hid (((Fresh.alloc _ _).trans (Fresh.drewN _ _)).trans hf1)
  clear hf1
  go_wp2_with fail
  with_reducible refine (zeq _).mono ?_
  rintro e w2 ⟨rfl, hf2⟩
  have HF2 := Lib.hid ((HF.out.allocS _).trans hf2)
  clear hf2
  go_wp2_with fail
  with_reducible refine (ce_awake _).mono ?_
  rintro e w3 ⟨rfl, hf3⟩
  have HF3 := Lib.hid (HF2.out.trans hf3)
  clear hf3
  go_wp2_with fail
  go_ret
  exact ⟨rfl, HF3.out⟩
set_option maxRecDepth 100000 in
set_option maxHeartbeats 6400000 in
theorem pads_range_b (hl : l.length ≤ 1200) (h0 : 1 ≤ st) (h : 2147483647 < st) : Calls Try.prog 6 #[.agg #[.int .i64 st, .slice A l.length c, .bool e, .int .i64 n]] w (PQ w) := by
  have HP := Lib.hid (fun W => pad_range st n (.slice A l.length c) e W (by omega))
  have d0 : decide ((1200 : Int) < (l.length : Int)) = false := by simp; omega
  have d1 : decide (st < 1) = false := by simp; omega
  go_enter Try.func6, Try.ntmps6
  go_wp2_with fail
  go_quiet (fail)
  go_wp2_with fail
  with_reducible refine (HP.out _).mono ?_
  rintro e w1 ⟨rfl, hf1⟩
  have HF := Lib.hid (((Fresh.alloc _ _).trans (Fresh.drewN _ _)).trans hf1)
  clear hf1
  go_wp2_with fail
  with_reducible refine (zeq _).mono ?_
  rintro e w2 ⟨rfl, hf2⟩
  have HF2 := Lib.hid ((HF.out.allocS _).trans hf2)
  clear hf2
  go_wp2_with fail
  with_reducible refine (ce_awake _).mono ?_
  rintro e w3 ⟨rfl, hf3⟩
  have HF3 := Lib.hid (HF2.out.trans hf3)
  clear hf3
  go_wp2_with fail
  go_ret
  exact ⟨rfl, HF3.out⟩
set_option maxRecDepth 100000 in
set_option maxHeartbeats 6400000 in
theorem pads_range_c (hl : l.length ≤ 1200) (h0 : 1 ≤ st) (h1 : st ≤ 2147483647) (h : n < 2) : Calls Try.prog 6 #[.agg #[.int .i64 st, .slice A l.length c, .bool e, .int .i64 n]] w (PQ w) := by
  have HP := Lib.hid (fun W => pad_range st n (.slice A l.length c) e W (by omega))
  have d0 : decide ((1200 : Int) < (l.length : Int)) = false := by simp; omega
  have d1 : decide (st < 1) = false := by simp; omega
  have d2 : decide (2147483647 < st) = false := by simp; omega
  go_enter Try.func6, Try.ntmps6
  go_wp2_with fail
  go_quiet (fail)
  go_wp2_with fail
  with_reducible refine (HP.out _).mono ?_
  rintro e w1 ⟨rfl, hf1⟩
  have HF := Lib.hid (((Fresh.alloc _ _).trans (Fresh.drewN _ _)).trans hf1)
  clear hf1
  go_wp2_with fail
  with_reducible refine (zeq _).mono ?_
  rintro e w2 ⟨rfl, hf2⟩
  have HF2 := Lib.hid ((HF.out.allocS _).trans hf2)
  clear hf2
  go_wp2_with fail
  with_reducible refine (ce_awake _).mono ?_
  rintro e w3 ⟨rfl, hf3⟩
  have HF3 := Lib.hid (HF2.out.trans hf3)
  clear hf3
  go_wp2_with fail
  go_ret
  exact ⟨rfl, HF3.out⟩
set_option maxRecDepth 100000 in
set_option maxHeartbeats 6400000 in
theorem pads_range_d (hl : l.length ≤ 1200) (h0 : 1 ≤ st) (h1 : st ≤ 2147483647) (h2 : 2 ≤ n) (h : 1024 < n) : Calls Try.prog 6 #[.agg #[.int .i64 st, .slice A l.length c, .bool e, .int .i64 n]] w (PQ w) := by
  have HP := Lib.hid (fun W => pad_range st n (.slice A l.length c) e W (by omega))
  have d0 : decide ((1200 : Int) < (l.length : Int)) = false := by simp; omega
  have d1 : decide (st < 1) = false := by simp; omega
  have d2 : decide (2147483647 < st) = false := by simp; omega
  have d3 : decide (n < 2) = false := by simp; omega
  go_enter Try.func6, Try.ntmps6
  go_wp2_with fail
  go_quiet (fail)
  go_wp2_with fail
  with_reducible refine (HP.out _).mono ?_
  rintro e w1 ⟨rfl, hf1⟩
  have HF := Lib.hid (((Fresh.alloc _ _).trans (Fresh.drewN _ _)).trans hf1)
  clear hf1
  go_wp2_with fail
  with_reducible refine (zeq _).mono ?_
  rintro e w2 ⟨rfl, hf2⟩
  have HF2 := Lib.hid ((HF.out.allocS _).trans hf2)
  clear hf2
  go_wp2_with fail
  with_reducible refine (ce_awake _).mono ?_
  rintro e w3 ⟨rfl, hf3⟩
  have HF3 := Lib.hid (HF2.out.trans hf3)
  clear hf3
  go_wp2_with fail
  go_ret
  exact ⟨rfl, HF3.out⟩
set_option maxRecDepth 100000 in
set_option maxHeartbeats 6400000 in
theorem pads_full_a (hl : l.length ≤ 1200) (h0 : 1 ≤ st) (h1 : st ≤ 2147483647) (h2 : 2 ≤ n) (h3 : n ≤ 1024) (h : n - 1 < (l.length : Int)) : Calls Try.prog 6 #[.agg #[.int .i64 st, .slice A l.length c, .bool e, .int .i64 n]] w (PQ w) := by
  have HP := Lib.hid (fun W => pad_full st n A l.length c e W h0 h1 h2 h3 (by omega) (by omega))
  have d0 : decide ((1200 : Int) < (l.length : Int)) = false := by simp; omega
  have d1 : decide (st < 1) = false := by simp; omega
  have d2 : decide (2147483647 < st) = false := by simp; omega
  have d3 : decide (n < 2) = false := by simp; omega
  have d4 : decide (1024 < n) = false := by simp; omega
  have e1 : IntKind.i64.wrap (n - 1) = n - 1 := IntWalk.i64_in _ (by omega)
  have e2 : IntKind.i64.wrap ((l.length : Int) + 255) = (l.length : Int) + 255 := IntWalk.i64_in _ (by omega)
  go_enter Try.func6, Try.ntmps6
  go_wp2_with fail
  go_quiet (fail)
  go_wp2_with fail
  with_reducible refine (HP.out _).mono ?_
  rintro e w1 ⟨rfl, hf1⟩
  have HF := Lib.hid (((Fresh.alloc _ _).trans (Fresh.drewN _ _)).trans hf1)
  clear hf1
  go_wp2_with fail
  with_reducible refine (zeq _).mono ?_
  rintro e w2 ⟨rfl, hf2⟩
  have HF2 := Lib.hid ((HF.out.allocS _).trans hf2)
  clear hf2
  go_wp2_with fail
  with_reducible refine (ce_awake _).mono ?_
  rintro e w3 ⟨rfl, hf3⟩
  have HF3 := Lib.hid (HF2.out.trans hf3)
  clear hf3
  go_wp2_with fail
  go_ret
  exact ⟨rfl, HF3.out⟩
set_option maxRecDepth 100000 in
set_option maxHeartbeats 6400000 in
theorem pads_full_b (hl : l.length ≤ 1200) (h0 : 1 ≤ st) (h1 : st ≤ 2147483647) (h2 : 2 ≤ n) (h3 : n ≤ 1024) (h4 : (l.length : Int) ≤ n - 1) (h : (l.length : Int) + 255 < n - 1) : Calls Try.prog 6 #[.agg #[.int .i64 st, .slice A l.length c, .bool e, .int .i64 n]] w (PQ w) := by
  have HP := Lib.hid (fun W => pad_full st n A l.length c e W h0 h1 h2 h3 (by omega) (by omega))
  have d0 : decide ((1200 : Int) < (l.length : Int)) = false := by simp; omega
  have d1 : decide (st < 1) = false := by simp; omega
  have d2 : decide (2147483647 < st) = false := by simp; omega
  have d3 : decide (n < 2) = false := by simp; omega
  have d4 : decide (1024 < n) = false := by simp; omega
  have e1 : IntKind.i64.wrap (n - 1) = n - 1 := IntWalk.i64_in _ (by omega)
  have e2 : IntKind.i64.wrap ((l.length : Int) + 255) = (l.length : Int) + 255 := IntWalk.i64_in _ (by omega)
  have d5 : decide (n - 1 < (l.length : Int)) = false := by simp; omega
  go_enter Try.func6, Try.ntmps6
  go_wp2_with fail
  go_quiet (fail)
  go_wp2_with fail
  with_reducible refine (HP.out _).mono ?_
  rintro e w1 ⟨rfl, hf1⟩
  have HF := Lib.hid (((Fresh.alloc _ _).trans (Fresh.drewN _ _)).trans hf1)
  clear hf1
  go_wp2_with fail
  with_reducible refine (zeq _).mono ?_
  rintro e w2 ⟨rfl, hf2⟩
  have HF2 := Lib.hid ((HF.out.allocS _).trans hf2)
  clear hf2
  go_wp2_with fail
  with_reducible refine (ce_awake _).mono ?_
  rintro e w3 ⟨rfl, hf3⟩
  have HF3 := Lib.hid (HF2.out.trans hf3)
  clear hf3
  go_wp2_with fail
  go_ret
  exact ⟨rfl, HF3.out⟩
set_option maxRecDepth 100000 in
set_option maxHeartbeats 6400000 in
theorem pads_ok (N M p : Nat) (hl : l.length ≤ 1200) (hA : BS w A l) (h0 : 1 ≤ N) (h1 : N ≤ 2147483647) (h2 : 2 ≤ M) (h3 : M ≤ 1024) (hp : l.length + p + 1 = M) (hp2 : p ≤ 255) : Calls Try.prog 6 #[.agg #[.int .i64 (N : Int), .slice A l.length c, .bool e, .int .i64 (M : Int)]] w (PQ w) := by
  have HP := Lib.hid (fun W hA => pad_ok N M A c l e W p h0 h1 h2 h3 hp hp2 hA)
  have HPP := Lib.hid (fun W g hb => parse_pad p l e (N : Int) g M W (by omega) hp2 hp h3 hb)
  have HRT := Lib.hid (fun W g => right_pad e N M g W h1 h3)
  have d0 : decide ((1200 : Int) < (l.length : Int)) = false := by simp; omega
  have d1 : decide ((N : Int) < 1) = false := by simp; omega
  have d2 : decide (2147483647 < (N : Int)) = false := by simp; omega
  have d3 : decide ((M : Int) < 2) = false := by simp; omega
  have d4 : decide (1024 < (M : Int)) = false := by simp; omega
  have e1 : IntKind.i64.wrap ((M : Int) - 1) = (M : Int) - 1 := IntWalk.i64_in _ (by omega)
  have e2 : IntKind.i64.wrap ((l.length : Int) + 255) = (l.length : Int) + 255 := IntWalk.i64_in _ (by omega)
  have d5 : decide ((M : Int) - 1 < (l.length : Int)) = false := by simp; omega
  have d6 : decide ((l.length : Int) + 255 < (M : Int) - 1) = false := by simp; omega
  have HA := Lib.hid hA
  unfold PadOk at HP
  generalize hfl : (if e then (9 : Int) else 8) = fl at *
  clear hA h0 h1 h2 h3 hp hp2 hfl
  go_enter Try.func6, Try.ntmps6
  go_wp2_with fail
  go_quiet (fail)
  go_wp2_with fail
  with_reducible refine (HP.out _ (HA.out.fresh ((Fresh.alloc _ _).trans (Fresh.drewN _ _)))).mono ?_
  rintro e3 w1 ⟨g, rfl, hg, hb1, hf1⟩
  have HB1 := Lib.hid hb1
  have HF1 := Lib.hid (((Fresh.alloc _ _).trans (Fresh.drewN _ _)).trans hf1)
  clear hg hb1 hf1 HP
  go_wp2_with fail
  with_reducible refine (HPP.out _ g (HB1.out.alloc _)).mono ?_
  rintro e3 w2 ⟨A2, c2, PA, pc, rfl, hbs2, hf2⟩
  have HF2 := Lib.hid ((HF1.out.allocS _).trans hf2)
  have HB2 := Lib.hid ((Blk.new w1 33 #[.int .i64 0, .int .i64 fl, .int .i64 (N : Int), .slice (some ⟨g, 0, none⟩) M M]).fresh hf2)
  have HS2 := Lib.hid hbs2
  clear hbs2 hf2 HPP
  go_upto_region 10 with fail
  refine wp_gen (fun W => Blk W w1.heap.size 33 #[.int .i64 0, .int .i64 fl, .int .i64 (N : Int), .slice (some ⟨g, 0, none⟩) M M] ∧ Blk W w2.heap.size 48 #[.int .i64 0, .int .i64 (N : Int), .slice A2 l.length c2, .bool e, .bool false, .bool false, .int .i64 (M : Int), .int .i64 0, .int .i64 0, .int .i64 0, .int .i64 0, .int .i64 0, .bool false, .bool false, .slice PA 0 pc] ∧ Blk W (w2.heap.size + 1) 50 #[.int .i64 0, .bool false] ∧ Fresh w2 W) ?_ ?_
  focus
    exact ⟨(HB2.out.alloc _).alloc _, (Blk.new _ _ _).alloc _, Blk.mkAt (by simp), (Fresh.alloc _ _).allocS _⟩
  intro W ⟨hbf, hbx, hbg, hfW⟩
  have HBF := Lib.hid hbf
  have HBX := Lib.hid hbx
  have HFW := Lib.hid (HF2.out.trans hfW)
  have HS3 := Lib.hid (HS2.out.fresh hfW)
  obtain ⟨q0, q1⟩ := hbg.c2
  generalize w1.heap.size = f0 at *
  generalize w2.heap.size = x0 at *
  clear hbf hbx hbg hfW HF2 HB2 HS2 HF1 HB1
  go_wp2_with fail
  with_reducible refine (pokT _).mono ?_
  rintro e3 w3 ⟨rfl, hf3⟩
  have HF3 := Lib.hid (HFW.out.trans hf3)
  have hbx := HBX.out.fresh hf3
  have x0' := hbx.cell 0
  have x1' := hbx.cell 1
  have x2' := hbx.cell 2
  have x3' := hbx.cell 3
  have x6' := hbx.cell 6
  simp only [List.getElem?_toArray, List.getElem?_cons_zero, List.getElem?_cons_succ] at x0' x1' x2' x3' x6'
  obtain ⟨c0, c1, c2', c3⟩ := (HBF.out.fresh hf3).c4
  have s1 := run_str (P := Try.prog) (HS3.out.fresh hf3) 22 9 5 Try.underlying22 Try.underlying5 Try.underlying9 c2
  have s2 := run_str (P := Try.prog) (HA.out.fresh HF3.out) 22 9 5 Try.underlying22 Try.underlying5 Try.underlying9 c
  generalize strB l = S at *
  have k1 : (S.toList == S.toList) = true := beq_self_eq_true _
  have k2 : ((N : Int) == (N : Int)) = true := beq_self_eq_true _
  have k3 : ((M : Int) == (M : Int)) = true := beq_self_eq_true _
  have k4 : (e == e) = true := beq_self_eq_true _
  clear hbx hf3
  go_wp2_with fail
  with_reducible refine (HRT.out _ g).mono ?_
  rintro e3 w4 ⟨rfl, hf4⟩
  have HF4 := Lib.hid (HF3.out.trans hf4)
  clear hf4
  go_wp2_with fail
  with_reducible refine (ce_awake _).mono ?_
  rintro e3 w5 ⟨rfl, hf5⟩
  have HF5 := Lib.hid (HF4.out.trans hf5)
  clear hf5
  go_wp2_with fail
  go_ret
  exact ⟨rfl, HF5.out⟩
theorem CellPads_any (f : PdV) (w : World) (hf : f.Ok w) :
    Calls Try.prog 6 #[.agg #[.int .i64 f.st, .slice f.A f.l.length f.c, .bool f.e, .int .i64 f.n]] w fun e w' => e = .returned (.bool true) ∧ Below w.heap.size w w' := by
  obtain ⟨st, A, c, l, e, n⟩ := f
  obtain ⟨_, _, hle, hmax, hbs⟩ := hf
  simp only at *
  show Calls _ _ _ _ (PQ w)
  by_cases hl : 1200 < l.length
  · exact pads_long hl (by omega)
  have hl' : l.length ≤ 1200 := by omega
  by_cases a1 : st < 1
  · exact pads_range_a hl' a1
  by_cases a2 : 2147483647 < st
  · exact pads_range_b hl' (by omega) a2
  by_cases a3 : n < 2
  · exact pads_range_c hl' (by omega) (by omega) a3
  by_cases a4 : 1024 < n
  · exact pads_range_d hl' (by omega) (by omega) (by omega) a4
  by_cases a5 : n - 1 < (l.length : Int)
  · exact pads_full_a hl' (by omega) (by omega) (by omega) (by omega) a5
  by_cases a6 : (l.length : Int) + 255 < n - 1
  · exact pads_full_b hl' (by omega) (by omega) (by omega) (by omega) (by omega) a6
  obtain ⟨N, rfl⟩ : ∃ N : Nat, st = (N : Int) := ⟨st.toNat, by omega⟩
  obtain ⟨M, rfl⟩ : ∃ M : Nat, n = (M : Int) := ⟨n.toNat, by omega⟩
  exact pads_ok N M (M - 1 - l.length) hl' hbs (by omega) (by omega) (by omega) (by omega) (by omega) (by omega)
end
end Go.Proofs.Ytpokpkijhakpjaa
