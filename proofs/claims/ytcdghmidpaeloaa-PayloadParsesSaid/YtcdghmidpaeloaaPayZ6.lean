/-
  The law PayloadParses.
-/
import Derived.Test.YtcdghmidpaeloaaPayW
import Derived.Test.YtcdghmidpaeloaaPayX
import Derived.Test.YtcdghmidpaeloaaPayY
import Derived.Test.YtcdghmidpaeloaaPayZ
import Derived.Test.YtcdghmidpaeloaaPayZ2
import Derived.Test.YtcdghmidpaeloaaPayZ3
import Derived.Test.YtcdghmidpaeloaaPayZ4
import Derived.Test.YtcdghmidpaeloaaPaySm
import Derived.Test.YtcdghmidpaeloaaFrA
namespace Go.Proofs.Ytcdghmidpaeloaa
set_option maxRecDepth 100000
set_option linter.unusedVariables false
set_option linter.unusedSimpArgs false
open Go.RowKit
def LawPZ (w : World) (e : Ending) (w' : World) : Prop := e = .returned (.bool true) ∧ Fresh w w'
theorem fault_likeZ {ty fl st : Int} {l : List UInt8} {k : Nat} (h : FirstB ty fl st l k) (hk : k < 6) :
    ∃ co cn, prsF ty fl st l k = (PR0, co, cn) ∧ ¬ co = 0 ∧ (cn = true ∨ (cn = false ∧ ¬ st = 0 ∧ (ty = 1 ∨ ty = 2 ∨ ty = 8))) := by
  refine ⟨lkC k, lkD k (st == 0), by rw [prsF, if_pos hk], by unfold lkC; split <;> decide, ?_⟩
  obtain ⟨_, hn, hy⟩ := h
  have hy := hy hk
  by_cases h3 : k < 3
  · left; simp [lkD, h3]
  have h0 := hn 0 (by omega)
  by_cases hs : st = 0
  · match k, hk, h3 with
    | 3, _, _ => simp [lookB] at hy; obtain ⟨rfl, _⟩ := hy; simp [lookB, srB, hs] at h0
    | 4, _, _ =>
      simp [lookB, wgB] at hy
      rcases hy.1 with rfl | ⟨rfl, _⟩
      · simp [lookB, srB, hs] at h0
      · simp [lookB, srB, hs] at h0
    | 5, _, _ => left; simp [lkD, hs]
  · right
    match k, hk, h3 with
    | 3, _, _ => simp [lookB] at hy; exact ⟨rfl, hs, .inr (.inl hy.1)⟩
    | 4, _, _ =>
      simp [lookB, wgB] at hy
      rcases hy.1 with rfl | ⟨rfl, _⟩
      · exact ⟨rfl, hs, .inr (.inl rfl)⟩
      · exact ⟨rfl, hs, .inl rfl⟩
    | 5, _, _ => simp [lookB] at hy; exact ⟨by simp [lkD, hs], hs, .inr (.inr hy.1)⟩
theorem firstB_exZ (ty fl st : Int) (l : List UInt8) : ∃ k, FirstB ty fl st l k := by
  have : ∀ n, n ≤ 6 → (∃ k, k < n ∧ (∀ j, j < k → lookB ty fl st l j = false) ∧ lookB ty fl st l k = true) ∨ (∀ j, j < n → lookB ty fl st l j = false) := by
    intro n
    induction n with
    | zero => intro _; right; intro j hj; omega
    | succ n ih =>
      intro hn
      rcases ih (by omega) with ⟨k, hk, h1, h2⟩ | h
      · left; exact ⟨k, by omega, h1, h2⟩
      · cases hb : lookB ty fl st l n with
        | true => left; exact ⟨n, by omega, h, hb⟩
        | false =>
          right
          intro j hj
          rcases Nat.lt_or_ge j n with h' | h'
          · exact h j h'
          · obtain rfl : j = n := by omega
            exact hb
  rcases this 6 (Nat.le_refl _) with ⟨k, hk, h1, h2⟩ | h
  · exact ⟨k, by omega, h1, fun _ => h2⟩
  · exact ⟨6, Nat.le_refl _, h, fun h => absurd h (by omega)⟩
/-- The document's answer, whatever the frame. -/
theorem rp_any (ty fl st : Int) (l : List UInt8) (hl : l.length ≤ 300) (w : World) (k : Nat) (hk : FirstB ty fl st l k) (t0 : 0 ≤ ty) (h0 : 0 ≤ fl) (h1 : fl ≤ 255) :
    Calls Try.prog 10 #[.int .i64 ty, .int .i64 fl, .int .i64 st, .string (strB l)] w (DocP ty st (flowN ty l.length) (prsF ty fl st l k) w) := by
  by_cases hx : 10 ≤ ty
  · rw [show flowN ty l.length = 0 from if_neg (by omega)]
    exact rp_x_y ty fl st l hl w k hk h0 h1 hx
  have hty : ty = 0 ∨ ty = 1 ∨ ty = 2 ∨ ty = 3 ∨ ty = 4 ∨ ty = 5 ∨ ty = 6 ∨ ty = 7 ∨ ty = 8 ∨ ty = 9 := by omega
  clear hx t0
  rcases hty with rfl | rfl | rfl | rfl | rfl | rfl | rfl | rfl | rfl | rfl
  · rw [show flowN 0 l.length = (l.length : Int) from rfl]
    by_cases hst : st = 0
    · exact rp_0_st fl st l hl w k hk h0 h1 hst
    cases hp8 : hasB fl 8 with
    | false => exact rp_0nn_ok fl st l hl w k hk h0 h1 hst hp8 (by omega)
    | true =>
      obtain ⟨p, hpp⟩ : ∃ p, (l.getD 0 0).toNat = p := ⟨_, rfl⟩
      by_cases hn0 : l.length = 0
      · exact rp_0pn_empty fl st l hl w k hk h0 h1 hst hp8 p hpp hn0
      by_cases hq : l.length < p + 1
      · exact rp_0pn_pad fl st l hl w k hk h0 h1 hst hp8 p hpp (by omega) hq
      · exact rp_0pn_ok fl st l hl w k hk h0 h1 hst hp8 p hpp (by omega)
  · rw [show flowN 1 l.length = 0 from rfl]
    by_cases hst : st = 0
    · exact rp_1_st fl st l hl w k hk h0 h1 hst
    cases hp8 : hasB fl 8 with
    | false =>
      cases hp32 : hasB fl 32 with
      | false => exact rp_1nn_ok fl st l hl w k hk h0 h1 hst hp8 hp32 (by omega)
      | true =>
        by_cases hn5 : l.length < 5
        · exact rp_1nw_short fl st l hl w k hk h0 h1 hst hp8 hp32 (by omega) hn5
        by_cases hd : ((numL (l.take 4) % 2147483648 : Nat) : Int) = st
        · exact rp_1nw_dep fl st l hl w k hk h0 h1 hst hp8 hp32 (by omega) hd
        · exact rp_1nw_ok fl st l hl w k hk h0 h1 hst hp8 hp32 (by omega) hd
    | true =>
      obtain ⟨p, hpp⟩ : ∃ p, (l.getD 0 0).toNat = p := ⟨_, rfl⟩
      cases hp32 : hasB fl 32 with
      | false =>
        by_cases hn0 : l.length = 0
        · exact rp_1pn_empty fl st l hl w k hk h0 h1 hst hp8 hp32 p hpp hn0
        by_cases hq : l.length < p + 1
        · exact rp_1pn_pad fl st l hl w k hk h0 h1 hst hp8 hp32 p hpp (by omega) hq
        · exact rp_1pn_ok fl st l hl w k hk h0 h1 hst hp8 hp32 p hpp (by omega)
      | true =>
        by_cases hn0 : l.length = 0
        · exact rp_1pw_empty fl st l hl w k hk h0 h1 hst hp8 hp32 p hpp hn0
        by_cases hn5 : l.length < 6
        · exact rp_1pw_short fl st l hl w k hk h0 h1 hst hp8 hp32 p hpp (by omega) hn5
        by_cases hq : l.length < p + 6
        · exact rp_1pw_pad fl st l hl w k hk h0 h1 hst hp8 hp32 p hpp (by omega) hq
        by_cases hd : ((numL ((l.drop 1).take 4) % 2147483648 : Nat) : Int) = st
        · exact rp_1pw_dep fl st l hl w k hk h0 h1 hst hp8 hp32 p hpp (by omega) hd
        · exact rp_1pw_ok fl st l hl w k hk h0 h1 hst hp8 hp32 p hpp (by omega) hd
  · rw [show flowN 2 l.length = 0 from rfl]
    by_cases hst : st = 0
    · exact rp_2_st fl st l hl w k hk h0 h1 hst
    by_cases hn5 : l.length = 5
    · by_cases hd : ((numL (l.take 4) % 2147483648 : Nat) : Int) = st
      · exact rp_2_s fl st l hl w k hk h0 h1 hst hn5 hd
      · exact rp_2_y fl st l hl w k hk h0 h1 hst hn5 hd
    · exact rp_2_n fl st l hl w k hk h0 h1 hst hn5
  · rw [show flowN 3 l.length = 0 from rfl]
    by_cases hst : st = 0
    · exact rp_3_st fl st l hl w k hk h0 h1 hst
    by_cases hn4 : l.length = 4
    · exact rp_3_y fl st l hl w k hk h0 h1 hst hn4
    · exact rp_3_n fl st l hl w k hk h0 h1 hst hn4
  · rw [show flowN 4 l.length = 0 from rfl]
    by_cases hst : st = 0
    · by_cases h6 : l.length % 6 = 0
      · cases ha : hasB fl 1 with
        | false => exact rp_4_y fl st l hl w k hk h0 h1 hst (l.length / 6) (by omega) ha
        | true =>
          by_cases hn0 : l.length = 0
          · exact rp_4_z fl st l hl w k hk h0 h1 hst (l.length / 6) (by omega) ha hn0
          · exact rp_4_a fl st l hl w k hk h0 h1 hst h6 ha (by omega)
      · exact rp_4_m fl st l hl w k hk h0 h1 hst h6
    · exact rp_4_st fl st l hl w k hk h0 h1 hst
  · rw [show flowN 5 l.length = 0 from rfl]
    exact rp_5_st fl st l hl w k hk h0 h1
  · rw [show flowN 6 l.length = 0 from rfl]
    by_cases hst : st = 0
    · by_cases hn8 : l.length = 8
      · exact rp_6_y fl st l hl w k hk h0 h1 hst hn8
      · exact rp_6_n fl st l hl w k hk h0 h1 hst hn8
    · exact rp_6_st fl st l hl w k hk h0 h1 hst
  · rw [show flowN 7 l.length = 0 from rfl]
    by_cases hst : st = 0
    · by_cases hn8 : l.length < 8
      · exact rp_7_n fl st l hl w k hk h0 h1 hst hn8
      · exact rp_7_y fl st l hl w k hk h0 h1 hst (by omega)
    · exact rp_7_st fl st l hl w k hk h0 h1 hst
  · rw [show flowN 8 l.length = 0 from rfl]
    by_cases hn4 : l.length = 4
    · by_cases hr : numL l % 2147483648 = 0
      · by_cases hst : st = 0
        · exact rp_8_z0 fl st l hl w k hk h0 h1 hst hn4 hr
        · exact rp_8_z1 fl st l hl w k hk h0 h1 hst hn4 hr
      · exact rp_8_y fl st l hl w k hk h0 h1 hn4 hr
    · exact rp_8_n fl st l hl w k hk h0 h1 hn4
  · rw [show flowN 9 l.length = 0 from rfl]
    by_cases hst : st = 0
    · exact rp_9_st fl st l hl w k hk h0 h1 hst
    · exact rp_9_y fl st l hl w k hk h0 h1 hst
set_option maxHeartbeats 12800000 in
theorem parses_go (ty fl st : Int) (A : Option Addr) (c n : Nat) (l : List UInt8) (w : World) (hB : BS w A l) (hn : l.length = n) (hl : n ≤ 300) (t0 : 0 ≤ ty) (t1 : ty ≤ 255) (h0 : 0 ≤ fl) (h1 : fl ≤ 255) (s0 : 0 ≤ st) (s1 : st ≤ 2147483647) (pr : PR) (co : Int) (cn : Bool) (f0 : Int)
    (HPA : ∀ W, Fresh w W → Calls Try.prog 9 #[.agg #[.int .i64 ty, .int .i64 fl, .int .i64 st, .slice A n c]] W (ToldP ty st f0 (pr, co, cn) W))
    (HRP : ∀ W, Calls Try.prog 10 #[.int .i64 ty, .int .i64 fl, .int .i64 st, .string (strB l)] W (DocP ty st f0 (pr, co, cn) W))
    (hps : pr.ps.length ≤ 1000) (z : Bool) (hz : decide (co = 0) = z) (hcz : z = true → cn = false) :
    Calls Try.prog 3 #[.agg #[.int .i64 ty, .int .i64 fl, .int .i64 st, .slice A n c]] w (LawPZ w) := by
  have HAW := Lib.hid pl_awake
  have HPA := Lib.hid HPA
  have HRP := Lib.hid HRP
  have HBS := Lib.hid hB
  have HFIN : Hid (∀ W, Fresh w W → LawPZ w (.returned (.bool true)) W) := Lib.hid (fun W h => ⟨rfl, h⟩)
  have HST : Hid (∀ W, Fresh w W → (convert 22 9 (.slice A n c)).run Try.prog W = .ok (.string (strB l)) W) := Lib.hid (fun W h => by
    have := run_str (hB.fresh h) 22 9 5 Try.underlying22 Try.underlying5 Try.underlying9 c
    rwa [hn] at this)
  have HPK := Lib.hid (fun W => pok co cn z (by
    rw [← hz]
    cases cn with
    | false => simp
    | true =>
      cases z with
      | true => cases hcz rfl
      | false => simp at hz; simp [hz]) W)
  have HPS := Lib.hid hps
  have HCASE : Hid ((z = true ∧ co = 0 ∧ cn = false) ∨ (z = false ∧ ¬ co = 0 ∧ cn = true) ∨ (z = false ∧ ¬ co = 0 ∧ cn = false)) := Lib.hid (by
    cases z with
    | true => exact .inl ⟨rfl, by simpa using hz, hcz rfl⟩
    | false =>
      have h0 : ¬ co = 0 := by simpa using hz
      cases cn
      · exact .inr (.inr ⟨rfl, h0, rfl⟩)
      · exact .inr (.inl ⟨rfl, h0, rfl⟩))
  have HBI := Lib.hid (b2i_t cn)
  unfold ToldP at HPA
  unfold DocP at HRP
  simp only at HPA HRP
  clear hB hn hps hz hcz
  generalize LawPZ w = PP at *
  generalize strB l = SL at *
  have g0 : ¬ (300 : Int) < (n : Int) := by omega
  have g1 : ¬ ty < 0 := by omega
  have g2 : ¬ 255 < ty := by omega
  have g3 : ¬ fl < 0 := by omega
  have g4 : ¬ 255 < fl := by omega
  have g5 : ¬ st < 0 := by omega
  have g6 : ¬ 2147483647 < st := by omega
  clear hl t0 t1 h0 h1 s0 s1
  go_enter Try.func3, Try.ntmps3
  go_upto_region 1 with fail
  refine wp_gen (fun W => Blk W w.heap.size 24 #[.int .i64 ty, .int .i64 fl, .int .i64 st, .slice A n c] ∧ Fresh w W) ⟨Blk.new _ _ _, Fresh.alloc _ _⟩ ?_
  rintro W1 ⟨hb1, hf1⟩
  obtain ⟨b, hb⟩ : ∃ b, w.heap.size = b := ⟨_, rfl⟩
  rw [hb] at hb1 ⊢
  have HB1 := Lib.hid hb1
  have HF1 := Lib.hid hf1
  clear hb1 hf1 hb
  obtain ⟨c0, c1, c2, c3⟩ := HB1.out.c4
  go_upto_region 3 with fail
  clear g0 g1 g2 g3 g4 g5 g6
  go_wp2_with fail
  with_reducible refine (HPA.out _ HF1.out).mono ?_
  rintro e W2 ⟨⟨xty, xst, XA, xc, xl, xen, xeh, xak, xfl, xco, xla, xinc, xde, xwe, xwd, xex, XPA, xpc, xps⟩, rfl, hok, hsy, ⟨e1, e2, e3⟩, _, _, hf2⟩
  obtain ⟨s1, ⟨m1, m2, m3, m4, m5⟩, ⟨n1, n2, n3, n4, n5⟩, sp⟩ := hsy
  simp only at e1 e2 e3 s1 m1 m2 m3 m4 m5 n1 n2 n3 n4 n5 sp
  subst e1 e2 e3
  obtain ⟨pl, pen, peh, pak, pco, pla, pinc, pde, pwe, pwd, pex, pps⟩ := pr
  simp only at s1 m1 m2 m3 m4 m5 n1 n2 n3 n4 n5 sp HRP HPS
  subst s1 m1 m2 m3 m4 m5 n1 n2 n3 n4 n5 sp
  have HXB := Lib.hid hok.bs
  have HXP := Lib.hid hok.prs
  have HF2 := Lib.hid (HF1.out.trans hf2)
  have HB2 := Lib.hid (HB1.out.fresh hf2)
  simp only at HXB HXP
  unfold dI at HRP
  simp only [ItV.agg]
  obtain ⟨xm, hxm⟩ : ∃ m, xps.length = m := ⟨_, rfl⟩
  have HXM := Lib.hid hxm
  rw [hxm] at HRP HPS ⊢
  clear hok hf2 c0 c1 c2 c3 hxm
  go_upto_region 4 with (first | (refine wp_storeB rfl (.tmp 3) (.tmp 46) _ rfl rfl rfl ((Blk.new _ _ _).alloc _) (by kernel_rfl) rfl (by simp [Value.oneCell']) ?_) | fail)
  intro W3 hb3 ho3
  obtain ⟨p3, hp3⟩ : ∃ p, W2.heap.size = p := ⟨_, rfl⟩
  have hbf := (Blk.mkAt (w := W2.alloc (.cells #[.int .i64 0, .int .i64 0, .slice none 0 0, .bool false, .bool false, .bool false, .int .i64 0, .int .i64 0, .int .i64 0, .int .i64 0, .int .i64 0, .int .i64 0, .bool false, .bool false, .slice none 0 0] 28)) (t := 31) (cs := #[.int .i64 0, .bool false]) (g := p3 + 1) (by simp; omega)).only ho3 (by omega)
  have hf3 : Fresh W2 W3 := Only.fresh ((Only.of_fresh ((Fresh.alloc _ _).allocS _)).trans ho3) (fun i hi e => by omega)
  rw [hp3] at hb3 ⊢
  have HB3 := Lib.hid hb3
  have HBF := Lib.hid hbf
  have HF3 := Lib.hid hf3
  clear hb3 ho3 hbf hf3
  go_upto_region 4 with (first | (refine wp_storeB rfl (.tmp 4) (.tmp 47) _ rfl rfl rfl HBF.out (by kernel_rfl) rfl (by simp [Value.oneCell']) ?_) | fail)
  intro W4 hb4 ho4
  have HB4 := Lib.hid hb4
  have HB3 : Hid (Blk W4 p3 28 #[.int .i64 xty, .int .i64 xst, .slice XA xl.length xc, .bool xen, .bool xeh, .bool xak, .int .i64 xfl, .int .i64 xco, .int .i64 xla, .int .i64 xinc, .int .i64 xde, .int .i64 xwe, .bool xwd, .bool xex, .slice XPA xm xpc]) := Lib.hid (HB3.out.only ho4 (by omega))
  have HF4 : Hid (Fresh W2 W4) := Lib.hid (Only.fresh ((Only.of_fresh HF3.out).trans ho4) (fun i hi e => by omega))
  have HFW := Lib.hid (HF2.out.trans HF4.out)
  obtain ⟨c0, c1, c2, c3⟩ := (HB2.out.fresh HF4.out).c4
  have st1 := HST.out W4 HFW.out
  clear hb4 ho4 HBF HF3 hp3
  go_wp2_with fail
  with_reducible refine (HRP.out _).mono ?_
  rintro e W5 ⟨QA, qc, rfl, _, _, hqm, hf5⟩
  have HQM := Lib.hid hqm
  have HFW := Lib.hid (HFW.out.trans hf5)
  have HB3 := Lib.hid (HB3.out.fresh hf5)
  have HB4 := Lib.hid (HB4.out.fresh hf5)
  have HF5 := Lib.hid (HF4.out.trans hf5)
  clear hqm hf5 c0 c1 c2 c3 st1
  generalize hSX : strB xl = SX at *
  go_upto_region 5 with (first | (refine wp_storeB rfl (.tmp 5) (.tmp 59) _ rfl rfl rfl (Blk.new _ _ _) (by kernel_rfl) rfl (by simp [Value.oneCell']) ?_) | fail)
  intro W6 hb6 ho6
  have hf6 : Fresh W5 W6 := Only.fresh ((Only.of_fresh (Fresh.alloc _ _)).trans ho6) (fun i hi e => by omega)
  obtain ⟨p6, hp6⟩ : ∃ p, W5.heap.size = p := ⟨_, rfl⟩
  rw [hp6] at hb6 ⊢
  have HB6 := Lib.hid hb6
  have HB3 := Lib.hid (HB3.out.fresh hf6)
  have HB4 := Lib.hid (HB4.out.fresh hf6)
  have HFW := Lib.hid (HFW.out.trans hf6)
  have HQM := Lib.hid (HQM.out.fresh hf6)
  have HF6 := Lib.hid (HF5.out.trans hf6)
  clear hb6 ho6 hf6 hp6
  rcases HCASE.out with ⟨rfl, rfl, rfl⟩ | ⟨rfl, hc0, rfl⟩ | ⟨rfl, hc0, rfl⟩
  all_goals
    have hi1 := HBI.out
    obtain ⟨d0, d1⟩ := HB4.out.c2
    go_wp2_with (first | (refine wp_loadB rfl (.tmp 4) _ rfl rfl HB4.out (by kernel_rfl) (fun w => by simp [isAgg, go_sem]) ?_) | fail)
    with_reducible refine (HPK.out _).mono ?_
    rintro e W7 ⟨rfl, hf7⟩
    have HFW := Lib.hid (HFW.out.trans hf7)
    have HQM := Lib.hid (HQM.out.fresh hf7)
    have HF7 := Lib.hid (HF6.out.trans hf7)
    have HB3 := Lib.hid (HB3.out.fresh hf7)
    have HB6 := Lib.hid (HB6.out.fresh hf7)
    clear hf7 d0 d1
    have HSM := Lib.hid (l10_same xty xst XA xc xl xen xeh xak xfl xco xla xinc xde xwe xwd xex XPA xpc xps QA qc xm W7 (HXB.out.fresh HF7.out) (HXP.out.fresh HF7.out) HQM.out HXM.out HPS.out)
    unfold dI at HSM
    rw [hSX] at HSM
    clear hSX hi1
    go_wp2_with (first | (refine wp_loadB rfl (.tmp 3) _ rfl rfl HB3.out (by kernel_rfl) (fun w => by simp [isAgg, go_sem]) ?_) | (refine wp_loadB rfl (.tmp 5) _ rfl rfl HB6.out (by kernel_rfl) (fun w => by simp [isAgg, go_sem]) ?_) | fail)
    with_reducible refine HSM.out.mono ?_
    rintro e W8 ⟨rfl, hf8⟩
    have HFW := Lib.hid (HFW.out.trans hf8)
    clear hf8
    go_wp2_with fail
    with_reducible refine (HAW.out _).mono ?_
    rintro e W9 ⟨rfl, hf9⟩
    have HX := Lib.hid (HFIN.out _ (HFW.out.trans hf9))
    clear hf9
    go_wp2_with fail
    exact HX.out
theorem prsF_psZ (ty fl st : Int) (l : List UInt8) (k : Nat) : (prsF ty fl st l k).1.ps.length ≤ l.length := by
  unfold prsF
  split
  · simp [PR0]
  · simp only [prOf]
    repeat (split; · simp [PR0, prsL_len] <;> omega)
    simp [PR0]
set_option maxHeartbeats 6400000 in
theorem parses_no (ty fl st : Int) (A : Option Addr) (c n : Nat) (w : World) (h : ¬ (n ≤ 300 ∧ 0 ≤ ty ∧ ty ≤ 255 ∧ 0 ≤ fl ∧ fl ≤ 255 ∧ 0 ≤ st ∧ st ≤ 2147483647)) :
    Calls Try.prog 3 #[.agg #[.int .i64 ty, .int .i64 fl, .int .i64 st, .slice A n c]] w (LawPZ w) := by
  have HAW := Lib.hid pl_awake
  have HFIN : Hid (∀ W, Fresh w W → LawPZ w (.returned (.bool true)) W) := Lib.hid (fun W h => ⟨rfl, h⟩)
  generalize LawPZ w = PP at *
  have hq : (300 : Int) < (n : Int) ∨ (¬ (300 : Int) < (n : Int) ∧ ty < 0) ∨ (¬ (300 : Int) < (n : Int) ∧ ¬ ty < 0 ∧ 255 < ty) ∨ (¬ (300 : Int) < (n : Int) ∧ ¬ ty < 0 ∧ ¬ 255 < ty ∧ fl < 0) ∨ (¬ (300 : Int) < (n : Int) ∧ ¬ ty < 0 ∧ ¬ 255 < ty ∧ ¬ fl < 0 ∧ 255 < fl) ∨ (¬ (300 : Int) < (n : Int) ∧ ¬ ty < 0 ∧ ¬ 255 < ty ∧ ¬ fl < 0 ∧ ¬ 255 < fl ∧ st < 0) ∨ (¬ (300 : Int) < (n : Int) ∧ ¬ ty < 0 ∧ ¬ 255 < ty ∧ ¬ fl < 0 ∧ ¬ 255 < fl ∧ ¬ st < 0 ∧ 2147483647 < st) := by omega
  clear h
  rcases hq with g0 | ⟨g0, g1⟩ | ⟨g0, g1, g2⟩ | ⟨g0, g1, g2, g3⟩ | ⟨g0, g1, g2, g3, g4⟩ | ⟨g0, g1, g2, g3, g4, g5⟩ | ⟨g0, g1, g2, g3, g4, g5, g6⟩
  all_goals
    go_enter Try.func3, Try.ntmps3
    go_wp2_with fail
    with_reducible refine (HAW.out _).mono ?_
    rintro e w4 ⟨rfl, hf4⟩
    have HX := Lib.hid (HFIN.out _ ((Fresh.alloc _ _).trans hf4))
    clear hf4
    go_wp2_with fail
    exact HX.out
theorem PayloadParses_any (f : FrV) (w : World) (hf : f.Ok w) :
    Calls Try.prog 3 #[.agg #[.int .i64 f.ty, .int .i64 f.fl, .int .i64 f.st, .slice f.A f.l.length f.c]] w fun e w' => e = .returned (.bool true) ∧ Below w.heap.size w w' := by
  obtain ⟨ty, fl, st, A, c, l⟩ := f
  obtain ⟨_, _, _, hle, hmax, hbs⟩ := hf
  simp only at *
  show Calls _ _ _ _ (LawPZ w)
  by_cases h : l.length ≤ 300 ∧ 0 ≤ ty ∧ ty ≤ 255 ∧ 0 ≤ fl ∧ fl ≤ 255 ∧ 0 ≤ st ∧ st ≤ 2147483647
  · obtain ⟨hl, t0, t1, h0, h1, s0, s1⟩ := h
    obtain ⟨k, hk⟩ := firstB_exZ ty fl st l
    have hq : ∃ pr co cn, prsF ty fl st l k = (pr, co, cn) ∧ (co = 0 → cn = false) := by
      by_cases h6 : k < 6
      · obtain ⟨co, cn, hq, hco, _⟩ := fault_likeZ hk h6
        exact ⟨_, co, cn, hq, fun h => absurd h hco⟩
      · exact ⟨prOf ty fl l, 0, false, by rw [prsF, if_neg h6], fun _ => rfl⟩
    obtain ⟨pr, co, cn, hq, hcn⟩ := hq
    have hps := prsF_psZ ty fl st l k
    rw [hq] at hps
    refine parses_go ty fl st A c l.length l w hbs rfl hl t0 t1 h0 h1 s0 s1 pr co cn (flowN ty l.length) (fun W hw => pparse_at k ty fl st A c l W (hbs.fresh hw) hle hmax (by omega) hk _ hq) (fun W => ?_) (by simp only at hps; omega) (decide (co = 0)) rfl (fun h => hcn (by simpa using h))
    have := rp_any ty fl st l hl W k hk t0 h0 h1
    rw [hq] at this
    exact this
  · exact parses_no ty fl st A c l.length w h
end Go.Proofs.Ytcdghmidpaeloaa

