/-
  Package request: Response.
-/
import Derived.Test.YtapikjhfgcbifaaGreatDoorReqE
namespace Go.Proofs.YtapikjhfgcbifaaGreatDoor
set_option maxRecDepth 100000
set_option linter.unusedVariables false
set_option linter.unusedSimpArgs false
open Go.RowKit
def stsL : List UInt8 := [58, 115, 116, 97, 116, 117, 115]
/-- The first error of a response's beginning. -/
def rspE : List LnD → Nat
  | [] => 32
  | x :: t => if x.1.1.data.toList ≠ stsL then 32 else if psB t = true then 32 else if stN x.1.2.data.toList = 0 then 31 else chkR t
def RspP (l : List LnD) (w : World) (e : Ending) (w' : World) : Prop :=
  ∃ (n m : Nat) (A : Option Addr) (k : Nat), e = .returned (.tuple #[.agg #[.int .i64 (m : Int), .slice A k k], .int .i64 (n : Int)]) ∧ n = rspE l ∧ (n = 0 → ∃ x t, l = x :: t ∧ m = stN x.1.2.data.toList ∧ m ≠ 0 ∧ k = t.length ∧ Many fldD 2 w' A (t.map (·.1))) ∧ (n ≠ 0 → m = 0 ∧ A = none ∧ k = 0) ∧ Fresh w w'
theorem many_tail {w : World} {b o : Nat} {x : LnD} {t : List LnD} (h : Many lnD 3 w (some ⟨b, o, none⟩) (x :: t)) : Many lnD 3 w (some ⟨b, o + 3, none⟩) t := fun ht => by
  obtain ⟨b2, o2, e, hb, hc⟩ := h (by simp)
  cases e
  refine ⟨b, o + 3, rfl, hb, fun k hk j hj => ?_⟩
  have := hc (k + 1) (by simp; omega) j hj
  rw [show o + 3 + k * 3 + j = o + (k + 1) * 3 + j by omega]
  simpa using this
set_option maxHeartbeats 6400000 in
theorem rq_response (A0 : Option Addr) (c0 : Nat) (l : List LnD) (w : World) (hm : Many lnD 3 w A0 l) (hl : l.length ≤ 1000000) (hc : l.length ≤ c0) (hcm : c0 ≤ 140737488355328) (hs : ∀ x ∈ l, x.1.2.size ≤ 1000000) :
    Calls Tryz.prog 24 #[.slice A0 l.length c0] w (RspP l w) := by
  cases l with
  | nil =>
    have HE : Hid (∀ W, Fresh w W → RspP [] w (.returned (.tuple #[.agg #[.int .i64 0, .slice none 0 0], .int .i64 32])) W) := Lib.hid (fun W hf => ⟨32, 0, none, 0, rfl, rfl, (fun h => by omega), (fun _ => ⟨rfl, rfl, rfl⟩), hf⟩)
    clear hm hs
    generalize RspP [] w = PP at *
    rw [List.length_nil]
    go_enter Tryz.func24, Tryz.ntmps24
    go_wp2_with fail
    refine wx_gen (fun W => Blk W w.heap.size 53 #[.int .i64 0, .slice none 0 0] ∧ Fresh w W) ⟨by first | exact Blk.new _ _ _ | simpa using ((Blk.new w 53 #[.int .i64 0, .slice none 0 0]).set 0 (.int .i64 0)).set 1 (.slice none 0 0), by first | exact Fresh.alloc _ _ | exact ((Fresh.alloc w _).step _ _ (Nat.le_refl _)).step _ _ (Nat.le_refl _)⟩ ?_
    rintro W ⟨hb, hf⟩
    obtain ⟨g0, g1⟩ := hb.c2
    exact bodyPost_ret (v := .tuple #[.agg #[.int .i64 0, .slice none 0 0], .int .i64 32]) (by simp [results, Tryz.results24, go_sem, g0, g1]) rfl (HE.out W hf)
  | cons x t =>
    obtain ⟨b, o, rfl, hb, h0, h1, h2⟩ := hm.lnAt 0 x rfl
    obtain ⟨o', c', hmt, hcase⟩ : ∃ o' c', Many lnD 3 w (some ⟨b, o', none⟩) t ∧ ((c0 = 1 ∧ o' = o ∧ c' = 0) ∨ (1 < c0 ∧ o' = o + 3 ∧ c' = c0 - 1)) := by
      by_cases h1 : c0 = 1
      · refine ⟨o, 0, ?_, .inl ⟨h1, rfl, rfl⟩⟩
        rw [List.length_cons] at hc
        have : t = [] := List.length_eq_zero_iff.1 (by omega)
        subst this
        exact Many.nil _ _ _ _
      · rw [List.length_cons] at hc
        exact ⟨o + 3, c0 - 1, many_tail hm, .inr ⟨by omega, rfl, rfl⟩⟩
    have HMT := Lib.hid hmt
    clear hmt
    have HM := Lib.hid hm
    rw [Nat.zero_mul, Nat.add_zero] at h0 h1 h2
    simp only [List.length_cons] at hl hc ⊢
    obtain ⟨n, hn⟩ : ∃ n, t.length = n := ⟨_, rfl⟩
    have HN := Lib.hid hn
    obtain ⟨nm, hnm⟩ : ∃ nm, x.1.1 = nm := ⟨_, rfl⟩
    obtain ⟨vl, hvl⟩ : ∃ vl, x.1.2 = vl := ⟨_, rfl⟩
    obtain ⟨ps, hps⟩ : ∃ ps, psB t = ps := ⟨_, rfl⟩
    obtain ⟨ck, hck⟩ : ∃ ck, chkR t = ck := ⟨_, rfl⟩
    have HVS := Lib.hid (hs x (List.mem_cons_self ..))
    rw [hvl] at HVS
    have HP := Lib.hid (fun W (h : Fresh w W) => rq_pseudo (some ⟨b, o', none⟩) c' t W (HMT.out.fresh h) (by omega) ps hps)
    have HC := Lib.hid (fun W (h : Fresh w W) => cl_check (some ⟨b, o', none⟩) c' t W (HMT.out.fresh h) (by omega) (fun y hy => hs y (List.mem_cons_of_mem _ hy)))
    have HF := Lib.hid (fun W (h : Fresh w W) => de_fields (some ⟨b, o', none⟩) c' t W (HMT.out.fresh h) (by omega))
    have HST := Lib.hid (fun W => rq_status vl W (by have := HVS.out; omega))
    unfold ChkP at HC
    unfold FldsP at HF
    unfold StP at HST
    rw [hn] at HP HC HF hl hc ⊢
    rw [hnm] at h0
    rw [hvl] at h1
    have HE1 : Hid (∀ W, ((nm.toList == stsL) = false ∨ ps = true) → Fresh w W → RspP (x :: t) w (.returned (.tuple #[.agg #[.int .i64 0, .slice none 0 0], .int .i64 32])) W) := Lib.hid (fun W h hf => ⟨32, 0, none, 0, rfl, by
      show 32 = (if x.1.1.data.toList ≠ stsL then 32 else if psB t = true then 32 else if stN x.1.2.data.toList = 0 then 31 else chkR t)
      rw [hnm, hps]
      rcases h with h | h
      · rw [if_pos (by rw [← Lib.toList_data]; simpa using h)]
      · rw [if_pos h]
        simp, (fun h => by omega), (fun _ => ⟨rfl, rfl, rfl⟩), hf⟩)
    have HE2 : Hid (∀ W, (nm.toList == stsL) = true → ps = false → stN vl.data.toList = 0 → Fresh w W → RspP (x :: t) w (.returned (.tuple #[.agg #[.int .i64 0, .slice none 0 0], .int .i64 31])) W) := Lib.hid (fun W h h2 h3 hf => ⟨31, 0, none, 0, rfl, by
      show 31 = (if x.1.1.data.toList ≠ stsL then 32 else if psB t = true then 32 else if stN x.1.2.data.toList = 0 then 31 else chkR t)
      rw [hnm, hps, hvl, if_neg (by rw [← Lib.toList_data]; simpa using h), if_neg (by simp [h2]), if_pos h3], (fun h => by omega), (fun _ => ⟨rfl, rfl, rfl⟩), hf⟩)
    have HE3 : Hid (∀ W, (nm.toList == stsL) = true → ps = false → stN vl.data.toList ≠ 0 → ck ≠ 0 → Fresh w W → RspP (x :: t) w (.returned (.tuple #[.agg #[.int .i64 0, .slice none 0 0], .int .i64 (ck : Int)])) W) := Lib.hid (fun W h h2 h3 h4 hf => ⟨ck, 0, none, 0, rfl, by
      show ck = (if x.1.1.data.toList ≠ stsL then 32 else if psB t = true then 32 else if stN x.1.2.data.toList = 0 then 31 else chkR t)
      rw [hnm, hps, hvl, if_neg (by rw [← Lib.toList_data]; simpa using h), if_neg (by simp [h2]), if_neg h3, hck], (fun h => absurd h h4), (fun _ => ⟨rfl, rfl, rfl⟩), hf⟩)
    have HY : Hid (∀ (m : Nat) (A : Option Addr) W, (nm.toList == stsL) = true → ps = false → stN vl.data.toList ≠ 0 → ck = 0 → m = stN vl.data.toList → Many fldD 2 W A (t.map (·.1)) → Fresh w W → RspP (x :: t) w (.returned (.tuple #[.agg #[.int .i64 (m : Int), .slice A n n], .int .i64 0])) W) := Lib.hid (fun m A W h h2 h3 h4 h5 h6 hf => ⟨0, m, A, n, rfl, by
      show 0 = (if x.1.1.data.toList ≠ stsL then 32 else if psB t = true then 32 else if stN x.1.2.data.toList = 0 then 31 else chkR t)
      rw [hnm, hps, hvl, if_neg (by rw [← Lib.toList_data]; simpa using h), if_neg (by simp [h2]), if_neg h3, hck, h4], (fun _ => ⟨x, t, rfl, by rw [hvl]; exact h5, by rw [h5]; exact h3, hn.symm, h6⟩), (fun h => absurd rfl h), hf⟩)
    have hc1 : (1 : Int) ≤ ((n + 1 : Nat) : Int) := by omega
    have hc2 : n + 1 - 1 = n := by omega
    have hne0 : (((n + 1 : Nat) : Int) == 0) = false := by simp; omega
    have hne1 : ((n : Int) + 1 == 0) = false := by simp; omega
    have h0p : (0 : Int) < ((n + 1 : Nat) : Int) := by omega
    have h0q : (0 : Int) < (n : Int) + 1 := by omega
    have HCK := Lib.hid hck
    clear hm hs hn hnm hvl hps hck HM HMT
    generalize RspP (x :: t) w = PP at *
    obtain ⟨r, hr⟩ : ∃ r, (nm.toList == stsL) = r := ⟨_, rfl⟩
    rw [hr] at HE1 HE2 HE3 HY
    unfold stsL at hr
    have hr2 : (nm.toList != [58, 115, 116, 97, 116, 117, 115]) = !r := by rw [← hr]; rfl
    go_enter Tryz.func24, Tryz.ntmps24
    obtain ⟨QB, hQB⟩ : ∃ QB, bodyPost Tryz.prog Tryz.f24 PP = QB := ⟨_, rfl⟩
    have HQB := Lib.hid hQB
    rw [hQB]
    clear hQB
    go_upto_region 1 with fail
    refine wp_gen (fun W => Blk W w.heap.size 53 #[.int .i64 0, .slice none 0 0] ∧ Fresh w W) ⟨Blk.new w _ _, Fresh.alloc _ _⟩ ?_
    rintro W1 ⟨hbq, hf1⟩
    obtain ⟨p, hp⟩ : ∃ p, w.heap.size = p := ⟨_, rfl⟩
    have HPB := Lib.hid hp
    rw [hp] at hbq ⊢
    clear hp
    have e0 := (hf1.cell (p := ⟨b, o, none⟩) hb).trans h0
    have HV1 : Hid (∀ W, Fresh w W → W.cell? ⟨b, o + 1, none⟩ = some (.string vl)) := Lib.hid (fun W hf => (hf.cell (p := ⟨b, o + 1, none⟩) hb).trans h1)
    have HB1 := Lib.hid hbq
    have HF1 := Lib.hid hf1
    clear h0 h1 h2 hbq hf1
    cases r
    · obtain ⟨g0, g1⟩ := HB1.out.c2
      have z0 := HB1.out.frozen 0
      have z1 := HB1.out.frozen 1
      go_wp2_with fail
      refine wx_gen (fun W => Blk W p 53 #[.int .i64 0, .slice none 0 0] ∧ Fresh w W) ⟨by simpa using (HB1.out.set 0 (.int .i64 0)).set 1 (.slice none 0 0), (HF1.out.step _ _ (by rw [HPB.out]; exact Nat.le_refl _)).step _ _ (by rw [HPB.out]; exact Nat.le_refl _)⟩ ?_
      rintro W9 ⟨hb9, hf9⟩
      obtain ⟨q0, q1⟩ := hb9.c2
      rw [← HQB.out]
      exact bodyPost_ret (v := .tuple #[.agg #[.int .i64 0, .slice none 0 0], .int .i64 32]) (by simp [results, Tryz.results24, go_sem, q0, q1]) rfl (HE1.out W9 (.inl (by trivial)) hf9)
    have hB2 : Hid (∀ W, Fresh W1 W → Blk W p 53 #[.int .i64 0, .slice none 0 0]) := Lib.hid (fun W h => HB1.out.fresh h)
    rcases hcase with ⟨rfl, rfl, rfl⟩ | ⟨hc5, rfl, rfl⟩
    rotate_left
    · have x1 : (c0 ≤ 1) = False := by simp; omega
      have x2 : (c0 - 1 = 0) = False := by simp; omega
      go_wp2_with fail
      with_reducible refine (HP.out _ HF1.out).mono ?_
      rintro e w2 ⟨rfl, hf⟩
      have HF2 := Lib.hid (HF1.out.trans hf)
      have HB2 := Lib.hid (hB2.out _ hf)
      have HG2 := Lib.hid hf
      clear hf e0
      cases ps
      rotate_left
      · obtain ⟨g0, g1⟩ := HB2.out.c2
        have z0 := HB2.out.frozen 0
        have z1 := HB2.out.frozen 1
        go_wp2_with fail
        refine wx_gen (fun W => Blk W p 53 #[.int .i64 0, .slice none 0 0] ∧ Fresh w W) ⟨by simpa using (HB2.out.set 0 (.int .i64 0)).set 1 (.slice none 0 0), (HF2.out.step _ _ (by rw [HPB.out]; exact Nat.le_refl _)).step _ _ (by rw [HPB.out]; exact Nat.le_refl _)⟩ ?_
        rintro W9 ⟨hb9, hf9⟩
        obtain ⟨q0, q1⟩ := hb9.c2
        rw [← HQB.out]
        exact bodyPost_ret (v := .tuple #[.agg #[.int .i64 0, .slice none 0 0], .int .i64 32]) (by simp [results, Tryz.results24, go_sem, q0, q1]) rfl (HE1.out W9 (.inr (by trivial)) hf9)
      have e1 := HV1.out _ HF2.out
      go_wp2_with fail
      with_reducible refine (HST.out _).mono ?_
      rintro e w3 ⟨m, sb, rfl, hsb, hmv, hw⟩
      obtain rfl : w2 = w3 := hw.symm
      have HSB := Lib.hid hsb
      have HMV := Lib.hid hmv
      clear hsb hmv e1
      cases sb
      · obtain ⟨g0, g1⟩ := HB2.out.c2
        have z0 := HB2.out.frozen 0
        have z1 := HB2.out.frozen 1
        have HS0 : Hid (stN vl.data.toList = 0) := Lib.hid (by have := HSB.out; simpa using this)
        go_wp2_with fail
        refine wx_gen (fun W => Blk W p 53 #[.int .i64 0, .slice none 0 0] ∧ Fresh w W) ⟨by simpa using (HB2.out.set 0 (.int .i64 0)).set 1 (.slice none 0 0), (HF2.out.step _ _ (by rw [HPB.out]; exact Nat.le_refl _)).step _ _ (by rw [HPB.out]; exact Nat.le_refl _)⟩ ?_
        rintro W9 ⟨hb9, hf9⟩
        obtain ⟨q0, q1⟩ := hb9.c2
        rw [← HQB.out]
        exact bodyPost_ret (v := .tuple #[.agg #[.int .i64 0, .slice none 0 0], .int .i64 31]) (by simp [results, Tryz.results24, go_sem, q0, q1]) rfl (HE2.out W9 (by trivial) (by trivial) HS0.out hf9)
      have HS0 : Hid (stN vl.data.toList ≠ 0) := Lib.hid (by have := HSB.out; simpa using this)
      go_wp2_with fail
      with_reducible refine (HC.out _ HF2.out).mono ?_
      rintro e w4 ⟨n4, rfl, hn4, hf⟩
      rw [HCK.out] at hn4
      subst hn4
      have HF4 := Lib.hid (HF2.out.trans hf)
      have HB4 := Lib.hid (HB2.out.fresh hf)
      clear hf
      by_cases hck0 : ck = 0
      rotate_left
      · have d0 : ((ck : Int) != 0) = true := by simp; omega
        have HX := Lib.hid (fun W (h : Fresh w W) => HE3.out W (by trivial) (by trivial) HS0.out hck0 h)
        clear hck0
        obtain ⟨g0, g1⟩ := HB4.out.c2
        have z0 := HB4.out.frozen 0
        have z1 := HB4.out.frozen 1
        go_wp2_with fail
        refine wx_gen (fun W => Blk W p 53 #[.int .i64 0, .slice none 0 0] ∧ Fresh w W) ⟨by simpa using (HB4.out.set 0 (.int .i64 0)).set 1 (.slice none 0 0), (HF4.out.step _ _ (by rw [HPB.out]; exact Nat.le_refl _)).step _ _ (by rw [HPB.out]; exact Nat.le_refl _)⟩ ?_
        rintro W9 ⟨hb9, hf9⟩
        obtain ⟨q0, q1⟩ := hb9.c2
        rw [← HQB.out]
        exact bodyPost_ret (v := .tuple #[.agg #[.int .i64 0, .slice none 0 0], .int .i64 (ck : Int)]) (by simp [results, Tryz.results24, go_sem, q0, q1]) rfl (HX.out W9 hf9)
      have d0 : ((ck : Int) != 0) = false := by rw [hck0]; rfl
      have HX := Lib.hid (fun A W (hm : Many fldD 2 W A (t.map (·.1))) (h : Fresh w W) => HY.out m A W (by trivial) (by trivial) HS0.out hck0 (HMV.out (by trivial)) hm h)
      clear hck0
      go_wp2_with fail
      with_reducible refine (HF.out _ HF4.out).mono ?_
      rintro e w5 ⟨P, rfl, hP, hmf, hf⟩
      have HF5 := Lib.hid (HF4.out.trans hf)
      have HB5 := Lib.hid (HB4.out.fresh hf)
      have HP5 := Lib.hid hP
      have HM5 := Lib.hid hmf
      clear hf hmf hP
      obtain ⟨g0, g1⟩ := HB5.out.c2
      have z0 := HB5.out.frozen 0
      have z1 := HB5.out.frozen 1
      have HLP : Hid (p < P) := Lib.hid (Nat.lt_of_lt_of_le HB4.out.lt HP5.out)
      go_wp2_with fail
      refine wx_gen (fun W => Blk W p 53 #[.int .i64 (m : Int), .slice (some ⟨P, 0, none⟩) n n] ∧ Fresh w W ∧ Only (fun k => k = p) w5 W) ⟨by simpa using (HB5.out.set 0 (.int .i64 (m : Int))).set 1 (.slice (some ⟨P, 0, none⟩) n n), (HF5.out.step _ _ (by rw [HPB.out]; exact Nat.le_refl _)).step _ _ (by rw [HPB.out]; exact Nat.le_refl _), by have h0 : Only (fun k => k = p) w5 w5 := Only.of_fresh (Fresh.refl _); exact (h0.step ⟨p, 0, none⟩ _ (.inl rfl)).step ⟨p, 1, none⟩ _ (.inl rfl)⟩ ?_
      rintro W9 ⟨hb9, hf9, ho9⟩
      obtain ⟨q0, q1⟩ := hb9.c2
      rw [← HQB.out]
      exact bodyPost_ret (v := .tuple #[.agg #[.int .i64 (m : Int), .slice (some ⟨P, 0, none⟩) n n], .int .i64 0]) (by simp [results, Tryz.results24, go_sem, q0, q1]) rfl (HX.out (some ⟨P, 0, none⟩) W9 (HM5.out.only ho9 (fun b o e => by cases e; have := HLP.out; omega)) hf9)
    go_wp2_with fail
    with_reducible refine (HP.out _ HF1.out).mono ?_
    rintro e w2 ⟨rfl, hf⟩
    have HF2 := Lib.hid (HF1.out.trans hf)
    have HB2 := Lib.hid (hB2.out _ hf)
    have HG2 := Lib.hid hf
    clear hf e0
    cases ps
    rotate_left
    · obtain ⟨g0, g1⟩ := HB2.out.c2
      have z0 := HB2.out.frozen 0
      have z1 := HB2.out.frozen 1
      go_wp2_with fail
      refine wx_gen (fun W => Blk W p 53 #[.int .i64 0, .slice none 0 0] ∧ Fresh w W) ⟨by simpa using (HB2.out.set 0 (.int .i64 0)).set 1 (.slice none 0 0), (HF2.out.step _ _ (by rw [HPB.out]; exact Nat.le_refl _)).step _ _ (by rw [HPB.out]; exact Nat.le_refl _)⟩ ?_
      rintro W9 ⟨hb9, hf9⟩
      obtain ⟨q0, q1⟩ := hb9.c2
      rw [← HQB.out]
      exact bodyPost_ret (v := .tuple #[.agg #[.int .i64 0, .slice none 0 0], .int .i64 32]) (by simp [results, Tryz.results24, go_sem, q0, q1]) rfl (HE1.out W9 (.inr (by trivial)) hf9)
    have e1 := HV1.out _ HF2.out
    go_wp2_with fail
    with_reducible refine (HST.out _).mono ?_
    rintro e w3 ⟨m, sb, rfl, hsb, hmv, hw⟩
    obtain rfl : w2 = w3 := hw.symm
    have HSB := Lib.hid hsb
    have HMV := Lib.hid hmv
    clear hsb hmv e1
    cases sb
    · obtain ⟨g0, g1⟩ := HB2.out.c2
      have z0 := HB2.out.frozen 0
      have z1 := HB2.out.frozen 1
      have HS0 : Hid (stN vl.data.toList = 0) := Lib.hid (by have := HSB.out; simpa using this)
      go_wp2_with fail
      refine wx_gen (fun W => Blk W p 53 #[.int .i64 0, .slice none 0 0] ∧ Fresh w W) ⟨by simpa using (HB2.out.set 0 (.int .i64 0)).set 1 (.slice none 0 0), (HF2.out.step _ _ (by rw [HPB.out]; exact Nat.le_refl _)).step _ _ (by rw [HPB.out]; exact Nat.le_refl _)⟩ ?_
      rintro W9 ⟨hb9, hf9⟩
      obtain ⟨q0, q1⟩ := hb9.c2
      rw [← HQB.out]
      exact bodyPost_ret (v := .tuple #[.agg #[.int .i64 0, .slice none 0 0], .int .i64 31]) (by simp [results, Tryz.results24, go_sem, q0, q1]) rfl (HE2.out W9 (by trivial) (by trivial) HS0.out hf9)
    have HS0 : Hid (stN vl.data.toList ≠ 0) := Lib.hid (by have := HSB.out; simpa using this)
    go_wp2_with fail
    with_reducible refine (HC.out _ HF2.out).mono ?_
    rintro e w4 ⟨n4, rfl, hn4, hf⟩
    rw [HCK.out] at hn4
    subst hn4
    have HF4 := Lib.hid (HF2.out.trans hf)
    have HB4 := Lib.hid (HB2.out.fresh hf)
    clear hf
    by_cases hck0 : ck = 0
    rotate_left
    · have d0 : ((ck : Int) != 0) = true := by simp; omega
      have HX := Lib.hid (fun W (h : Fresh w W) => HE3.out W (by trivial) (by trivial) HS0.out hck0 h)
      clear hck0
      obtain ⟨g0, g1⟩ := HB4.out.c2
      have z0 := HB4.out.frozen 0
      have z1 := HB4.out.frozen 1
      go_wp2_with fail
      refine wx_gen (fun W => Blk W p 53 #[.int .i64 0, .slice none 0 0] ∧ Fresh w W) ⟨by simpa using (HB4.out.set 0 (.int .i64 0)).set 1 (.slice none 0 0), (HF4.out.step _ _ (by rw [HPB.out]; exact Nat.le_refl _)).step _ _ (by rw [HPB.out]; exact Nat.le_refl _)⟩ ?_
      rintro W9 ⟨hb9, hf9⟩
      obtain ⟨q0, q1⟩ := hb9.c2
      rw [← HQB.out]
      exact bodyPost_ret (v := .tuple #[.agg #[.int .i64 0, .slice none 0 0], .int .i64 (ck : Int)]) (by simp [results, Tryz.results24, go_sem, q0, q1]) rfl (HX.out W9 hf9)
    have d0 : ((ck : Int) != 0) = false := by rw [hck0]; rfl
    have HX := Lib.hid (fun A W (hm : Many fldD 2 W A (t.map (·.1))) (h : Fresh w W) => HY.out m A W (by trivial) (by trivial) HS0.out hck0 (HMV.out (by trivial)) hm h)
    clear hck0
    go_wp2_with fail
    with_reducible refine (HF.out _ HF4.out).mono ?_
    rintro e w5 ⟨P, rfl, hP, hmf, hf⟩
    have HF5 := Lib.hid (HF4.out.trans hf)
    have HB5 := Lib.hid (HB4.out.fresh hf)
    have HP5 := Lib.hid hP
    have HM5 := Lib.hid hmf
    clear hf hmf hP
    obtain ⟨g0, g1⟩ := HB5.out.c2
    have z0 := HB5.out.frozen 0
    have z1 := HB5.out.frozen 1
    have HLP : Hid (p < P) := Lib.hid (Nat.lt_of_lt_of_le HB4.out.lt HP5.out)
    go_wp2_with fail
    refine wx_gen (fun W => Blk W p 53 #[.int .i64 (m : Int), .slice (some ⟨P, 0, none⟩) n n] ∧ Fresh w W ∧ Only (fun k => k = p) w5 W) ⟨by simpa using (HB5.out.set 0 (.int .i64 (m : Int))).set 1 (.slice (some ⟨P, 0, none⟩) n n), (HF5.out.step _ _ (by rw [HPB.out]; exact Nat.le_refl _)).step _ _ (by rw [HPB.out]; exact Nat.le_refl _), by have h0 : Only (fun k => k = p) w5 w5 := Only.of_fresh (Fresh.refl _); exact (h0.step ⟨p, 0, none⟩ _ (.inl rfl)).step ⟨p, 1, none⟩ _ (.inl rfl)⟩ ?_
    rintro W9 ⟨hb9, hf9, ho9⟩
    obtain ⟨q0, q1⟩ := hb9.c2
    rw [← HQB.out]
    exact bodyPost_ret (v := .tuple #[.agg #[.int .i64 (m : Int), .slice (some ⟨P, 0, none⟩) n n], .int .i64 0]) (by simp [results, Tryz.results24, go_sem, q0, q1]) rfl (HX.out (some ⟨P, 0, none⟩) W9 (HM5.out.only ho9 (fun b o e => by cases e; have := HLP.out; omega)) hf9)
end Go.Proofs.YtapikjhfgcbifaaGreatDoor

