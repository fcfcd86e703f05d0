/-
  The law RegAlone: its walk.
-/
import Derived.Test.YtjediikcfhdgiaaDoorReg7
namespace Go.Proofs.YtjediikcfhdgiaaDoor
set_option maxRecDepth 100000
set_option linter.unusedVariables false
set_option linter.unusedSimpArgs false
open Go.RowKit Go.Maps
section
variable {w W W2 : World} {n t g mb lb h mb2 lb2 k N1 : Nat} {q lg lh : Int} {X Y : List StD}
theorem ap_only {S : Nat → Prop} (hy : RegX W w.heap.size h mb2 lb2 n q lh k k Y) (hap : ∀ b, blkX g mb lb X b → ¬ blkX h mb2 lb2 Y b) (ho : Only S W W2) (hS : ∀ b, S b → blkX g mb lb X b) : RegX W2 w.heap.size h mb2 lb2 n q lh k k Y :=
  hy.only ho (fun b hb hs => hap b (hS b hs) hb)
theorem ap_push {s : StD} (hx : RegX W w.heap.size g mb lb n q lg k k X) (hy : RegX W w.heap.size h mb2 lb2 n q lh k k Y) (hap : ∀ b, blkX g mb lb X b → ¬ blkX h mb2 lb2 Y b) (hp : W.heap.size ≤ s.p) : ∀ b, blkX g mb lb (X ++ [s]) b → ¬ blkX h mb2 lb2 Y b := by
  intro b hb hb2
  have hal := hy.alive
  rcases hb with e | e | e | ⟨u, hu, e⟩
  · exact hap b (.inl e) hb2
  · exact hap b (.inr (.inl e)) hb2
  · exact hap b (.inr (.inr (.inl e))) hb2
  · rcases List.mem_append.1 hu with hu | hu
    · exact hap b (.inr (.inr (.inr ⟨u, hu, e⟩))) hb2
    · simp only [List.mem_cons, List.not_mem_nil, or_false] at hu
      subst hu
      rcases hb2 with e2 | e2 | e2 | ⟨v, hv, e2⟩
      · have := hal.1; omega
      · have := hal.2.1; omega
      · have := hal.2.2.1; omega
      · have := hal.2.2.2 v hv; omega
theorem fresh_only {S : Nat → Prop} (hf : Fresh w W) (ho : Only S W W2) (hS : ∀ b, S b → w.heap.size ≤ b) : Fresh w W2 := Below.trans hf (Only.below ho hf.size hS)
end
theorem blk_new {w : World} {base g mb lb n : Nat} {q last : Int} {N : Nat} {K : Int} {X : List StD} (h : RegX w base g mb lb n q last N K X) {c : Nat} (hc : w.heap.size ≤ c) : ¬ blkX g mb lb X c := by
  obtain ⟨h1, h2, h3, h4⟩ := h.alive
  rintro (e | e | e | ⟨s, hs, e⟩)
  · omega
  · omega
  · omega
  · have := h4 s hs; omega
theorem stp_blk {g mb lb : Nat} {X : List StD} {id e : Int} {c : Nat} (h : blkX g mb lb (stepX X id e) c) : blkX g mb lb X c := by
  rcases h with h | h | h | ⟨u, hu, h⟩
  · exact .inl h
  · exact .inr (.inl h)
  · exact .inr (.inr (.inl h))
  · obtain ⟨v, hv, hp⟩ := step_blk hu
    exact .inr (.inr (.inr ⟨v, hv, by rw [h, hp]⟩))
theorem ap_step {g mb lb h mb2 lb2 : Nat} {X Y : List StD} {id e : Int} (hap : ∀ b, blkX g mb lb X b → ¬ blkX h mb2 lb2 Y b) (c : Nat) (h1 : blkX g mb lb (stepX X id e) c) : ¬ blkX h mb2 lb2 Y c := hap c (stp_blk h1)
structure LoopA (w : World) (A : Option Addr) (c m : Nat) (xs : List OpR) : Prop where
  le : m ≤ c
  rows : Many OpR.cells 3 w A xs
def RaP (w : World) (e : Ending) (w' : World) : Prop := e = .returned (.bool true) ∧ Fresh w w'
set_option maxHeartbeats 25600000 in
theorem alone_all (z : CaseR) (t : Int) (w : World) (hz : z.Ok w) (hT : Tbl w) : Calls Tryd.prog 5 #[z.v, .int .i64 t] w (RaP w) := by
  have HFIN : Hid (∀ W, Fresh w W → RaP w (.returned (.bool true)) W) := Lib.hid (fun W h => ⟨rfl, h⟩)
  have HRT := Lib.hid (fun W => l14_right z W)
  have HAW := Lib.hid (fun W (hf : Fresh w W) => rg_awake W (hT.fresh hf))
  have HT := Lib.hid hT
  have HTL := Lib.hid hT.lt
  have HR := Lib.hid hz.rows
  have HIN := Lib.hid hz.ok
  have hle := hz.le
  have hmx := hz.max
  clear hz hT
  generalize RaP w = PP at *
  obtain ⟨a, b, A, cc, xs⟩ := z
  unfold CaseR.v CaseR.arr CrOk at HRT
  unfold CaseR.v CaseR.arr
  simp only at HRT HR HIN hle hmx ⊢
  obtain ⟨m, hm⟩ : ∃ m, xs.length = m := ⟨_, rfl⟩
  have HM := Lib.hid hm
  rw [hm] at HRT hle ⊢
  clear hm
  unfold maxLen at hmx
  go_enter Tryd.func5, Tryd.ntmps5
  go_upto_region 1 with fail
  obtain ⟨b0, hb0⟩ : ∃ b0, w.heap.size = b0 := ⟨_, rfl⟩
  have HB0 := Lib.hid hb0
  rw [hb0]
  refine wp_gen (fun W => Fresh w W ∧ Blk W b0 24 #[.int .i64 a, .int .i64 b, .slice A m cc]) ⟨Fresh.alloc _ _, Blk.mkAt hb0⟩ ?_
  clear hb0
  rintro W ⟨hf0, hz0⟩
  have HF0 := Lib.hid hf0
  have HZ0 := Lib.hid hz0
  obtain ⟨z0, z1, z2⟩ := hz0.c3
  clear hf0 hz0
  go_wp2_with fail
  with_reducible refine (HRT.out _).mono ?_
  rintro e w1 ⟨r, rfl, hr1, hf1⟩
  have HF1 := Lib.hid (HF0.out.trans hf1)
  have HZ1 := Lib.hid (HZ0.out.fresh hf1)
  have HR1 := Lib.hid hr1
  clear hf1 hr1 z0 z1 z2 HRT
  obtain ⟨z0, z1, z2⟩ := HZ1.out.c3
  cases r with
  | false =>
    go_wp2_with fail
    with_reducible refine (HAW.out _ HF1.out).mono ?_
    rintro e w2 ⟨rfl, hf2⟩
    have HX := Lib.hid (HFIN.out _ (HF1.out.trans hf2))
    clear hf2
    go_wp2_with fail
    exact HX.out
  | true =>
    obtain ⟨ha1, ha2, hb1, hb2, hm100⟩ := HR1.out.1 rfl
    by_cases ht0 : t < 0
    · go_wp2_with fail
      with_reducible refine (HAW.out _ HF1.out).mono ?_
      rintro e w2 ⟨rfl, hf2⟩
      have HX := Lib.hid (HFIN.out _ (HF1.out.trans hf2))
      clear hf2
      go_wp2_with fail
      exact HX.out
    have dt0 : decide (t < 0) = false := decide_eq_false ht0
    by_cases hta : a ≤ t
    · clear ht0
      go_wp2_with fail
      with_reducible refine (HAW.out _ HF1.out).mono ?_
      rintro e w2 ⟨rfl, hf2⟩
      have HX := Lib.hid (HFIN.out _ (HF1.out.trans hf2))
      clear hf2
      go_wp2_with fail
      exact HX.out
    have dta : decide (a ≤ t) = false := decide_eq_false hta
    obtain ⟨n, rfl⟩ : ∃ n : Nat, a = (n : Int) := ⟨a.toNat, by omega⟩
    obtain ⟨t, rfl⟩ : ∃ u : Nat, t = (u : Int) := ⟨t.toNat, by omega⟩
    have HNM := Lib.hid (show 1 ≤ n ∧ n ≤ 64 ∧ 1 ≤ b ∧ b ≤ 65536 ∧ m ≤ 100 ∧ t < n from ⟨by omega, by omega, hb1, hb2, by omega, by omega⟩)
    have HN1 := Lib.hid (rg_new n b w1 (by omega) (by omega) hb1 hb2)
    have HN2 := Lib.hid (fun W => rg_new n b W (by omega) (by omega) hb1 hb2)
    unfold NewRP at HN1 HN2
    have dtn : decide (n ≤ t) = false := decide_eq_false (by omega)
    clear ht0 hta ha1 ha2 hb1 hb2 hm100
    go_wp2_with fail
    with_reducible refine HN1.out.mono ?_
    rintro e w2 ⟨g, mb, lb, rfl, hr2, hf2⟩
    have hX2 : RegX w2 w1.heap.size g mb lb n b 0 0 0 [] := ⟨hr2, by simp, by simp, by simp, by simp, by simp, by simp⟩
    have HX2 := Lib.hid hX2
    have HF2 := Lib.hid hf2
    clear hr2 hf2 hX2 z0 z1 z2 HN1
    obtain ⟨z0, z1, z2⟩ := (HZ1.out.fresh HF2.out).c3
    go_wp2_with fail
    with_reducible refine (HN2.out _).mono ?_
    rintro e w3 ⟨h, mb2, lb2, rfl, hr3, hf3⟩
    have hsz := HF2.out.size
    have hX3 : RegX w3 w1.heap.size h mb2 lb2 n b 0 0 0 [] := ⟨{ hr3 with bg := by have := hr3.bg; omega, bm := by have := hr3.bm; omega, bl := by have := hr3.bl; omega }, by simp, by simp, by simp, by simp, by simp, by simp⟩
    have HF3 := Lib.hid (HF2.out.trans hf3)
    have hal := HX2.out.alive
    have HTW : Hid (TwoR w1 n t b g mb lb h mb2 lb2 0 (-1) w3) := Lib.hid ⟨HF3.out, ⟨[], [], 0, 0, HX2.out.fresh hf3, hX3, fun k hk hk2 => by
      have e1 : k = g ∨ k = mb ∨ k = lb := by rcases hk with e | e | e | ⟨_, hu, _⟩; exact .inl e; exact .inr (.inl e); exact .inr (.inr e); cases hu
      have e2 : k = h ∨ k = mb2 ∨ k = lb2 := by rcases hk2 with e | e | e | ⟨_, hu, _⟩; exact .inl e; exact .inr (.inl e); exact .inr (.inr e); cases hu
      have := hr3.bg; have := hr3.bm; have := hr3.bl; have := hal.1; have := hal.2.1; have := hal.2.2.1
      omega, rfl, by simp, by simp, by decide, by decide⟩, by decide, by decide⟩
    clear hr3 hf3 hX3 hal hsz z0 z1 z2 HN2 HX2 HF2
    obtain ⟨z0, z1, z2⟩ := (HZ1.out.fresh HF3.out).c3
    go_upto_region 9 with fail
    clear z0 z1 z2
    go_loopw [9, 69] (fun lv iv wr => ∃ (k : Nat) (last : Int), k ≤ m ∧ iv = .int .i64 (k : Int) ∧ lv = .int .i64 last ∧ TwoR w1 n t b g mb lb h mb2 lb2 k last wr) (fun _ iv _ => m - (intOf iv).toNat)
    case atStart => exact ⟨0, -1, by omega, rfl, rfl, HTW.out⟩
    case round =>
      obtain ⟨k, last, hk, rfl, rfl, htw⟩ := hrel
      have HTR := Lib.hid htw
      clear htw HTW
      have hfr := HTR.out.fr
      obtain ⟨z0, z1, z2⟩ := (HZ1.out.fresh hfr).c3
      have HFR := Lib.hid hfr
      by_cases hlt : k < m
      · have hlt' : (k : Int) < (m : Int) := by omega
        obtain ⟨o, hx⟩ : ∃ x, xs[k]? = some x := ⟨_, List.getElem?_eq_getElem (by rw [HM.out]; exact hlt)⟩
        obtain ⟨rb, rf, rfl, hrb, y0, y1, y2⟩ := HR.out.atR k o hx
        have hoin := HIN.out o (List.mem_of_getElem? hx)
        have e0 := ((HF1.out.trans hfr).cell (p := ⟨rb, rf + k * 3, none⟩) hrb).trans y0
        have e1 := ((HF1.out.trans hfr).cell (p := ⟨rb, rf + k * 3 + 1, none⟩) hrb).trans y1
        have e2 := ((HF1.out.trans hfr).cell (p := ⟨rb, rf + k * 3 + 2, none⟩) hrb).trans y2
        obtain ⟨kd, N, ev⟩ := o
        simp only at e0 e1 e2
        obtain ⟨⟨hN0, hN1⟩⟩ := hoin
        simp only at hN0 hN1
        clear y0 y1 y2 hrb hx hfr
        go_upto_region 11 with fail
        obtain ⟨ob, hob⟩ : ∃ ob, wr.heap.size = ob := ⟨_, rfl⟩
        have hobw : wr.heap.size ≤ ob := Nat.le_of_eq hob
        rw [hob]
        refine wp_gen (fun W => Fresh wr W ∧ Blk W ob 34 #[.int .i64 kd, .int .i64 N, .int .i64 ev]) ⟨by repeat (first | with_reducible exact Fresh.alloc _ _ | with_reducible exact Fresh.refl _), by first | exact Blk.mkAt hob | (rw [← hob]; exact Blk.new _ _ _)⟩ ?_
        clear hob e0 e1 e2 z0 z1 z2
        rintro W4 ⟨hf4, hb4⟩
        have HT4 := Lib.hid (HTR.out.fresh hf4)
        have HB4 := Lib.hid hb4
        have HOBW := Lib.hid hobw
        obtain ⟨z0, z1, z2⟩ := (HZ1.out.fresh HT4.out.fr).c3
        obtain ⟨o0, o1, o2⟩ := hb4.c3
        have HF4 := Lib.hid hf4
        clear hf4 hb4 HFR hobw
        by_cases hk3 : kd = 3
        · subst hk3
          have HA4 := Lib.hid (HAW.out W4 (HF1.out.trans HT4.out.fr))
          go_wp2_with fail
          with_reducible refine HA4.out.mono ?_
          rintro e w5 ⟨rfl, hf5⟩
          have HX := Lib.hid (HFIN.out _ ((HF1.out.trans HT4.out.fr).trans hf5))
          clear hf5
          go_wp2_with fail
          exact HX.out
        have k3 : (kd == 3) = false := by simpa using hk3
        by_cases hk1 : kd = 1
        · subst hk1
          by_cases hb1 : N ≤ last
          · have HA4 := Lib.hid (HAW.out W4 (HF1.out.trans HT4.out.fr))
            go_wp2_with fail
            with_reducible refine HA4.out.mono ?_
            rintro e w5 ⟨rfl, hf5⟩
            have HX := Lib.hid (HFIN.out _ ((HF1.out.trans HT4.out.fr).trans hf5))
            clear hf5
            go_wp2_with fail
            exact HX.out
          have d1 : decide (N ≤ last) = false := decide_eq_false hb1
          by_cases hb2 : 1073741823 < N
          · have HA4 := Lib.hid (HAW.out W4 (HF1.out.trans HT4.out.fr))
            clear hb1
            go_wp2_with fail
            with_reducible refine HA4.out.mono ?_
            rintro e w5 ⟨rfl, hf5⟩
            have HX := Lib.hid (HFIN.out _ ((HF1.out.trans HT4.out.fr).trans hf5))
            clear hf5
            go_wp2_with fail
            exact HX.out
          have d2 : decide (1073741823 < N) = false := decide_eq_false hb2
          obtain ⟨X, Y, lg, lh, hX0, hY0, hap, hpr, hxl, hyl, hlg, hlh⟩ := HTR.out.two
          have hX := hX0.fresh HF4.out
          have hY := hY0.fresh HF4.out
          have HOBN : Hid (¬ blkX g mb lb X ob ∧ ¬ blkX h mb2 lb2 Y ob) := Lib.hid ⟨blk_new hX0 HOBW.out, blk_new hY0 HOBW.out⟩
          clear hX0 hY0
          have hl0 := HT4.out.l0
          obtain ⟨hn1, hn2, hq1, hq2, hm1, htn⟩ := HNM.out
          have hten := ten_lt (n := n) N hn1
          have hw0 := HF1.out.size
          have hw1 := HT4.out.fr.size
          have htb : 0 < w1.heap.size := by have := HTL.out; omega
          have HTB4 : Tbl W4 := (HT.out.fresh HF1.out).fresh HT4.out.fr
          have HO1 := Lib.hid (rg_openX hX HTB4 htb hw1 (by omega) (by omega) hn1 hn2 (by omega) hq2 (by omega) (by omega) (t := N))
          have hrem : N.tmod (n : Int) = (tenI n N : Int) := by rw [Int.tmod_eq_emod_of_nonneg (by omega)]; exact hten.2
          have hn0 : ¬ (n : Int) = 0 := by omega
          have hn0b : ((n : Int) == 0) = false := by simpa using (by omega : ¬ n = 0)
          have HCX := Lib.hid (show cntX n X t = cntX n Y t by rw [pr_cnt, pr_cnt, hpr])
          have HXX := Lib.hid hX
          have HYY := Lib.hid hY
          have HAP := Lib.hid hap
          have HNX := Lib.hid (show ∀ (k' : Nat), k' = k + 1 → True from fun _ _ => trivial)
          have HG := Lib.hid (show (∀ c, (c = g ∨ c = mb ∨ c = lb) → blkX g mb lb X c) ∧ (∀ c, (c = h ∨ c = mb2 ∨ c = lb2) → blkX h mb2 lb2 Y c) ∧ (∀ c, blkX g mb lb X c → w1.heap.size ≤ c) ∧ (∀ c, blkX h mb2 lb2 Y c → w1.heap.size ≤ c) from ⟨fun c e => by rcases e with e | e | e; exact .inl e; exact .inr (.inl e); exact .inr (.inr (.inl e)), fun c e => by rcases e with e | e | e; exact .inl e; exact .inr (.inl e); exact .inr (.inr (.inl e)), hX.base, hY.base⟩)
          have HNUM := Lib.hid (show X.length ≤ k ∧ Y.length ≤ k ∧ lg ≤ 2 * last + 2 ∧ lh ≤ 2 * last + 2 ∧ -1 ≤ last ∧ last < N ∧ N ≤ 1073741823 ∧ k < m from ⟨hxl, hyl, hlg, hlh, hl0, by omega, by omega, hlt⟩)
          have HPR := Lib.hid hpr
          have HTBF : Hid (∀ W, Fresh w1 W → Tbl W) := Lib.hid (fun W hf => (HT.out.fresh HF1.out).fresh hf)
          have HTB := Lib.hid htb
          unfold OpnXP at HO1
          by_cases how : tenI n N = t
          · have hto : ((tenI n N : Int) == (t : Int)) = true := by rw [how]; simp
            have hto2 : (tenI n N : Int) = (t : Int) := by rw [how]
            rw [hto2] at hrem
            rw [how] at HO1
            clear hX hY hap hpr hxl hyl hlg hlh hl0 hn1 hn2 hq1 hq2 hm1 htn hten hw0 hw1 htb HTB4 hb1 hb2 hto2
            go_wp2_with fail
            with_reducible refine HO1.out.mono ?_
            rintro e w5 ho1
            rcases ho1 with ⟨hq, s, hsid, hsa, rfl, hX5, hsp, ho5⟩ | ⟨hq, rfl, hX5, hf5⟩
            · have hY5 := ap_only HYY.out HAP.out ho5 HG.out.1
              have hF5 : Fresh w1 w5 := fresh_only HT4.out.fr ho5 (fun c e => HG.out.2.2.1 c (HG.out.1 c e))
              have hap5 := ap_push (s := s) HXX.out HYY.out HAP.out hsp
              have HX5 := Lib.hid hX5
              have HY5 := Lib.hid hY5
              have HF5 := Lib.hid hF5
              have HAP5 := Lib.hid hap5
              have HO2 := Lib.hid (rg_openX hY5 (HTBF.out _ hF5) HTB.out hF5.size (by have := HNUM.out; omega) (by have := HNUM.out; omega) HNM.out.1 HNM.out.2.1 (by have := HNUM.out; omega) HNM.out.2.2.2.1 (by have := HNUM.out; have := HNM.out; omega) (by omega) (t := N))
              unfold OpnXP at HO2
              rw [how, ← HCX.out] at HO2
              have HS := Lib.hid (And.intro hsid hsa)
              have HQ := Lib.hid hq
              obtain ⟨z0', z1', z2'⟩ := (HZ1.out.fresh hF5).c3
              have HBW : Hid (w5.cell? ⟨ob, 1, none⟩ = some (.int .i64 N)) := Lib.hid (by
                have h9 : ¬ (ob = g ∨ ob = mb ∨ ob = lb) := fun e => HOBN.out.1 (HG.out.1 ob e)
                have := (HB4.out.only ho5 h9).cell 1
                simpa using this)
              have y1 := HBW.out
              clear hX5 hsp ho5 hY5 hF5 hap5 hsid hsa hq HO1
              go_wp2_with fail
              with_reducible refine HO2.out.mono ?_
              rintro e w6 ho2
              rcases ho2 with ⟨_, s2, hsid2, hsa2, rfl, hY6, hsp2, ho6⟩ | ⟨hq2, _⟩
              · have hX6 : RegX w6 w1.heap.size g mb lb n b (2 * N + 1) (k + 1) (k + 1) (X ++ [s]) := HX5.out.only ho6 (fun c hc e => HAP5.out c hc (HG.out.2.1 c e))
                have hF6 : Fresh w1 w6 := fresh_only HF5.out ho6 (fun c e => HG.out.2.2.2 c (HG.out.2.1 c e))
                have hap6 : ∀ c, blkX h mb2 lb2 (Y ++ [s2]) c → ¬ blkX g mb lb (X ++ [s]) c := ap_push (w := w1) (W := w5) (k := k + 1) (n := n) (q := b) (lg := lh) (lh := 2 * N + 1) (s := s2) (HY5.out.mono (by omega) (by omega)) HX5.out (fun c h1 h2 => HAP5.out c h2 h1) hsp2
                have HNX2 : Hid (TwoR w1 n t b g mb lb h mb2 lb2 (k + 1) N w6) := Lib.hid ⟨hF6, ⟨X ++ [s], Y ++ [s2], 2 * N + 1, 2 * N + 1, hX6, hY6, fun c h1 h2 => hap6 c h2 h1, by
                  rw [pr_push_in X (by rw [HS.out.1, own_ten]; exact how), pr_push_in Y (by rw [hsid2, own_ten]; exact how), HPR.out, HS.out.1, hsid2, HS.out.2, hsa2], by have := HNUM.out; simp; omega, by have := HNUM.out; simp; omega, by omega, by omega⟩, by have := HNUM.out; omega, by have := HNUM.out; omega⟩
                clear hY6 hsp2 ho6 hX6 hF6 hap6 hsid2 hsa2 HO2
                go_wp2_with fail
                go_roundw
                case rel => exact ⟨k + 1, N, by omega, by go_num, rfl, HNX2.out⟩
                case measure => simp [intOf]; omega
              · exact absurd HQ.out (by omega)
            · have HF5 := Lib.hid hf5
              have HT5 := Lib.hid ((HT4.out.fresh hf5).next (l2 := N) (by have := HNUM.out; omega) (by have := HNUM.out; omega))
              have hY5 := HYY.out.fresh hf5
              have hF5 := HT4.out.fr.trans hf5
              have HO2 := Lib.hid (rg_openX hY5 (HTBF.out _ hF5) HTB.out hF5.size (by have := HNUM.out; omega) (by have := HNUM.out; omega) HNM.out.1 HNM.out.2.1 (by have := HNUM.out; omega) HNM.out.2.2.2.1 (by have := HNUM.out; have := HNM.out; omega) (by omega) (t := N))
              unfold OpnXP at HO2
              rw [how, ← HCX.out] at HO2
              have HQ := Lib.hid hq
              obtain ⟨z0', z1', z2'⟩ := (HZ1.out.fresh hF5).c3
              obtain ⟨y0, y1, y2⟩ := (HB4.out.fresh hf5).c3
              clear hX5 hf5 hY5 hF5 hq HO1
              go_wp2_with fail
              with_reducible refine HO2.out.mono ?_
              rintro e w6 ho2
              rcases ho2 with ⟨hq2, _⟩ | ⟨_, rfl, _, hf6⟩
              · exact absurd HQ.out (by omega)
              · have HT6 := Lib.hid (HT5.out.fresh hf6)
                clear hf6 HO2
                go_wp2_with fail
                go_roundw
                case rel => exact ⟨k + 1, N, by omega, by go_num, rfl, HT6.out⟩
                case measure => simp [intOf]; omega
          · have hto : ((tenI n N : Int) == (t : Int)) = false := beq_eq_false_iff_ne.2 (by omega)
            have hto2 : ¬ (tenI n N : Int) = (t : Int) := by omega
            have hto3 : ¬ tenI n N = t := how
            clear hX hY hap hpr hxl hyl hlg hlh hl0 hn1 hn2 hq1 hq2 hm1 htn hten hw0 hw1 htb HTB4 hb1 hb2
            have HHOW := Lib.hid how
            clear how
            generalize hTE : tenI n N = te at *
            have HTE := Lib.hid hTE
            clear hTE
            go_wp2_with fail
            with_reducible refine HO1.out.mono ?_
            rintro e w5 ho1
            rcases ho1 with ⟨hq, s, hsid, hsa, rfl, hX5, hsp, ho5⟩ | ⟨hq, rfl, hX5, hf5⟩
            · have hY5 := ap_only HYY.out HAP.out ho5 HG.out.1
              have hF5 : Fresh w1 w5 := fresh_only HT4.out.fr ho5 (fun c e => HG.out.2.2.1 c (HG.out.1 c e))
              have hap5 := ap_push (s := s) HXX.out HYY.out HAP.out hsp
              have HNX2 : Hid (TwoR w1 n t b g mb lb h mb2 lb2 (k + 1) N w5) := Lib.hid ⟨hF5, ⟨X ++ [s], Y, 2 * N + 1, lh, hX5, hY5.mono (by omega) (by omega), hap5, by
                rw [pr_push_out X (by rw [hsid, own_ten, HTE.out]; exact HHOW.out), HPR.out], by have := HNUM.out; simp; omega, by have := HNUM.out; omega, by omega, by have := HNUM.out; omega⟩, by have := HNUM.out; omega, by have := HNUM.out; omega⟩
              obtain ⟨z0', z1', z2'⟩ := (HZ1.out.fresh hF5).c3
              have HBW : Hid (w5.cell? ⟨ob, 1, none⟩ = some (.int .i64 N)) := Lib.hid (by
                have h9 : ¬ (ob = g ∨ ob = mb ∨ ob = lb) := fun e => HOBN.out.1 (HG.out.1 ob e)
                have := (HB4.out.only ho5 h9).cell 1
                simpa using this)
              have y1 := HBW.out
              clear hX5 hsp ho5 hY5 hF5 hap5 hsid hsa hq HO1
              go_wp2_with fail
              go_roundw
              case rel => exact ⟨k + 1, N, by omega, by go_num, rfl, HNX2.out⟩
              case measure => simp [intOf]; omega
            · have HT5 := Lib.hid ((HT4.out.fresh hf5).next (l2 := N) (by have := HNUM.out; omega) (by have := HNUM.out; omega))
              obtain ⟨z0', z1', z2'⟩ := (HZ1.out.fresh HT5.out.fr).c3
              obtain ⟨y0, y1, y2⟩ := (HB4.out.fresh hf5).c3
              clear hX5 hf5 hq HO1
              go_wp2_with fail
              go_roundw
              case rel => exact ⟨k + 1, N, by omega, by go_num, rfl, HT5.out⟩
              case measure => simp [intOf]; omega
        · have k1 : (kd == 1) = false := by simpa using hk1
          obtain ⟨hn1, hn2, hq1, hq2, hm1, htn⟩ := HNM.out
          have HOW := Lib.hid (fun W => rg_own_any N n W hn1 hn2)
          by_cases hk2 : kd = 2
          rotate_left
          · have k2 : (kd == 2) = false := by simpa using hk2
            have HT5 := Lib.hid (HT4.out.next (l2 := last) (Int.le_refl _) HT4.out.l1)
            clear hn1 hn2 hq1 hq2 hm1 htn
            generalize (if idOk N then (ownI n N : Int) else 0) = who at *
            go_wp2_with fail
            with_reducible refine (HOW.out _).mono ?_
            rintro e w5 ⟨rfl, hw⟩
            obtain rfl : W4 = w5 := hw.symm
            go_wp2_with fail
            go_roundw
            case rel => exact ⟨k + 1, last, by omega, by go_num, rfl, HT5.out⟩
            case measure => simp [intOf]; omega
          subst hk2
          by_cases hid : idOk N
          rotate_left
          · have hidd : decide (idOk N) = false := decide_eq_false hid
            rw [hidd] at HOW
            have HT5 := Lib.hid (HT4.out.next (l2 := last) (Int.le_refl _) HT4.out.l1)
            clear hn1 hn2 hq1 hq2 hm1 htn hid hidd
            generalize (if idOk N then (ownI n N : Int) else 0) = who at *
            go_wp2_with fail
            with_reducible refine (HOW.out _).mono ?_
            rintro e w5 ⟨rfl, hw⟩
            obtain rfl : W4 = w5 := hw.symm
            go_wp2_with fail
            go_roundw
            case rel => exact ⟨k + 1, last, by omega, by go_num, rfl, HT5.out⟩
            case measure => simp [intOf]; omega
          rw [if_pos hid, decide_eq_true hid] at HOW
          obtain ⟨X, Y, lg, lh, hX0, hY0, hap, hpr, hxl, hyl, hlg, hlh⟩ := HTR.out.two
          have hX := hX0.fresh HF4.out
          have hY := hY0.fresh HF4.out
          have HOBN : Hid (¬ blkX g mb lb X ob ∧ ¬ blkX h mb2 lb2 Y ob) := Lib.hid ⟨blk_new hX0 HOBW.out, blk_new hY0 HOBW.out⟩
          have htb : 0 < w1.heap.size := by have := HTL.out; have := HF1.out.size; omega
          have HTBF : Hid (∀ W, Fresh w1 W → Tbl W) := Lib.hid (fun W hf => (HT.out.fresh HF1.out).fresh hf)
          have HTB := Lib.hid htb
          have HD1 := Lib.hid (rg_do hX (HTBF.out _ HT4.out.fr) htb hn1 hn2 (by omega) (by omega) (by omega) N ev (by omega))
          unfold DoXP at HD1
          have HXX := Lib.hid hX
          have HYY := Lib.hid hY
          have HAP := Lib.hid hap
          have HPR := Lib.hid hpr
          have HNUM := Lib.hid (show X.length ≤ k ∧ Y.length ≤ k ∧ lg ≤ 2 * last + 2 ∧ lh ≤ 2 * last + 2 ∧ k < m from ⟨hxl, hyl, hlg, hlh, hlt⟩)
          have HLX := Lib.hid (And.intro (len_step X N ev) (len_step Y N ev))
          obtain ⟨V, hV⟩ : ∃ V, dV X N ev = V := ⟨_, rfl⟩
          have HV := Lib.hid hV
          rw [hV] at HD1
          clear hV
          obtain ⟨E, C, B⟩ := V
          simp only at HD1
          clear hX0 hY0 hX hY hap hpr hxl hyl hlg hlh htb hn1 hn2 hq1 hq2 hm1 htn hid
          by_cases how : ownI n N = t
          · have hwt : ((ownI n N : Int) == (t : Int)) = true := by rw [how]; simp
            rw [how] at HOW
            go_wp2_with fail
            with_reducible refine (HOW.out _).mono ?_
            rintro e w5 ⟨rfl, hw⟩
            obtain rfl : W4 = w5 := hw.symm
            go_wp2_with fail
            with_reducible refine HD1.out.mono ?_
            rintro e w5 ⟨rfl, hX5, ho5⟩
            have hY5 := ap_only HYY.out HAP.out ho5 (fun _ e => e)
            have hF5 : Fresh w1 w5 := fresh_only HT4.out.fr ho5 (fun c e => HXX.out.base c e)
            have hb5 := HB4.out.only ho5 HOBN.out.1
            have HX5 := Lib.hid hX5
            have HY5 := Lib.hid hY5
            have HF5 := Lib.hid hF5
            have HB5 := Lib.hid hb5
            clear hX5 hY5 hF5 hb5 ho5 HD1
            go_upto_region 23 with fail
            obtain ⟨f1, hf1⟩ : ∃ f1, w5.heap.size = f1 := ⟨_, rfl⟩
            have hf1w : w5.heap.size ≤ f1 := Nat.le_of_eq hf1
            rw [hf1]
            refine wp_gen (fun W => Fresh w5 W ∧ Blk W f1 56 #[.int .i64 C, .bool B]) ⟨by repeat (first | with_reducible exact Fresh.alloc _ _ | with_reducible exact Fresh.refl _), by first | exact Blk.mkAt hf1 | (rw [← hf1]; exact Blk.new _ _ _)⟩ ?_
            clear hf1
            rintro W6 ⟨hf6, hb6⟩
            have hX6 := HX5.out.fresh hf6
            have hY6 := HY5.out.fresh hf6
            have hF6 := HF5.out.trans hf6
            have HD2 := Lib.hid (rg_do hY6 (HTBF.out _ hF6) HTB.out HNM.out.1 HNM.out.2.1 (by omega) (by have := HNUM.out; have := HNM.out; omega) (by have := HNUM.out; have := HNM.out; omega) N ev (by omega))
            unfold DoXP at HD2
            rw [← dV_pr how HPR.out, HV.out] at HD2
            simp only at HD2
            have HX6 := Lib.hid hX6
            have HY6 := Lib.hid hY6
            have HF6 := Lib.hid hF6
            have HB6 := Lib.hid hb6
            have HFN : Hid (¬ blkX h mb2 lb2 Y f1) := Lib.hid (blk_new HY5.out hf1w)
            have hob6 := HB5.out.fresh hf6
            obtain ⟨y0, y1, y2⟩ := hob6.c3
            clear hX6 hY6 hF6 hb6 hf6 hf1w hob6 HX5 HY5 HF5
            go_wp2_with fail
            with_reducible refine HD2.out.mono ?_
            rintro e w7 ⟨rfl, hY7, ho7⟩
            have hX7 := HX6.out.only ho7 (fun c hc e => ap_step HAP.out c hc e)
            have hF7 : Fresh w1 w7 := fresh_only HF6.out ho7 (fun c e => HYY.out.base c e)
            have hb7 := HB6.out.only ho7 HFN.out
            have HNX2 : Hid (TwoR w1 n t b g mb lb h mb2 lb2 (k + 1) last w7) := Lib.hid ⟨hF7, ⟨stepX X N ev, stepX Y N ev, lg, lh, hX7.mono (by omega) (by omega), hY7.mono (by omega) (by omega), fun c h1 h2 => ap_step HAP.out c h1 (stp_blk h2), by
              exact pr_step_in how HPR.out ev, by have := HNUM.out; have := HLX.out; omega, by have := HNUM.out; have := HLX.out; omega, by have := HNUM.out; omega, by have := HNUM.out; omega⟩, by have := HT4.out.l0; omega, HT4.out.l1⟩
            have HB7 := Lib.hid hb7
            clear hY7 ho7 hX7 hF7 hb7 HD2 y0 y1 y2
            go_upto_region 25 with fail
            obtain ⟨f2, hf2⟩ : ∃ f2, w7.heap.size = f2 := ⟨_, rfl⟩
            rw [hf2]
            refine wp_gen (fun W => Fresh w7 W ∧ Blk W f2 56 #[.int .i64 C, .bool B]) ⟨by repeat (first | with_reducible exact Fresh.alloc _ _ | with_reducible exact Fresh.refl _), by first | exact Blk.mkAt hf2 | (rw [← hf2]; exact Blk.new _ _ _)⟩ ?_
            clear hf2
            rintro W8 ⟨hf8, hb8⟩
            obtain ⟨p0, p1⟩ := (HB7.out.fresh hf8).c2
            obtain ⟨q0, q1⟩ := hb8.c2
            have HNX8 := Lib.hid (HNX2.out.fresh hf8)
            clear hf8 hb8 HNX2
            have heE : (E != E) = false := by simp
            go_wp2_with fail
            go_roundw
            case rel => exact ⟨k + 1, last, by omega, by go_num, rfl, HNX8.out⟩
            case measure => simp [intOf]; omega
          · have hwt : ((ownI n N : Int) == (t : Int)) = false := beq_eq_false_iff_ne.2 (by omega)
            have hwt2 : ¬ (ownI n N : Int) = (t : Int) := by omega
            have HHOW := Lib.hid how
            clear how
            generalize hOO : ownI n N = oo at *
            have HOO := Lib.hid hOO
            clear hOO
            go_wp2_with fail
            with_reducible refine (HOW.out _).mono ?_
            rintro e w5 ⟨rfl, hw⟩
            obtain rfl : W4 = w5 := hw.symm
            go_wp2_with fail
            with_reducible refine HD1.out.mono ?_
            rintro e w5 ⟨rfl, hX5, ho5⟩
            have hY5 := ap_only HYY.out HAP.out ho5 (fun _ e => e)
            have hF5 : Fresh w1 w5 := fresh_only HT4.out.fr ho5 (fun c e => HXX.out.base c e)
            have HNX2 : Hid (TwoR w1 n t b g mb lb h mb2 lb2 (k + 1) last w5) := Lib.hid ⟨hF5, ⟨stepX X N ev, Y, lg, lh, hX5.mono (by omega) (by omega), hY5.mono (by omega) (by omega), fun c h1 h2 => HAP.out c (stp_blk h1) h2, by
              rw [pr_step_out (by rw [HOO.out]; exact HHOW.out), HPR.out], by have := HNUM.out; have := HLX.out; omega, by have := HNUM.out; omega, by have := HNUM.out; omega, by have := HNUM.out; omega⟩, by have := HT4.out.l0; omega, HT4.out.l1⟩
            clear hX5 hY5 hF5 ho5 HD1
            go_upto_region 23 with fail
            refine wp_gen (fun W => TwoR w1 n t b g mb lb h mb2 lb2 (k + 1) last W) (HNX2.out.fresh (by repeat (first | with_reducible exact Fresh.alloc _ _ | with_reducible exact Fresh.refl _))) ?_
            rintro W6 hT6
            have HT6 := Lib.hid hT6
            clear hT6 HNX2
            go_wp2_with fail
            go_roundw
            case rel => exact ⟨k + 1, last, by omega, by go_num, rfl, HT6.out⟩
            case measure => simp [intOf]; omega
      · obtain rfl : k = m := by omega
        have hnk : ¬ (k : Int) < (k : Int) := by omega
        obtain ⟨X, Y, lg, lh, hX, hY, hap, hpr, _⟩ := HTR.out.two
        have HL1 := Lib.hid (rg_live hX.reg t HNM.out.2.2.2.2.2 (cntX n X t) rfl)
        have HL2 := Lib.hid (rg_live hY.reg t HNM.out.2.2.2.2.2 (cntX n X t) (by rw [pr_cnt, pr_cnt, hpr]))
        clear hX hY hap hpr hfr
        obtain ⟨cc2, hcc2⟩ : ∃ c, cntX n X t = c := ⟨_, rfl⟩
        rw [hcc2] at HL1 HL2
        clear hcc2
        have hce : (cc2 == cc2) = true := by simp
        have HFW := Lib.hid (HF1.out.trans HTR.out.fr)
        go_wp2_with fail
        with_reducible refine HL1.out.mono ?_
        rintro e w5 ⟨rfl, hw⟩
        obtain rfl : wr = w5 := hw.symm
        go_wp2_with fail
        with_reducible refine HL2.out.mono ?_
        rintro e w5 ⟨rfl, hw⟩
        obtain rfl : wr = w5 := hw.symm
        go_wp2_with fail
        with_reducible refine (HAW.out _ HFW.out).mono ?_
        rintro e w5 ⟨rfl, hf5⟩
        have HX := Lib.hid (HFIN.out _ (HFW.out.trans hf5))
        clear hf5
        go_wp2_with fail
        exact HX.out
theorem RegAlone_any (z : CaseR) (t : Int) (w : World) (hz : z.Ok w) (ht : (Lit.int .i64 t).wf = true) (hT : Tbl w) : Calls Tryd.prog 5 #[z.v, .int .i64 t] w fun e w' => e = .returned (.bool true) ∧ Below w.heap.size w w' := alone_all z t w hz hT
end Go.Proofs.YtjediikcfhdgiaaDoor

