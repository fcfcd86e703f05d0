/-
  The law ReasmCopies: its walk.
-/
import Derived.Test.YtgmgnokmeocmjaaReasmL
import Derived.Test.YtgmgnokmeocmjaaReasmS
namespace Go.Proofs.Ytgmgnokmeocmjaa
set_option linter.unusedVariables false
open Go.RowKit

theorem totB_each' {ls : List BSl} (h : totB ls ≤ 500) : ∀ x ∈ ls, x.l.length ≤ 500 := fun x hx => by
  obtain ⟨k, hk⟩ := List.getElem?_of_mem hx
  have h1 := totB_take ls k x hk
  have h2 := totB_le ls (k + 1)
  omega
/-- The state behind chunks. -/
def foldS (most : Int) (s : Option (List UInt8)) (xs : List BSl) : Option (List UInt8) := xs.foldl (fun s x => feedS most s x.l) s
theorem foldS_succ (most : Int) (s : Option (List UInt8)) (xs : List BSl) (k : Nat) (x : BSl) (h : xs[k]? = some x) : foldS most s (xs.take (k + 1)) = feedS most (foldS most s (xs.take k)) x.l := by
  obtain ⟨hk, rfl⟩ := List.getElem?_eq_some_iff.1 h
  unfold foldS
  rw [List.take_succ_eq_append_getElem hk, List.foldl_append]
  rfl

/-- One reassembler beside another one. -/
structure TwoRs (w wr : World) (p q : Nat) (most : Int) (s t : Option (List UInt8)) (v u : Value) : Prop where
  r : RsV wr p most s v
  c : RsV wr q most t u
  pw : w.heap.size ≤ p
  vw : ∀ k, v.ownBlock = some k → w.heap.size ≤ k
  pq : p ≠ q
  vq : ∀ k, v.ownBlock = some k → k ≠ q ∧ u.ownBlock ≠ some k
  up : u.ownBlock ≠ some p
  fr : Fresh w wr
  qw : w.heap.size ≤ q
  uw : ∀ k, u.ownBlock = some k → w.heap.size ≤ k
theorem TwoRs.swap {w wr : World} {p q : Nat} {most : Int} {s t : Option (List UInt8)} {v u : Value} (h : TwoRs w wr p q most s t v u) : TwoRs w wr q p most t s u v :=
  ⟨h.c, h.r, h.qw, h.uw, h.pq.symm, fun k hk => ⟨fun e => by subst e; exact h.up hk, fun e => (h.vq k e).2 hk⟩, fun e => (h.vq q e).1 rfl, h.fr, h.pw, h.vw⟩
theorem TwoRs.feed {w wr w' : World} {p q : Nat} {most : Int} {s s' t : Option (List UInt8)} {v v' u : Value} (h : TwoRs w wr p q most s t v u) (hr : RsV w' p most s' v') (ho : Only (fun k => k = p ∨ v.ownBlock = some k) wr w') (hv : ∀ k, v'.ownBlock = some k → v.ownBlock = some k ∨ wr.heap.size ≤ k) : TwoRs w w' p q most s' t v' u := by
  have hcl := h.c.lt
  refine ⟨hr, h.c.only ho ?_ ?_, h.pw, ?_, h.pq, ?_, h.up, Below.trans h.fr (Only.below ho h.fr.size ?_), h.qw, h.uw⟩
  · rintro (e | e)
    · exact h.pq e.symm
    · exact (h.vq q e).1 rfl
  · intro k hk
    rintro (e | e)
    · subst e; exact h.up hk
    · exact (h.vq k e).2 hk
  · intro k hk
    rcases hv k hk with e | e
    · exact h.vw k e
    · have := h.fr.size; omega
  · intro k hk
    rcases hv k hk with e | e
    · exact h.vq k e
    · refine ⟨by omega, fun e2 => ?_⟩
      have := (hcl.2 k e2).2
      omega
  · intro k hk
    rcases hk with rfl | hk
    · exact h.pw
    · exact h.vw k hk

set_option maxRecDepth 100000 in
set_option maxHeartbeats 12800000 in
theorem ReasmCopies_any (most : Int) (s t : BSls) (w : World) (_ : (Lit.int .i64 most).wf = true) (hs : s.Ok w) (ht : t.Ok w) :
    Calls Try.prog 6 #[.int .i64 most, .slice s.A s.xs.length s.c, .slice t.A t.xs.length t.c] w fun e w' => e = .returned (.bool true) ∧ Below w.heap.size w w' := by
  have HW := Lib.hid awake_true
  by_cases hm : 0 ≤ most ∧ most < 16777216
  · obtain ⟨hm0, hm1⟩ := hm
    have hm0' : ¬ most < 0 := by omega
    have hm1' : ¬ 16777216 ≤ most := by omega
    have HN := Lib.hid (fun W => rnew most W hm0 (by omega))
    have HS1 := Lib.hid (fun W (h : Fresh w W) => lsmall s W ⟨hs.le, hs.max, hs.rows.fresh h, fun x hx => (hs.ok x hx).fresh h⟩)
    have HS2 := Lib.hid (fun W (h : Fresh w W) => lsmall t W ⟨ht.le, ht.max, ht.rows.fresh h, fun x hx => (ht.ok x hx).fresh h⟩)
    obtain ⟨A, c, xs⟩ := s
    obtain ⟨B, d, ys⟩ := t
    have hle := hs.le
    have hmax := hs.max
    have HROWS := Lib.hid hs.rows
    have HOK := Lib.hid hs.ok
    have hle2 := ht.le
    have hmax2 := ht.max
    have HROWS2 := Lib.hid ht.rows
    have HOK2 := Lib.hid ht.ok
    simp only [] at hle hmax HROWS HOK HS1 hle2 hmax2 HROWS2 HOK2 HS2 ⊢
    clear hs ht
    cases hsm : smallB xs with
    | false =>
      rw [hsm] at HS1
      go_enter Try.func6, Try.ntmps6
      go_wp2_with fail
      with_reducible refine (HN.out _).mono ?_
      rintro e w1 ⟨p, rfl, hp, hr1, hf1⟩
      have HF1 := Lib.hid hf1
      clear hf1 hr1
      go_wp2_with fail
      with_reducible refine (HS1.out _ HF1.out).mono ?_
      rintro e w2 ⟨rfl, rfl⟩
      go_wp2_with fail
      with_reducible refine (HW.out _).mono ?_
      rintro e w3 ⟨rfl, hf3⟩
      have HF3 := Lib.hid (HF1.out.trans hf3)
      clear hf3
      go_wp2
      go_ret
      exact ⟨rfl, HF3.out⟩
    | true =>
      rw [hsm] at HS1
      cases hsm2 : smallB ys with
      | false =>
        rw [hsm2] at HS2
        clear hsm
        go_enter Try.func6, Try.ntmps6
        go_wp2_with fail
        with_reducible refine (HN.out _).mono ?_
        rintro e w1 ⟨p, rfl, hp, hr1, hf1⟩
        have HF1 := Lib.hid hf1
        clear hf1 hr1
        go_wp2_with fail
        with_reducible refine (HS1.out _ HF1.out).mono ?_
        rintro e w2 ⟨rfl, rfl⟩
        go_wp2_with fail
        with_reducible refine (HS2.out _ HF1.out).mono ?_
        rintro e w2 ⟨rfl, rfl⟩
        go_wp2_with fail
        with_reducible refine (HW.out _).mono ?_
        rintro e w3 ⟨rfl, hf3⟩
        have HF3 := Lib.hid (HF1.out.trans hf3)
        clear hf3
        go_wp2
        go_ret
        exact ⟨rfl, HF3.out⟩
      | true =>
        rw [hsm2] at HS2
        have HB5 := Lib.hid (totB_each' (of_decide_eq_true hsm))
        have HC5 := Lib.hid (totB_each' (of_decide_eq_true hsm2))
        have hln := small_len (of_decide_eq_true hsm)
        have hln2 := small_len (of_decide_eq_true hsm2)
        clear hsm hsm2
        go_enter Try.func6, Try.ntmps6
        go_wp2_with fail
        with_reducible refine (HN.out _).mono ?_
        rintro e w1 ⟨p, rfl, hp, hr1, hf1⟩
        have HF1 := Lib.hid hf1
        have HR1 : Hid (RsV w1 p most (foldS most (some []) (xs.take 0)) (.slice none 0 0)) := hr1
        clear hf1 hr1
        go_wp2_with fail
        with_reducible refine (HS1.out _ HF1.out).mono ?_
        rintro e w2 ⟨rfl, rfl⟩
        go_wp2_with fail
        with_reducible refine (HS2.out _ HF1.out).mono ?_
        rintro e w2 ⟨rfl, rfl⟩
        go_wp2
        go_loopw [65] (fun i wr => ∃ (k : Nat) (v : Value), k ≤ xs.length ∧ i = .int .i64 (k : Int) ∧ Fresh w wr ∧ RsV wr p most (foldS most (some []) (xs.take k)) v ∧ ∀ k, v.ownBlock = some k → w.heap.size ≤ k) (fun i _ => xs.length - (intOf i).toNat)
        case atStart => exact ⟨0, _, Nat.zero_le _, rfl, HF1.out, HR1.out, fun k hk => by cases hk⟩
        case round =>
          obtain ⟨k, v, hk, rfl, hf, hr, hv⟩ := hrel
          have HF := Lib.hid hf
          have HR := Lib.hid hr
          have HV := Lib.hid hv
          clear hf hr hv HR1
          by_cases hlt : k < xs.length
          · have hlt' : (k : Int) < (xs.length : Int) := by omega
            obtain ⟨x, hx⟩ : ∃ x, xs[k]? = some x := ⟨_, List.getElem?_eq_getElem hlt⟩
            obtain ⟨b, o, rfl, hbw, k0⟩ := HROWS.out.one k x hx
            have hok := HOK.out x (List.mem_of_getElem? hx)
            have hx5 := HB5.out x (List.mem_of_getElem? hx)
            have j0 := (HF.out.cell (p := ⟨b, o + k, none⟩) hbw).trans k0
            have HBS := Lib.hid hok.bs
            have HSu := Lib.hid (foldS_succ most (some []) xs k x hx)
            obtain ⟨A2, c2, bl⟩ := x
            simp only [BSl.cells, List.getElem?_cons_zero] at j0 hx5 HBS
            clear hok hx k0
            go_wp2_with fail
            (with_reducible refine (rfeedV p most _ _ v A2 bl.length c2 bl wr HR.out rfl (HBS.out.fresh HF.out) (by omega) rfl).mono ?_)
            rintro e w3 ⟨A3, n3, c3, z3, v3, rfl, hr3, hO3, hv3⟩
            have HF3 : Hid (Fresh w w3) := Below.trans HF.out (Only.below hO3 HF.out.size (fun kk hk => by
              rcases hk with rfl | hk
              · exact hp
              · exact HV.out _ hk))
            have HR3 := Lib.hid hr3
            have HV3 : Hid (∀ k, v3.ownBlock = some k → w.heap.size ≤ k) := fun kk hk => by
              rcases hv3 kk hk with h | h
              · exact HV.out _ h
              · have := HF.out.size; omega
            clear hr3 hO3 hv3
            go_wp2
            go_roundw
            case rel => exact ⟨k + 1, v3, by omega, by go_num, HF3.out, by rw [HSu.out]; exact HR3.out, HV3.out⟩
            case measure => simp [intOf]; omega
          · obtain rfl : k = xs.length := by omega
            rw [List.take_length] at HR
            generalize hs0 : foldS most (some []) xs = s0 at *
            have HS0 := Lib.hid hs0
            clear hs0
            go_wp2_with fail
            (with_reducible refine (rcopyV p most s0 v wr HR.out).mono ?_)
            rintro e w4 ⟨q, u, rfl, hq, hc4, hu, hf4⟩
            have hplt := HR.out.lt
            have HTW : Hid (TwoRs w w4 p q most s0 s0 v u) := ⟨HR.out.fresh hf4, hc4, hp, HV.out, by omega, fun k hk => ⟨by have := (hplt.2 k hk).2; omega, fun e => by have := (hplt.2 k hk).2; have := hu k e; omega⟩, fun e => by have := hu p e; omega, HF.out.trans hf4, by have := HF.out.size; omega, fun k hk => by have := hu k hk; have := HF.out.size; omega⟩
            have HTR := Lib.hid HTW.out
            go_wp2_with fail
            with_reducible refine (rwaitingV p most s0 v w4 HTW.out.r).mono ?_
            rintro e w5 ⟨rfl, rfl⟩
            go_wp2_with fail
            with_reducible refine (rdeadV p most s0 v w4 HTW.out.r).mono ?_
            rintro e w5 ⟨rfl, rfl⟩
            have hqq : (waitI s0 != waitI s0) = false := by simp
            have hqn : (s0.isNone != s0.isNone) = false := by simp
            generalize hwi : waitI s0 = wi at *
            generalize hsn : s0.isNone = sn at *
            have HWI := Lib.hid hwi
            have HSN := Lib.hid hsn
            have HTWs := Lib.hid HTW.out.swap
            clear hwi hsn HTW HTR
            have HTW := HTWs
            clear hq hu hf4 hc4 hplt HTWs
            go_wp2
            clear hqq hqn
            go_loopw [83] (fun i wr => ∃ (k : Nat) (u2 : Value), k ≤ ys.length ∧ i = .int .i64 (k : Int) ∧ TwoRs w wr q p most (foldS most s0 (ys.take k)) s0 u2 v) (fun i _ => ys.length - (intOf i).toNat)
            case atStart => exact ⟨0, _, Nat.zero_le _, rfl, HTW.out⟩
            case round =>
              obtain ⟨k, u2, hk, rfl, htw⟩ := hrel
              have HTV := Lib.hid htw
              clear htw
              by_cases hlt : k < ys.length
              · have hlt' : (k : Int) < (ys.length : Int) := by omega
                obtain ⟨x, hx⟩ : ∃ x, ys[k]? = some x := ⟨_, List.getElem?_eq_getElem hlt⟩
                obtain ⟨b, o, rfl, hbw, k0⟩ := HROWS2.out.one k x hx
                have hok := HOK2.out x (List.mem_of_getElem? hx)
                have hx5 := HC5.out x (List.mem_of_getElem? hx)
                have j0 := (HTV.out.fr.cell (p := ⟨b, o + k, none⟩) hbw).trans k0
                have HBS := Lib.hid hok.bs
                have HSu := Lib.hid (foldS_succ most s0 ys k x hx)
                obtain ⟨A2, c2, bl⟩ := x
                simp only [BSl.cells, List.getElem?_cons_zero] at j0 hx5 HBS
                clear hok hx k0
                go_wp2_with fail
                (with_reducible refine (rfeedV q most _ _ u2 A2 bl.length c2 bl wr HTV.out.r rfl (HBS.out.fresh HTV.out.fr) (by omega) rfl).mono ?_)
                rintro e w6 ⟨A3, n3, c3, z3, v3, rfl, hr3, hO3, hv3⟩
                have HT6 := Lib.hid (HTV.out.feed hr3 hO3 hv3)
                clear hr3 hO3 hv3
                go_wp2
                go_roundw
                case rel => exact ⟨k + 1, v3, by omega, by go_num, by rw [HSu.out]; exact HT6.out⟩
                case measure => simp [intOf]; omega
              · obtain rfl : k = ys.length := by omega
                rw [List.take_length] at HTV
                have HTX := Lib.hid HTV.out.swap
                generalize hsc : foldS most s0 ys = sc at *
                have HSC := Lib.hid hsc
                have hqq : (wi != wi) = false := by simp
                have hqn : (sn != sn) = false := by simp
                clear hsc HTV
                go_wp2_with fail
                with_reducible refine (rwaitingV p most s0 v _ HTX.out.r).mono ?_
                rintro e w5 ⟨rfl, rfl⟩
                rw [HWI.out]
                go_wp2_with fail
                with_reducible refine (rdeadV p most s0 v _ HTX.out.r).mono ?_
                rintro e w5 ⟨rfl, rfl⟩
                rw [HSN.out]
                go_wp2
                clear hqq hqn
                go_loopw [103] (fun i wr => ∃ (k : Nat) (v2 : Value), k ≤ ys.length ∧ i = .int .i64 (k : Int) ∧ TwoRs w wr p q most (foldS most s0 (ys.take k)) sc v2 u2) (fun i _ => ys.length - (intOf i).toNat)
                case atStart => exact ⟨0, _, Nat.zero_le _, rfl, HTX.out⟩
                case round =>
                  obtain ⟨k, v2, hk, rfl, htw⟩ := hrel
                  have HTV := Lib.hid htw
                  clear htw
                  by_cases hlt : k < ys.length
                  · have hlt' : (k : Int) < (ys.length : Int) := by omega
                    obtain ⟨x, hx⟩ : ∃ x, ys[k]? = some x := ⟨_, List.getElem?_eq_getElem hlt⟩
                    obtain ⟨b, o, rfl, hbw, k0⟩ := HROWS2.out.one k x hx
                    have hok := HOK2.out x (List.mem_of_getElem? hx)
                    have hx5 := HC5.out x (List.mem_of_getElem? hx)
                    have j0 := (HTV.out.fr.cell (p := ⟨b, o + k, none⟩) hbw).trans k0
                    have HBS := Lib.hid hok.bs
                    have HSu := Lib.hid (foldS_succ most s0 ys k x hx)
                    obtain ⟨A2, c2, bl⟩ := x
                    simp only [BSl.cells, List.getElem?_cons_zero] at j0 hx5 HBS
                    clear hok hx k0
                    go_wp2_with fail
                    (with_reducible refine (rfeedV p most _ _ v2 A2 bl.length c2 bl wr HTV.out.r rfl (HBS.out.fresh HTV.out.fr) (by omega) rfl).mono ?_)
                    rintro e w6 ⟨A3, n3, c3, z3, v3, rfl, hr3, hO3, hv3⟩
                    have HT6 := Lib.hid (HTV.out.feed hr3 hO3 hv3)
                    clear hr3 hO3 hv3
                    go_wp2
                    go_roundw
                    case rel => exact ⟨k + 1, v3, by omega, by go_num, by rw [HSu.out]; exact HT6.out⟩
                    case measure => simp [intOf]; omega
                  · obtain rfl : k = ys.length := by omega
                    rw [List.take_length] at HTV
                    rw [HSC.out] at HTV
                    have hw2 : (waitI sc == waitI sc) = true := by simp
                    have hn2 : (sc.isNone == sc.isNone) = true := by simp
                    have hd2 : (sc.elim 0 needI == sc.elim 0 needI) = true := by simp
                    go_wp2_with fail
                    with_reducible refine (rwaitingV p most sc v2 _ HTV.out.r).mono ?_
                    rintro e w5 ⟨rfl, rfl⟩
                    go_wp2_with fail
                    with_reducible refine (rwaitingV q most sc u2 _ HTV.out.c).mono ?_
                    rintro e w5 ⟨rfl, rfl⟩
                    generalize waitI sc = wi2 at *
                    go_wp2_with fail
                    with_reducible refine (rdeadV p most sc v2 _ HTV.out.r).mono ?_
                    rintro e w5 ⟨rfl, rfl⟩
                    go_wp2_with fail
                    with_reducible refine (rdeadV q most sc u2 _ HTV.out.c).mono ?_
                    rintro e w5 ⟨rfl, rfl⟩
                    generalize sc.isNone = sn2 at *
                    go_wp2_with fail
                    with_reducible refine (rneedsV p most sc v2 _ HTV.out.r).mono ?_
                    rintro e w5 ⟨rfl, rfl⟩
                    go_wp2_with fail
                    with_reducible refine (rneedsV q most sc u2 _ HTV.out.c).mono ?_
                    rintro e w5 ⟨rfl, rfl⟩
                    generalize sc.elim 0 needI = nd2 at *
                    go_wp2_with fail
                    with_reducible refine (HW.out _).mono ?_
                    rintro e w6 ⟨rfl, hf6⟩
                    have HF6 := Lib.hid (HTV.out.fr.trans hf6)
                    clear hf6
                    go_wp2
                    go_ret
                    exact ⟨rfl, HF6.out⟩
  · by_cases hm0 : most < 0
    · clear hm
      go_enter Try.func6, Try.ntmps6
      go_wp2_with fail
      with_reducible refine (rnew_no most _ (.inl hm0)).mono ?_
      rintro e w1 ⟨rfl, rfl⟩
      go_wp2_with fail
      with_reducible refine (HW.out _).mono ?_
      rintro e w3 ⟨rfl, hf3⟩
      have HF3 := Lib.hid hf3
      clear hf3
      go_wp2
      go_ret
      exact ⟨rfl, HF3.out⟩
    · have hm1 : (16777216 : Int) ≤ most := by omega
      clear hm
      go_enter Try.func6, Try.ntmps6
      go_wp2_with fail
      with_reducible refine (rnew_no most _ (.inr (by omega))).mono ?_
      rintro e w1 ⟨rfl, rfl⟩
      go_wp2_with fail
      with_reducible refine (HW.out _).mono ?_
      rintro e w3 ⟨rfl, hf3⟩
      have HF3 := Lib.hid hf3
      clear hf3
      go_wp2
      go_ret
      exact ⟨rfl, HF3.out⟩
end Go.Proofs.Ytgmgnokmeocmjaa
