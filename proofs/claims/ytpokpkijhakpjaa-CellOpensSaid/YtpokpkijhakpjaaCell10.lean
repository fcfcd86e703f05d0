/-
  The law CellOpens: its walk.
-/
import Derived.Test.YtpokpkijhakpjaaCell9
namespace Go.Proofs.Ytpokpkijhakpjaa
set_option linter.unusedVariables false
open Go.RowKit

def knF (f : FrV) : Bool := f.ty != 250
theorem all_take {α : Type} (p : α → Bool) {xs : List α} {k : Nat} {x : α} (h : xs[k]? = some x) : (xs.take (k + 1)).all p = ((xs.take k).all p && p x) := by
  have hk := (List.getElem?_eq_some_iff.1 h).1
  have he := (List.getElem?_eq_some_iff.1 h).2
  rw [List.take_succ_eq_append_getElem hk, List.all_append, he]
  simp
theorem notFil_to {f : FrV} (h : rtF f = true) : notFil (toFr f) = knF f := by
  obtain ⟨e1, _⟩ := toFr_ok h
  rw [notFil_x, ← e1]; rfl
def OpR (w : World) (xs : List FrV) (k : Nat) (s b kn : Value) (wr : World) : Prop :=
  s = .int .i64 (szN (xs.take k) : Int) ∧ szN (xs.take k) ≤ 1500 ∧ b = .bool ((xs.take k).all rtF) ∧ kn = .bool ((xs.take k).all knF) ∧ Fresh w wr
set_option maxRecDepth 100000 in
set_option maxHeartbeats 12800000 in
theorem CellOpens_any (s : FrsV) (n : Int) (w : World) (hsw : s.OkW w) (_ : (Lit.int .i64 n).wf = true) :
    Calls Try.prog 4 #[.slice s.A s.xs.length s.c, .int .i64 n] w fun e w' => e = .returned (.bool true) ∧ Below w.heap.size w w' := by
  have hs := hsw.ok
  have HS := Lib.hid hs
  have HSW := Lib.hid hsw.sz
  clear hsw
  obtain ⟨A, c, xs⟩ := s
  have hle := hs.le
  have hmax := hs.max
  have HROWS := Lib.hid hs.rows
  have HOK := Lib.hid hs.ok
  simp only [] at hle hmax HROWS HOK ⊢
  unfold maxLen at hmax
  clear hs
  go_enter Try.func4, Try.ntmps4
  go_wp2_with fail
  go_loopw [5, 6, 7, 19] (fun s b kn i wr => ∃ k : Nat, k ≤ xs.length ∧ i = .int .i64 k ∧ OpR w xs k s b kn wr) (fun _ _ _ i _ => xs.length - (intOf i).toNat)
  case atStart => exact ⟨0, by omega, rfl, rfl, by simp [szN], rfl, rfl, Fresh.refl _⟩
  case round =>
    obtain ⟨k, hk, rfl, rfl, hsz, rfl, rfl, hf⟩ := hrel
    have HF := Lib.hid hf
    clear hf
    by_cases hlt : k < xs.length
    · obtain ⟨f, hxk⟩ : ∃ f, xs[k]? = some f := ⟨_, List.getElem?_eq_getElem hlt⟩
      obtain ⟨b, o, hAe, hbw, k0, k1, k2, k3⟩ := HROWS.out.at_ k f hxk
      have hfo := HOK.out f (List.mem_of_getElem? hxk)
      have HZ := Lib.hid (szN_take hxk)
      have HRT := Lib.hid (all_take rtF hxk)
      have HKN := Lib.hid (all_take knF hxk)
      have kk := fun o => HF.out.cell (p := ⟨b, o, none⟩) hbw
      have j0 := (kk _).trans k0
      have j1 := (kk _).trans k1
      have j2 := (kk _).trans k2
      have j3 := (kk _).trans k3
      have hbw2 : b < wr.heap.size := by have := HF.out.size; omega
      have hl2 := hfo.le
      have hm2 := HSW.out f (List.mem_of_getElem? hxk)
      obtain ⟨ty, fl, st, A2, c2, l⟩ := f
      simp only [FrV.cells, List.getElem?_cons_zero, List.getElem?_cons_succ] at j0 j1 j2 j3 hl2 hm2 HZ
      clear k0 k1 k2 k3 kk hfo hxk
      have hlt' : (k : Int) < (xs.length : Int) := by omega
      have HAe := Lib.hid hAe
      subst hAe
      have HR := Lib.hid (fun W => fright ty fl st A2 l.length c2 W)
      obtain ⟨S, hS⟩ : ∃ S, szN (xs.take k) = S := ⟨_, rfl⟩
      rw [hS] at hsz HZ ⊢
      clear hS
      by_cases h15 : 1500 < S + (9 + l.length)
      · have h15' : (1500 : Int) < (S : Int) + (9 + (l.length : Int)) := by omega
        clear HR
        go_wp2_with fail
        with_reducible refine (ce_awake _).mono ?_
        rintro e w3 ⟨rfl, hf3⟩
        have HF3 := Lib.hid ((HF.out.allocS _).trans hf3)
        clear hf3
        go_wp2
        go_ret
        exact ⟨rfl, HF3.out⟩
      · have h15' : decide ((1500 : Int) < (S : Int) + (9 + (l.length : Int))) = false := by simp; omega
        have HN : Hid (∀ wx, Fresh w wx → OpR w xs (k + 1) (.int .i64 ((S : Int) + (9 + (l.length : Int)))) (.bool ((xs.take k).all rtF && rtF ⟨ty, fl, st, A2, c2, l⟩)) (.bool ((xs.take k).all knF && (ty != 250))) wx) := Lib.hid (fun wx hx => ⟨by rw [HZ.out]; congr 1, by rw [HZ.out]; omega, by rw [HRT.out], by rw [HKN.out]; rfl, hx⟩)
        have hrt : rtF ⟨ty, fl, st, A2, c2, l⟩ = frR ty fl st l.length := rfl
        rw [hrt] at HN
        clear HZ HRT HKN hrt
        generalize (xs.take k).all rtF = B at *
        generalize (xs.take k).all knF = K at *
        generalize frR ty fl st l.length = R at *
        have hzz : IntKind.i64.wrap ((S : Int) + (9 + (l.length : Int))) = (S : Int) + (9 + (l.length : Int)) := IntWalk.i64_in _ (by omega)
        cases B with
        | false =>
          simp only [Bool.false_and] at HN
          cases K with
          | false =>
            simp only [Bool.false_and] at HN
            go_wp2_with fail
            go_roundw
            case rel => exact ⟨k + 1, by omega, by go_num, HN.out _ (HF.out.allocS _)⟩
            case measure => simp [intOf]; omega
          | true =>
            simp only [Bool.true_and] at HN
            cases hty : (ty != 250)
            all_goals
              rw [hty] at HN
              go_wp2_with fail
              go_roundw
              case rel => exact ⟨k + 1, by omega, by go_num, HN.out _ (HF.out.allocS _)⟩
              case measure => simp [intOf]; omega
        | true =>
          simp only [Bool.true_and] at HN
          cases K with
          | false =>
            simp only [Bool.false_and] at HN
            go_wp2_with fail
            with_reducible refine (HR.out _).mono ?_
            rintro e w3 ⟨rfl, hf3⟩
            have HF3 := Lib.hid ((HF.out.allocS _).trans hf3)
            clear hf3
            go_wp2_with fail
            go_roundw
            case rel => exact ⟨k + 1, by omega, by go_num, HN.out _ HF3.out⟩
            case measure => simp [intOf]; omega
          | true =>
            simp only [Bool.true_and] at HN
            go_wp2_with fail
            with_reducible refine (HR.out _).mono ?_
            rintro e w3 ⟨rfl, hf3⟩
            have HF3 := Lib.hid ((HF.out.allocS _).trans hf3)
            have q0 : w3.cell? ⟨wr.heap.size, 0, none⟩ = some (.int .i64 ty) := ((Blk.new wr 33 #[.int .i64 ty, .int .i64 fl, .int .i64 st, .slice A2 l.length c2]).fresh hf3).cell 0
            clear hf3
            cases hty : (ty != 250)
            all_goals
              rw [hty] at HN
              go_wp2_with fail
              go_roundw
              case rel => exact ⟨k + 1, by omega, by go_num, HN.out _ HF3.out⟩
              case measure => simp [intOf]; omega
    · obtain rfl : k = xs.length := by omega
      simp only [List.take_length] at hsz ⊢
      have HSZ := Lib.hid hsz
      have HSF := Lib.hid (HS.out.fresh HF.out)
      have hRL := rowB_sz xs
      cases hb : xs.all rtF with
      | false =>
        have hex : ∃ f ∈ xs, rtF f = false := by simpa using hb
        have HFR := Lib.hid (frames_any ⟨A, c, xs⟩ n wr HSF.out hsz (RNo 10) (fun w1 w2 e w' hf h => ⟨h.1, hf.trans h.2⟩) (fun _ w1 w' hf => ⟨rfl, hf⟩) (fun hall => by
          obtain ⟨f, hf, hr⟩ := hex
          rw [hall f hf] at hr; cases hr))
        clear hex hb hRL hsz
        generalize xs.all knF = K at *
        go_wp2_with fail
        refine HFR.out.mono ?_
        rintro e w4 ⟨rfl, hf4⟩
        have HF4 := Lib.hid (HF.out.trans hf4)
        clear hf4
        go_wp2_with fail
        refine (ce_awake _).mono ?_
        rintro e w6 ⟨rfl, hf6⟩
        have HF6 := Lib.hid (HF4.out.trans hf6)
        clear hf6
        go_wp2_with fail
        go_ret
        exact ⟨rfl, HF6.out⟩
      | true =>
        have hall : ∀ f ∈ xs, rtF f = true := by simpa using hb
        by_cases h1 : 1 ≤ n ∧ n ≤ 1024
        · obtain ⟨N, rfl⟩ : ∃ N : Nat, n = (N : Int) := ⟨n.toNat, by omega⟩
          obtain ⟨h1, h2⟩ := h1
          by_cases h3 : szN xs ≤ N + 9
          · have hqs : ∀ q ∈ xs.map toFr, q.st ≤ 2147483647 := fun q hq => by
              obtain ⟨f, hf, rfl⟩ := List.mem_map.1 hq
              exact (toFr_ok (hall f hf)).2.2.2.2.1
            have hor := open_row (xs.map toFr) N (by omega) hqs (by rw [hRL]; omega)
            have hfl := fillL_length (rowB (xs.map toFr)) N (by rw [hRL]; omega)
            have HFR := Lib.hid (frames_any ⟨A, c, xs⟩ (N : Int) wr HSF.out hsz (FillOk (rowB (xs.map toFr)) N) (fun w1 w2 e w' hf ⟨g, a, b, c, d⟩ => ⟨g, a, Nat.le_trans hf.size b, c, hf.trans d⟩) (fun hex => by
              obtain ⟨f, hf, hr⟩ := hex
              rw [hall f hf] at hr; cases hr) (fun _ A c w1 hA hlc => (fill_ok A c _ N w1 (by omega) (by omega) (by rw [hRL]; omega) hA).mono fun e w' h => by
                obtain ⟨g, a, b⟩ := h
                exact ⟨_, _, a, g, a, b⟩))
            have HALL := Lib.hid hall
            have HOR := Lib.hid hor
            have HFL := Lib.hid hfl
            have HKALL : Hid (xs.all knF = true → ∀ f ∈ xs, knF f = true) := Lib.hid (fun h => by simpa using h)
            have hS3 : decide ((N : Int) + 9 < (szN xs : Int)) = false := by simp; omega
            have hn18 : ((N : Int) + 18 != (N : Int) + 18) = false := by simp
            clear hqs hor hfl hall hb hRL hsz
            generalize hK : xs.all knF = K at *
            clear hK
            go_wp2_with fail
            refine HFR.out.mono ?_
            rintro e w4 ⟨g4, rfl, hg4, hb4, hf4⟩
            have HF4 := Lib.hid (HF.out.trans hf4)
            have HOP := Lib.hid (open_any (some ⟨g4, 0, none⟩) (N + 18) (fillL (rowB (xs.map toFr)) N) N w4 (by omega) (by omega) HFL.out (by rw [HFL.out]; omega) (by unfold maxLen; omega) (BS.row hb4))
            rw [HOR.out] at HOP
            clear hf4 hb4 hg4 HFR
            go_wp2_with fail
            with_reducible refine (ce_right20_yes N _ (by omega) (by omega)).mono ?_
            rintro e w5 ⟨rfl, rfl⟩
            go_wp2_with fail
            refine HOP.out.mono ?_
            rintro e w5 ⟨hy, _⟩
            obtain ⟨A5, n5, c5, fs, rfl, hn5, hfs, hmp, hf5⟩ := hy _ rfl
            have HN5 := Lib.hid hn5
            have HFS := Lib.hid hfs
            have HMP := Lib.hid hmp
            have HF5 := Lib.hid (HF4.out.trans hf5)
            clear hy hn5 hfs hmp hf5 HOP
            go_wp2_with fail
            go_loopw [14, 113] (fun kk i wr => ∃ j : Nat, j ≤ xs.length ∧ i = .int .i64 j ∧ kk = .int .i64 ((((xs.take j).map toFr).filter notFil).length : Int) ∧ Fresh w5 wr) (fun _ i _ => xs.length - (intOf i).toNat)
            case atStart => exact ⟨0, by omega, rfl, rfl, Fresh.refl _⟩
            case round =>
              obtain ⟨j, hj, rfl, rfl, hfv⟩ := hrel
              have HFV := Lib.hid hfv
              clear hfv
              by_cases hlt : j < xs.length
              · obtain ⟨f, hxk⟩ : ∃ f, xs[j]? = some f := ⟨_, List.getElem?_eq_getElem hlt⟩
                obtain ⟨b, o, hAe, hbw, k0, k1, k2, k3⟩ := HROWS.out.at_ j f hxk
                have hfo := HOK.out f (List.mem_of_getElem? hxk)
                have hrt := HALL.out f (List.mem_of_getElem? hxk)
                obtain ⟨e1, e2, e3, e4, e5, e6⟩ := toFr_ok hrt
                have hnk := notFil_to hrt
                have hmt := map_take hxk
                have hflt : ((xs.take (j + 1)).map toFr).filter notFil = ((xs.take j).map toFr).filter notFil ++ if knF f then [toFr f] else [] := by rw [hmt, filt_snoc, hnk]
                have hsp : (xs.map toFr).filter notFil = ((xs.take (j + 1)).map toFr).filter notFil ++ ((xs.drop (j + 1)).map toFr).filter notFil := by
                  rw [← List.filter_append, ← List.map_append, List.take_append_drop]
                have HFLT := Lib.hid hflt
                have HSP := Lib.hid hsp
                have HFW := Lib.hid (HF5.out.trans HFV.out)
                have kk := fun o => HFW.out.cell (p := ⟨b, o, none⟩) hbw
                have j0 := (kk _).trans k0
                have j1 := (kk _).trans k1
                have j2 := (kk _).trans k2
                have j3 := (kk _).trans k3
                have hbw2 : b < wr.heap.size := by have := HFW.out.size; omega
                have HA := Lib.hid (hfo.bs.fresh HFW.out)
                have HE := Lib.hid (And.intro e1 (And.intro e2 (And.intro e3 e4)))
                obtain ⟨q, hq⟩ : ∃ q, toFr f = q := ⟨_, rfl⟩
                rw [hq] at HFLT HE
                obtain ⟨ty, fl, st, A2, c2, l⟩ := f
                simp only [FrV.cells, List.getElem?_cons_zero, List.getElem?_cons_succ] at j0 j1 j2 j3 HA
                obtain ⟨K0, hK0⟩ : ∃ K0, (((xs.take j).map toFr).filter notFil).length = K0 := ⟨_, rfl⟩
                have HK0 := Lib.hid hK0
                have hK0j : K0 ≤ j := by rw [← hK0]; exact Nat.le_trans (List.length_filter_le _ _) (by simp; omega)
                rw [hK0]
                clear k0 k1 k2 k3 kk hfo hxk hrt e1 e2 e3 e4 e5 e6 hnk hmt hflt hsp hq hK0
                have HAe := Lib.hid hAe
                subst hAe
                have hlt' : (j : Int) < (xs.length : Int) := by omega
                by_cases hty : ty = 250
                · have hkf : knF ⟨ty, fl, st, some ⟨b, o, none⟩, c2, l⟩ = false := by rw [hty]; rfl
                  have hkf2 : knF ⟨ty, fl, st, A2, c2, l⟩ = false := by rw [hty]; rfl
                  have HNX : Hid ((((xs.take (j + 1)).map toFr).filter notFil).length = K0) := Lib.hid (by rw [HFLT.out, hkf2, List.length_append, HK0.out]; rfl)
                  clear hkf hkf2
                  subst hty
                  go_wp2_with fail
                  go_roundw
                  case rel => exact ⟨j + 1, by omega, by go_num, by rw [HNX.out], HFV.out.allocS _⟩
                  case measure => simp [intOf]; omega
                · have hkf2 : knF ⟨ty, fl, st, A2, c2, l⟩ = true := by simpa [knF] using hty
                  have hty' : (ty == 250) = false := by simpa using hty
                  have HNX : Hid ((((xs.take (j + 1)).map toFr).filter notFil).length = K0 + 1) := Lib.hid (by rw [HFLT.out, hkf2, List.length_append, HK0.out]; rfl)
                  have hfk : (fs.map Prod.fst)[K0]? = some q := by
                    rw [HMP.out, HSP.out, HFLT.out, hkf2, ← HK0.out]
                    simp
                  have hkl : K0 < n5 := by rw [HN5.out, HSP.out, List.length_append, HNX.out]; omega
                  obtain ⟨A7, hp⟩ : ∃ A7, fs[K0]? = some (q, A7) := by
                    rw [List.getElem?_map] at hfk
                    cases hq' : fs[K0]? with
                    | none => rw [hq'] at hfk; simp at hfk
                    | some p => rw [hq'] at hfk; simp at hfk; exact ⟨p.2, by rw [← hfk]⟩
                  obtain ⟨g, rfl, hg, hgb, c0, c1, c2', c3⟩ := HFS.out.cells K0 _ hp
                  have hpay := (HFS.out.2 _ (List.mem_of_getElem? hp)).1
                  obtain ⟨e1, e2, e3, e4⟩ := HE.out
                  simp only at e1 e2 e3 e4 c0 c1 c2' c3 hpay
                  have HW : Hid (Blk (wr.alloc (.cells #[.int .i64 ty, .int .i64 fl, .int .i64 st, .slice A2 l.length c2] 33)) wr.heap.size 33 #[.int .i64 ty, .int .i64 fl, .int .i64 st, .slice A2 l.length c2]) := Lib.hid (Blk.new _ _ _)
                  have HEQ := Lib.hid (fun W (h : Fresh wr W) => fequal_at (q.x.toNat : Int) (q.y.toNat : Int) (q.st : Int) A7 q.pl.length q.pl q.pl.length ty fl st A2 l.length l c2 W true rfl rfl ((hpay.bs.fresh HFV.out).fresh h) (HA.out.fresh h) (by rw [e1, e2, e3, ← e4]; simp [frEq]))
                  have gg := fun (w' : World) (h : Fresh (wr.alloc (.cells #[.int .i64 ty, .int .i64 fl, .int .i64 st, .slice A2 l.length c2] 33)) w') o => (h.cell (p := ⟨g, o, none⟩) (by have := HFV.out.size; simp; omega)).trans (((Fresh.alloc wr _).cell (p := ⟨g, o, none⟩) (by have := HFV.out.size; show g < _; omega)).trans (HFV.out.cell (p := ⟨g, o, none⟩) hg))
                  have HSK : Hid (∀ w', Fresh (wr.alloc (.cells #[.int .i64 ty, .int .i64 fl, .int .i64 st, .slice A2 l.length c2] 33)) w' → w'.cell? ⟨g, K0 * 4, none⟩ = some (.int .i64 (q.x.toNat : Int)) ∧ w'.cell? ⟨g, K0 * 4 + 1, none⟩ = some (.int .i64 (q.y.toNat : Int)) ∧ w'.cell? ⟨g, K0 * 4 + 2, none⟩ = some (.int .i64 (q.st : Int)) ∧ w'.cell? ⟨g, K0 * 4 + 3, none⟩ = some (.slice A7 q.pl.length q.pl.length) ∧
                      w'.cell? ⟨wr.heap.size, 0, none⟩ = some (.int .i64 ty) ∧ w'.cell? ⟨wr.heap.size, 1, none⟩ = some (.int .i64 fl) ∧ w'.cell? ⟨wr.heap.size, 2, none⟩ = some (.int .i64 st) ∧ w'.cell? ⟨wr.heap.size, 3, none⟩ = some (.slice A2 l.length c2) ∧ Fresh (wr.alloc (.cells #[.int .i64 ty, .int .i64 fl, .int .i64 st, .slice A2 l.length c2] 33)) w') := Lib.hid (fun w' hw =>
                    ⟨(gg w' hw _).trans c0, (gg w' hw _).trans c1, (gg w' hw _).trans c2', (gg w' hw _).trans c3, (HW.out.fresh hw).cell 0, (HW.out.fresh hw).cell 1, (HW.out.fresh hw).cell 2, (HW.out.fresh hw).cell 3, hw⟩)
                  have i1 : (K0 : Int) < (n5 : Int) := by omega
                  have i2 : decide ((n5 : Int) ≤ (K0 : Int)) = false := by simp; omega
                  have i3 : (0 : Int) ≤ (K0 : Int) := by omega
                  have i4 : decide (n5 ≤ K0) = false := by simp; omega
                  have i5 : K0 < n5 := by omega
                  clear gg c0 c1 c2' c3 hpay hp hfk hkl e1 e2 e3 e4 hty hkf2
                  go_wp2_with fail
                  obtain ⟨g0, g1, g2, g3, g4', g5, g6, g7, g8⟩ := HSK.out _ (Fresh.refl _)
                  obtain ⟨W1, hW1⟩ : ∃ W1, (wr.alloc (.cells #[.int .i64 ty, .int .i64 fl, .int .i64 st, .slice A2 l.length c2] 33)) = W1 := ⟨_, rfl⟩
                  have HFA : Hid (Fresh wr W1) := Lib.hid (by rw [← hW1]; exact Fresh.alloc _ _)
                  have hgl : g < W1.heap.size := by have := HFV.out.size; have := HFA.out.size; omega
                  rw [hW1] at HSK g0 g1 g2 g3 g4' g5 g6 g7 g8 ⊢
                  obtain ⟨h16, hh16⟩ : ∃ h, wr.heap.size = h := ⟨_, rfl⟩
                  rw [hh16] at HSK g4' g5 g6 g7 ⊢
                  clear hW1 hh16 HW j0 j1 j2 j3 hg hgb
                  go_region_held3 (fun w' => w'.cell? ⟨g, K0 * 4, none⟩ = some (.int .i64 (q.x.toNat : Int)) ∧ w'.cell? ⟨g, K0 * 4 + 1, none⟩ = some (.int .i64 (q.y.toNat : Int)) ∧ w'.cell? ⟨g, K0 * 4 + 2, none⟩ = some (.int .i64 (q.st : Int)) ∧ w'.cell? ⟨g, K0 * 4 + 3, none⟩ = some (.slice A7 q.pl.length q.pl.length) ∧
                      w'.cell? ⟨h16, 0, none⟩ = some (.int .i64 ty) ∧ w'.cell? ⟨h16, 1, none⟩ = some (.int .i64 fl) ∧ w'.cell? ⟨h16, 2, none⟩ = some (.int .i64 st) ∧ w'.cell? ⟨h16, 3, none⟩ = some (.slice A2 l.length c2) ∧ Fresh W1 w')
                    ((refine HSK.out _ ?_; first | with_reducible assumption | with_reducible exact Fresh.drew _ | (with_reducible apply Fresh.drewS; with_reducible assumption)))
                    (first
                      | (go_at_call 18; (with_reducible refine (HEQ.out _ (HFA.out.trans (by first | assumption | exact Fresh.drew _))).mono ?_); rintro e w6 ⟨rfl, hf6⟩; have hg6 : Fresh W1 w6 := (Fresh.drew W1).trans hf6))
                  have HF6 := Lib.hid (HFV.out.trans (HFA.out.trans hg6))
                  clear g0 g1 g2 g3 g4' g5 g6 g7 g8 HSK hf6 hg6
                  go_wp2
                  go_roundw
                  case rel => exact ⟨j + 1, by omega, by go_num, by rw [HNX.out]; go_num, HF6.out⟩
                  case measure => simp [intOf]; omega
              · obtain rfl : j = xs.length := by omega
                simp only [List.take_length]
                have hkn : ((xs.map toFr).filter notFil).length = n5 := HN5.out.symm
                have hq1 : ((n5 : Int) == (n5 : Int)) = true := by simp
                have HKL : Hid (K = true → n5 = xs.length) := Lib.hid (fun hK => by
                  have hka := HKALL.out hK
                  have : (xs.map toFr).filter notFil = xs.map toFr := by
                    rw [List.filter_eq_self]
                    intro q hq
                    obtain ⟨f, hf, rfl⟩ := List.mem_map.1 hq
                    rw [notFil_to (HALL.out f hf)]; exact hka f hf
                  rw [← hkn, this]; simp)
                rw [hkn]
                clear hkn
                cases K with
                | false =>
                  go_wp2_with fail
                  refine (ce_awake _).mono ?_
                  rintro e w7 ⟨rfl, hf7⟩
                  have HF7 := Lib.hid ((HF5.out.trans HFV.out).trans hf7)
                  clear hf7
                  go_wp2_with fail
                  go_ret
                  exact ⟨rfl, HF7.out⟩
                | true =>
                  have hnl := HKL.out rfl
                  subst hnl
                  go_wp2_with fail
                  refine (ce_awake _).mono ?_
                  rintro e w7 ⟨rfl, hf7⟩
                  have HF7 := Lib.hid ((HF5.out.trans HFV.out).trans hf7)
                  clear hf7
                  go_wp2_with fail
                  go_ret
                  exact ⟨rfl, HF7.out⟩
          · have HFR := Lib.hid (frames_any ⟨A, c, xs⟩ (N : Int) wr HSF.out hsz (RNo 15) (fun w1 w2 e w' hf h => ⟨h.1, hf.trans h.2⟩) (fun hex => by
              obtain ⟨f, hf, hr⟩ := hex
              rw [hall f hf] at hr; cases hr) (fun _ A c w1 _ _ => (fill_full A _ c N w1 (by omega) (by omega) (by rw [hRL]; omega)).mono fun e w' ⟨h, hw⟩ => ⟨_, _, h, h, by rw [← hw]; exact Fresh.refl _⟩))
            have h3' : (N : Int) + 9 < (szN xs : Int) := by omega
            clear hall hb hRL hsz h3
            generalize xs.all knF = K at *
            go_wp2_with fail
            refine HFR.out.mono ?_
            rintro e w4 ⟨rfl, hf4⟩
            have HF4 := Lib.hid (HF.out.trans hf4)
            clear hf4
            go_wp2_with fail
            with_reducible refine (ce_right20_yes N _ (by omega) (by omega)).mono ?_
            rintro e w5 ⟨rfl, rfl⟩
            go_wp2_with fail
            refine (ce_awake _).mono ?_
            rintro e w6 ⟨rfl, hf6⟩
            have HF6 := Lib.hid (HF4.out.trans hf6)
            clear hf6
            go_wp2_with fail
            go_ret
            exact ⟨rfl, HF6.out⟩
        · have HFR := Lib.hid (frames_any ⟨A, c, xs⟩ n wr HSF.out hsz (RNo 11) (fun w1 w2 e w' hf h => ⟨h.1, hf.trans h.2⟩) (fun hex => by
            obtain ⟨f, hf, hr⟩ := hex
            rw [hall f hf] at hr; cases hr) (fun _ A c w1 _ _ => (fill_range _ n w1 h1).mono fun e w' ⟨h, hw⟩ => ⟨_, _, h, h, by rw [← hw]; exact Fresh.refl _⟩))
          have H20 := Lib.hid (fun w => ce_right20_no n w h1)
          clear hall hb hRL hsz h1
          generalize xs.all knF = K at *
          go_wp2_with fail
          refine HFR.out.mono ?_
          rintro e w4 ⟨rfl, hf4⟩
          have HF4 := Lib.hid (HF.out.trans hf4)
          clear hf4
          go_wp2_with fail
          with_reducible refine (H20.out _).mono ?_
          rintro e w5 ⟨rfl, rfl⟩
          go_wp2_with fail
          refine (ce_awake _).mono ?_
          rintro e w6 ⟨rfl, hf6⟩
          have HF6 := Lib.hid (HF4.out.trans hf6)
          clear hf6
          go_wp2_with fail
          go_ret
          exact ⟨rfl, HF6.out⟩
end Go.Proofs.Ytpokpkijhakpjaa
