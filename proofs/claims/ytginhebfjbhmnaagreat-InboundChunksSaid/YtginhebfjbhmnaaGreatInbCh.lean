/-
  The law InboundChunks.
-/
import Derived.Test.YtginhebfjbhmnaaGreatInbCb
import Derived.Deep.CutRange
namespace Go.Proofs.YtginhebfjbhmnaaGreat
set_option maxRecDepth 100000
set_option linter.unusedVariables false
set_option linter.unusedSimpArgs false
open Go.RowKit
theorem readAll_len (F : List Fr) : ∀ (s : Option Part) (bg : Bool), (readAll s bg F).1.length ≤ F.length := by
  induction F with
  | nil => intro s bg; simp [readAll]
  | cons f r ih =>
    intro s bg
    simp only [readAll]
    split
    · simp
    · have := ih (readP s bg f.x.toNat f.y.toNat f.st f.pl).2.1 true
      simp only
      split
      · simp only [List.length_cons]; omega
      · simp only [List.length_cons]; omega
theorem rowB_len (xs : List FrV) : (rowB (xs.map frOf)).length ≤ totG xs := by
  induction xs with
  | nil => simp [rowB, totG]
  | cons a r ih =>
    simp only [List.map_cons, rowB, List.flatMap_cons, List.length_append, frB2_length, totG, List.sum_cons, frOf] at ih ⊢
    omega
/-- Eight cells from a place on, in two blocks. -/
def TwoO (w : World) (g h o : Nat) (cs ds : Array Value) : Prop := (∀ j, j < 8 → w.cell? ⟨g, o + j, none⟩ = cs[j]?) ∧ ∀ j, j < 8 → w.cell? ⟨h, o + j, none⟩ = ds[j]?
theorem run_loadO {P : Program} {w : World} {ρ : Operand → Value} {o : Oper} {x : Operand} {t : TypeId} (ho : o.op = .load t x) {b k : Nat} {a0 a1 a2 a3 a4 a5 a6 a7 : Value} (hx : ρ x = .pointer (some ⟨b, k, none⟩)) (hB : ∀ j, j < 8 → w.cell? ⟨b, k + j, none⟩ = #[a0, a1, a2, a3, a4, a5, a6, a7][j]?) (hi : (P.info? t).map (·.size) = some 8) (ha : ∀ w, (isAgg t).run P w = .ok true w) : (execOp ρ o).run P w = .ok (.value (.agg #[a0, a1, a2, a3, a4, a5, a6, a7])) w := by
  obtain ⟨i, hi1, hi2⟩ := Option.map_eq_some_iff.1 hi
  have hld := run_loadCells_list (P := P) (w := w) ⟨b, k, none⟩ [a0, a1, a2, a3, a4, a5, a6, a7] (fun j v hv => by
    rw [add_eq _ _ rfl, hB j (by have := (List.getElem?_eq_some_iff.1 hv).1; simpa using this)]
    simpa using hv)
  have hrun : (loadVar t ⟨b, k, none⟩).run P w = .ok (.agg #[a0, a1, a2, a3, a4, a5, a6, a7]) w := by
    rw [loadVar]
    simp [ha, Result.andThen, sizeOf, typeInfo, hi1, hi2]
    simp at hld
    rw [hld]
  simp [execOp, ho, hx, Instr.loadAt, Instr.sureAddr, hrun, Result.andThen]
theorem u8_sizeC : ∀ W : World, (Go.sizeOf 5).run Tryz.prog W = .ok 1 W := fun W => by kernel_rfl
theorem rowB_appendC (a b : List Fr) : rowB (a ++ b) = rowB a ++ rowB b := by simp [rowB]
set_option maxHeartbeats 25600000 in
theorem InboundChunks_any (s : FrsV) (cuts : IntsV) (w : World) (hs : s.OkW w) (hc : cuts.Ok w) :
    Calls Tryz.prog 3 #[.slice s.A s.xs.length s.c, .slice cuts.A cuts.zs.length cuts.c] w fun e w' => e = .returned (.bool true) ∧ Below w.heap.size w w' := by
  have HNEW := Lib.hid (fun W (hf : Fresh w W) => in_new w W hf)
  unfold InNewP at HNEW
  have HW := Lib.hid awake23
  have HSM := Lib.hid (fun W (hf : Fresh w W) => small23 s W ⟨hs.ok.fresh hf, hs.sz⟩)
  unfold SmallGP at HSM
  obtain ⟨A, c, fxs⟩ := s
  obtain ⟨ZA, zc, zs⟩ := cuts
  have HROWS := Lib.hid hs.ok.rows
  have HOK := Lib.hid hs.ok.ok
  have hzle := hc.le
  have hzmax := hc.max
  have HZR := Lib.hid hc.rows
  simp only [] at HROWS HOK HSM hzle hzmax HZR ⊢
  clear hs hc
  obtain ⟨m, hm⟩ : ∃ m, fxs.length = m := ⟨_, rfl⟩
  have HM := Lib.hid hm
  obtain ⟨zn, hzn⟩ : ∃ zn, zs.length = zn := ⟨_, rfl⟩
  have HZN := Lib.hid hzn
  rw [hm] at HSM ⊢
  rw [hzn] at hzle ⊢
  clear hm hzn
  go_enter Tryz.func3, Tryz.ntmps3
  go_wp2_with fail
  with_reducible refine (HNEW.out _ (Fresh.refl _)).mono ?_
  rintro e W1 ⟨P, rfl, hip, hlp, hf1⟩
  have HIP := Lib.hid hip
  have HF1 := Lib.hid hf1
  clear hip hf1
  go_wp2_with fail
  with_reducible refine (HNEW.out _ HF1.out).mono ?_
  rintro e W2 ⟨Q, rfl, hiq, hlq, hf2⟩
  have HRP := Lib.hid (RiS.of (HIP.out.fresh hf2))
  have HRQ := Lib.hid (RiS.of hiq)
  have HPQ : Hid (Sep P.has Q.has) := Lib.hid (fun k hk h2 => by have := (HIP.out.lt hk).1; have := hlq k h2; omega)
  have HF2 := Lib.hid (HF1.out.trans hf2)
  obtain ⟨p, hp⟩ : ∃ p, P.p = p := ⟨_, rfl⟩
  obtain ⟨q, hq⟩ : ∃ q, Q.p = q := ⟨_, rfl⟩
  rw [hp] at HRP ⊢
  rw [hq] at HRQ ⊢
  generalize P.has = TP at HRP HPQ
  generalize Q.has = TQ at HRQ HPQ hlq
  clear hiq hlq hf2 hlp HIP HNEW hp hq HF1
  go_wp2_with fail
  with_reducible refine (HSM.out _ HF2.out).mono ?_
  rintro e W3 ⟨bs, rfl, hbs, hf3⟩
  have HF3 := Lib.hid (HF2.out.trans hf3)
  have HRP := Lib.hid (HRP.out.fresh hf3)
  have HRQ := Lib.hid (HRQ.out.fresh hf3)
  clear hf3 HSM HF2
  cases bs with
  | false =>
    clear hbs
    go_wp2_with fail
    with_reducible refine (HW.out _).mono ?_
    rintro e W4 ⟨rfl, hf4⟩
    go_wp2
    go_ret
    exact ⟨rfl, HF3.out.trans hf4⟩
  | true =>
    have HSG := Lib.hid (hbs rfl)
    clear hbs
    by_cases hz50 : zn ≤ 50
    · have d1 : ¬ 50 < (zn : Int) := by omega
      have HEA := Lib.hid (totG_each HSG.out.1)
      have hm60 : m ≤ 60 := by
        have h1 := totG_len fxs
        have h2 := HSG.out.1
        rw [HM.out] at h1
        omega
      obtain ⟨F, hF⟩ : ∃ F, fxs.map frOf = F := ⟨_, rfl⟩
      have HFL : Hid (F.length = m) := Lib.hid (by rw [← hF, List.length_map, HM.out])
      have HFX : Hid (∀ k x, fxs[k]? = some x → F[k]? = some (frOf x)) := Lib.hid (fun k x hx => by rw [← hF, List.getElem?_map, hx]; rfl)
      have HROK : Hid (RowOk F) := Lib.hid (fun f hf => by
        rw [← hF] at hf
        obtain ⟨x, hx, rfl⟩ := List.mem_map.1 hf
        obtain ⟨_, _, _, h4, h5⟩ := frOf_ok (HSG.out.2 x hx)
        exact ⟨h4, by rw [h5]; exact HEA.out x hx⟩)
      have HRL : Hid ((rowB F).length ≤ 600) := Lib.hid (by rw [← hF]; exact Nat.le_trans (rowB_len fxs) HSG.out.1)
      clear hF
      go_upto_region 7 with fail
      refine wp_gen (fun W => Blk W W3.heap.size 32 #[.int .i64 0, .bool false] ∧ Fresh W3 W) ⟨Blk.new _ _ _, Fresh.alloc _ _⟩ ?_
      rintro W4 ⟨hb4, hf4⟩
      have hlt4 := hb4.lt
      have HCK : Hid (Ck1 w W4 W3.heap.size p q TQ F 0 0 (.slice none 0 0) 0 (.slice none 0 0) [] (some ([], none, false)) 0 false TP) := Lib.hid ⟨HF3.out.trans hf4, Own.nil _ _ _ _, (fun i hi => by cases hi), HRQ.out.fresh hf4, fun i hi => (HRQ.out.lo i hi).2, OwnE.nil _ _, (fun x hx => by cases hx), HRP.out.fresh hf4, HPQ.out, (fun x hx => by cases hx), hb4, ⟨HF3.out.size, hlt4⟩, by decide, .inl ⟨rfl, none, false, rfl, rfl⟩⟩
      obtain ⟨b0, hb0⟩ : ∃ b0, W3.heap.size = b0 := ⟨_, rfl⟩
      rw [hb0] at HCK ⊢
      clear hb4 hf4 hlt4 hb0 HRP HRQ HPQ HF3
      go_upto_region 8 with fail
      go_wp2
      go_loopw [7, 8, 51] (fun av wv i wr => ∃ (k na : Nat) (AA : Option Addr) (ca : Nat) (WV : Value) (xs : List EvV) (st : RiSt) (co : Int) (cb : Bool) (T : Nat → Prop), WV = wv ∧ k ≤ m ∧ i = .int .i64 (k : Int) ∧ av = .slice AA na ca ∧ na ≤ 600 ∧ xs.length ≤ k ∧ Ck1 w wr b0 p q TQ F k k (.slice AA na ca) na WV xs st co cb T) (fun _ _ i _ => m - (intOf i).toNat)
      case atStart => exact ⟨0, 0, none, 0, _, [], _, _, _, _, rfl, by omega, rfl, rfl, by omega, by simp, HCK.out⟩
      case round =>
        obtain ⟨k, na, AA, ca, WV, xs, st, co, cb, T, hwv, hk, rfl, rfl, hna, hxk, hck⟩ := hrel
        subst hwv
        have HC := Lib.hid hck
        clear hck HCK
        by_cases hlt : k < m
        · have hlt' : (k : Int) < (m : Int) := by omega
          obtain ⟨z, hz⟩ : ∃ z, fxs[k]? = some z := ⟨_, List.getElem?_eq_getElem (by rw [HM.out]; exact hlt)⟩
          have HFK := Lib.hid (HFX.out k z hz)
          have hzm := List.mem_of_getElem? hz
          have hz6 := HEA.out z hzm
          obtain ⟨n, hn⟩ : ∃ n, z.l.length = n := ⟨_, rfl⟩
          have HFB := Lib.hid (fun W (hf : Fresh w W) => fb_of (x := z) hn (HSG.out.2 z hzm) (by omega) W ((HOK.out z hzm).fresh hf))
          unfold BytesN at HFB
          obtain ⟨f, hfo⟩ : ∃ f, frOf z = f := ⟨_, rfl⟩
          have HFO : Hid (f.st ≤ 2147483647 ∧ f.pl.length ≤ 600 ∧ f.pl.length = n) := Lib.hid (by
            have h1 := HROK.out f (List.mem_of_getElem? (hfo ▸ HFK.out))
            exact ⟨h1.1, h1.2, by rw [← hfo]; exact hn⟩)
          rw [hfo] at HFK HFB
          obtain ⟨b, o, rfl, hbw, k0, k1, k2, k3⟩ := HROWS.out.at_ k z hz
          simp only [FrV.cells, List.getElem?_cons_zero, List.getElem?_cons_succ] at k0 k1 k2 k3
          have j0 := (HC.out.fr.cell (p := ⟨b, o + k * 4, none⟩) hbw).trans k0
          have j1 := (HC.out.fr.cell (p := ⟨b, o + k * 4 + 1, none⟩) hbw).trans k1
          have j2 := (HC.out.fr.cell (p := ⟨b, o + k * 4 + 2, none⟩) hbw).trans k2
          have j3 := (HC.out.fr.cell (p := ⟨b, o + k * 4 + 3, none⟩) hbw).trans k3
          clear hz hzm hfo
          obtain ⟨ty, fl, stm, YA, yc, zl⟩ := z
          simp only at j0 j1 j2 j3 hz6 hn HFB
          rw [hn] at j3 hz6
          clear k0 k1 k2 k3 hn
          go_upto_region 10 with (first | (refine wp_storeB (ds := #[.int .i64 ty, .int .i64 fl, .int .i64 stm, .slice YA n yc]) rfl (.tmp 11) (.tmp 54) _ rfl rfl rfl (Blk.new _ _ _) (by kernel_rfl) rfl (by simp [Value.oneCell']) ?_) | fail)
          intro W5 hb5 ho5
          have hf5 : Fresh wr W5 := Only.fresh ((Only.of_fresh (Fresh.alloc _ _)).trans ho5) (fun i hi e => by omega)
          have HB5 := Lib.hid hb5
          have HC := Lib.hid (HC.out.fresh hf5)
          obtain ⟨b11, hb11⟩ : ∃ b, wr.heap.size = b := ⟨_, rfl⟩
          rw [hb11] at HB5 ⊢
          have HAO : Hid (∀ i, (Value.slice AA na ca).ownBlock = some i → i < W5.heap.size) := Lib.hid (fun i hi => (HC.out.all.lt i hi).2)
          clear hb5 ho5 hf5 hb11 j0 j1 j2 j3 hbw
          go_wp2_with (first | (refine wp_loadB rfl (.tmp 11) _ rfl rfl HB5.out (by kernel_rfl) (fun w => by simp [isAgg, go_sem]) ?_) | fail)
          with_reducible refine (HFB.out _ HC.out.fr).mono ?_
          rintro e W6 ⟨BA, bc, rfl, hbc, hbm, hob, hf6⟩
          have HC := Lib.hid (HC.out.fresh hf6)
          have HOB := Lib.hid hob
          have HBG : Hid (∀ b' o', BA = some ⟨b', o', none⟩ → W5.heap.size ≤ b') := Lib.hid (fun b' o' e => by
            rcases hob.form with ⟨e1, h1, _⟩ | ⟨g', cap, e1, hg, _⟩
            · omega
            · injection e1 with e1
              rw [e] at e1
              cases e1
              exact hg)
          clear hob hf6 HB5 HFB
          have hflen : (frB2 f.x f.y f.st f.pl).length = 9 + n := by rw [frB2_length, HFO.out.2.2]
          have hna' : na + (9 + n) ≤ 600 := by
            obtain ⟨hk', he⟩ := List.getElem?_eq_some_iff.1 HFK.out
            have h1 := HC.out.all.length
            have h2 : rowB F = rowB (F.take k) ++ rowB (F.drop k) := by
              rw [← rowB_appendC, List.take_append_drop]
            have h3 : rowB (F.drop k) = frB2 f.x f.y f.st f.pl ++ rowB (F.drop (k + 1)) := by
              rw [← List.getElem_cons_drop hk', he]
              simp [rowB]
            have h4 := HRL.out
            rw [h2, h3] at h4
            simp only [List.length_append, List.length_map] at h4 h1
            omega
          obtain ⟨A7, c7, W7, hap7, ho7, hO7, hat7⟩ := Own.moreX (P := Tryz.prog) Tryz.underlying28 u8_info 28 HC.out.all (by have := HC.out.b0l.2; omega) BA bc (frB2 f.x f.y f.st f.pl) (9 + n) (na + (9 + n)) hflen rfl HOB.out.bytes.1 (by omega)
          have HG := Lib.hid (HC.out.grow f HFK.out _ _ ho7 hO7 hat7)
          have HOB : Hid (BS W7 BA (frB2 f.x f.y f.st f.pl)) := Lib.hid (HOB.out.bytes.1.only hO7 (fun b' o' e hh => by
            have h1 := HAO.out b' hh
            have h2 := HBG.out b' o' e
            omega))
          clear ho7 hO7 hat7 HC
          go_wp2_with (first | (at_builtin; with_reducible refine wp_app rfl (.tmp 60) (.tmp 61) _ rfl hap7 rfl rfl rfl ?_) | (refine wp_loadB rfl (.tmp 9) _ rfl rfl HG.out.f9 (by kernel_rfl) (fun w => by simp [isAgg, go_sem]) ?_) | fail)
          clear hap7
          by_cases hco : co = 0
          · subst hco
            have hcbf : cb = false := by rw [← HG.out.hcb]; decide
            subst hcbf
            with_reducible refine (pok 0 false true (by decide) _).mono ?_
            rintro e W8 ⟨rfl, hf8⟩
            have HG := Lib.hid (HG.out.fresh hf8)
            have HOB := Lib.hid (HOB.out.fresh hf8)
            clear hf8
            obtain ⟨s0, bg0, hst, hpre⟩ : ∃ s bg, st = some ([], s, bg) ∧ readAll none false (F.take k) = (xs.map EvV.e, 0, s, bg) := by
              rcases HG.out.pre with ⟨_, h⟩ | ⟨h, _⟩
              · exact h
              · exact absurd rfl h
            subst hst
            obtain ⟨qq, hqq⟩ : ∃ qq, readP s0 bg0 f.x.toNat f.y.toNat f.st f.pl = qq := ⟨_, rfl⟩
            have HAT := Lib.hid (readAll_at hpre f HFK.out qq hqq)
            have HFX1 := Lib.hid (feedX_one HFO.out.1 HFO.out.2.1 s0 bg0 qq hqq)
            clear hpre hqq
            obtain ⟨⟨ev, co', st'⟩, hfx⟩ : ∃ q, feedX (some ([], s0, bg0)) (frB2 f.x f.y f.st f.pl) = q := ⟨_, rfl⟩
            have HPRE : Hid (ev.length ≤ 1 ∧ ((co' = 0 ∧ ∃ s bg, st' = some ([], s, bg) ∧ readAll none false (F.take (k + 1)) = (xs.map EvV.e ++ ev, 0, s, bg)) ∨ (co' ≠ 0 ∧ st' = none ∧ ∃ s bg, readAll none false F = (xs.map EvV.e ++ ev, co', s, bg)))) := Lib.hid (by
              have h1 := HFX1.out
              rw [hfx] at h1
              by_cases h0 : qq.1 = 0
              · rw [if_pos h0] at h1
                simp only [Prod.mk.injEq] at h1
                obtain ⟨rfl, rfl, rfl⟩ := h1
                exact ⟨by split <;> simp, .inl ⟨rfl, qq.2.1, true, rfl, HAT.out.1 h0⟩⟩
              · rw [if_neg h0] at h1
                simp only [Prod.mk.injEq] at h1
                obtain ⟨rfl, rfl, rfl⟩ := h1
                exact ⟨by simp, .inr ⟨h0, rfl, s0, true, by rw [HAT.out.2 h0]; simp⟩⟩)
            obtain ⟨cb', hcb'⟩ : ∃ cb', decide (co' ≠ 0) = cb' := ⟨_, rfl⟩
            have HCB := Lib.hid hcb'
            have HFD := Lib.hid (in_feedS w W8 p (some ([], s0, bg0)) T BA (9 + n) bc (frB2 f.x f.y f.st f.pl) HG.out.r hflen HOB.out (by omega) ev co' cb' st' hfx hcb')
            unfold InFeedS at HFD
            clear hfx hcb' HFX1 HAT hflen
            go_wp2_with fail
            with_reducible refine HFD.out.mono ?_
            clear HFD
            rintro e W9 ⟨ys, YA2, yn, yc2, T', rfl, hyn, hoy, hye, ho9, hr9, hg9, hx9⟩
            have HYS := Lib.hid hoy
            have HO9 := Lib.hid ho9
            have HR9 := Lib.hid hr9
            have HG9 := Lib.hid hg9
            have HX9 := Lib.hid hx9
            have HYE := Lib.hid hye
            have HYN := Lib.hid hyn
            have HK9 := Lib.hid (HG.out.f9.only ho9 (HG.out.r.odd HG.out.f9 (by decide)))
            clear hoy ho9 hr9 hg9 hx9 hye hyn HOB
            go_wp2_with (first | (refine wp_storeB (ds := #[.int .i64 co', .bool cb']) rfl (.tmp 9) (.tmp 70) _ rfl rfl rfl HK9.out (by kernel_rfl) rfl (by simp [Value.oneCell']) ?_) | fail)
            intro W10 hb10 ho10
            have hyl : yn ≤ 1 := by
              rw [← HYN.out]
              have h1 := congrArg List.length HYE.out
              rw [List.length_map] at h1
              have := HPRE.out.1
              omega
            obtain ⟨A11, c11, W11, hap11, hck11⟩ := HG.out.feed HYS.out HO9.out HR9.out HG9.out HX9.out hb10 ho10 HCB.out (k' := k + 1) (by rw [HYE.out]; exact HPRE.out.2) xs.length (xs.length + yn) rfl rfl (by omega)
            have HCN := Lib.hid hck11
            clear hb10 ho10 hck11
            go_wp2_with (first | (at_builtin; with_reducible refine wp_app rfl (.tmp 71) (.tmp 72) _ rfl hap11 rfl rfl rfl ?_) | fail)
            clear hap11
            go_roundw
            case rel => exact ⟨k + 1, na + (9 + n), A7, c7, _, xs ++ ys, st', co', cb', T', rfl, by omega, by go_num, rfl, hna', by simp only [List.length_append]; have := HYN.out; omega, HCN.out⟩
            case measure => simp [intOf]; omega
          · have hcbt : cb = true := by rw [← HG.out.hcb]; exact decide_eq_true hco
            subst hcbt
            with_reducible refine (pok co true false (by simp) _).mono ?_
            rintro e W8 ⟨rfl, hf8⟩
            have HG := Lib.hid (HG.out.fresh hf8)
            have HCN : Hid (Ck1 w W8 b0 p q TQ F (k + 1) (k + 1) (.slice A7 (na + (9 + n)) c7) (na + (9 + n)) WV xs st co true T) := Lib.hid ⟨HG.out.fr, HG.out.all, HG.out.at_, HG.out.q, HG.out.qlo, HG.out.out, HG.out.oall, HG.out.r, HG.out.pq, HG.out.xo, HG.out.f9, HG.out.b0l, HG.out.hcb, by
              rcases HG.out.pre with ⟨h, _⟩ | h
              · exact absurd h hco
              · exact .inr h⟩
            clear hf8
            go_wp2_with fail
            go_roundw
            case rel => exact ⟨k + 1, na + (9 + n), A7, c7, _, xs, st, co, true, T, rfl, by omega, by go_num, rfl, hna', by omega, HCN.out⟩
            case measure => simp [intOf]; omega
        · have hkm : k = m := by omega
          subst hkm
          have hkF : Hid (F.take k = F) := Lib.hid (List.take_of_length_le (by rw [HFL.out]; exact Nat.le_refl _))
          have HALL : Hid (Own wr (b0 + 1) 5 1 (.slice AA na ca) na ((rowB F).map byteV)) := Lib.hid (by
            have := HC.out.all
            rwa [hkF.out] at this)
          have HPRE1 : Hid ((co = 0 ∧ ∃ s bg, readAll none false F = (xs.map EvV.e, 0, s, bg)) ∨ (co ≠ 0 ∧ ∃ s bg, readAll none false F = (xs.map EvV.e, co, s, bg))) := Lib.hid (by
            rcases HC.out.pre with ⟨h1, s, bg, _, h2⟩ | ⟨h1, _, s, bg, h2⟩
            · rw [hkF.out] at h2
              exact .inl ⟨h1, s, bg, h2⟩
            · exact .inr ⟨h1, s, bg, h2⟩)
          clear hkF
          have HCB0 : Hid (decide (co ≠ 0) = cb) := Lib.hid HC.out.hcb
          have HNA : Hid ((rowB F).length = na) := Lib.hid (by have := HALL.out.length; simpa using this)
          obtain ⟨hlA, hmA⟩ : na ≤ ca ∧ ca ≤ maxLen := by
            obtain ⟨A', c', e, h1, h2, _⟩ := HALL.out.slice
            injection e with _ _ e
            subst e
            exact ⟨h1, h2⟩
          have HAA : Hid (∀ b o, AA = some ⟨b, o, none⟩ → 0 < na → b0 ≤ b ∧ b < wr.heap.size) := Lib.hid (fun b' o' e h0 => by
            rcases HALL.out.form with ⟨e1, h1, _⟩ | ⟨g', cap, e1, hg, hg2, _⟩
            · omega
            · injection e1 with e1
              rw [e] at e1
              cases e1
              exact ⟨by omega, hg2⟩)
          go_upto_region 19 with fail
          refine wp_gen (fun W => Blk W wr.heap.size 32 #[.int .i64 0, .bool false] ∧ Fresh wr W ∧ W.heap.size = wr.heap.size + 1) ⟨Blk.new _ _ _, Fresh.alloc _ _, by simp⟩ ?_
          rintro W5 ⟨hb5, hf5, hs5⟩
          obtain ⟨b1, hb1⟩ : ∃ b1, wr.heap.size = b1 := ⟨_, rfl⟩
          have HB1 := Lib.hid hb1
          rw [hb1] at hb5 hs5 HAA ⊢
          have hlit : Own (W5.alloc (.cells #[] 3)) W5.heap.size 3 1 (.slice (some ⟨W5.heap.size, 0, none⟩) 0 0) 0 (([] : List Int).map fun z => .int .i64 z) := Own.lit (Nat.le_refl _) (by unfold maxLen; omega) rfl
          obtain ⟨A6, c6, W6, hap6, ho6, hO6⟩ := OwnI.append hlit (by simp) ZA zc zn zn (((HZR.out).fresh (HC.out.fr.trans hf5)).fresh (Fresh.alloc _ _)) HZN.out (by omega) (by unfold maxLen at hzmax; omega)
          have hf6 : Fresh W5 W6 := Only.fresh ((Only.of_fresh (Fresh.alloc _ _)).trans hO6) (fun i hi e => by have := (hlit.lt i e).1; omega)
          have hs6 := hf6.size
          have hone : Many cellI 1 (W6.alloc (.cells #[.int .i64 (na : Int)] 3)) (some ⟨W6.heap.size, 0, none⟩) [(na : Int)] := fun _ => ⟨W6.heap.size, 0, rfl, by simp, fun i hi j hj => by
            obtain rfl : i = 0 := by simp at hi; omega
            obtain rfl : j = 0 := by omega
            exact (Blk.new W6 3 #[.int .i64 (na : Int)]).cell 0⟩
          obtain ⟨A7, c7, W7, hap7, ho7, hO7⟩ := OwnI.append (ho6.fresh (Fresh.alloc W6 (.cells #[.int .i64 (na : Int)] 3))) (by simp; omega) (some ⟨W6.heap.size, 0, none⟩) 1 1 (zn + 1) hone rfl rfl (by unfold maxLen at hzmax; omega)
          have hf7 : Fresh W5 W7 := Only.fresh ((Only.of_fresh (hf6.trans (Fresh.alloc _ _))).trans hO7) (fun i hi e => by have := (ho6.lt i e).1; omega)
          have HCU := Lib.hid ho7
          have hf37 := hf5.trans hf7
          have HC2 : Hid (Ck2 w W7 b0 b1 q F 0 AA na ca WV xs co cb (.slice none 0 0) [] (some ([], none, false)) 0 false TQ (.slice A7 (zn + 1) c7) (zn + 1) (zs ++ [(na : Int)])) := Lib.hid ⟨HC.out.fr.trans hf37, by rw [List.drop_zero]; exact (HALL.out.fresh hf37).bytes.1, ⟨by omega, by rw [HNA.out]; omega, hlA, hmA⟩, fun h0 b' o' e => HAA.out b' o' e h0, HC.out.q.fresh hf37, fun i hi => .inl (HC.out.qlo i hi), HC.out.out.fresh hf37, fun i hi => by have := (HC.out.out.blk hi).2.1; omega, fun x hx => ((HC.out.out.2.1 x hx).low.or (HC.out.out.2.1 x hx).lt).mono (fun i e => by omega), OwnE.nil _ _, (fun x hx => by cases hx), HC.out.f9.fresh hf37, hb5.fresh hf7, ho7.base_le (by omega), ⟨HC.out.b0l.1, by have := HC.out.b0l.2; omega⟩, by decide, .inl ⟨rfl, [], [], none, false, rfl, rfl, rfl⟩⟩
          clear hb5 hf5 hs5 hb1 hlit ho6 hO6 hf6 hs6 hone ho7 hO7 hf7 hf37 HB1 HAA HALL HC
          go_wp2_with (at_builtin; first | (with_reducible refine wp_app rfl (.tmp 75) (.tmp 76) _ rfl hap6 rfl rfl rfl ?_) | (with_reducible refine wp_app rfl (.tmp 77) (.tmp 80) _ rfl hap7 rfl rfl rfl ?_))
          clear hap6 hap7
          obtain ⟨cn, hcn⟩ : ∃ cn, zn + 1 = cn := ⟨_, rfl⟩
          have HCS : Hid (∀ k2 z, (zs ++ [(na : Int)])[k2]? = some z → k2 < zn ∨ (k2 = zn ∧ z = (na : Int))) := Lib.hid (fun k2 z hz => by
            obtain ⟨h1, h2⟩ := List.getElem?_eq_some_iff.1 hz
            simp only [List.length_append, List.length_singleton, HZN.out] at h1
            by_cases h3 : k2 < zn
            · exact .inl h3
            · obtain rfl : k2 = zn := by omega
              refine .inr ⟨rfl, ?_⟩
              rw [List.getElem_append_right (by rw [HZN.out]; exact Nat.le_refl _)] at h2
              simpa using h2.symm)
          have HCL : Hid ((zs ++ [(na : Int)]).length = cn) := Lib.hid (by simp [HZN.out, hcn])
          generalize zs ++ [(na : Int)] = cs at HC2 HCU HCS HCL
          rw [hcn] at HC2 HCU ⊢
          have hcast : ((zn : Int) + 1) = (cn : Int) := by omega
          try rw [hcast]
          have HFL0 := HFL
          go_wp2
          go_loopw [7, 15, 83] (fun av gv i wr => ∃ (k2 j : Nat) (RA : Option Addr) (rn rc : Nat) (GV : Value) (ys : List EvV) (st2 : RiSt) (co2 : Int) (cb2 : Bool) (T : Nat → Prop), GV = gv ∧ k2 ≤ cn ∧ i = .int .i64 (k2 : Int) ∧ av = .slice RA rn rc ∧ (k2 = cn → j = (rowB F).length) ∧ Ck2 w wr b0 b1 q F j RA rn rc WV xs co cb GV ys st2 co2 cb2 T (.slice A7 cn c7) cn cs) (fun _ _ i _ => cn - (intOf i).toNat)
          case atStart => exact ⟨0, 0, AA, na, ca, _, [], _, _, _, _, rfl, by omega, rfl, rfl, fun h => by omega, HC2.out⟩
          case round =>
            obtain ⟨k2, j, RA, rn, rc, GV, ys, st2, co2, cb2, T, hgv, hk2, rfl, rfl, hjl, hck⟩ := hrel
            subst hgv
            have HC := Lib.hid hck
            have HJL := Lib.hid hjl
            clear hck hjl HC2
            by_cases hlt : k2 < cn
            · have hlt' : (k2 : Int) < (cn : Int) := by omega
              obtain ⟨z, hz⟩ : ∃ z, cs[k2]? = some z := ⟨_, List.getElem?_eq_getElem (by rw [HCL.out]; exact hlt)⟩
              have HCZ := Lib.hid (HCS.out k2 z hz)
              obtain ⟨cg, j0⟩ : ∃ cg, A7 = some ⟨cg, 0, none⟩ ∧ wr.cell? ⟨cg, k2, none⟩ = some (.int .i64 z) := by
                rcases HC.out.cu.form with ⟨e1, h1, _⟩ | ⟨g', cap, e1, hg, hg2, _, _, hc⟩
                · omega
                · injection e1 with e1
                  refine ⟨g', e1, ?_⟩
                  rw [(hc k2 (by rw [List.length_map, HCL.out]; exact hlt)).1, List.getElem?_map, hz]
                  rfl
              obtain ⟨rfl, j0⟩ := j0
              clear hz
              by_cases hz0 : z < 0
              · have hrn0 : ¬ (rn : Int) < 0 := by omega
                have hrn0' : (0 : Int) ≤ (rn : Int) := by omega
                have hnR : 0 ≤ rn := by omega
                have h1 := run_cut_to (P := Tryz.prog) Tryz.underlying28 u8_sizeC RA rn rc (0) (by have := HC.out.rl.2.2.1; omega)
                have h2 := run_cut_from (P := Tryz.prog) Tryz.underlying28 u8_sizeC RA rn rc (0) hnR
                rw [show ((0 : Nat) : Int) = 0 from rfl] at h1 h2
                have HNR := Lib.hid hnR
                have HLAST : Hid (k2 + 1 = cn → j + (0) = (rowB F).length) := Lib.hid (fun h => by have h5 := HC.out.rl; have h6 := HNA.out; rcases HCZ.out with h3 | ⟨h3, h4⟩ <;> omega)
                clear HCZ
                go_wp2_with (first | (refine wp_loadB rfl (.tmp 16) _ rfl rfl HC.out.f16 (by kernel_rfl) (fun w => by simp [isAgg, go_sem]) ?_) | fail)
                by_cases hco2 : co2 = 0
                · subst hco2
                  have hcbf : cb2 = false := by rw [← HC.out.hcb]; decide
                  subst hcbf
                  with_reducible refine (pok 0 false true (by decide) _).mono ?_
                  rintro e W8 ⟨rfl, hf8⟩
                  have HC := Lib.hid (HC.out.fresh hf8)
                  clear hf8
                  obtain ⟨G0, l0, s0, bg0, hst, hA0, hR0⟩ : ∃ G l s bg, st2 = some (l, s, bg) ∧ allF 16384 ((rowB F).take j).length ((rowB F).take j) = some (G, l) ∧ readAll none false G = (ys.map EvV.e, 0, s, bg) := by
                    rcases HC.out.pre with ⟨_, h⟩ | ⟨h, _⟩
                    · exact h
                    · exact absurd rfl h
                  subst hst
                  obtain ⟨⟨ev, co', st'⟩, hfx⟩ : ∃ q, feedX (some (l0, s0, bg0)) (((rowB F).drop j).take (0)) = q := ⟨_, rfl⟩
                  have HPRE := Lib.hid (ck_pure HROK.out (n := 0) (by have := HC.out.rl; omega) hA0 hR0 hfx)
                  obtain ⟨cb', hcb'⟩ : ∃ cb', decide (co' ≠ 0) = cb' := ⟨_, rfl⟩
                  have HCB := Lib.hid hcb'
                  have HFD := Lib.hid (in_feedS w W8 q (some (l0, s0, bg0)) T RA (0) rc (((rowB F).drop j).take (0)) HC.out.r (by rw [List.length_take, List.length_drop]; have := HC.out.rl; omega) (HC.out.bs.take _) (by have := HC.out.rl; have := HRL.out; omega) ev co' cb' st' hfx hcb')
                  unfold InFeedS at HFD
                  clear hfx hcb' hA0 hR0
                  go_wp2_with fail
                  with_reducible refine HFD.out.mono ?_
                  clear HFD
                  rintro e W9 ⟨vs, YA2, yn, yc2, T', rfl, hyn, hoy, hye, ho9, hr9, hg9, hx9⟩
                  have HYS := Lib.hid hoy
                  have HO9 := Lib.hid ho9
                  have HR9 := Lib.hid hr9
                  have HG9 := Lib.hid hg9
                  have HX9 := Lib.hid hx9
                  have HYE := Lib.hid hye
                  have HYN := Lib.hid hyn
                  have HK9 := Lib.hid (HC.out.f16.only ho9 (HC.out.r.odd HC.out.f16 (by decide)))
                  clear hoy ho9 hr9 hg9 hx9 hye hyn
                  go_wp2_with (first | (refine wp_storeB (ds := #[.int .i64 co', .bool cb']) rfl (.tmp 16) (.tmp 101) _ rfl rfl rfl HK9.out (by kernel_rfl) rfl (by simp [Value.oneCell']) ?_) | fail)
                  intro W10 hb10 ho10
                  have hcnt : ys.length + yn ≤ 600 := by
                    have hevl : ev.length = yn := by rw [← HYE.out, List.length_map, HYN.out]
                    rcases HPRE.out with ⟨_, G1, l1, s1, bg1, _, hA1, hR1⟩ | ⟨_, _, s1, bg1, hR1⟩
                    · have h3 := readAll_len G1 none false
                      have h4 := allF_countY _ _ _ hA1
                      rw [hR1] at h3
                      simp only [List.length_append, List.length_map, List.length_take] at h3 h4
                      have := HRL.out
                      omega
                    · have h3 := readAll_len F none false
                      rw [hR1] at h3
                      simp only [List.length_append, List.length_map] at h3
                      have := HFL.out
                      omega
                  obtain ⟨A11, c11, W11, hap11, hck11⟩ := HC.out.feed HYS.out HO9.out HR9.out HG9.out HX9.out hb10 ho10 HCB.out (0) HNR.out (by rw [HYE.out]; exact HPRE.out) ys.length (ys.length + yn) rfl rfl (by omega)
                  have HCN := Lib.hid hck11
                  clear hb10 ho10 hck11
                  go_wp2_with (first | (at_builtin; with_reducible refine wp_app rfl (.tmp 102) (.tmp 103) _ rfl hap11 rfl rfl rfl ?_) | fail)
                  clear hap11
                  go_roundw
                  case rel => exact ⟨k2 + 1, j + (0), cutA RA (0) rc, rn - (0), rc - (0), _, ys ++ vs, st', co', cb', T', rfl, by omega, by go_num, by first | rfl | simp, HLAST.out, HCN.out⟩
                  case measure => simp [intOf]; omega
                · have hcbt : cb2 = true := by rw [← HC.out.hcb]; exact decide_eq_true hco2
                  subst hcbt
                  with_reducible refine (pok co2 true false (by simp) _).mono ?_
                  rintro e W8 ⟨rfl, hf8⟩
                  have HC := Lib.hid (HC.out.fresh hf8)
                  have HCN := Lib.hid (HC.out.cut (0) HNR.out (by
                    rcases HC.out.pre with ⟨h, _⟩ | h
                    · exact absurd h hco2
                    · exact .inr h))
                  clear hf8
                  go_wp2_with fail
                  go_roundw
                  case rel => exact ⟨k2 + 1, j + (0), cutA RA (0) rc, rn - (0), rc - (0), _, ys, st2, co2, true, T, rfl, by omega, by go_num, by first | rfl | simp, HLAST.out, HCN.out⟩
                  case measure => simp [intOf]; omega
              · by_cases hzl : z ≤ (rn : Int)
                · obtain ⟨z0, rfl⟩ : ∃ z0 : Nat, z = (z0 : Int) := ⟨z.toNat, by omega⟩
                  have hz0' : ¬ (z0 : Int) < 0 := by omega
                  have hzl' : ¬ (rn : Int) < (z0 : Int) := by omega
                  have hzn' : z0 ≤ rn := by omega
                  have hnR : z0 ≤ rn := by omega
                  have h1 := run_cut_to (P := Tryz.prog) Tryz.underlying28 u8_sizeC RA rn rc (z0) (by have := HC.out.rl.2.2.1; omega)
                  have h2 := run_cut_from (P := Tryz.prog) Tryz.underlying28 u8_sizeC RA rn rc (z0) hnR
                  skip
                  have HNR := Lib.hid hnR
                  have HLAST : Hid (k2 + 1 = cn → j + (z0) = (rowB F).length) := Lib.hid (fun h => by have h5 := HC.out.rl; have h6 := HNA.out; rcases HCZ.out with h3 | ⟨h3, h4⟩ <;> omega)
                  clear HCZ
                  go_wp2_with (first | (refine wp_loadB rfl (.tmp 16) _ rfl rfl HC.out.f16 (by kernel_rfl) (fun w => by simp [isAgg, go_sem]) ?_) | fail)
                  by_cases hco2 : co2 = 0
                  · subst hco2
                    have hcbf : cb2 = false := by rw [← HC.out.hcb]; decide
                    subst hcbf
                    with_reducible refine (pok 0 false true (by decide) _).mono ?_
                    rintro e W8 ⟨rfl, hf8⟩
                    have HC := Lib.hid (HC.out.fresh hf8)
                    clear hf8
                    obtain ⟨G0, l0, s0, bg0, hst, hA0, hR0⟩ : ∃ G l s bg, st2 = some (l, s, bg) ∧ allF 16384 ((rowB F).take j).length ((rowB F).take j) = some (G, l) ∧ readAll none false G = (ys.map EvV.e, 0, s, bg) := by
                      rcases HC.out.pre with ⟨_, h⟩ | ⟨h, _⟩
                      · exact h
                      · exact absurd rfl h
                    subst hst
                    obtain ⟨⟨ev, co', st'⟩, hfx⟩ : ∃ q, feedX (some (l0, s0, bg0)) (((rowB F).drop j).take (z0)) = q := ⟨_, rfl⟩
                    have HPRE := Lib.hid (ck_pure HROK.out (n := z0) (by have := HC.out.rl; omega) hA0 hR0 hfx)
                    obtain ⟨cb', hcb'⟩ : ∃ cb', decide (co' ≠ 0) = cb' := ⟨_, rfl⟩
                    have HCB := Lib.hid hcb'
                    have HFD := Lib.hid (in_feedS w W8 q (some (l0, s0, bg0)) T RA (z0) rc (((rowB F).drop j).take (z0)) HC.out.r (by rw [List.length_take, List.length_drop]; have := HC.out.rl; omega) (HC.out.bs.take _) (by have := HC.out.rl; have := HRL.out; omega) ev co' cb' st' hfx hcb')
                    unfold InFeedS at HFD
                    clear hfx hcb' hA0 hR0
                    go_wp2_with fail
                    with_reducible refine HFD.out.mono ?_
                    clear HFD
                    rintro e W9 ⟨vs, YA2, yn, yc2, T', rfl, hyn, hoy, hye, ho9, hr9, hg9, hx9⟩
                    have HYS := Lib.hid hoy
                    have HO9 := Lib.hid ho9
                    have HR9 := Lib.hid hr9
                    have HG9 := Lib.hid hg9
                    have HX9 := Lib.hid hx9
                    have HYE := Lib.hid hye
                    have HYN := Lib.hid hyn
                    have HK9 := Lib.hid (HC.out.f16.only ho9 (HC.out.r.odd HC.out.f16 (by decide)))
                    clear hoy ho9 hr9 hg9 hx9 hye hyn
                    go_wp2_with (first | (refine wp_storeB (ds := #[.int .i64 co', .bool cb']) rfl (.tmp 16) (.tmp 101) _ rfl rfl rfl HK9.out (by kernel_rfl) rfl (by simp [Value.oneCell']) ?_) | fail)
                    intro W10 hb10 ho10
                    have hcnt : ys.length + yn ≤ 600 := by
                      have hevl : ev.length = yn := by rw [← HYE.out, List.length_map, HYN.out]
                      rcases HPRE.out with ⟨_, G1, l1, s1, bg1, _, hA1, hR1⟩ | ⟨_, _, s1, bg1, hR1⟩
                      · have h3 := readAll_len G1 none false
                        have h4 := allF_countY _ _ _ hA1
                        rw [hR1] at h3
                        simp only [List.length_append, List.length_map, List.length_take] at h3 h4
                        have := HRL.out
                        omega
                      · have h3 := readAll_len F none false
                        rw [hR1] at h3
                        simp only [List.length_append, List.length_map] at h3
                        have := HFL.out
                        omega
                    obtain ⟨A11, c11, W11, hap11, hck11⟩ := HC.out.feed HYS.out HO9.out HR9.out HG9.out HX9.out hb10 ho10 HCB.out (z0) HNR.out (by rw [HYE.out]; exact HPRE.out) ys.length (ys.length + yn) rfl rfl (by omega)
                    have HCN := Lib.hid hck11
                    clear hb10 ho10 hck11
                    go_wp2_with (first | (at_builtin; with_reducible refine wp_app rfl (.tmp 102) (.tmp 103) _ rfl hap11 rfl rfl rfl ?_) | fail)
                    clear hap11
                    go_roundw
                    case rel => exact ⟨k2 + 1, j + (z0), cutA RA (z0) rc, rn - (z0), rc - (z0), _, ys ++ vs, st', co', cb', T', rfl, by omega, by go_num, by first | rfl | simp, HLAST.out, HCN.out⟩
                    case measure => simp [intOf]; omega
                  · have hcbt : cb2 = true := by rw [← HC.out.hcb]; exact decide_eq_true hco2
                    subst hcbt
                    with_reducible refine (pok co2 true false (by simp) _).mono ?_
                    rintro e W8 ⟨rfl, hf8⟩
                    have HC := Lib.hid (HC.out.fresh hf8)
                    have HCN := Lib.hid (HC.out.cut (z0) HNR.out (by
                      rcases HC.out.pre with ⟨h, _⟩ | h
                      · exact absurd h hco2
                      · exact .inr h))
                    clear hf8
                    go_wp2_with fail
                    go_roundw
                    case rel => exact ⟨k2 + 1, j + (z0), cutA RA (z0) rc, rn - (z0), rc - (z0), _, ys, st2, co2, true, T, rfl, by omega, by go_num, by first | rfl | simp, HLAST.out, HCN.out⟩
                    case measure => simp [intOf]; omega
                · have hzl' : (rn : Int) < z := by omega
                  have hz0' : ¬ z < 0 := hz0
                  have hnR : rn ≤ rn := by omega
                  have h1 := run_cut_to (P := Tryz.prog) Tryz.underlying28 u8_sizeC RA rn rc (rn) (by have := HC.out.rl.2.2.1; omega)
                  have h2 := run_cut_from (P := Tryz.prog) Tryz.underlying28 u8_sizeC RA rn rc (rn) hnR
                  skip
                  have HNR := Lib.hid hnR
                  have HLAST : Hid (k2 + 1 = cn → j + (rn) = (rowB F).length) := Lib.hid (fun h => by have h5 := HC.out.rl; have h6 := HNA.out; rcases HCZ.out with h3 | ⟨h3, h4⟩ <;> omega)
                  clear HCZ
                  go_wp2_with (first | (refine wp_loadB rfl (.tmp 16) _ rfl rfl HC.out.f16 (by kernel_rfl) (fun w => by simp [isAgg, go_sem]) ?_) | fail)
                  by_cases hco2 : co2 = 0
                  · subst hco2
                    have hcbf : cb2 = false := by rw [← HC.out.hcb]; decide
                    subst hcbf
                    with_reducible refine (pok 0 false true (by decide) _).mono ?_
                    rintro e W8 ⟨rfl, hf8⟩
                    have HC := Lib.hid (HC.out.fresh hf8)
                    clear hf8
                    obtain ⟨G0, l0, s0, bg0, hst, hA0, hR0⟩ : ∃ G l s bg, st2 = some (l, s, bg) ∧ allF 16384 ((rowB F).take j).length ((rowB F).take j) = some (G, l) ∧ readAll none false G = (ys.map EvV.e, 0, s, bg) := by
                      rcases HC.out.pre with ⟨_, h⟩ | ⟨h, _⟩
                      · exact h
                      · exact absurd rfl h
                    subst hst
                    obtain ⟨⟨ev, co', st'⟩, hfx⟩ : ∃ q, feedX (some (l0, s0, bg0)) (((rowB F).drop j).take (rn)) = q := ⟨_, rfl⟩
                    have HPRE := Lib.hid (ck_pure HROK.out (n := rn) (by have := HC.out.rl; omega) hA0 hR0 hfx)
                    obtain ⟨cb', hcb'⟩ : ∃ cb', decide (co' ≠ 0) = cb' := ⟨_, rfl⟩
                    have HCB := Lib.hid hcb'
                    have HFD := Lib.hid (in_feedS w W8 q (some (l0, s0, bg0)) T RA (rn) rc (((rowB F).drop j).take (rn)) HC.out.r (by rw [List.length_take, List.length_drop]; have := HC.out.rl; omega) (HC.out.bs.take _) (by have := HC.out.rl; have := HRL.out; omega) ev co' cb' st' hfx hcb')
                    unfold InFeedS at HFD
                    clear hfx hcb' hA0 hR0
                    go_wp2_with fail
                    with_reducible refine HFD.out.mono ?_
                    clear HFD
                    rintro e W9 ⟨vs, YA2, yn, yc2, T', rfl, hyn, hoy, hye, ho9, hr9, hg9, hx9⟩
                    have HYS := Lib.hid hoy
                    have HO9 := Lib.hid ho9
                    have HR9 := Lib.hid hr9
                    have HG9 := Lib.hid hg9
                    have HX9 := Lib.hid hx9
                    have HYE := Lib.hid hye
                    have HYN := Lib.hid hyn
                    have HK9 := Lib.hid (HC.out.f16.only ho9 (HC.out.r.odd HC.out.f16 (by decide)))
                    clear hoy ho9 hr9 hg9 hx9 hye hyn
                    go_wp2_with (first | (refine wp_storeB (ds := #[.int .i64 co', .bool cb']) rfl (.tmp 16) (.tmp 101) _ rfl rfl rfl HK9.out (by kernel_rfl) rfl (by simp [Value.oneCell']) ?_) | fail)
                    intro W10 hb10 ho10
                    have hcnt : ys.length + yn ≤ 600 := by
                      have hevl : ev.length = yn := by rw [← HYE.out, List.length_map, HYN.out]
                      rcases HPRE.out with ⟨_, G1, l1, s1, bg1, _, hA1, hR1⟩ | ⟨_, _, s1, bg1, hR1⟩
                      · have h3 := readAll_len G1 none false
                        have h4 := allF_countY _ _ _ hA1
                        rw [hR1] at h3
                        simp only [List.length_append, List.length_map, List.length_take] at h3 h4
                        have := HRL.out
                        omega
                      · have h3 := readAll_len F none false
                        rw [hR1] at h3
                        simp only [List.length_append, List.length_map] at h3
                        have := HFL.out
                        omega
                    obtain ⟨A11, c11, W11, hap11, hck11⟩ := HC.out.feed HYS.out HO9.out HR9.out HG9.out HX9.out hb10 ho10 HCB.out (rn) HNR.out (by rw [HYE.out]; exact HPRE.out) ys.length (ys.length + yn) rfl rfl (by omega)
                    have HCN := Lib.hid hck11
                    clear hb10 ho10 hck11
                    go_wp2_with (first | (at_builtin; with_reducible refine wp_app rfl (.tmp 102) (.tmp 103) _ rfl hap11 rfl rfl rfl ?_) | fail)
                    clear hap11
                    go_roundw
                    case rel => exact ⟨k2 + 1, j + (rn), cutA RA (rn) rc, rn - (rn), rc - (rn), _, ys ++ vs, st', co', cb', T', rfl, by omega, by go_num, by first | rfl | simp, HLAST.out, HCN.out⟩
                    case measure => simp [intOf]; omega
                  · have hcbt : cb2 = true := by rw [← HC.out.hcb]; exact decide_eq_true hco2
                    subst hcbt
                    with_reducible refine (pok co2 true false (by simp) _).mono ?_
                    rintro e W8 ⟨rfl, hf8⟩
                    have HC := Lib.hid (HC.out.fresh hf8)
                    have HCN := Lib.hid (HC.out.cut (rn) HNR.out (by
                      rcases HC.out.pre with ⟨h, _⟩ | h
                      · exact absurd h hco2
                      · exact .inr h))
                    clear hf8
                    go_wp2_with fail
                    go_roundw
                    case rel => exact ⟨k2 + 1, j + (rn), cutA RA (rn) rc, rn - (rn), rc - (rn), _, ys, st2, co2, true, T, rfl, by omega, by go_num, by first | rfl | simp, HLAST.out, HCN.out⟩
                    case measure => simp [intOf]; omega
            · have hk3 : k2 = cn := by omega
              have hjl := HJL.out hk3
              have HEND : Hid (∃ s bg, readAll none false F = (ys.map EvV.e, co2, s, bg)) := Lib.hid (by
                rcases HC.out.pre with ⟨h1, G, l, s, bg, _, hA, hR⟩ | ⟨_, _, s, bg, hR⟩
                · rw [hjl, List.take_length, allF_whole HROK.out] at hA
                  simp only [Option.some.injEq, Prod.mk.injEq] at hA
                  rw [← hA.1] at hR
                  rw [h1]
                  exact ⟨s, bg, hR⟩
                · exact ⟨s, bg, hR⟩)
              have HBOTH : Hid (co2 = co ∧ ys.map EvV.e = xs.map EvV.e) := Lib.hid (by
                obtain ⟨s, bg, h1⟩ := HEND.out
                rcases HPRE1.out with ⟨h2, s', bg', h3⟩ | ⟨h2, s', bg', h3⟩
                · rw [h1] at h3
                  simp only [Prod.mk.injEq] at h3
                  exact ⟨by rw [h2]; exact h3.2.1, h3.1⟩
                · rw [h1] at h3
                  simp only [Prod.mk.injEq] at h3
                  exact ⟨h3.2.1, h3.1⟩)
              have hco2 := HBOTH.out.1
              subst hco2
              have HCBE : Hid (cb2 = cb) := Lib.hid (by rw [← HC.out.hcb, ← HCB0.out])
              have hcbe := HCBE.out
              subst hcbe
              have HXY : Hid (xs.map EvV.e = ys.map EvV.e) := Lib.hid HBOTH.out.2.symm
              have HLM : Hid (∀ e ∈ xs.map EvV.e, e.lim) := Lib.hid (by
                obtain ⟨s, bg, h1⟩ := HEND.out
                have h2 := readAll_lim F (fun f hf => by have := (HROK.out f hf).2; omega) none false
                rw [h1] at h2
                rw [HXY.out]
                exact h2)
              have HFZ := Lib.hid HC.out.fr
              have HWA := Lib.hid HC.out.want
              have HGO := Lib.hid HC.out.got
              have HF9 := Lib.hid HC.out.f9
              have HF16 := Lib.hid HC.out.f16
              obtain ⟨WA, wc, hwe⟩ := HC.out.want.slice
              obtain ⟨GA, gc, hge⟩ := HC.out.got.slice
              subst hwe hge
              have hxl : xs.length = ys.length := by
                have h1 := congrArg List.length HXY.out
                simpa using h1
              obtain ⟨en, hen⟩ : ∃ en, xs.length = en := ⟨_, rfl⟩
              rw [hen] at hxl HWA ⊢
              rw [← hxl] at HGO ⊢
              have HXN := Lib.hid hen
              have hen60 : en ≤ 60 := by rw [← hen]; omega
              have HYN := Lib.hid hxl.symm
              clear hxl hen HC HEND HBOTH HPRE1 HRL HNA HCS HCL HCU hjl HJL
              go_upto_region 32 with (first | (refine wp_loadB rfl (.tmp 9) _ rfl rfl HF9.out (by kernel_rfl) (fun w => by simp [isAgg, go_sem]) ?_) | (refine wp_loadB rfl (.tmp 16) _ rfl rfl HF16.out (by kernel_rfl) (fun w => by simp [isAgg, go_sem]) ?_) | fail)
              obtain ⟨WE, rfl⟩ : ∃ W, W = wr := ⟨_, rfl⟩
              go_wp2
              go_loopw [121] (fun i w3 => ∃ k3 : Nat, k3 ≤ en ∧ i = .int .i64 (k3 : Int) ∧ Fresh WE w3) (fun i _ => en - (intOf i).toNat)
              case atStart => exact ⟨0, by omega, rfl, Fresh.refl _⟩
              case round =>
                obtain ⟨k3, hk3, rfl, hf3⟩ := hrel
                have HF3 := Lib.hid hf3
                clear hf3
                by_cases hlt : k3 < en
                · have hlt' : (k3 : Int) < (en : Int) := by omega
                  obtain ⟨x, hx⟩ : ∃ x, xs[k3]? = some x := ⟨_, List.getElem?_eq_getElem (by rw [HXN.out]; exact hlt)⟩
                  obtain ⟨y, hy⟩ : ∃ y, ys[k3]? = some y := ⟨_, List.getElem?_eq_getElem (by rw [HYN.out]; exact hlt)⟩
                  have hxe : (xs.map EvV.e)[k3]? = some x.e := by rw [List.getElem?_map, hx]; rfl
                  have hxy : y.e = x.e := by
                    have h1 := hxe
                    rw [HXY.out, List.getElem?_map, hy] at h1
                    simpa using h1
                  have hlm : x.e.lim := HLM.out _ (List.mem_of_getElem? hxe)
                  have HEQ0 := Lib.hid (fun W (hf : Fresh WE W) => in_equal y x W ((HGO.out.2.1 y (List.mem_of_getElem? hy)).ok.fresh hf) ((HWA.out.2.1 x (List.mem_of_getElem? hx)).ok.fresh hf) hxy (by rw [hxy]; have := hlm.1; omega) (by rw [hxy]; have := hlm.2; omega))
                  obtain ⟨ga, rfl, hga, _, hca⟩ := HGO.out.cells k3 y hy
                  obtain ⟨gb, rfl, hgb, _, hcb⟩ := HWA.out.cells k3 x hx
                  obtain ⟨⟨ek, est, exs, el, eps, een, en0, eco⟩, LA, lc, TA, tc, PA, pc⟩ := y
                  obtain ⟨ey, LB, ld, TB, td, PB, pd⟩ := x
                  simp only at hxy
                  subst hxy
                  have HEQ : Hid (∀ W, Fresh WE W → Calls Tryz.prog 13 #[.agg #[.int .i64 ek, .int .i64 est, .slice LA exs.length lc, .slice TA el.length tc, .slice PA eps.length pc, .bool een, .int .i64 en0, .int .i64 eco], .agg #[.int .i64 ek, .int .i64 est, .slice LB exs.length ld, .slice TB el.length td, .slice PB eps.length pd, .bool een, .int .i64 en0, .int .i64 eco]] W fun e w' => e = .returned (.bool true) ∧ Fresh W w') := HEQ0
                  have HSK : Hid (∀ w', Fresh WE w' → TwoO w' ga gb (k3 * 8) #[.int .i64 ek, .int .i64 est, .slice LA exs.length lc, .slice TA el.length tc, .slice PA eps.length pc, .bool een, .int .i64 en0, .int .i64 eco] #[.int .i64 ek, .int .i64 est, .slice LB exs.length ld, .slice TB el.length td, .slice PB eps.length pd, .bool een, .int .i64 en0, .int .i64 eco]) := Lib.hid (fun w' hf => ⟨fun j hj => by
                    have := hca j hj
                    rw [hf.cell (p := ⟨ga, k3 * 8 + j, none⟩) hga, this]
                    simp [evCells, EvV.arr], fun j hj => by
                    have := hcb j hj
                    rw [hf.cell (p := ⟨gb, k3 * 8 + j, none⟩) hgb, this]
                    simp [evCells, EvV.arr]⟩)
                  clear hx hy hxe hlm hca hcb hga hgb HEQ0
                  go_upto_region 34 with fail
                  refine wp_region_held_drew (S := (fun w' => TwoO w' ga gb (k3 * 8) #[.int .i64 ek, .int .i64 est, .slice LA exs.length lc, .slice TA el.length tc, .slice PA eps.length pc, .bool een, .int .i64 en0, .int .i64 eco] #[.int .i64 ek, .int .i64 est, .slice LB exs.length ld, .slice TB el.length td, .slice PB eps.length pd, .bool een, .int .i64 en0, .int .i64 eco])) (by kernel_rfl) (HSK.out _ (HF3.out.trans (Fresh.drew _))) (fun hHeld => ?_)
                  refine wpAnyH_take (i := 0) (v := ?_) rfl (by kernel_rfl) (by kernel_rfl) (by kernel_rfl) (fun _ _ _ h => h) (Or.inl ⟨by rfl, ?_⟩) (by assumption) ?_; rotate_left; focus (intro w hSw; (try dsimp only at hSw); go_simp; (try with_reducible rfl); done)
                  (try simp only [Act.put, List.getElem_toArray, List.getElem_cons_zero, List.getElem_cons_succ, List.setIfInBounds_toArray, List.set_cons_zero, List.set_cons_succ])
                  refine wpAnyH_take (i := 1) (v := ?_) rfl (by kernel_rfl) (by kernel_rfl) (by kernel_rfl) (fun _ _ _ h => h) (Or.inl ⟨by rfl, ?_⟩) (by assumption) ?_; rotate_left; focus (intro w hSw; (try dsimp only at hSw); go_simp; (try with_reducible rfl); done)
                  (try simp only [Act.put, List.getElem_toArray, List.getElem_cons_zero, List.getElem_cons_succ, List.setIfInBounds_toArray, List.set_cons_zero, List.set_cons_succ])
                  refine wpAnyH_take (i := 2) (v := ?_) rfl (by kernel_rfl) (by kernel_rfl) (by kernel_rfl) (fun _ _ _ h => h) (Or.inl ⟨by rfl, ?_⟩) (by assumption) ?_; rotate_left; focus (intro w hSw; (try dsimp only at hSw); go_simp; (try with_reducible rfl); done)
                  (try simp only [Act.put, List.getElem_toArray, List.getElem_cons_zero, List.getElem_cons_succ, List.setIfInBounds_toArray, List.set_cons_zero, List.set_cons_succ])
                  refine wpAnyH_take (i := 3) (v := .agg #[.int .i64 ek, .int .i64 est, .slice LA exs.length lc, .slice TA el.length tc, .slice PA eps.length pc, .bool een, .int .i64 en0, .int .i64 eco]) rfl (by kernel_rfl) (by kernel_rfl) (by kernel_rfl) (fun _ _ _ h => h) (Or.inl ⟨by rfl, ?_⟩) (by assumption) ?_; focus (intro w hSw; exact run_loadO rfl rfl hSw.1 (by kernel_rfl) (fun w => by simp [isAgg, go_sem]))
                  (try simp only [Act.put, List.getElem_toArray, List.getElem_cons_zero, List.getElem_cons_succ, List.setIfInBounds_toArray, List.set_cons_zero, List.set_cons_succ])
                  refine wpAnyH_take (i := 4) (v := ?_) rfl (by kernel_rfl) (by kernel_rfl) (by kernel_rfl) (fun _ _ _ h => h) (Or.inl ⟨by rfl, ?_⟩) (by assumption) ?_; rotate_left; focus (intro w hSw; (try dsimp only at hSw); go_simp; (try with_reducible rfl); done)
                  (try simp only [Act.put, List.getElem_toArray, List.getElem_cons_zero, List.getElem_cons_succ, List.setIfInBounds_toArray, List.set_cons_zero, List.set_cons_succ])
                  refine wpAnyH_take (i := 5) (v := ?_) rfl (by kernel_rfl) (by kernel_rfl) (by kernel_rfl) (fun _ _ _ h => h) (Or.inl ⟨by rfl, ?_⟩) (by assumption) ?_; rotate_left; focus (intro w hSw; (try dsimp only at hSw); go_simp; (try with_reducible rfl); done)
                  (try simp only [Act.put, List.getElem_toArray, List.getElem_cons_zero, List.getElem_cons_succ, List.setIfInBounds_toArray, List.set_cons_zero, List.set_cons_succ])
                  refine wpAnyH_take (i := 6) (v := ?_) rfl (by kernel_rfl) (by kernel_rfl) (by kernel_rfl) (fun _ _ _ h => h) (Or.inl ⟨by rfl, ?_⟩) (by assumption) ?_; rotate_left; focus (intro w hSw; (try dsimp only at hSw); go_simp; (try with_reducible rfl); done)
                  (try simp only [Act.put, List.getElem_toArray, List.getElem_cons_zero, List.getElem_cons_succ, List.setIfInBounds_toArray, List.set_cons_zero, List.set_cons_succ])
                  refine wpAnyH_take (i := 7) (v := .agg #[.int .i64 ek, .int .i64 est, .slice LB exs.length ld, .slice TB el.length td, .slice PB eps.length pd, .bool een, .int .i64 en0, .int .i64 eco]) rfl (by kernel_rfl) (by kernel_rfl) (by kernel_rfl) (fun _ _ _ h => h) (Or.inl ⟨by rfl, ?_⟩) (by assumption) ?_; focus (intro w hSw; exact run_loadO rfl rfl hSw.2 (by kernel_rfl) (fun w => by simp [isAgg, go_sem]))
                  (try simp only [Act.put, List.getElem_toArray, List.getElem_cons_zero, List.getElem_cons_succ, List.setIfInBounds_toArray, List.set_cons_zero, List.set_cons_succ])
                  refine wpAnyH_ready (rs := [8]) (by kernel_rfl) (by simp) ?_
                  refine AllReadyH.cons rfl (fun K hK => ?_) AllReadyH.nil
                  go_simp
                  go_at_call 13
                  with_reducible refine (HEQ.out _ (HF3.out.trans (Fresh.drew _))).mono ?_
                  rintro e wa ⟨rfl, hwa⟩
                  have hga : Fresh WE wa := (HF3.out.trans (Fresh.drew _)).trans hwa
                  refine hK.out _ _ (HSK.out _ hga) (fun hHeld => ?_)
                  clear hK K
                  (try simp only [Act.put, List.getElem_toArray, List.getElem_cons_zero, List.getElem_cons_succ, List.setIfInBounds_toArray, List.set_cons_zero, List.set_cons_succ])
                  refine wpAnyH_take (i := 9) (v := ?_) rfl (by kernel_rfl) (by kernel_rfl) (by kernel_rfl) (fun _ _ _ h => h) (Or.inl ⟨by rfl, ?_⟩) (by assumption) ?_; rotate_left; focus (intro w hSw; (try dsimp only at hSw); go_simp; (try with_reducible rfl); done)
                  (try simp only [Act.put, List.getElem_toArray, List.getElem_cons_zero, List.getElem_cons_succ, List.setIfInBounds_toArray, List.set_cons_zero, List.set_cons_succ])
                  refine wpAnyH_done (by kernel_rfl) ?_ _
                  go_wp2_with fail
                  go_roundw
                  case rel => exact ⟨k3 + 1, by omega, by go_num, hga⟩
                  case measure => simp [intOf]; omega
                · have hk4 : k3 = en := by omega
                  go_wp2_with fail
                  with_reducible refine (HW.out _).mono ?_
                  rintro e W9 ⟨rfl, hf9⟩
                  go_wp2
                  go_ret
                  exact ⟨rfl, HFZ.out.trans (HF3.out.trans hf9)⟩
    · have d1 : 50 < (zn : Int) := by omega
      go_wp2_with fail
      with_reducible refine (HW.out _).mono ?_
      rintro e W4 ⟨rfl, hf4⟩
      go_wp2
      go_ret
      exact ⟨rfl, HF3.out.trans hf4⟩
end Go.Proofs.YtginhebfjbhmnaaGreat

