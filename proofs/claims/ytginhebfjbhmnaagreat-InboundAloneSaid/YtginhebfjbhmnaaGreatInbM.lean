/-
  The law InboundAlone.
-/
import Derived.Test.YtginhebfjbhmnaaGreatG42
import Derived.Test.YtginhebfjbhmnaaGreatInbR
namespace Go.Proofs.YtginhebfjbhmnaaGreat
set_option maxRecDepth 100000
set_option linter.unusedVariables false
set_option linter.unusedSimpArgs false
open Go.RowKit
/-- Two readers side by side. -/
structure TwoI (w0 W : World) (P Q : InB) (lp lq : List UInt8) (sp sq : Option Part) (bp bq : Bool) : Prop where
  p : IbAt w0 W P lp sp bp
  q : IbAt w0 W Q lq sq bq
  dis : ∀ k, P.has k → ¬ Q.has k
theorem TwoI.fresh {w0 W W' : World} {P Q : InB} {lp lq : List UInt8} {sp sq : Option Part} {bp bq : Bool} (h : TwoI w0 W P Q lp lq sp sq bp bq) (hf : Fresh W W') : TwoI w0 W' P Q lp lq sp sq bp bq := ⟨h.p.fresh hf, h.q.fresh hf, h.dis⟩
theorem TwoI.swap {w0 W : World} {P Q : InB} {lp lq : List UInt8} {sp sq : Option Part} {bp bq : Bool} (h : TwoI w0 W P Q lp lq sp sq bp bq) : TwoI w0 W Q P lq lp sq sp bq bp := ⟨h.q, h.p, fun k hk h2 => h.dis k h2 hk⟩
theorem IbAt.off {w0 W W' : World} {P Q : InB} {l : List UInt8} {s : Option Part} {b : Bool} (h : IbAt w0 W Q l s b) (hd : ∀ k, P.has k → ¬ Q.has k) (hp : ∀ k, P.has k → w0.heap.size ≤ k) (ho : Only P.has W W') : IbAt w0 W' Q l s b := h.only ho (fun k hk h2 => hd k h2 hk) hp
theorem TwoI.fed {w0 W W' : World} {P Q P' : InB} {lp lq lp' : List UInt8} {sp sq sp' : Option Part} {bp bq bp' : Bool} (h : TwoI w0 W P Q lp lq sp sq bp bq) (ho : Only P.has W W') (hp : IbAt w0 W' P' lp' sp' bp') (hh : ∀ k, P'.has k → P.has k ∨ W.heap.size ≤ k) : TwoI w0 W' P' Q lp' lq sp' sq bp' bq :=
  ⟨hp, h.q.off h.dis (fun k hk => (h.p.lt hk).2) ho, fun k hk h2 => (hh k hk).elim (fun e => h.dis k e h2) (fun e => by have := (h.q.lt h2).1; omega)⟩
/-- Bytes that no reader has. -/
structure BRow (W : World) (P Q : InB) (A : Option Addr) (n c : Nat) (L : List UInt8) : Prop where
  own : Own W 0 5 1 (.slice A n c) n (L.map byteV)
  np : ∀ k, (Value.slice A n c).ownBlock = some k → ¬ P.has k
  nq : ∀ k, (Value.slice A n c).ownBlock = some k → ¬ Q.has k
theorem BRow.fresh {W W' : World} {P Q : InB} {A : Option Addr} {n c : Nat} {L : List UInt8} (h : BRow W P Q A n c L) (hf : Fresh W W') : BRow W' P Q A n c L := ⟨h.own.fresh hf, h.np, h.nq⟩
theorem BRow.swap {W : World} {P Q : InB} {A : Option Addr} {n c : Nat} {L : List UInt8} (h : BRow W P Q A n c L) : BRow W Q P A n c L := ⟨h.own, h.nq, h.np⟩
theorem BRow.fed {W W' : World} {P Q P' : InB} {A : Option Addr} {n c : Nat} {L : List UInt8} (h : BRow W P Q A n c L) (ho : Only P.has W W') (hh : ∀ k, P'.has k → P.has k ∨ W.heap.size ≤ k) : BRow W' P' Q A n c L :=
  ⟨h.own.only ho h.np, fun k hk h2 => (hh k h2).elim (h.np k hk) (fun e => by have := (h.own.lt k hk).2; omega), h.nq⟩
theorem BRow.new {w0 W W' : World} {P Q : InB} {lp lq : List UInt8} {sp sq : Option Part} {bp bq : Bool} (h : TwoI w0 W P Q lp lq sp sq bp bq) {A : Option Addr} {n c : Nat} {L : List UInt8} (ho : Own W' W.heap.size 5 1 (.slice A n c) n (L.map byteV)) : BRow W' P Q A n c L :=
  ⟨ho.base_le (Nat.zero_le _), fun k hk h2 => by have := (ho.lt k hk).1; have := (h.p.lt h2).1; omega, fun k hk h2 => by have := (ho.lt k hk).1; have := (h.q.lt h2).1; omega⟩
/-- A row of events beside a reader that reads on. -/
theorem OwnE.past {w0 W W' : World} {Q : InB} {l : List UInt8} {s : Option Part} {b : Bool} {base : Nat} {v : Value} {xs : List EvV} (h : OwnE W base v xs) (hq : IbAt w0 W Q l s b) (hn : ∀ k, Q.has k → k < base) (ho : Only Q.has W W') : OwnE W' base v xs :=
  h.only ho (h.has hq) hq.ln (fun x hx => (h.2.1 x hx).low.mono hn)
/-- A struct of eight cells in a row's first place. -/
def TwoE (w : World) (g h : Nat) (cs ds : Array Value) : Prop := (∀ j, j < 8 → w.cell? ⟨g, j, none⟩ = cs[j]?) ∧ ∀ j, j < 8 → w.cell? ⟨h, j, none⟩ = ds[j]?
theorem run_loadC {P : Program} {w : World} {ρ : Operand → Value} {o : Oper} {x : Operand} {t : TypeId} (ho : o.op = .load t x) {b : Nat} {a0 a1 a2 a3 a4 a5 a6 a7 : Value} (hx : ρ x = .pointer (some ⟨b, 0, none⟩)) (hB : ∀ j, j < 8 → w.cell? ⟨b, j, none⟩ = #[a0, a1, a2, a3, a4, a5, a6, a7][j]?) (hi : (P.info? t).map (·.size) = some 8) (ha : ∀ w, (isAgg t).run P w = .ok true w) : (execOp ρ o).run P w = .ok (.value (.agg #[a0, a1, a2, a3, a4, a5, a6, a7])) w := by
  obtain ⟨i, hi1, hi2⟩ := Option.map_eq_some_iff.1 hi
  have hld := run_loadCells_list (P := P) (w := w) ⟨b, 0, none⟩ [a0, a1, a2, a3, a4, a5, a6, a7] (fun j v hv => by
    rw [addr_off, hB j (by have := (List.getElem?_eq_some_iff.1 hv).1; simpa using this)]
    simpa using hv)
  have hrun : (loadVar t ⟨b, 0, none⟩).run P w = .ok (.agg #[a0, a1, a2, a3, a4, a5, a6, a7]) w := by
    rw [loadVar]
    simp [ha, Result.andThen, sizeOf, typeInfo, hi1, hi2]
    simp at hld
    rw [hld]
  simp [execOp, ho, hx, Instr.loadAt, Instr.sureAddr, hrun, Result.andThen]
theorem al_s : (feedQ [] none false awA).2 = (0, some ([], none, true)) := by kernel_rfl
theorem al_x (l : List UInt8) (hl : l.length ≤ 200) : ∃ evs co, feedQ [] none true (frB2 1 4 3 l) = (evs, co, if co = 0 then some ([], none, true) else none) := by
  have h := feedQ_one ⟨1, 4, 3, l⟩ (by simp only; omega) (by simp only; omega) none true
  simp only at h
  rw [h, feedR_one ⟨1, 4, 3, l⟩ none true _ rfl]
  have e : ((1 : UInt8).toNat : Int) = 1 ∧ ((4 : UInt8).toNat : Int) = 4 := by decide
  simp only [e.1, e.2]
  by_cases h0 : (readP none true 1 4 ((3 : Nat) : Int) l).1 = 0
  · rw [if_pos h0, readP_head _ _ h0]
    exact ⟨_, 0, rfl⟩
  · rw [if_neg h0]
    exact ⟨_, _, by rw [if_neg h0]⟩
set_option maxHeartbeats 12800000 in
theorem InboundAlone_any (A : Option Addr) (l : List UInt8) (c : Nat) (A' : Option Addr) (l' : List UInt8) (c' : Nat) (w : World) (hlc : l.length ≤ c) (hcm : c ≤ maxLen) (hA : BS w A l) (hlc' : l'.length ≤ c') (hcm' : c' ≤ maxLen) (hA' : BS w A' l') :
    Calls Tryz.prog 5 #[.slice A l.length c, .slice A' l'.length c'] w fun e w' => e = .returned (.bool true) ∧ Below w.heap.size w w' := by
  have HNEW := Lib.hid (fun W (hf : Fresh w W) => in_new w W hf)
  unfold InNewP at HNEW
  have HW := Lib.hid awake23
  obtain ⟨a0, a1, a2⟩ := aw0
  have HBA := Lib.hid (fun W => fbytes_at 4 0 0 4 0 0 none 0 9 0 [] awA W rfl rfl rfl rfl a0 rfl (by omega) (by omega) (BS.nil _ _) (by omega))
  have HBX := Lib.hid (fun W (hf : Fresh w W) (h : l'.length ≤ 200) => fbytes_at 1 4 3 1 4 3 A' l'.length (9 + l'.length) c' l' _ W rfl rfl rfl rfl rfl (frB2_length _ _ _ _) (by omega) (by omega) (hA'.fresh hf) hlc')
  have HBY := Lib.hid (fun W (hf : Fresh w W) (h : l.length ≤ 200) => fbytes_at 1 4 1 1 4 1 A l.length (9 + l.length) c l _ W rfl rfl rfl rfl rfl (frB2_length _ _ _ _) (by omega) (by omega) (hA.fresh hf) hlc)
  unfold BytesN at HBA HBX HBY
  have HLX := Lib.hid (frB2_length 1 4 3 l')
  have HLY := Lib.hid (frB2_length 1 4 1 l)
  have HAX := Lib.hid (al_x l')
  clear a0 a1 a2 hA hA' hcm hcm'
  obtain ⟨evS, hevS⟩ : ∃ evs, (feedQ [] none false awA).1 = evs := ⟨_, rfl⟩
  have HQS : Hid (feedQ [] none false awA = (evS, 0, some ([], none, true))) := Lib.hid (by rw [← hevS, ← al_s])
  clear hevS
  generalize hLX : frB2 1 4 3 l' = LX at *
  generalize hLY : frB2 1 4 1 l = LY at *
  clear hLX hLY
  obtain ⟨n, hn⟩ : ∃ n, l.length = n := ⟨_, rfl⟩
  obtain ⟨n', hn'⟩ : ∃ n, l'.length = n := ⟨_, rfl⟩
  rw [hn] at hlc HBY HLY ⊢
  rw [hn'] at hlc' HBX HLX HAX ⊢
  clear hn hn'
  go_enter Tryz.func5, Tryz.ntmps5
  go_wp2_with fail
  with_reducible refine (HNEW.out _ (Fresh.refl _)).mono ?_
  rintro e W1 ⟨P, rfl, hip, hlp, hf1⟩
  have HIP := Lib.hid hip
  have HF1 := Lib.hid hf1
  clear hip hf1
  go_wp2_with fail
  with_reducible refine (HNEW.out _ HF1.out).mono ?_
  rintro e W2 ⟨Q, rfl, hiq, hlq, hf2⟩
  have HT : Hid (TwoI w W2 P Q [] [] none none false false) := Lib.hid ⟨HIP.out.fresh hf2, hiq, fun k hk h2 => by have := (HIP.out.lt hk).1; have := hlq k h2; omega⟩
  have HF2 := Lib.hid (HF1.out.trans hf2)
  clear hiq hlq hf2 hlp HIP HNEW
  by_cases hok : n ≤ 200 ∧ n' ≤ 200
  · obtain ⟨ht, ht'⟩ := hok
    have d1 : ¬ 200 < (n : Int) := by omega
    have d2 : ¬ 200 < (n' : Int) := by omega
    go_wp2_with fail
    with_reducible refine (HBA.out _).mono ?_
    rintro e W3 ⟨AS, cS, rfl, hcs, hms, hos, hf3⟩
    have HS := Lib.hid (BRow.new HT.out hos)
    have HT := Lib.hid (HT.out.fresh hf3)
    have HF3 := Lib.hid (HF2.out.trans hf3)
    clear hcs hms hos hf3
    go_wp2_with fail
    with_reducible refine (HBX.out _ HF3.out ht').mono ?_
    rintro e W4 ⟨AX, cX, rfl, hcx, hmx, hox, hf4⟩
    have HX := Lib.hid (BRow.new HT.out hox)
    have HS := Lib.hid (HS.out.fresh hf4)
    have HT := Lib.hid (HT.out.fresh hf4)
    have HF4 := Lib.hid (HF3.out.trans hf4)
    clear hcx hmx hox hf4
    go_wp2_with fail
    with_reducible refine (HBY.out _ HF4.out ht).mono ?_
    rintro e W5 ⟨AY, cY, rfl, hcy, hmy, hoy, hf5⟩
    have HY := Lib.hid (BRow.new HT.out hoy)
    have HX := Lib.hid (HX.out.fresh hf5)
    have HS := Lib.hid (HS.out.fresh hf5)
    have HT := Lib.hid (HT.out.fresh hf5)
    have HF5 := Lib.hid (HF4.out.trans hf5)
    clear hcy hmy hoy hf5 HBA HBX HBY
    have HFD := Lib.hid (in_feedV w W5 P [] none false AS 9 cS awA HT.out.p rfl HS.out.own.bytes.1 (by omega) evS 0 false (some ([], none, true)) HQS.out (by decide))
    unfold InFeedV at HFD
    go_wp2_with fail
    with_reducible refine HFD.out.mono ?_
    clear HFD
    rintro e W6 ⟨xs, _, _, _, rfl, hu1, hu2, hu3, ho6, hu5, hal⟩
    clear hu1 hu2 hu3 hu5
    obtain ⟨P2, hp2, hip2, hhp2, _⟩ := hal _ _ _ rfl
    have HF6 : Hid (Fresh w W6) := Lib.hid (Only.fresh ((Only.of_fresh HF5.out).trans ho6) (fun i hi hk => by have := (HT.out.p.lt hk).2; omega))
    have HS := Lib.hid (HS.out.fed ho6 hhp2)
    have HX := Lib.hid (HX.out.fed ho6 hhp2)
    have HY := Lib.hid (HY.out.fed ho6 hhp2)
    have HT := Lib.hid (HT.out.fed ho6 hip2 hhp2).swap
    have HP2 := Lib.hid hp2
    clear hal hip2 hhp2 ho6 hp2
    have HFD := Lib.hid (in_feedV w W6 Q [] none false AS 9 cS awA HT.out.p rfl HS.out.own.bytes.1 (by omega) evS 0 false (some ([], none, true)) HQS.out (by decide))
    unfold InFeedV at HFD
    go_wp2_with fail
    with_reducible refine HFD.out.mono ?_
    clear HFD
    rintro e W7 ⟨xs', _, _, _, rfl, hu1, hu2, hu3, ho7, hu5, hal⟩
    clear hu1 hu2 hu3 hu5
    obtain ⟨Q2, hq2, hiq2, hhq2, _⟩ := hal _ _ _ rfl
    have HF7 : Hid (Fresh w W7) := Lib.hid (Only.fresh ((Only.of_fresh HF6.out).trans ho7) (fun i hi hk => by have := (HT.out.p.lt hk).2; omega))
    have HX := Lib.hid (HX.out.swap.fed ho7 hhq2)
    have HY := Lib.hid (HY.out.swap.fed ho7 hhq2)
    have HT := Lib.hid (HT.out.fed ho7 hiq2 hhq2)
    have HQ2 := Lib.hid hq2
    clear hal hiq2 hhq2 ho7 HS hq2
    obtain ⟨evX, coX, hqx⟩ := HAX.out ht'
    have HQX := Lib.hid hqx
    clear hqx HAX
    by_cases hco : coX = 0
    · subst hco
      rw [if_pos rfl] at HQX
      have HFD := Lib.hid (in_feedV w W7 Q2 [] none true AX (9 + n') cX LX HT.out.p HLX.out HX.out.own.bytes.1 (by omega) evX 0 false _ HQX.out (by decide))
      unfold InFeedV at HFD
      rw [HQ2.out] at HFD
      go_wp2_with fail
      with_reducible refine HFD.out.mono ?_
      clear HFD
      rintro e W8 ⟨xs2, AXe, nXe, cXe, rfl, hu1, hu2, hu3, ho8, hu5, hal⟩
      clear hu1 hu2 hu3 hu5
      obtain ⟨Q3, hq3, hiq3, hhq3, _⟩ := hal _ _ _ rfl
      have HF8 : Hid (Fresh w W8) := Lib.hid (Only.fresh ((Only.of_fresh HF7.out).trans ho8) (fun i hi hk => by have := (HT.out.p.lt hk).2; omega))
      have HY := Lib.hid (HY.out.fed ho8 hhq3).swap
      have HT := Lib.hid (HT.out.fed ho8 hiq3 hhq3).swap
      have HQ3 := Lib.hid hq3
      clear hal hiq3 hhq3 ho8 HX hq3
      go_wp2_with (first | (refine wp_storeB (ds := #[.int .i64 0, .bool false]) rfl (.tmp 14) (.tmp 74) _ rfl rfl rfl (Blk.new _ _ _) (by kernel_rfl) rfl (by simp [Value.oneCell']) ?_) | fail)
      intro W9 hb9 ho9
      have hf9 : Fresh W8 W9 := Only.fresh ((Only.of_fresh (Fresh.alloc _ _)).trans ho9) (fun i hi e => by omega)
      have HB9 := Lib.hid hb9
      have HY := Lib.hid (HY.out.fresh hf9)
      have HT := Lib.hid (HT.out.fresh hf9)
      have HF9 := Lib.hid (HF8.out.trans hf9)
      obtain ⟨b14, hb14⟩ : ∃ b, W8.heap.size = b := ⟨_, rfl⟩
      rw [hb14] at HB9 ⊢
      clear hb9 ho9 hf9 hb14
      go_wp2_with (first | (refine wp_loadB rfl (.tmp 14) _ rfl rfl HB9.out (by kernel_rfl) (fun w => by simp [isAgg, go_sem]) ?_) | fail)
      with_reducible refine (pok 0 false true (by decide) _).mono ?_
      rintro e W10 ⟨rfl, hf10⟩
      have HY := Lib.hid (HY.out.fresh hf10)
      have HT := Lib.hid (HT.out.fresh hf10)
      have HF10 := Lib.hid (HF9.out.trans hf10)
      clear hf10 HB9
      obtain ⟨⟨evY, coY, stY⟩, hqy⟩ : ∃ q, feedQ [] none true LY = q := ⟨_, rfl⟩
      have HQY := Lib.hid hqy
      have HLM := Lib.hid (feedQ_lim [] none true LY)
      rw [hqy] at HLM
      obtain ⟨cb, hcb⟩ : ∃ cb, decide (coY ≠ 0) = cb := ⟨_, rfl⟩
      have HCB := Lib.hid hcb
      clear hqy hcb
      have HFD := Lib.hid (in_feedV w W10 P2 [] none true AY (9 + n) cY LY HT.out.p HLY.out HY.out.own.bytes.1 (by omega) evY coY cb stY HQY.out HCB.out)
      unfold InFeedV at HFD
      rw [HP2.out] at HFD
      go_wp2_with fail
      with_reducible refine HFD.out.mono ?_
      clear HFD
      rintro e W11 ⟨xa, Aa, na, ca, rfl, hna, hoa, hxa, ho11, hu5, hal⟩
      clear hu5 hal
      have HIQ : Hid (IbAt w W11 Q3 [] none true) := Lib.hid (HT.out.q.off HT.out.dis (fun k hk => (HT.out.p.lt hk).2) ho11)
      have HNQ : Hid (∀ k, Q3.has k → k < W10.heap.size) := Lib.hid (fun k hk => (HT.out.q.lt hk).1)
      have HF11 : Hid (Fresh w W11) := Lib.hid (Only.fresh ((Only.of_fresh HF10.out).trans ho11) (fun i hi hk => by have := (HT.out.p.lt hk).2; omega))
      have HOY : Hid (BS W11 AY LY) := Lib.hid (HY.out.own.only ho11 HY.out.np).bytes.1
      have HOA := Lib.hid hoa
      have HXA := Lib.hid hxa
      have HNA := Lib.hid hna
      clear hna hoa hxa ho11 HY HT
      go_wp2_with (first | (refine wp_storeB (ds := #[.int .i64 coY, .bool cb]) rfl (.tmp 16) (.tmp 84) _ rfl rfl rfl (Blk.new _ _ _) (by kernel_rfl) rfl (by simp [Value.oneCell']) ?_) | fail)
      intro W12 hb12 ho12
      have hf12 : Fresh W11 W12 := Only.fresh ((Only.of_fresh (Fresh.alloc _ _)).trans ho12) (fun i hi e => by omega)
      have HB12 := Lib.hid hb12
      have HIQ := Lib.hid (HIQ.out.fresh hf12)
      have HOY := Lib.hid (HOY.out.fresh hf12)
      have HOA := Lib.hid (HOA.out.fresh hf12)
      have HF12 := Lib.hid (HF11.out.trans hf12)
      obtain ⟨b16, hb16⟩ : ∃ b, W11.heap.size = b := ⟨_, rfl⟩
      rw [hb16] at HB12 ⊢
      clear hb12 ho12 hf12 hb16
      have HFD := Lib.hid (in_feedV w W12 Q3 [] none true AY (9 + n) cY LY HIQ.out HLY.out HOY.out (by omega) evY coY cb stY HQY.out HCB.out)
      unfold InFeedV at HFD
      rw [HQ3.out] at HFD
      go_wp2_with fail
      with_reducible refine HFD.out.mono ?_
      clear HFD
      rintro e W13 ⟨xb, Ab, nb, cbb, rfl, hnb, hob, hxb, ho13, hu5, hal⟩
      clear hu5 hal
      have HF13 : Hid (Fresh w W13) := Lib.hid (Only.fresh ((Only.of_fresh HF12.out).trans ho13) (fun i hi hk => by have := (HIQ.out.lt hk).2; omega))
      have HB12 := Lib.hid (HB12.out.only ho13 (HIQ.out.odd HB12.out (by decide)))
      have HOA := Lib.hid (HOA.out.past HIQ.out HNQ.out ho13)
      have HOB := Lib.hid hob
      have HXB := Lib.hid hxb
      have HNB := Lib.hid hnb
      clear hnb hob hxb ho13 HOY HIQ
      go_wp2_with (first | (refine wp_storeB (ds := #[.int .i64 coY, .bool cb]) rfl (.tmp 18) (.tmp 90) _ rfl rfl rfl (Blk.new _ _ _) (by kernel_rfl) rfl (by simp [Value.oneCell']) ?_) | fail)
      intro W14 hb14 ho14
      have hf14 : Fresh W13 W14 := Only.fresh ((Only.of_fresh (Fresh.alloc _ _)).trans ho14) (fun i hi e => by omega)
      have HB12 := Lib.hid (HB12.out.fresh hf14)
      have HB14 := Lib.hid hb14
      have HOA := Lib.hid (HOA.out.fresh hf14)
      have HOB := Lib.hid (HOB.out.fresh hf14)
      have HF14 := Lib.hid (HF13.out.trans hf14)
      obtain ⟨b18, hb18⟩ : ∃ b, W13.heap.size = b := ⟨_, rfl⟩
      rw [hb18] at HB14 ⊢
      clear hb14 ho14 hf14 hb18
      have hnn : na = nb := by
        have h1 := congrArg List.length HXA.out
        have h2 := congrArg List.length HXB.out
        rw [List.length_map] at h1 h2
        rw [← HNA.out, ← HNB.out, h1, h2]
      subst hnn
      go_upto_region 16 with (first | (refine wp_loadB rfl (.tmp 16) _ rfl rfl HB12.out (by kernel_rfl) (fun w => by simp [isAgg, go_sem]) ?_) | (refine wp_loadB rfl (.tmp 18) _ rfl rfl HB14.out (by kernel_rfl) (fun w => by simp [isAgg, go_sem]) ?_) | fail)
      clear HB12 HB14
      rcases Nat.eq_zero_or_pos na with h0 | h0
      · subst h0
        refine wp_region_held_drew (S := (fun w' => Fresh W14 w')) (by kernel_rfl) (Fresh.drew _) (fun hHeld => ?_)
        refine wpAnyH_take (i := 0) (v := ?_) rfl (by kernel_rfl) (by kernel_rfl) (by kernel_rfl) (fun _ _ _ h => h) (Or.inl ⟨by rfl, ?_⟩) (by assumption) ?_; rotate_left; focus (intro w hSw; (try dsimp only at hSw); go_simp; (try with_reducible rfl); done)
        (try simp only [Act.put, List.getElem_toArray, List.getElem_cons_zero, List.getElem_cons_succ, List.setIfInBounds_toArray, List.set_cons_zero, List.set_cons_succ])
        refine wpAnyH_take (i := 1) (v := ?_) rfl (by kernel_rfl) (by kernel_rfl) (by kernel_rfl) (fun _ _ _ h => h) (Or.inl ⟨by rfl, ?_⟩) (by assumption) ?_; rotate_left; focus (intro w hSw; (try dsimp only at hSw); go_simp; (try with_reducible rfl); done)
        (try simp only [Act.put, List.getElem_toArray, List.getElem_cons_zero, List.getElem_cons_succ, List.setIfInBounds_toArray, List.set_cons_zero, List.set_cons_succ])
        refine wpAnyH_take (i := 2) (v := ?_) rfl (by kernel_rfl) (by kernel_rfl) (by kernel_rfl) (fun _ _ _ h => h) (Or.inl ⟨by rfl, ?_⟩) (by assumption) ?_; rotate_left; focus (intro w hSw; (try dsimp only at hSw); go_simp; (try with_reducible rfl); done)
        (try simp only [Act.put, List.getElem_toArray, List.getElem_cons_zero, List.getElem_cons_succ, List.setIfInBounds_toArray, List.set_cons_zero, List.set_cons_succ])
        refine wpAnyH_take (i := 3) (v := ?_) rfl (by kernel_rfl) (by kernel_rfl) (by kernel_rfl) (fun _ _ _ h => h) (Or.inl ⟨by rfl, ?_⟩) (by assumption) ?_; rotate_left; focus (intro w hSw; (try dsimp only at hSw); go_simp; (try with_reducible rfl); done)
        (try simp only [Act.put, List.getElem_toArray, List.getElem_cons_zero, List.getElem_cons_succ, List.setIfInBounds_toArray, List.set_cons_zero, List.set_cons_succ])
        refine wpAnyH_take (i := 4) (v := undef) rfl (by kernel_rfl) (by kernel_rfl) (by kernel_rfl) (fun _ _ _ h => h) (Or.inr ⟨by rfl, rfl⟩) (by assumption) ?_; (try simp only [Act.put, List.getElem_toArray, List.getElem_cons_zero, List.getElem_cons_succ, List.setIfInBounds_toArray, List.set_cons_zero, List.set_cons_succ])
        refine wpAnyH_take (i := 5) (v := undef) rfl (by kernel_rfl) (by kernel_rfl) (by kernel_rfl) (fun _ _ _ h => h) (Or.inr ⟨by rfl, rfl⟩) (by assumption) ?_; (try simp only [Act.put, List.getElem_toArray, List.getElem_cons_zero, List.getElem_cons_succ, List.setIfInBounds_toArray, List.set_cons_zero, List.set_cons_succ])
        refine wpAnyH_take (i := 6) (v := undef) rfl (by kernel_rfl) (by kernel_rfl) (by kernel_rfl) (fun _ _ _ h => h) (Or.inr ⟨by rfl, rfl⟩) (by assumption) ?_; (try simp only [Act.put, List.getElem_toArray, List.getElem_cons_zero, List.getElem_cons_succ, List.setIfInBounds_toArray, List.set_cons_zero, List.set_cons_succ])
        refine wpAnyH_take (i := 7) (v := undef) rfl (by kernel_rfl) (by kernel_rfl) (by kernel_rfl) (fun _ _ _ h => h) (Or.inr ⟨by rfl, rfl⟩) (by assumption) ?_; (try simp only [Act.put, List.getElem_toArray, List.getElem_cons_zero, List.getElem_cons_succ, List.setIfInBounds_toArray, List.set_cons_zero, List.set_cons_succ])
        refine wpAnyH_take (i := 8) (v := undef) rfl (by kernel_rfl) (by kernel_rfl) (by kernel_rfl) (fun _ _ _ h => h) (Or.inr ⟨by rfl, rfl⟩) (by assumption) ?_; (try simp only [Act.put, List.getElem_toArray, List.getElem_cons_zero, List.getElem_cons_succ, List.setIfInBounds_toArray, List.set_cons_zero, List.set_cons_succ])
        refine wpAnyH_take (i := 9) (v := undef) rfl (by kernel_rfl) (by kernel_rfl) (by kernel_rfl) (fun _ _ _ h => h) (Or.inr ⟨by rfl, rfl⟩) (by assumption) ?_; (try simp only [Act.put, List.getElem_toArray, List.getElem_cons_zero, List.getElem_cons_succ, List.setIfInBounds_toArray, List.set_cons_zero, List.set_cons_succ])
        refine wpAnyH_take (i := 10) (v := undef) rfl (by kernel_rfl) (by kernel_rfl) (by kernel_rfl) (fun _ _ _ h => h) (Or.inr ⟨by rfl, rfl⟩) (by assumption) ?_; (try simp only [Act.put, List.getElem_toArray, List.getElem_cons_zero, List.getElem_cons_succ, List.setIfInBounds_toArray, List.set_cons_zero, List.set_cons_succ])
        refine wpAnyH_take (i := 11) (v := ?_) rfl (by kernel_rfl) (by kernel_rfl) (by kernel_rfl) (fun _ _ _ h => h) (Or.inl ⟨by rfl, ?_⟩) (by assumption) ?_; rotate_left; focus (intro w hSw; (try dsimp only at hSw); go_simp; (try with_reducible rfl); done)
        (try simp only [Act.put, List.getElem_toArray, List.getElem_cons_zero, List.getElem_cons_succ, List.setIfInBounds_toArray, List.set_cons_zero, List.set_cons_succ])
        refine wpAnyH_take (i := 12) (v := ?_) rfl (by kernel_rfl) (by kernel_rfl) (by kernel_rfl) (fun _ _ _ h => h) (Or.inl ⟨by rfl, ?_⟩) (by assumption) ?_; rotate_left; focus (intro w hSw; (try dsimp only at hSw); go_simp; (try with_reducible rfl); done)
        (try simp only [Act.put, List.getElem_toArray, List.getElem_cons_zero, List.getElem_cons_succ, List.setIfInBounds_toArray, List.set_cons_zero, List.set_cons_succ])
        refine wpAnyH_ready (rs := [13]) (by kernel_rfl) (by simp) ?_
        refine AllReadyH.cons rfl (fun K hK => ?_) AllReadyH.nil
        go_simp
        go_at_call 9
        with_reducible refine (HW.out _).mono ?_
        rintro e wa ⟨rfl, hwa⟩
        have hga : Fresh W14 wa := (Fresh.drew _).trans hwa
        refine hK.out _ _ hga (fun hHeld => ?_)
        clear hK K
        (try simp only [Act.put, List.getElem_toArray, List.getElem_cons_zero, List.getElem_cons_succ, List.setIfInBounds_toArray, List.set_cons_zero, List.set_cons_succ])
        refine wpAnyH_take (i := 14) (v := ?_) rfl (by kernel_rfl) (by kernel_rfl) (by kernel_rfl) (fun _ _ _ h => h) (Or.inl ⟨by rfl, ?_⟩) (by assumption) ?_; rotate_left; focus (intro w hSw; (try dsimp only at hSw); go_simp; (try with_reducible rfl); done)
        (try simp only [Act.put, List.getElem_toArray, List.getElem_cons_zero, List.getElem_cons_succ, List.setIfInBounds_toArray, List.set_cons_zero, List.set_cons_succ])
        refine wpAnyH_take (i := 15) (v := ?_) rfl (by kernel_rfl) (by kernel_rfl) (by kernel_rfl) (fun _ _ _ h => h) (Or.inl ⟨by rfl, ?_⟩) (by assumption) ?_; rotate_left; focus (intro w hSw; (try dsimp only at hSw); go_simp; (try with_reducible rfl); done)
        (try simp only [Act.put, List.getElem_toArray, List.getElem_cons_zero, List.getElem_cons_succ, List.setIfInBounds_toArray, List.set_cons_zero, List.set_cons_succ])
        refine wpAnyH_done (by kernel_rfl) ?_ _
        go_wp2
        go_ret
        exact ⟨rfl, HF14.out.trans hga⟩
      · obtain ⟨x, hx⟩ : ∃ x, xa[0]? = some x := ⟨_, List.getElem?_eq_getElem (by rw [HNA.out]; exact h0)⟩
        obtain ⟨y, hy⟩ : ∃ y, xb[0]? = some y := ⟨_, List.getElem?_eq_getElem (by rw [HNB.out]; exact h0)⟩
        have hxe : evY[0]? = some x.e := by rw [← HXA.out, List.getElem?_map, hx]; rfl
        have hye : evY[0]? = some y.e := by rw [← HXB.out, List.getElem?_map, hy]; rfl
        have hxy : x.e = y.e := by rw [hxe] at hye; injection hye
        have hlm : x.e.lim := HLM.out _ (List.mem_of_getElem? hxe)
        have HEQ0 := Lib.hid (fun W (hf : Fresh W14 W) => in_equal x y W ((HOA.out.2.1 x (List.mem_of_getElem? hx)).ok.fresh hf) ((HOB.out.2.1 y (List.mem_of_getElem? hy)).ok.fresh hf) hxy (by have := hlm.1; omega) (by have := hlm.2; omega))
        obtain ⟨ga, rfl, hga, _, hca⟩ := HOA.out.cells 0 x hx
        obtain ⟨gb, rfl, hgb, _, hcb⟩ := HOB.out.cells 0 y hy
        obtain ⟨⟨ek, est, exs, el, eps, een, en, eco⟩, LA, lc, TA, tc, PA, pc⟩ := x
        obtain ⟨ey, LB, ld, TB, td, PB, pd⟩ := y
        simp only at hxy
        subst hxy
        have HEQ : Hid (∀ W, Fresh W14 W → Calls Tryz.prog 13 #[.agg #[.int .i64 ek, .int .i64 est, .slice LA exs.length lc, .slice TA el.length tc, .slice PA eps.length pc, .bool een, .int .i64 en, .int .i64 eco], .agg #[.int .i64 ek, .int .i64 est, .slice LB exs.length ld, .slice TB el.length td, .slice PB eps.length pd, .bool een, .int .i64 en, .int .i64 eco]] W fun e w' => e = .returned (.bool true) ∧ Fresh W w') := HEQ0
        have HSK : Hid (∀ w', Fresh W14 w' → TwoE w' ga gb #[.int .i64 ek, .int .i64 est, .slice LA exs.length lc, .slice TA el.length tc, .slice PA eps.length pc, .bool een, .int .i64 en, .int .i64 eco] #[.int .i64 ek, .int .i64 est, .slice LB exs.length ld, .slice TB el.length td, .slice PB eps.length pd, .bool een, .int .i64 en, .int .i64 eco]) := Lib.hid (fun w' hf => ⟨fun j hj => by
          have := hca j hj
          rw [Nat.zero_mul, Nat.zero_add] at this
          rw [hf.cell (p := ⟨ga, j, none⟩) hga, this]
          simp [evCells, EvV.arr], fun j hj => by
          have := hcb j hj
          rw [Nat.zero_mul, Nat.zero_add] at this
          rw [hf.cell (p := ⟨gb, j, none⟩) hgb, this]
          simp [evCells, EvV.arr]⟩)
        clear hx hy hxe hye hlm hca hcb hga hgb HEQ0 HOA HOB HXA HXB HNA HNB HLM HQY HCB
        have h0' : (0 : Int) < (na : Int) := by omega
        have d0 : ((na : Int) == 0) = false := by simp; omega
        refine wp_region_held_drew (S := (fun w' => TwoE w' ga gb #[.int .i64 ek, .int .i64 est, .slice LA exs.length lc, .slice TA el.length tc, .slice PA eps.length pc, .bool een, .int .i64 en, .int .i64 eco] #[.int .i64 ek, .int .i64 est, .slice LB exs.length ld, .slice TB el.length td, .slice PB eps.length pd, .bool een, .int .i64 en, .int .i64 eco])) (by kernel_rfl) (HSK.out _ (Fresh.drew _)) (fun hHeld => ?_)
        refine wpAnyH_take (i := 0) (v := ?_) rfl (by kernel_rfl) (by kernel_rfl) (by kernel_rfl) (fun _ _ _ h => h) (Or.inl ⟨by rfl, ?_⟩) (by assumption) ?_; rotate_left; focus (intro w hSw; (try dsimp only at hSw); go_simp; (try with_reducible rfl); done)
        (try simp only [Act.put, List.getElem_toArray, List.getElem_cons_zero, List.getElem_cons_succ, List.setIfInBounds_toArray, List.set_cons_zero, List.set_cons_succ])
        refine wpAnyH_take (i := 1) (v := ?_) rfl (by kernel_rfl) (by kernel_rfl) (by kernel_rfl) (fun _ _ _ h => h) (Or.inl ⟨by rfl, ?_⟩) (by assumption) ?_; rotate_left; focus (intro w hSw; (try dsimp only at hSw); go_simp; (try with_reducible rfl); done)
        (try simp only [Act.put, List.getElem_toArray, List.getElem_cons_zero, List.getElem_cons_succ, List.setIfInBounds_toArray, List.set_cons_zero, List.set_cons_succ])
        refine wpAnyH_take (i := 2) (v := ?_) rfl (by kernel_rfl) (by kernel_rfl) (by kernel_rfl) (fun _ _ _ h => h) (Or.inl ⟨by rfl, ?_⟩) (by assumption) ?_; rotate_left; focus (intro w hSw; (try dsimp only at hSw); go_simp; (try with_reducible rfl); done)
        (try simp only [Act.put, List.getElem_toArray, List.getElem_cons_zero, List.getElem_cons_succ, List.setIfInBounds_toArray, List.set_cons_zero, List.set_cons_succ])
        refine wpAnyH_take (i := 3) (v := ?_) rfl (by kernel_rfl) (by kernel_rfl) (by kernel_rfl) (fun _ _ _ h => h) (Or.inl ⟨by rfl, ?_⟩) (by assumption) ?_; rotate_left; focus (intro w hSw; (try dsimp only at hSw); go_simp; (try with_reducible rfl); done)
        (try simp only [Act.put, List.getElem_toArray, List.getElem_cons_zero, List.getElem_cons_succ, List.setIfInBounds_toArray, List.set_cons_zero, List.set_cons_succ])
        refine wpAnyH_take (i := 4) (v := ?_) rfl (by kernel_rfl) (by kernel_rfl) (by kernel_rfl) (fun _ _ _ h => h) (Or.inl ⟨by rfl, ?_⟩) (by assumption) ?_; rotate_left; focus (intro w hSw; (try dsimp only at hSw); go_simp; (try with_reducible rfl); done)
        (try simp only [Act.put, List.getElem_toArray, List.getElem_cons_zero, List.getElem_cons_succ, List.setIfInBounds_toArray, List.set_cons_zero, List.set_cons_succ])
        refine wpAnyH_take (i := 5) (v := ?_) rfl (by kernel_rfl) (by kernel_rfl) (by kernel_rfl) (fun _ _ _ h => h) (Or.inl ⟨by rfl, ?_⟩) (by assumption) ?_; rotate_left; focus (intro w hSw; (try dsimp only at hSw); go_simp; (try with_reducible rfl); done)
        (try simp only [Act.put, List.getElem_toArray, List.getElem_cons_zero, List.getElem_cons_succ, List.setIfInBounds_toArray, List.set_cons_zero, List.set_cons_succ])
        refine wpAnyH_take (i := 6) (v := .agg #[.int .i64 ek, .int .i64 est, .slice LA exs.length lc, .slice TA el.length tc, .slice PA eps.length pc, .bool een, .int .i64 en, .int .i64 eco]) rfl (by kernel_rfl) (by kernel_rfl) (by kernel_rfl) (fun _ _ _ h => h) (Or.inl ⟨by rfl, ?_⟩) (by assumption) ?_; focus (intro w hSw; exact run_loadC rfl rfl hSw.1 (by kernel_rfl) (fun w => by simp [isAgg, go_sem]))
        (try simp only [Act.put, List.getElem_toArray, List.getElem_cons_zero, List.getElem_cons_succ, List.setIfInBounds_toArray, List.set_cons_zero, List.set_cons_succ])
        refine wpAnyH_take (i := 7) (v := ?_) rfl (by kernel_rfl) (by kernel_rfl) (by kernel_rfl) (fun _ _ _ h => h) (Or.inl ⟨by rfl, ?_⟩) (by assumption) ?_; rotate_left; focus (intro w hSw; (try dsimp only at hSw); go_simp; (try with_reducible rfl); done)
        (try simp only [Act.put, List.getElem_toArray, List.getElem_cons_zero, List.getElem_cons_succ, List.setIfInBounds_toArray, List.set_cons_zero, List.set_cons_succ])
        refine wpAnyH_take (i := 8) (v := ?_) rfl (by kernel_rfl) (by kernel_rfl) (by kernel_rfl) (fun _ _ _ h => h) (Or.inl ⟨by rfl, ?_⟩) (by assumption) ?_; rotate_left; focus (intro w hSw; (try dsimp only at hSw); go_simp; (try with_reducible rfl); done)
        (try simp only [Act.put, List.getElem_toArray, List.getElem_cons_zero, List.getElem_cons_succ, List.setIfInBounds_toArray, List.set_cons_zero, List.set_cons_succ])
        refine wpAnyH_take (i := 9) (v := .agg #[.int .i64 ek, .int .i64 est, .slice LB exs.length ld, .slice TB el.length td, .slice PB eps.length pd, .bool een, .int .i64 en, .int .i64 eco]) rfl (by kernel_rfl) (by kernel_rfl) (by kernel_rfl) (fun _ _ _ h => h) (Or.inl ⟨by rfl, ?_⟩) (by assumption) ?_; focus (intro w hSw; exact run_loadC rfl rfl hSw.2 (by kernel_rfl) (fun w => by simp [isAgg, go_sem]))
        (try simp only [Act.put, List.getElem_toArray, List.getElem_cons_zero, List.getElem_cons_succ, List.setIfInBounds_toArray, List.set_cons_zero, List.set_cons_succ])
        refine wpAnyH_ready (rs := [10]) (by kernel_rfl) (by simp) ?_
        refine AllReadyH.cons rfl (fun K hK => ?_) AllReadyH.nil
        go_simp
        go_at_call 13
        with_reducible refine (HEQ.out _ (Fresh.drew _)).mono ?_
        rintro e wa ⟨rfl, hwa⟩
        have hga : Fresh W14 wa := (Fresh.drew _).trans hwa
        refine hK.out _ _ (HSK.out _ hga) (fun hHeld => ?_)
        clear hK K
        (try simp only [Act.put, List.getElem_toArray, List.getElem_cons_zero, List.getElem_cons_succ, List.setIfInBounds_toArray, List.set_cons_zero, List.set_cons_succ])
        refine wpAnyH_take (i := 11) (v := ?_) rfl (by kernel_rfl) (by kernel_rfl) (by kernel_rfl) (fun _ _ _ h => h) (Or.inl ⟨by rfl, ?_⟩) (by assumption) ?_; rotate_left; focus (intro w hSw; (try dsimp only at hSw); go_simp; (try with_reducible rfl); done)
        (try simp only [Act.put, List.getElem_toArray, List.getElem_cons_zero, List.getElem_cons_succ, List.setIfInBounds_toArray, List.set_cons_zero, List.set_cons_succ])
        refine wpAnyH_take (i := 12) (v := ?_) rfl (by kernel_rfl) (by kernel_rfl) (by kernel_rfl) (fun _ _ _ h => h) (Or.inl ⟨by rfl, ?_⟩) (by assumption) ?_; rotate_left; focus (intro w hSw; (try dsimp only at hSw); go_simp; (try with_reducible rfl); done)
        (try simp only [Act.put, List.getElem_toArray, List.getElem_cons_zero, List.getElem_cons_succ, List.setIfInBounds_toArray, List.set_cons_zero, List.set_cons_succ])
        refine wpAnyH_ready (rs := [13]) (by kernel_rfl) (by simp) ?_
        refine AllReadyH.cons rfl (fun K hK => ?_) AllReadyH.nil
        go_simp
        go_at_call 9
        with_reducible refine (HW.out _).mono ?_
        rintro e wb ⟨rfl, hwb⟩
        have hgb : Fresh W14 wb := hga.trans hwb
        refine hK.out _ _ (HSK.out _ hgb) (fun hHeld => ?_)
        clear hK K
        (try simp only [Act.put, List.getElem_toArray, List.getElem_cons_zero, List.getElem_cons_succ, List.setIfInBounds_toArray, List.set_cons_zero, List.set_cons_succ])
        refine wpAnyH_take (i := 14) (v := ?_) rfl (by kernel_rfl) (by kernel_rfl) (by kernel_rfl) (fun _ _ _ h => h) (Or.inl ⟨by rfl, ?_⟩) (by assumption) ?_; rotate_left; focus (intro w hSw; (try dsimp only at hSw); go_simp; (try with_reducible rfl); done)
        (try simp only [Act.put, List.getElem_toArray, List.getElem_cons_zero, List.getElem_cons_succ, List.setIfInBounds_toArray, List.set_cons_zero, List.set_cons_succ])
        refine wpAnyH_take (i := 15) (v := ?_) rfl (by kernel_rfl) (by kernel_rfl) (by kernel_rfl) (fun _ _ _ h => h) (Or.inl ⟨by rfl, ?_⟩) (by assumption) ?_; rotate_left; focus (intro w hSw; (try dsimp only at hSw); go_simp; (try with_reducible rfl); done)
        (try simp only [Act.put, List.getElem_toArray, List.getElem_cons_zero, List.getElem_cons_succ, List.setIfInBounds_toArray, List.set_cons_zero, List.set_cons_succ])
        refine wpAnyH_done (by kernel_rfl) ?_ _
        go_wp2
        go_ret
        exact ⟨rfl, HF14.out.trans hgb⟩
    · rw [if_neg hco] at HQX
      have HFD := Lib.hid (in_feedV w W7 Q2 [] none true AX (9 + n') cX LX HT.out.p HLX.out HX.out.own.bytes.1 (by omega) evX coX true none HQX.out (decide_eq_true hco))
      unfold InFeedV at HFD
      rw [HQ2.out] at HFD
      go_wp2_with fail
      with_reducible refine HFD.out.mono ?_
      clear HFD
      rintro e W8 ⟨xs2, AXe, nXe, cXe, rfl, hu1, hu2, hu3, ho8, hu5, hal⟩
      clear hu1 hu2 hu3 hu5 hal
      have HF8 : Hid (Fresh w W8) := Lib.hid (Only.fresh ((Only.of_fresh HF7.out).trans ho8) (fun i hi hk => by have := (HT.out.p.lt hk).2; omega))
      clear ho8 HX HY HT
      go_wp2_with (first | (refine wp_storeB (ds := #[.int .i64 coX, .bool true]) rfl (.tmp 14) (.tmp 74) _ rfl rfl rfl (Blk.new _ _ _) (by kernel_rfl) rfl (by simp [Value.oneCell']) ?_) | fail)
      intro W9 hb9 ho9
      have hf9 : Fresh W8 W9 := Only.fresh ((Only.of_fresh (Fresh.alloc _ _)).trans ho9) (fun i hi e => by omega)
      have HB9 := Lib.hid hb9
      have HF9 := Lib.hid (HF8.out.trans hf9)
      clear hb9 ho9 hf9
      go_wp2_with (first | (refine wp_loadB rfl (.tmp 14) _ rfl rfl HB9.out (by kernel_rfl) (fun w => by simp [isAgg, go_sem]) ?_) | fail)
      with_reducible refine (pok coX true false (by simp) _).mono ?_
      rintro e W10 ⟨rfl, hf10⟩
      have HF10 := Lib.hid (HF9.out.trans hf10)
      clear hf10 HB9
      go_wp2_with fail
      with_reducible refine (HW.out _).mono ?_
      rintro e W11 ⟨rfl, hf11⟩
      go_wp2
      go_ret
      exact ⟨rfl, HF10.out.trans hf11⟩
  · by_cases ht : n ≤ 200
    · have d1 : ¬ 200 < (n : Int) := by omega
      have d2 : 200 < (n' : Int) := by omega
      go_wp2_with fail
      with_reducible refine (HW.out _).mono ?_
      rintro e W3 ⟨rfl, hf3⟩
      go_wp2
      go_ret
      exact ⟨rfl, HF2.out.trans hf3⟩
    · have d1 : 200 < (n : Int) := by omega
      go_wp2_with fail
      with_reducible refine (HW.out _).mono ?_
      rintro e W3 ⟨rfl, hf3⟩
      go_wp2
      go_ret
      exact ⟨rfl, HF2.out.trans hf3⟩
end Go.Proofs.YtginhebfjbhmnaaGreat

