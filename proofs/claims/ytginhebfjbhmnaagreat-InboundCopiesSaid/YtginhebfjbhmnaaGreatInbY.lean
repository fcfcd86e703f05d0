/-
  Package inbound: Feed.
-/
import Derived.Test.YtginhebfjbhmnaaGreatG40
namespace Go.Proofs.YtginhebfjbhmnaaGreat
set_option maxRecDepth 100000
set_option linter.unusedVariables false
set_option linter.unusedSimpArgs false
open Go.RowKit
def deadA : Array Value := #[.pointer none, .pointer none, .pointer none, .bool false, .bool true]
theorem allF_countY {most : Int} : ∀ (n : Nat) (l : List UInt8) (P : List Fr × List UInt8), allF most n l = some P → P.1.length ≤ n
  | 0, l, P, h => by simp only [allF, Option.some.injEq] at h; subst h; simp
  | n + 1, l, P, h => by
    unfold allF at h
    split at h
    · simp only [Option.some.injEq] at h; subst h; simp
    · split at h
      · cases hq : allF most n (l.drop (lenF l)) with
        | none => rw [hq] at h; simp at h
        | some p =>
          rw [hq] at h
          simp only [Option.map_some, Option.some.injEq] at h
          subst h
          have := allF_countY n _ p hq
          simp only [List.length_cons]
          omega
      · cases h
def InFeedP (w0 w : World) (B : InB) (q : List Ev × Int × Option (List UInt8 × Option Part × Bool)) (e : Ending) (w' : World) : Prop :=
  ∃ (xs : List EvV) (v : Value), e = .returned (.tuple #[v, .agg #[.int .i64 q.2.1, .bool (decide (q.2.1 ≠ 0))]]) ∧ OwnE w' w.heap.size v xs ∧ xs.map EvV.e = q.1 ∧ Only B.has w w' ∧ (q.2.2 = none → InDead w' B.p) ∧
    ∀ l' s' bg', q.2.2 = some (l', s', bg') → ∃ B' : InB, B'.p = B.p ∧ IbAt w0 w' B' l' s' bg' ∧ (∀ k, B'.has k → B.has k ∨ w.heap.size ≤ k) ∧ ∀ x ∈ xs, x.off B'.has
/-- A dead reader's Feed. -/
theorem in_feed_dead (p : Nat) (v : Value) (w : World) (h : InDead w p) :
    Calls Tryz.prog 12 #[.pointer (some ⟨p, 0, none⟩), v] w fun e w' => e = .returned (.tuple #[.slice none 0 0, .agg #[.int .i64 105, .bool true]]) ∧ Fresh w w' := by
  have HD := Lib.hid (show Blk w p 54 deadA from h)
  clear h
  go_enter Tryz.func12, Tryz.ntmps12
  go_upto_region 1 with fail
  refine wp_gen (fun W => Blk W w.heap.size 32 #[.int .i64 0, .bool false] ∧ Fresh w W) ⟨Blk.new _ _ _, Fresh.alloc _ _⟩ ?_
  rintro W1 ⟨hb1, hf1⟩
  obtain ⟨b, hb⟩ : ∃ b, w.heap.size = b := ⟨_, rfl⟩
  have HB := Lib.hid hb
  rw [hb] at hb1 ⊢
  have HX1 := Lib.hid hb1
  have HF1 := Lib.hid hf1
  have HD := Lib.hid (HD.out.fresh hf1)
  have x4 : W1.cell? ⟨p, 4, none⟩ = some (.bool true) := HD.out.cell 4
  clear hb1 hf1 hb
  go_wp2_with fail
  with_reducible refine (in_ofConn 105 _).mono ?_
  rintro e W3 ⟨rfl, hf3⟩
  have HX1 := Lib.hid (HX1.out.fresh hf3)
  have HF3 := Lib.hid (HF1.out.trans hf3)
  clear hf3
  go_wp2_with (first | (refine wp_storeB (ds := #[.int .i64 105, .bool true]) rfl (.tmp 5) (.tmp 17) _ rfl rfl rfl HX1.out (by kernel_rfl) rfl (by simp [Value.oneCell']) ?_) | fail)
  intro W4 hb4 ho4
  have HB4 := Lib.hid hb4
  have HF4 : Hid (Fresh w W4) := Lib.hid (Only.fresh ((Only.of_fresh HF3.out).trans ho4) (fun i hi e => by have := HB.out; omega))
  clear hb4 ho4
  go_wp2
  exact bodyPost_ret (results_tc (fn := Tryz.f12) rfl rfl rfl HB4.out (by kernel_rfl) (fun w => by simp [isAgg, go_sem])) rfl ⟨rfl, HF4.out⟩
set_option maxHeartbeats 12800000 in
theorem in_feed (w0 w : World) (B : InB) (l : List UInt8) (s : Option Part) (bg : Bool) (A : Option Addr) (n c : Nat) (b : List UInt8) (h : IbAt w0 w B l s bg) (hn : b.length = n) (hB : BS w A b) (hb : n ≤ 1000000000) (q : List Ev × Int × Option (List UInt8 × Option Part × Bool)) (hq : feedQ l s bg b = q) :
    Calls Tryz.prog 12 #[.pointer (some ⟨B.p, 0, none⟩), .slice A n c] w (InFeedP w0 w B q) := by
  have HIB := Lib.hid h
  have HHL : Hid (∀ k, B.has k → k < w.heap.size ∧ w0.heap.size ≤ w.heap.size) := Lib.hid (fun k hk => ⟨(h.lt hk).1, h.de.fr.size⟩)
  obtain ⟨r, hr⟩ : ∃ r, allF 16384 (l ++ b).length (l ++ b) = r := ⟨_, rfl⟩
  have HFE : Hid (∀ W, Fresh w W → Calls Tryz.prog 24 #[.pointer (some ⟨B.rp, 0, none⟩), .slice A n c] W (FeedPost B.rp 16384 B.v1 r W)) := Lib.hid (fun W hf => rfeed B.rp 16384 l B.v1 A n c b r W (h.rs.fresh hf) hn (hB.fresh hf) hb hr)
  have HLL : Hid ((l ++ b).length ≤ 1016777224) := Lib.hid (by
    have := h.rs.len
    rw [List.length_append]
    omega)
  have HQR : Hid (q = feedR s bg r) := Lib.hid (by
    rw [← hq, ← hr]
    rfl)
  have HRR := Lib.hid hr
  have HBAD : Hid (∀ xs v co e W, e = .returned (.tuple #[v, .agg #[.int .i64 co, .bool true]]) → co ≠ 0 → OwnE W w.heap.size v xs → q = (xs.map EvV.e, co, none) → Only B.has w W → InDead W B.p → InFeedP w0 w B q e W) := Lib.hid (fun xs v co e W h1 h2 h3 h4 h5 h6 => by
    subst h4
    refine ⟨xs, v, ?_, h3, rfl, h5, fun _ => h6, fun l' s' bg' e => by cases e⟩
    rw [h1, decide_eq_true h2])
  have HGOOD : Hid (∀ xs v e W l' s' bg' (B' : InB), e = .returned (.tuple #[v, .agg #[.int .i64 0, .bool false]]) → OwnE W w.heap.size v xs → q = (xs.map EvV.e, 0, some (l', s', bg')) → Only B.has w W → B'.p = B.p → IbAt w0 W B' l' s' bg' → (∀ k, B'.has k → B.has k ∨ w.heap.size ≤ k) → (∀ x ∈ xs, x.off B'.has) → InFeedP w0 w B q e W) := Lib.hid (fun xs v e W l' s' bg' B' h1 h2 h3 h4 h5 h6 h7 h8 => by
    subst h3
    refine ⟨xs, v, h1, h2, rfl, h4, fun e => (by cases e), fun l2 s2 bg2 e => ?_⟩
    cases e
    exact ⟨B', h5, h6, h7, h8⟩)
  have HBB : Hid (∀ W, Fresh w W → Blk W B.p 54 (B.arr bg)) := Lib.hid (fun W hf => h.blk.fresh hf)
  clear h hn hB hb hq hr
  generalize InFeedP w0 w B q = PP at *
  go_enter Tryz.func12, Tryz.ntmps12
  go_upto_region 1 with fail
  refine wp_gen (fun W => Blk W w.heap.size 32 #[.int .i64 0, .bool false] ∧ Fresh w W) ⟨Blk.new _ _ _, Fresh.alloc _ _⟩ ?_
  rintro W1 ⟨hb1, hf1⟩
  obtain ⟨b5, hb5⟩ : ∃ b5, w.heap.size = b5 := ⟨_, rfl⟩
  have HB := Lib.hid hb5
  rw [hb5] at hb1 ⊢
  have HX1 := Lib.hid hb1
  have HF1 := Lib.hid hf1
  have x4 : W1.cell? ⟨B.p, 4, none⟩ = some (.bool false) := (HBB.out _ hf1).cell 4
  have x0 : W1.cell? ⟨B.p, 0, none⟩ = some (.pointer (some ⟨B.rp, 0, none⟩)) := (HBB.out _ hf1).cell 0
  have HIB1 := Lib.hid (HIB.out.fresh hf1)
  have HFE := Lib.hid (HFE.out _ hf1)
  clear hb1 hf1 hb5 HIB
  cases r with
  | none =>
    have hq1 : q = ([], 106, none) := HQR.out
    go_wp2_with fail
    with_reducible refine HFE.out.mono ?_
    rintro e W2 ⟨_, h2⟩
    obtain ⟨rfl, _, ho2⟩ := h2 rfl
    have HBP : Hid (Blk W2 B.p 54 (B.arr bg)) := Lib.hid (HIB1.out.blk.only ho2 (by
      rintro (e | e)
      · exact HIB1.out.blk.ne HIB1.out.rs.blk (by decide) e
      · obtain ⟨cur, hc⟩ := HIB1.out.rs.own.blk e
        exact HIB1.out.blk.ne hc (by decide) rfl))
    have HX1 := Lib.hid (HX1.out.only ho2 (by
      intro hk
      have := (HHL.out _ (InB.rs_has hk)).1
      have := HB.out
      omega))
    have HO2 : Hid (Only B.has w W2) := Lib.hid ((Only.of_fresh HF1.out).trans (ho2.mono (fun k hk => InB.rs_has hk)))
    clear ho2 h2 x4 x0
    have hd : ((106 : Int) != 0) = true := by decide
    go_wp2_with (first | (refine wp_storeB (ds := deadA) rfl (.tmp 31) (.tmp 30) _ rfl rfl rfl HBP.out (by kernel_rfl) rfl (by simp [deadA, Value.oneCell']) ?_) | fail)
    intro W3 hb3 ho3
    have HB3 := Lib.hid hb3
    have HO3 : Hid (Only B.has w W3) := Lib.hid (HO2.out.trans (ho3.mono (fun k e => .inl e)))
    have HX1 := Lib.hid (HX1.out.only ho3 (fun e => HX1.out.ne HBP.out (by decide) e))
    clear hb3 ho3
    go_wp2_with fail
    with_reducible refine (in_ofConn 106 _).mono ?_
    rintro e W4 ⟨rfl, hf4⟩
    have HX1 := Lib.hid (HX1.out.fresh hf4)
    have HB3 := Lib.hid (HB3.out.fresh hf4)
    have HO4 := Lib.hid (HO3.out.trans (Only.of_fresh hf4))
    clear hf4
    go_wp2_with (first | (refine wp_storeB (ds := #[.int .i64 106, .bool true]) rfl (.tmp 5) (.tmp 33) _ rfl rfl rfl HX1.out (by kernel_rfl) rfl (by simp [Value.oneCell']) ?_) | fail)
    intro W5 hb5 ho5
    have HB5 := Lib.hid hb5
    have HO5 : Hid (Only B.has w W5) := Lib.hid (HO4.out.trans' ho5 (fun i hi e => by have := HB.out; omega))
    have HBD : Hid (InDead W5 B.p) := Lib.hid (HB3.out.only ho5 (fun e => HX1.out.ne HB3.out (by decide) e.symm))
    clear hb5 ho5
    go_wp2
    refine bodyPost_ret (results_tc (fn := Tryz.f12) rfl rfl rfl HB5.out (by kernel_rfl) (fun w => by simp [isAgg, go_sem])) rfl ?_
    exact HBAD.out [] _ 106 _ _ rfl (by decide) (OwnE.nil _ _) hq1 HO5.out HBD.out
  | some P =>
    have HQ1 : Hid (q = ((readAll s bg P.1).1, (readAll s bg P.1).2.1, if (readAll s bg P.1).2.1 = 0 then some (P.2, (readAll s bg P.1).2.2.1, (readAll s bg P.1).2.2.2) else none)) := HQR
    have HPL : Hid (∀ f ∈ P.1, (f.pl.length : Int) ≤ 16384) := Lib.hid (allF_pl _ _ _ HRR.out)
    have HPN : Hid (P.1.length ≤ 1016777224) := Lib.hid (Nat.le_trans (allF_countY _ _ _ HRR.out) HLL.out)
    clear HQR HRR HLL
    go_wp2_with fail
    with_reducible refine HFE.out.mono ?_
    rintro e W2 ⟨h2, _⟩
    obtain ⟨A1, n1, c1, fs, v', rfl, rfl, hof, hfs, hrs, ho2, hg2, hne2⟩ := h2 P rfl
    have hw1 : w.heap.size ≤ W1.heap.size := HF1.out.size
    have hlw : w0.heap.size ≤ w.heap.size := (HHL.out B.p (.inl rfl)).2
    have HM : Hid (FdM w0 w B (.slice A1 P.1.length c1) fs P.2 b5 [] { B with v1 := v' } s bg (.slice none 0 0) W2) := Lib.hid ⟨HIB1.out.fed hrs ho2 hg2, rfl, fun k hk => by
        rcases InB.has1 hk with e | e
        · exact .inl e
        · rcases hg2 k e with e1 | e1
          · exact .inl (InB.rs_has (.inr e1))
          · exact .inr (by omega), OwnE.nil _ _, (fun x hx => by cases hx), ⟨hof.1.base_le hw1, fun p hp => ⟨(hof.2 p hp).1.base_le hw1, (hof.2 p hp).2⟩⟩, fun p hp g hg hk => by
        obtain ⟨⟨g', e', hg', _⟩, _⟩ := hof.2 p hp
        rw [e'] at hg
        cases hg
        rcases InB.has1 hk with e | e
        · have := (HHL.out _ e).1; omega
        · exact hne2 p hp g e' e, HX1.out.only ho2 (by
        intro hk
        have := (HHL.out _ (InB.rs_has hk)).1
        have := HB.out
        omega), (Only.of_fresh HF1.out).trans (ho2.mono (fun k hk => InB.rs_has hk)), hlw, Nat.le_of_eq HB.out⟩
    have HFS := Lib.hid hfs
    have hnl : P.1.length = fs.length := by rw [← hfs, List.length_map]
    have HNL := Lib.hid hnl
    obtain ⟨nn, hnn⟩ : ∃ nn, fs.length = nn := ⟨_, rfl⟩
    have HNN := Lib.hid hnn
    rw [hnl, hnn] at HM ⊢
    rw [hnl, hnn] at HPN
    clear hof hfs hrs ho2 hg2 hne2 h2 hw1 hlw hnl hnn x4 x0 HIB1 HFE HX1
    go_upto_region 8 with fail
    go_wp2
    go_loopw [8, 36] (fun ov i wr => ∃ (k : Nat) (xs : List EvV) (Bi : InB) (si : Option Part) (bgi : Bool) (v8 : Value), v8 = ov ∧ k ≤ nn ∧ i = .int .i64 (k : Int) ∧ xs.length ≤ k ∧ FdM w0 w B (.slice A1 nn c1) fs P.2 b5 xs Bi si bgi v8 wr ∧ readAll s bg (P.1.take k) = (xs.map EvV.e, 0, si, bgi)) (fun _ i _ => nn - (intOf i).toNat)
    case atStart => exact ⟨0, [], { B with v1 := v' }, s, bg, _, rfl, by omega, rfl, by simp, HM.out, rfl⟩
    case round =>
      obtain ⟨k, xs, Bi, si, bgi, ov, hov, hk, rfl, hxk, hm, hpre⟩ := hrel
      subst hov
      have HM := Lib.hid hm
      have HPRE := Lib.hid hpre
      clear hm hpre
      have hkp := HPN.out
      by_cases hlt : k < nn
      · have hlt' : (k : Int) < (nn : Int) := by omega
        obtain ⟨p, hp⟩ : ∃ p, fs[k]? = some p := ⟨_, List.getElem?_eq_getElem (by rw [HNN.out]; exact hlt)⟩
        have hpf : P.1[k]? = some p.1 := by rw [← HFS.out, List.getElem?_map, hp]; rfl
        have hpm : p ∈ fs := List.mem_of_getElem? hp
        obtain ⟨g, rfl, hgl, hgw, k0, k1, k2, k3⟩ := HM.out.fr.cells k p hp
        obtain ⟨qq, hqq⟩ : ∃ qq, readP si bgi p.1.x.toNat p.1.y.toNat p.1.st p.1.pl = qq := ⟨_, rfl⟩
        have HAT := Lib.hid (readAll_at HPRE.out p.1 hpf qq hqq)
        have HPLN : Hid ((p.1.pl.length : Int) ≤ 16384) := Lib.hid (HPL.out _ (List.mem_of_getElem? hpf))
        obtain ⟨f, PA⟩ := p
        obtain ⟨fx, fy, fst, fpl⟩ := f
        simp only at hqq k0 k1 k2 k3
        have HRD : Hid (∀ W, Fresh wr W → Calls Tryz.prog 25 #[.pointer (some ⟨Bi.p, 0, none⟩), .agg #[.int .i64 (fx.toNat : Int), .int .i64 (fy.toNat : Int), .int .i64 (fst : Int), .slice PA fpl.length fpl.length]] W (InReadP w0 W Bi P.2 qq)) := Lib.hid (fun W hf => by
          obtain ⟨⟨g', e, hg', hb⟩, _, hle⟩ := HM.out.fr.2 _ hpm
          have hplen := HPLN.out
          simp only at e hb hle hplen
          subst e
          exact in_read w0 W Bi P.2 si bgi fx.toNat fy.toNat fst (some ⟨g', 0, none⟩) fpl.length fpl.length fpl (HM.out.ib.fresh hf) ((BS.row hb).fresh hf) rfl (Nat.le_refl _) (by unfold maxLen; omega) (by omega) (fun _ b' o e hh => by cases e; exact HM.out.fo _ hpm g' rfl hh) qq hqq)
        clear hqq hp hpf hpm HPLN
        obtain ⟨pn, hpn⟩ : ∃ pn, fpl.length = pn := ⟨_, rfl⟩
        rw [hpn] at HRD k3
        clear hpn
        have hsame := HM.out.same
        rw [hsame] at HRD
        go_upto_region 11 with (first | (refine wp_storeB (ds := #[.int .i64 (fx.toNat : Int), .int .i64 (fy.toNat : Int), .int .i64 (fst : Int), .slice PA pn pn]) rfl (.tmp 10) (.tmp 39) _ rfl rfl rfl (Blk.new _ _ _) (by kernel_rfl) rfl (by simp [Value.oneCell']) ?_) | fail)
        intro WB hbx hob
        have hfb : Fresh wr WB := Only.fresh ((Only.of_fresh (Fresh.alloc _ _)).trans hob) (fun i hi e => by omega)
        have HBX := Lib.hid hbx
        have HMB := Lib.hid (HM.out.fresh hfb)
        have HRD := Lib.hid (HRD.out _ hfb)
        clear hbx hfb hob k0 k1 k2 k3 hgl hgw HM
        go_wp2_with (first | (refine wp_loadB rfl (.tmp 10) _ rfl rfl HBX.out (by kernel_rfl) (fun w => by simp [isAgg, go_sem]) ?_) | fail)
        with_reducible refine HRD.out.mono ?_
        rintro e WC ⟨hoc, hbad, hgood⟩
        clear HRD
        by_cases h0 : qq.1 = 0
        · obtain ⟨B', x, rfl, hxe, hrd⟩ := hgood h0
          obtain ⟨hmc, hxi, hxb, hxo⟩ := HMB.out.read hrd hoc
          have HM := Lib.hid hmc
          have HXI := Lib.hid hxi
          have HXB := Lib.hid hxb
          have HXO := Lib.hid hxo
          have HPRE := Lib.hid (HAT.out.1 h0)
          have HXE := Lib.hid hxe
          clear hbad hgood hoc hmc hxi hxb hxo hrd HAT HMB HBX hxe
          obtain ⟨⟨ek, est, exs, el, eps, een, en, eco⟩, LA, lc, TA, tc, EPA, pc⟩ := x
          simp only at HXE
          go_wp2_with (first | (refine wp_storeB (ds := #[.int .i64 ek, .int .i64 est, .slice LA exs.length lc, .slice TA el.length tc, .slice EPA eps.length pc, .bool een, .int .i64 en, .int .i64 eco]) rfl (.tmp 11) (.tmp 44) _ rfl rfl rfl ((Blk.new _ _ _).alloc _) (by kernel_rfl) rfl (by simp [Value.oneCell']) ?_) | fail)
          intro W8 hb8 ho8
          have hb9 : Blk W8 (WC.heap.size + 1) 32 #[.int .i64 0, .bool false] := (Blk.mkAt (by simp)).only ho8 (by omega)
          have hf8 : Fresh WC W8 := Only.fresh ((Only.of_fresh ((Fresh.alloc _ _).allocS _)).trans ho8) (fun i hi e => by omega)
          obtain ⟨g8, hg8⟩ : ∃ g8, WC.heap.size = g8 := ⟨_, rfl⟩
          have HG8 := Lib.hid hg8
          rw [hg8] at hb8 hb9 ⊢
          have HB8 := Lib.hid hb8
          have HB9 := Lib.hid hb9
          have HF8 := Lib.hid hf8
          clear hb8 hb9 hf8 ho8 hg8
          go_wp2_with (first | (refine wp_storeB (ds := #[.int .i64 0, .bool false]) rfl (.tmp 12) (.tmp 45) _ rfl rfl rfl HB9.out (by kernel_rfl) rfl (by simp [Value.oneCell']) ?_) | fail)
          intro W9 hb9 ho9
          have hf9 : Fresh WC W9 := Only.fresh ((Only.of_fresh HF8.out).trans ho9) (fun i hi e => by have := HG8.out; omega)
          have HI := Lib.hid (HB8.out.only ho9 (by omega))
          have H9 := Lib.hid hb9
          have HM := Lib.hid (HM.out.fresh hf9)
          have HXI := Lib.hid (HXI.out.fresh hf9)
          clear hb9 ho9 hf9 HB8 HB9 HF8 HG8
          go_wp2_with (first | (refine wp_loadB rfl (.tmp 12) _ rfl rfl H9.out (by kernel_rfl) (fun w => by simp [isAgg, go_sem]) ?_) | fail)
          with_reducible refine (pok 0 false true (by decide) _).mono ?_
          rintro e WD ⟨rfl, hfd⟩
          have HI := Lib.hid (HI.out.fresh hfd)
          have HM := Lib.hid (HM.out.fresh hfd)
          have HXI := Lib.hid (HXI.out.fresh hfd)
          clear hfd H9
          have e0 : WD.cell? ⟨g8, 0, none⟩ = some (.int .i64 ek) := HI.out.cell 0
          have HPRE : Hid (readAll s bg (P.1.take (k + 1)) = (xs.map EvV.e ++ (if ek ≠ 0 then [⟨ek, est, exs, el, eps, een, en, eco⟩] else []), 0, qq.2.1, true)) := Lib.hid (by
            rw [HPRE.out, ← HXE.out])
          by_cases hk0 : ek = 0
          · have d0 : (ek != 0) = false := by simp [hk0]
            go_wp2_with fail
            go_roundw
            case rel => exact ⟨k + 1, xs, B', qq.2.1, true, _, rfl, by omega, by go_num, by omega, HM.out, by rw [HPRE.out, if_neg (by simp [hk0]), List.append_nil]⟩
            case measure => simp [intOf]; omega
          · have d0 : (ek != 0) = true := by simpa using hk0
            obtain ⟨A', c', WE, hap, hme⟩ := HM.out.push HXI.out HXB.out HXO.out xs.length (xs.length + 1) rfl rfl (by omega) #[.int .i64 ek, .int .i64 est, .slice LA exs.length lc, .slice TA el.length tc, .slice EPA eps.length pc, .bool een, .int .i64 en, .int .i64 eco] rfl WD.heap.size rfl
            have HME := Lib.hid hme
            clear hme
            go_wp2_with (first | (refine wp_loadB rfl (.tmp 11) _ rfl rfl HI.out (by kernel_rfl) (fun w => by simp [isAgg, go_sem]) ?_) | (at_builtin; with_reducible refine wp_app rfl (.tmp 57) (.tmp 59) _ rfl hap rfl rfl rfl ?_) | fail)
            clear hap
            go_roundw
            case rel => exact ⟨k + 1, _, B', qq.2.1, true, _, rfl, by omega, by go_num, by simp; omega, HME.out, by rw [HPRE.out, if_pos hk0, List.map_append]; rfl⟩
            case measure => simp [intOf]; omega
        · obtain ⟨rfl, bgp, hbp⟩ := hbad h0
          obtain ⟨co, hco⟩ : ∃ co, qq.1 = co := ⟨_, rfl⟩
          rw [hco] at h0
          have HPRE : Hid (readAll s bg P.1 = (xs.map EvV.e, co, si, true)) := Lib.hid (by rw [HAT.out.2 (hco ▸ h0), hco])
          have HBP := Lib.hid hbp
          have HOC := Lib.hid hoc
          rw [hco]
          clear hgood hbad HAT hbp hoc hco
          go_wp2_with (first | (refine wp_storeB (ds := (Ev.bare Ev0).arr) rfl (.tmp 11) (.tmp 44) _ rfl rfl rfl ((Blk.new _ _ _).alloc _) (by kernel_rfl) rfl (evArr_one _) ?_) | fail)
          intro W8 hb8 ho8
          have hb9 : Blk W8 (WC.heap.size + 1) 32 #[.int .i64 0, .bool false] := (Blk.mkAt (by simp)).only ho8 (by omega)
          have hf8 : Fresh WC W8 := Only.fresh ((Only.of_fresh ((Fresh.alloc _ _).allocS _)).trans ho8) (fun i hi e => by omega)
          obtain ⟨g8, hg8⟩ : ∃ g8, WC.heap.size = g8 := ⟨_, rfl⟩
          have HG8 := Lib.hid hg8
          rw [hg8] at hb8 hb9 ⊢
          have HB9 := Lib.hid hb9
          have HF8 := Lib.hid hf8
          clear hb8 hb9 hf8 ho8 hg8
          go_wp2_with (first | (refine wp_storeB (ds := #[.int .i64 co, .bool true]) rfl (.tmp 12) (.tmp 45) _ rfl rfl rfl HB9.out (by kernel_rfl) rfl (by simp [Value.oneCell']) ?_) | fail)
          intro W9 hb9 ho9
          have hf9 : Fresh WC W9 := Only.fresh ((Only.of_fresh HF8.out).trans ho9) (fun i hi e => by have := HG8.out; omega)
          have H9 := Lib.hid hb9
          have HF9 := Lib.hid hf9
          have HB5G : Hid (b5 < g8) := Lib.hid (by have := HMB.out.z5.lt; have := HOC.out.size; have := HG8.out; omega)
          clear hb9 ho9 hf9 HB9 HF8 HG8
          go_wp2_with (first | (refine wp_loadB rfl (.tmp 12) _ rfl rfl H9.out (by kernel_rfl) (fun w => by simp [isAgg, go_sem]) ?_) | fail)
          with_reducible refine (pok co true false (by simp) _).mono ?_
          rintro e WD ⟨rfl, hfd⟩
          have H9 := Lib.hid (H9.out.fresh hfd)
          have HF9 := Lib.hid (HF9.out.trans hfd)
          have HBP := Lib.hid (HBP.out.fresh HF9.out)
          have HOUT : Hid (OwnE WD (b5 + 1) ov xs) := Lib.hid ((HMB.out.out.only HOC.out (HMB.out.out.has HMB.out.ib) HMB.out.ib.ln HMB.out.offs).fresh HF9.out)
          have HZ5 : Hid (Blk WD b5 32 #[.int .i64 0, .bool false]) := Lib.hid ((HMB.out.z5.only HOC.out (HMB.out.ib.odd HMB.out.z5 (by decide))).fresh HF9.out)
          have HOD : Hid (Only B.has w WD) := Lib.hid ((HMB.out.on.trans' HOC.out (fun i hi hk => by
            rcases HMB.out.has i hk with e | e
            · exact e
            · omega)).trans (Only.of_fresh HF9.out))
          clear hfd HF9 HOC
          rw [HMB.out.same] at HBP
          go_wp2_with (first | (refine wp_storeB (ds := deadA) rfl (.tmp 51) (.tmp 50) _ rfl rfl rfl HBP.out (by kernel_rfl) rfl (by simp [deadA, Value.oneCell']) ?_) | fail)
          intro WE hbe hoe
          have H9 := Lib.hid (H9.out.only hoe (fun e => H9.out.ne HBP.out (by decide) e))
          have HOUT : Hid (OwnE WE (b5 + 1) ov xs) := Lib.hid (HOUT.out.only hoe (fun i hi e => by
            obtain ⟨_, _, cs, hb⟩ := HOUT.out.blk hi
            exact hb.ne HBP.out (by decide) e) (fun g cs hg e => hg.ne HBP.out (by decide) e) (fun x hx => (HMB.out.offs x hx).mono (fun i e => .inl (e.trans HMB.out.same.symm))))
          have HZ5 := Lib.hid (HZ5.out.only hoe (fun e => HZ5.out.ne HBP.out (by decide) e))
          have HOE : Hid (Only B.has w WE) := Lib.hid (HOD.out.trans (hoe.mono (fun i e => .inl e)))
          have HBE := Lib.hid hbe
          clear hbe hoe HOD HBP
          go_upto_region 14 with fail
          refine wp_region_held_drew (S := (fun w' => Blk w' (g8 + 1) 32 #[.int .i64 co, .bool true])) (by kernel_rfl) (H9.out.drew) (fun hHeld => ?_)
          refine wpAnyH_take (i := 0) (v := ?_) rfl (by kernel_rfl) (by kernel_rfl) (by kernel_rfl) (fun _ _ _ h => h) (Or.inl ⟨by rfl, ?_⟩) (by assumption) ?_; rotate_left; focus (intro w hSw; (try dsimp only at hSw); go_simp; (try with_reducible rfl); done)
          (try simp only [Act.put, List.getElem_toArray, List.getElem_cons_zero, List.getElem_cons_succ, List.setIfInBounds_toArray, List.set_cons_zero, List.set_cons_succ])
          refine wpAnyH_take (i := 1) (v := .agg #[.int .i64 co, .bool true]) rfl (by kernel_rfl) (by kernel_rfl) (by kernel_rfl) (fun _ _ _ h => h) (Or.inl ⟨by rfl, ?_⟩) (by assumption) ?_; focus (intro w hSw; exact run_loadOp rfl rfl hSw (by kernel_rfl) (fun w => by simp [isAgg, go_sem]))
          (try simp only [Act.put, List.getElem_toArray, List.getElem_cons_zero, List.getElem_cons_succ, List.setIfInBounds_toArray, List.set_cons_zero, List.set_cons_succ])
          refine wpAnyH_take (i := 2) (v := ?_) rfl (by kernel_rfl) (by kernel_rfl) (by kernel_rfl) (fun _ _ _ h => h) (Or.inl ⟨by rfl, ?_⟩) (by assumption) ?_; rotate_left; focus (intro w hSw; (try dsimp only at hSw); go_simp; (try with_reducible rfl); done)
          (try simp only [Act.put, List.getElem_toArray, List.getElem_cons_zero, List.getElem_cons_succ, List.setIfInBounds_toArray, List.set_cons_zero, List.set_cons_succ])
          refine wpAnyH_ready (rs := [3]) (by kernel_rfl) (by simp) ?_
          refine AllReadyH.cons rfl (fun K hK => ?_) AllReadyH.nil
          refine op_storeB (ds := #[.int .i64 co, .bool true]) (.tmp 5) (.tmp 53) _ rfl rfl rfl HZ5.out.drew (by kernel_rfl) rfl (by simp [Value.oneCell']) ?_
          intro W6 hb6 ho6
          refine hK.out _ _ (hHeld.only ho6 (fun e => by have := HB5G.out; omega)) (fun hHeld => ?_)
          clear hK K
          (try simp only [Act.put, List.getElem_toArray, List.getElem_cons_zero, List.getElem_cons_succ, List.setIfInBounds_toArray, List.set_cons_zero, List.set_cons_succ])
          refine wpAnyH_done (by kernel_rfl) ?_ _
          have HB6 := Lib.hid hb6
          have HO6 : Hid (Only B.has w W6) := Lib.hid ((HOE.out.trans (Only.of_fresh (Fresh.drew _))).trans' ho6 (fun i hi e => by have := HB.out; omega))
          have HBD : Hid (InDead W6 B.p) := Lib.hid (HBE.out.drew.only ho6 (fun e => HZ5.out.ne HBE.out (by decide) e.symm))
          have HOUT : Hid (OwnE W6 (b5 + 1) ov xs) := Lib.hid ((HOUT.out.fresh (Fresh.drew _)).only ho6 (fun i hi e => by
            obtain ⟨_, _, cs, hb⟩ := HOUT.out.blk hi
            exact hb.ne HZ5.out (by decide) e) (fun g cs hg e => hg.ne HZ5.out.drew (by decide) e) (fun x hx => (HOUT.out.2.1 x hx).low.mono (fun i e => by omega)))
          clear hb6 ho6 hHeld
          go_wp2
          refine bodyPost_ret (results_tc (fn := Tryz.f12) rfl rfl rfl HB6.out (by kernel_rfl) (fun w => by simp [isAgg, go_sem])) rfl ?_
          exact HBAD.out xs ov co _ _ rfl h0 (HOUT.out.base_le (by have := HB.out; omega)) (by rw [HQ1.out, HPRE.out, if_neg h0]) HO6.out HBD.out
      · have hkn : k = nn := by omega
        subst hkn
        have HPRE : Hid (readAll s bg P.1 = (xs.map EvV.e, 0, si, bgi)) := Lib.hid (by
          have := HPRE.out
          rwa [List.take_of_length_le (by rw [← HFS.out, List.length_map, HNN.out]; exact Nat.le_refl _)] at this)
        go_wp2_with (first | (refine wp_storeB (ds := #[.int .i64 0, .bool false]) rfl (.tmp 5) (.tmp 63) _ rfl rfl rfl HM.out.z5 (by kernel_rfl) rfl (by simp [Value.oneCell']) ?_) | fail)
        intro W6 hb6 ho6
        have HB6 := Lib.hid hb6
        have HO6 : Hid (Only B.has w W6) := Lib.hid (HM.out.on.trans' ho6 (fun i hi e => by have := HB.out; omega))
        have HOUT : Hid (OwnE W6 (b5 + 1) ov xs) := Lib.hid (HM.out.out.only ho6 (fun i hi e => by
          obtain ⟨_, _, cs, hb⟩ := HM.out.out.blk hi
          exact hb.ne HM.out.z5 (by decide) e) (fun g cs hg e => hg.ne HM.out.z5 (by decide) e) (fun x hx => (HM.out.out.2.1 x hx).low.mono (fun i e => by omega)))
        have HIB : Hid (IbAt w0 W6 Bi P.2 si bgi) := Lib.hid (HM.out.ib.only ho6 (fun i hi e => by subst e; exact HM.out.ib.odd HM.out.z5 (by decide) hi) (fun i e => by have := HM.out.lw; have := HB.out; omega))
        clear hb6 ho6
        go_wp2
        refine bodyPost_ret (results_tc (fn := Tryz.f12) rfl rfl rfl HB6.out (by kernel_rfl) (fun w => by simp [isAgg, go_sem])) rfl ?_
        exact HGOOD.out xs ov _ _ P.2 si bgi Bi rfl (HOUT.out.base_le (by have := HB.out; omega)) (by rw [HQ1.out, HPRE.out, if_pos rfl]) HO6.out HM.out.same HIB.out HM.out.has HM.out.offs
end Go.Proofs.YtginhebfjbhmnaaGreat

