/-
  Layer 16: the frame of right pairs.
-/
import Derived.Test.YtfnggbnacdbcpaaDoorSet7
import Derived.Deep.CutRange
namespace Go.Proofs.YtfnggbnacdbcpaaDoor
set_option linter.unusedVariables false
open Go.RowKit

theorem own_not {w : World} {base n f : Nat} {t : TypeId} {v : Value} {xs : List Value} {cs : Array Value} (h : Own w base 5 1 v n xs) (hb : Blk w f t cs) (ht : 5 ≠ t) : ∀ k, v.ownBlock = some k → ¬ k = f := fun k hk e => by
  subst e
  rcases h.2 with ⟨e, _⟩ | ⟨g', cap, cur, e, _, hh, _⟩
  · rw [e] at hk; cases hk
  · rw [e] at hk; simp [Value.ownBlock] at hk; subst hk
    exact (show Blk w g' _ cur from hh).ne hb ht rfl
/-- Between the rounds: t the result's block, f the frame's. -/
structure FmS (w : World) (t f : Nat) (m : Nat) (A : Option Addr) (c : Nat) (X : List UInt8) (W : World) : Prop where
  fr : Fresh w W
  bt : Blk W t 44 #[.int .i64 0, .int .i64 0, .int .i64 0, .slice none 0 0]
  bf : Blk W f 44 #[.int .i64 4, .int .i64 0, .int .i64 0, .slice A m c]
  own : Own W w.heap.size 5 1 (.slice A m c) m (X.map byteV)
theorem FmS.fresh {w W W' : World} {t f m c : Nat} {A : Option Addr} {X : List UInt8} (h : FmS w t f m A c X W) (hf : Fresh W W') : FmS w t f m A c X W' := ⟨h.fr.trans hf, h.bt.fresh hf, h.bf.fresh hf, h.own.fresh hf⟩
/-- A big number was appended, in the world behind the call. -/
theorem FmS.more {w W W2 : World} {t f m c g n r pb : Nat} {A : Option Addr} {X l : List UInt8} {cs : Array Value} (h : FmS w t f m A c X W) (htf : t ≠ f) (hwf : w.heap.size ≤ f) (hf : Fresh W W2) (hb : Blk W2 g 5 (bytesA l)) (hn : l.length = n) (hr : m + n = r) (hm : r ≤ 1000000) (hp : Blk W pb 31 cs) :
    ∃ A' c' W3, (Builtin.append_ #[42, 42] 42 #[.slice A m c, .slice (some ⟨g, 0, none⟩) n n]).run Tryd.prog W2 = .ok (.slice A' r c') W3 ∧
      W2.cell? ⟨f, 3, none⟩ = some (.slice A m c) ∧ W3.cell? ⟨f, 3, none⟩ = some (.slice A m c) ∧ W3.frozen? ⟨f, 3, none⟩ = false ∧ Blk W3 pb 31 cs ∧ Blk (W3.setCell ⟨f, 3, none⟩ (.slice A' r c')) pb 31 cs ∧ FmS w t f r A' c' (X ++ l) (W3.setCell ⟨f, 3, none⟩ (.slice A' r c')) := by
  have h2 := h.fresh hf
  obtain ⟨A', c', W3, hrun, ho3, hol, hat⟩ := Own.moreX (P := Tryd.prog) Tryd.underlying42 u8_info 42 h2.own (by have := h2.fr.size; omega) (some ⟨g, 0, none⟩) n l n r hn hr (BS.row hb) (by omega)
  have hp2 := hp.fresh hf
  have hnf := own_not h2.own h2.bf (by decide)
  have hnt := own_not h2.own h2.bt (by decide)
  have hnp := own_not h2.own hp2 (by decide)
  have hbf3 := h2.bf.only hol (fun e => hnf f e rfl)
  have hbt3 := h2.bt.only hol (fun e => hnt t e rfl)
  have hbp3 := hp2.only hol (fun e => hnp pb e rfl)
  have hlt := h2.own.lt
  refine ⟨A', c', W3, hrun, h2.bf.cell 3, hbf3.cell 3, hbf3.frozen 3, hbp3, hbp3.far (hbp3.ne hbf3 (by decide)) _, ?_, ?_, ?_, ?_⟩
  · exact Fresh.step2 hwf (Below.trans h2.fr (Only.below hol h2.fr.size (fun k hk => (hlt k hk).1)))
  · exact hbt3.far (by simpa using htf) _
  · have := hbf3.set 3 (.slice A' r c')
    simpa using this
  · exact ho3.only (Only.setCell W3 ⟨f, 3, none⟩ _) (fun k hk e => own_not ho3 hbf3 (by decide) k hk e)
set_option maxRecDepth 100000 in
set_option maxHeartbeats 3200000 in
theorem set_frame_full (A : Option Addr) (ps : List (Int × Int)) (c : Nat) (w : World) (hmax : ps.length ≤ 1000) (h100 : 100 < ps.length) (hm : Many pairC 2 w A ps) (hok : ∀ p ∈ ps, PrOk p) :
    Calls Tryd.prog 14 #[.slice A ps.length c] w (FrmBad 15 w) := by
  have HM := Lib.hid hm
  have HOK := Lib.hid hok
  clear hm hok
  have dd : (100 : Int) < (ps.length : Int) := by omega
  go_enter Tryd.func14, Tryd.ntmps14
  go_wp2_with fail
  go_loopw [11] (fun i wr => ∃ (j : Nat), j ≤ ps.length ∧ i = .int .i64 (j : Int) ∧ Blk wr w.heap.size 44 #[.int .i64 0, .int .i64 0, .int .i64 0, .slice none 0 0] ∧ Fresh w wr) (fun i _ => ps.length - (intOf i).toNat)
  case atStart => exact ⟨0, by omega, rfl, Blk.new _ _ _, Fresh.alloc _ _⟩
  case round =>
    obtain ⟨j, hj, rfl, hb, hf⟩ := hrel
    have HB := Lib.hid hb
    have HF := Lib.hid hf
    by_cases hlt : j < ps.length
    · have hlt' : (j : Int) < (ps.length : Int) := by omega
      obtain ⟨⟨n, v⟩, hy⟩ : ∃ y, ps[j]? = some y := ⟨_, List.getElem?_eq_getElem hlt⟩
      obtain ⟨b, o, rfl, hbw, hcc⟩ := HM.out.at j (n, v) hy
      have e0 := (hf.cell (p := ⟨b, o + j * 2 + 0, none⟩) hbw).trans (hcc 0 (by omega))
      have e1 := (hf.cell (p := ⟨b, o + j * 2 + 1, none⟩) hbw).trans (hcc 1 (by omega))
      simp only [pairC, List.getElem?_cons_zero, List.getElem?_cons_succ, Nat.add_zero] at e0 e1
      have hz := hb.lt
      obtain ⟨a0, a1, b0, b1⟩ := HOK.out (n, v) (List.mem_of_getElem? hy)
      simp only at a0 a1 b0 b1
      have HR := Lib.hid (set_rightv v true (by simp [b0, b1]))
      have d0 : decide (n < 0) = false := by simp; omega
      have d1 : decide (65535 < n) = false := by simp; omega
      clear hy hcc hb hf a0 a1 b0 b1
      go_wp2_with fail
      with_reducible refine (HR.out _).mono ?_
      rintro e w2 ⟨rfl, rfl⟩
      go_wp2_with fail
      go_roundw
      case rel => exact ⟨j + 1, by omega, by go_num, HB.out.alloc _, HF.out.allocS _⟩
      case measure => simp [intOf]; omega
    · obtain rfl : j = ps.length := by omega
      obtain ⟨y0, y1, y2, y3⟩ := hb.c4
      obtain ⟨z0, z1, z2, z3⟩ := hb.z4
      clear hb hf
      go_wp2_with fail
      refine wx_gen (fun W => Blk W w.heap.size 44 #[.int .i64 0, .int .i64 0, .int .i64 0, .slice none 0 0] ∧ Fresh w W) ⟨by with_reducible exact frm_back HB.out, by
        have := HF.out
        repeat (first | with_reducible exact this | with_reducible exact Fresh.refl _ | with_reducible apply Fresh.drewS | with_reducible apply Fresh.allocS | (with_reducible refine Fresh.step2 (Nat.le_refl _) ?_))⟩ ?_
      intro W ⟨hbW, hfW⟩
      obtain ⟨y0, y1, y2, y3⟩ := hbW.c4
      refine bodyPost_ret (v := .tuple #[.agg #[.int .i64 0, .int .i64 0, .int .i64 0, .slice none 0 0], .int .i64 15]) (by simp [results, Tryd.results14, go_sem, y0, y1, y2, y3]) rfl ?_
      exact ⟨rfl, hfW⟩
set_option maxRecDepth 100000 in
set_option maxHeartbeats 3200000 in
theorem set_frame_ok (A : Option Addr) (ps : List (Int × Int)) (c : Nat) (w : World) (hmax : ps.length ≤ 100) (hm : Many pairC 2 w A ps) (hok : ∀ p ∈ ps, PrOk p) :
    Calls Tryd.prog 14 #[.slice A ps.length c] w (FrmOk (prsB ps) (6 * ps.length) w) := by
  have HM := Lib.hid hm
  have HOK := Lib.hid hok
  clear hm hok
  have dd : decide ((100 : Int) < (ps.length : Int)) = false := by simp; omega
  go_enter Tryd.func14, Tryd.ntmps14
  go_wp2_with fail
  go_loopw [11] (fun i wr => ∃ (j : Nat), j ≤ ps.length ∧ i = .int .i64 (j : Int) ∧ Blk wr w.heap.size 44 #[.int .i64 0, .int .i64 0, .int .i64 0, .slice none 0 0] ∧ Fresh w wr) (fun i _ => ps.length - (intOf i).toNat)
  case atStart => exact ⟨0, by omega, rfl, Blk.new _ _ _, Fresh.alloc _ _⟩
  case round =>
    obtain ⟨j, hj, rfl, hb, hf⟩ := hrel
    have HB := Lib.hid hb
    have HF := Lib.hid hf
    by_cases hlt : j < ps.length
    · have hlt' : (j : Int) < (ps.length : Int) := by omega
      obtain ⟨⟨n, v⟩, hy⟩ : ∃ y, ps[j]? = some y := ⟨_, List.getElem?_eq_getElem hlt⟩
      obtain ⟨b, o, rfl, hbw, hcc⟩ := HM.out.at j (n, v) hy
      have e0 := (hf.cell (p := ⟨b, o + j * 2 + 0, none⟩) hbw).trans (hcc 0 (by omega))
      have e1 := (hf.cell (p := ⟨b, o + j * 2 + 1, none⟩) hbw).trans (hcc 1 (by omega))
      simp only [pairC, List.getElem?_cons_zero, List.getElem?_cons_succ, Nat.add_zero] at e0 e1
      have hz := hb.lt
      obtain ⟨a0, a1, b0, b1⟩ := HOK.out (n, v) (List.mem_of_getElem? hy)
      simp only at a0 a1 b0 b1
      have HR := Lib.hid (set_rightv v true (by simp [b0, b1]))
      have d0 : decide (n < 0) = false := by simp; omega
      have d1 : decide (65535 < n) = false := by simp; omega
      clear hy hcc hb hf a0 a1 b0 b1
      go_wp2_with fail
      with_reducible refine (HR.out _).mono ?_
      rintro e w2 ⟨rfl, rfl⟩
      go_wp2_with fail
      go_roundw
      case rel => exact ⟨j + 1, by omega, by go_num, HB.out.alloc _, HF.out.allocS _⟩
      case measure => simp [intOf]; omega
    · obtain rfl : j = ps.length := by omega
      have hz := hb.lt
      have HS0 : Hid (FmS w w.heap.size wr.heap.size 0 none 0 [] (wr.alloc (.cells #[.int .i64 4, .int .i64 0, .int .i64 0, .slice none 0 0] 44))) := Lib.hid ⟨hf.allocS _, hb.alloc _, Blk.new _ _ _, Own.nil _ _ _ _⟩
      have HTF : Hid (w.heap.size ≠ wr.heap.size) := Lib.hid (by omega)
      have HWF : Hid (w.heap.size ≤ wr.heap.size) := Lib.hid (by omega)
      clear hb hf HB HF hj
      go_wp2_with fail
      generalize hf0 : wr.heap.size = f0 at *
      go_loopw [38] (fun i wr => ∃ (j : Nat) (A1 : Option Addr) (c1 : Nat), j ≤ ps.length ∧ i = .int .i64 (j : Int) ∧ FmS w w.heap.size f0 (6 * j) A1 c1 (prsB (ps.take j)) wr) (fun i _ => ps.length - (intOf i).toNat)
      case atStart => exact ⟨0, none, 0, by omega, rfl, HS0.out⟩
      case round =>
      obtain ⟨j, A0, c0, hj, rfl, hS⟩ := hrel
      have HS := Lib.hid hS
      by_cases hlt2 : j < ps.length
      · have hlt2' : (j : Int) < (ps.length : Int) := by omega
        obtain ⟨⟨a, b⟩, hy⟩ : ∃ y, ps[j]? = some y := ⟨_, List.getElem?_eq_getElem hlt2⟩
        obtain ⟨ab, ao, rfl, hbw, hcc⟩ := HM.out.at j (a, b) hy
        have e0 := (hS.fr.cell (p := ⟨ab, ao + j * 2 + 0, none⟩) hbw).trans (hcc 0 (by omega))
        have e1 := (hS.fr.cell (p := ⟨ab, ao + j * 2 + 1, none⟩) hbw).trans (hcc 1 (by omega))
        simp only [pairC, List.getElem?_cons_zero, List.getElem?_cons_succ, Nat.add_zero] at e0 e1
        obtain ⟨a0, a1, b0, b1⟩ := HOK.out (a, b) (List.mem_of_getElem? hy)
        simp only at a0 a1 b0 b1
        have u0 : IntKind.u64.wrap a = a := IntWalk.u64_in _ (by omega)
        have u1 : IntKind.u64.wrap b = b := IntWalk.u64_in _ (by omega)
        have HPS := Lib.hid (prsB_succ ps j (a, b) hy)
        have HPB : Hid (Blk (wr.alloc (.cells #[.int .i64 a, .int .i64 b] 31)) wr.heap.size 31 #[.int .i64 a, .int .i64 b]) := Lib.hid (Blk.new _ _ _)
        obtain ⟨pb, hpb⟩ : ∃ pb, wr.heap.size = pb := ⟨_, rfl⟩
        rw [hpb] at HPB
        have HPN : Hid (pb ≠ f0) := Lib.hid (by rw [← hpb]; have := hS.bf.lt; omega)
        clear hcc hS hy
        go_upto_region 13 with fail
        refine wp_gen (fun W => FmS w w.heap.size f0 (6 * j) A0 c0 (prsB (ps.take j)) W ∧ Blk W pb 31 #[.int .i64 a, .int .i64 b]) ⟨HS.out.fresh (Fresh.alloc _ _), HPB.out⟩ ?_
        intro W0 ⟨hS0, hp0⟩
        have HS0 := Lib.hid hS0
        have HQ0 := Lib.hid hp0
        have hc0 := hS0.bf.cell 3
        simp only [List.getElem?_toArray, List.getElem?_cons_zero, List.getElem?_cons_succ] at hc0
        have hq0 : W0.cell? ⟨pb, 0, none⟩ = some (.int .i64 a) := hp0.cell 0
        have HBG0 := Lib.hid (fun w' => obig_at a.toNat 2 a 2 w' (by omega) rfl (by omega) (by omega) (by omega))
        clear hS0 hp0
        go_cut [38] from 38 to 58 (fun x38 wx => x38 = .int .i64 (j : Int) ∧ ∃ (A9 : Option Addr) (c9 : Nat), FmS w w.heap.size f0 (6 * j + 2) A9 c9 (prsB (ps.take j) ++ bigL a.toNat 2) wx ∧ Blk wx pb 31 #[.int .i64 a, .int .i64 b])
        case first =>
          go_region_law (first
            | (go_simp; go_at_call 24; (with_reducible refine (HBG0.out _).mono ?_); rintro e w2 ⟨g2, rfl, hg2, hb2, hf2⟩; have hF2 : Fresh W0 w2 := (Fresh.drew W0).trans hf2; obtain ⟨A9, c9, w3, hap, hr0, hr1, hr2, hr3, hr4, hr5⟩ := HS0.out.more HTF.out HWF.out hF2 hb2 (bigL_length _ _) (show 6 * j + 2 = 6 * j + 2 by omega) (by omega) HQ0.out; have HW9 := Lib.hid hr5; have hr6 : w2.cell? ⟨pb, 0, none⟩ = some (.int .i64 a) := (HQ0.out.fresh hF2).cell 0; clear hf2 hb2 hg2 hr5)
            | (with_reducible refine step_app rfl (.tmp 43) (.tmp 47) _ rfl hap rfl (by simp [Act.eval, Act.put]) (by simp [Act.eval, Act.put]) ?_))
          all_goals
            go_wp2_with fail
            go_meet
            case rel => exact ⟨rfl, _, _, HW9.out, hr4⟩
        case rest =>
        obtain ⟨rfl, A1, c1, hS1, hp1⟩ := hcut
        have HS1 := Lib.hid hS1
        have HQ1 := Lib.hid hp1
        clear hS1 hp1
        go_upto_region 14 with fail
        refine wp_gen (fun W => FmS w w.heap.size f0 (6 * j + 2) A1 c1 (prsB (ps.take j) ++ bigL a.toNat 2) W ∧ Blk W pb 31 #[.int .i64 a, .int .i64 b]) ⟨HS1.out, HQ1.out⟩ ?_
        intro W1 ⟨hS1, hp1⟩
        have HS1 := Lib.hid hS1
        have HQ1 := Lib.hid hp1
        have hc1 := hS1.bf.cell 3
        simp only [List.getElem?_toArray, List.getElem?_cons_zero, List.getElem?_cons_succ] at hc1
        have hq1 : W1.cell? ⟨pb, 1, none⟩ = some (.int .i64 b) := hp1.cell 1
        have HBG1 := Lib.hid (fun w' => obig_at b.toNat 4 b 4 w' (by omega) rfl (by omega) (by omega) (by omega))
        clear hS1 hp1
        go_region_law (first
          | (go_simp; go_at_call 24; (with_reducible refine (HBG1.out _).mono ?_); rintro e w2 ⟨g2, rfl, hg2, hb2, hf2⟩; have hF2 : Fresh W1 w2 := (Fresh.drew W1).trans hf2; obtain ⟨A9, c9, w3, hap, hr0, hr1, hr2, hr3, hr4, hr5⟩ := HS1.out.more HTF.out HWF.out hF2 hb2 (bigL_length _ _) (show 6 * j + 2 + 4 = 6 * j + 6 by omega) (by omega) HQ1.out; have HW9 := Lib.hid hr5; have hr6 : w2.cell? ⟨pb, 1, none⟩ = some (.int .i64 b) := (HQ1.out.fresh hF2).cell 1; clear hf2 hb2 hg2 hr5)
          | (with_reducible refine step_app rfl (.tmp 51) (.tmp 55) _ rfl hap rfl (by simp [Act.eval, Act.put]) (by simp [Act.eval, Act.put]) ?_))
        all_goals
          go_wp2_with fail
          go_roundw
          case rel =>
            exact ⟨j + 1, _, _, by omega, by go_num, by have := HW9.out; rw [HPS.out, show 6 * (j + 1) = 6 * j + 6 by omega]; exact this⟩
          case measure => simp [intOf]; omega
      · obtain rfl : j = ps.length := by omega
        rw [List.take_length] at hS
        have hnt := own_not hS.own hS.bt (by decide)
        have hbs : BS wr A0 (prsB ps) := (Own.bytes hS.own).1
        obtain ⟨A9, c9, e9, hle9, hmx9, hat9⟩ := hS.own.slice
        cases e9
        obtain ⟨x0, x1, x2, x3⟩ := hS.bf.c4
        obtain ⟨y0, y1, y2, y3⟩ := hS.bt.c4
        obtain ⟨z0, z1, z2, z3⟩ := hS.bt.z4
        have HS9 := Lib.hid hS
        have HB9 := Lib.hid (And.intro hnt hbs)
        clear hS hnt hbs HS
        go_wp2_with fail
        refine wx_gen (fun W => Blk W w.heap.size 44 #[.int .i64 4, .int .i64 0, .int .i64 0, .slice A0 (6 * ps.length) c0] ∧ BS W A0 (prsB ps) ∧ Fresh w W) ⟨by with_reducible exact frm_back HS9.out.bt, ?_, ?_⟩ ?_
        · refine BS.only HB9.out.2 (S := fun k => k = w.heap.size) ?_ (fun b o e he => HB9.out.1 b (by rw [e]; rfl) he)
          repeat (first | with_reducible exact Only.refl _ _ | (with_reducible refine Only.step2 (Or.inl rfl) ?_))
        · have := HS9.out.fr
          repeat (first | with_reducible exact this | (with_reducible refine Fresh.step2 (Nat.le_refl _) ?_))
        intro W ⟨hbW, hsW, hfW⟩
        obtain ⟨y0, y1, y2, y3⟩ := hbW.c4
        refine bodyPost_ret (v := .tuple #[.agg #[.int .i64 4, .int .i64 0, .int .i64 0, .slice A0 (6 * ps.length) c0], .int .i64 0]) (by simp [results, Tryd.results14, go_sem, y0, y1, y2, y3]) rfl ?_
        exact ⟨A0, c0, rfl, hle9, hmx9, hsW, fun b o e => (hat9 b o e).1, hfW⟩
end Go.Proofs.YtfnggbnacdbcpaaDoor
