/-
  Texts laid together: InbA InbL InbQ PayE.
-/
import Derived.Test.YtginhebfjbhmnaaGreatInbY
import Derived.Test.YtginhebfjbhmnaaGreatG12
import Derived.Test.YtginhebfjbhmnaaGreatG40
import Derived.Test.YtginhebfjbhmnaaGreatInb
import Derived.Test.YtginhebfjbhmnaaGreatG36
import Derived.BigQuiet
import Derived.Test.YtginhebfjbhmnaaGreatG09
/-
  Layer 23: the law's fixed answer.
-/
namespace Go.Proofs.YtginhebfjbhmnaaGreat
set_option maxRecDepth 100000
set_option linter.unusedVariables false
set_option linter.unusedSimpArgs false
open Go.RowKit
def awA : List UInt8 := [0, 0, 0, 4, 0, 0, 0, 0, 0]
def awB : List UInt8 := [0, 0, 1, 1, 5, 0, 0, 0, 1, 136]
def awC : List UInt8 := [0, 0, 0, 5, 0, 0, 0, 0, 1]
theorem aw0 : frB2 4 0 0 [] = awA ∧ frB2 1 5 1 [136] = awB ∧ frB2 5 0 1 [] = awC := by decide +kernel
theorem aw1 : (feedQ [] none false (awA ++ awB)).2 = (0, some ([], none, true)) := by kernel_rfl
theorem aw2 : (feedQ [] none true awC).2 = (101, none) := by kernel_rfl
theorem aw3 : ((feedQ [] none false (awA ++ awB)).1.map fun e => (e.k, e.en, e.xs.map fun x => x.1.2)) = [(5, false, []), (1, true, [⟨#[50, 48, 48]⟩])] := by decide +kernel
/-- A reader with its owner: what Feed leaves, by its state. -/
theorem InFeedP.fresh {w0 w : World} {B : InB} {q : List Ev × Int × Option (List UInt8 × Option Part × Bool)} {e : Ending} {w' wb : World} (h : InFeedP w0 w B q e w') (hf : Fresh wb w) (hB : ∀ k, B.has k → wb.heap.size ≤ k) : Fresh wb w' := by
  obtain ⟨xs, v, _, _, _, ho, _⟩ := h
  exact Only.fresh ((Only.of_fresh hf).trans ho) (fun i hi hk => by have := hB i hk; omega)
theorem aw_two (xs : List EvV) (evs : List Ev) (h : xs.map EvV.e = evs) (h3 : (evs.map fun e => (e.k, e.en, e.xs.map fun x => x.1.2)) = [(5, false, []), (1, true, [⟨#[50, 48, 48]⟩])]) :
    ∃ x1 x2 y, xs = [x1, x2] ∧ x1.e.k = 5 ∧ x2.e.k = 1 ∧ x2.e.en = true ∧ x2.e.xs = [y] ∧ y.1.2 = (⟨#[50, 48, 48]⟩ : ByteArray) := by
  subst h
  rw [List.map_map] at h3
  rcases xs with _ | ⟨x1, _ | ⟨x2, _ | ⟨x3, r⟩⟩⟩
  · simp at h3
  · simp at h3
  · simp only [List.map_cons, List.map_nil, Function.comp, List.cons.injEq, Prod.mk.injEq, and_true] at h3
    obtain ⟨⟨k1, n1, _⟩, k2, n2, l2⟩ := h3
    cases hz : x2.e.xs with
    | nil => rw [hz] at l2; simp at l2
    | cons y r =>
      rw [hz] at l2
      simp only [List.map_cons, List.cons.injEq, List.map_eq_nil_iff] at l2
      exact ⟨x1, x2, y, rfl, k1, k2, n2, by rw [hz, l2.2], l2.1⟩
  · simp at h3
def InFeedV (w0 w : World) (B : InB) (evs : List Ev) (co : Int) (cb : Bool) (st : Option (List UInt8 × Option Part × Bool)) (e : Ending) (w' : World) : Prop :=
  ∃ (xs : List EvV) (A : Option Addr) (n c : Nat), e = .returned (.tuple #[.slice A n c, .agg #[.int .i64 co, .bool cb]]) ∧ xs.length = n ∧ OwnE w' w.heap.size (.slice A n c) xs ∧ xs.map EvV.e = evs ∧ Only B.has w w' ∧ (st = none → InDead w' B.p) ∧
    ∀ l' s' bg', st = some (l', s', bg') → ∃ B' : InB, B'.p = B.p ∧ IbAt w0 w' B' l' s' bg' ∧ (∀ k, B'.has k → B.has k ∨ w.heap.size ≤ k) ∧ ∀ x ∈ xs, x.off B'.has
/-- Feed, its answers told by letters. -/
theorem in_feedV (w0 w : World) (B : InB) (l : List UInt8) (s : Option Part) (bg : Bool) (A : Option Addr) (n c : Nat) (b : List UInt8) (h : IbAt w0 w B l s bg) (hn : b.length = n) (hB : BS w A b) (hb : n ≤ 1000000000) (evs : List Ev) (co : Int) (cb : Bool) (st : Option (List UInt8 × Option Part × Bool)) (hq : feedQ l s bg b = (evs, co, st)) (hcb : decide (co ≠ 0) = cb) :
    Calls Tryz.prog 12 #[.pointer (some ⟨B.p, 0, none⟩), .slice A n c] w (InFeedV w0 w B evs co cb st) := by
  refine (in_feed w0 w B l s bg A n c b h hn hB hb _ hq).mono ?_
  rintro e w' ⟨xs, v, rfl, h2, h3, h4, h5, h6⟩
  obtain ⟨A', c', rfl⟩ := h2.slice
  exact ⟨xs, A', xs.length, c', by rw [← hcb], rfl, h2, h3, h4, h5, h6⟩
set_option maxHeartbeats 12800000 in
theorem awake23 (w : World) : Calls Tryz.prog 9 #[] w fun e w' => e = .returned (.bool true) ∧ Fresh w w' := by
  have HNEW := Lib.hid (fun W => in_new W W (Fresh.refl W))
  unfold InNewP at HNEW
  obtain ⟨a0, a1, a2⟩ := aw0
  have HBA := Lib.hid (fun W => fbytes_at 4 0 0 4 0 0 none 0 9 0 [] awA W rfl rfl rfl rfl a0 rfl (by omega) (by omega) (BS.nil _ _) (by omega))
  have HBB := Lib.hid (fun W A (hA : BS W A [136]) => fbytes_at 1 5 1 1 5 1 A 1 10 1 [136] awB W rfl rfl rfl rfl a1 rfl (by omega) (by omega) hA (by omega))
  have HBC := Lib.hid (fun W => fbytes_at 5 0 1 5 0 1 none 0 9 0 [] awC W rfl rfl rfl rfl a2 rfl (by omega) (by omega) (BS.nil _ _) (by omega))
  unfold BytesN at HBA HBB HBC
  clear a0 a1 a2
  obtain ⟨evs, hevs⟩ : ∃ evs, (feedQ [] none false (awA ++ awB)).1 = evs := ⟨_, rfl⟩
  have hq1 : feedQ [] none false (awA ++ awB) = (evs, 0, some ([], none, true)) := by rw [← hevs, ← aw1]
  have HEV : Hid ((evs.map fun e => (e.k, e.en, e.xs.map fun x => x.1.2)) = [(5, false, []), (1, true, [⟨#[50, 48, 48]⟩])]) := Lib.hid (by rw [← hevs]; exact aw3)
  obtain ⟨evs2, hevs2⟩ : ∃ evs, (feedQ [] none true awC).1 = evs := ⟨_, rfl⟩
  have hq2 : feedQ [] none true awC = (evs2, 101, none) := by rw [← hevs2, ← aw2]
  have HQ1 := Lib.hid hq1
  have HQ2 := Lib.hid hq2
  clear hevs hevs2 hq1 hq2
  go_enter Tryz.func9, Tryz.ntmps9
  go_wp2_with fail
  with_reducible refine (HNEW.out _).mono ?_
  rintro e W1 ⟨B, rfl, hib, hlo, hf1⟩
  have HIB := Lib.hid hib
  have HLO := Lib.hid hlo
  have HF1 := Lib.hid hf1
  clear hib hlo hf1
  go_wp2_with fail
  with_reducible refine (HBA.out _).mono ?_
  rintro e W2 ⟨A1, c1, rfl, hc1, hm1, ho1, hf2⟩
  have HO1 := Lib.hid ho1
  have HF2 := Lib.hid (HF1.out.trans hf2)
  have HIB := Lib.hid (HIB.out.fresh hf2)
  clear ho1 hf2
  go_upto_region 3 with fail
  go_wp2_with fail
  have hbx : BS (W2.alloc (.cells #[.int .u8 136] 5)) (some ⟨W2.heap.size, 0, none⟩) [136] := BS.row (Blk.new W2 _ _)
  with_reducible refine (HBB.out _ _ hbx).mono ?_
  rintro e W3 ⟨A2, c2, rfl, hc2, hm2, ho2, hf3⟩
  have hf3' : Fresh W2 W3 := (Fresh.alloc _ _).trans hf3
  have HO1 := Lib.hid (HO1.out.fresh hf3')
  have HO2 := Lib.hid ho2
  have HF3 := Lib.hid (HF2.out.trans hf3')
  have HIB := Lib.hid (HIB.out.fresh hf3')
  clear ho2 hf3 hf3' hbx
  obtain ⟨A4, c4, W4, hap4, ho4, hO4, _⟩ := Own.moreX (P := Tryz.prog) (X := []) Tryz.underlying28 u8_info 28 (Own.lit (w := W3) (base := W3.heap.size) (E := 5) (sz := 1) (n := 0) (cs := #[]) (Nat.le_refl _) (by unfold maxLen; omega) rfl) (by simp) A1 c1 awA 9 9 rfl rfl (HO1.out.bytes.1.fresh (Fresh.alloc _ _)) (by omega)
  have hf4 : Fresh W3 W4 := Only.fresh ((Only.of_fresh (Fresh.alloc _ _)).trans hO4) (fun i hi e => by simp [Value.ownBlock] at e; omega)
  have hsz4 := hf4.size
  obtain ⟨A5, c5, W5, hap5, ho5, hO5, _⟩ := Own.moreX (P := Tryz.prog) Tryz.underlying28 u8_info 28 ho4 hsz4 A2 c2 awB 10 19 rfl rfl (HO2.out.bytes.1.fresh hf4) (by omega)
  have hf5 : Fresh W3 W5 := Only.fresh ((Only.of_fresh hf4).trans hO5) (fun i hi e => by have := (ho4.lt i e).1; omega)
  have HF5 := Lib.hid (HF3.out.trans hf5)
  have HIB := Lib.hid (HIB.out.fresh hf5)
  rw [List.nil_append] at ho5
  have HFD := Lib.hid (in_feedV _ W5 B [] none false A5 19 c5 (awA ++ awB) HIB.out rfl ho5.bytes.1 (by omega) evs 0 false (some ([], none, true)) HQ1.out (by decide))
  unfold InFeedV at HFD
  clear ho4 hO4 hO5 ho5 hf4 hf5 hsz4
  go_wp2_with (at_builtin; (first | (with_reducible refine wp_app rfl (.tmp 30) (.tmp 31) _ rfl hap4 rfl rfl rfl ?_) | (with_reducible refine wp_app rfl (.tmp 32) (.tmp 33) _ rfl hap5 rfl rfl rfl ?_)))
  with_reducible refine HFD.out.mono ?_
  rintro e W6 ⟨xs, AV, nv, cv, rfl, hnv, hoe, hxs, ho6, _, hal⟩
  obtain ⟨B2, hp2, hib2, hhas2, hoff2⟩ := hal _ _ _ rfl
  obtain ⟨x1, x2, y, rfl, k1, k2, n2, hy, hyv⟩ := aw_two xs evs hxs HEV.out
  subst hnv
  clear hxs
  have HOE := Lib.hid hoe
  have HOFF := Lib.hid hoff2
  clear HIB
  have HIB := Lib.hid hib2
  have HLO2 : Hid (∀ k, B2.has k → w.heap.size ≤ k) := Lib.hid (fun k hk => by
    rcases hhas2 k hk with e | e
    · exact HLO.out k e
    · have := HF5.out.size; omega)
  have HF6 : Hid (Fresh w W6) := Lib.hid (Only.fresh ((Only.of_fresh HF5.out).trans ho6) (fun i hi hk => by have := HLO.out i hk; omega))
  clear hoe hoff2 hib2 hhas2 ho6 hal HFD hap4 hap5
  go_wp2_with (first | (refine wp_storeB (ds := #[.int .i64 0, .bool false]) rfl (.tmp 7) (.tmp 37) _ rfl rfl rfl (Blk.new _ _ _) (by kernel_rfl) rfl (by simp [Value.oneCell']) ?_) | fail)
  intro W7 hb7 ho7
  have hf7 : Fresh W6 W7 := Only.fresh ((Only.of_fresh (Fresh.alloc _ _)).trans ho7) (fun i hi e => by omega)
  obtain ⟨f7, hf7e⟩ : ∃ f7, W6.heap.size = f7 := ⟨_, rfl⟩
  rw [hf7e] at hb7 ⊢
  go_wp2_with fail
  with_reducible refine (HBC.out _).mono ?_
  rintro e W8 ⟨A6, c6, rfl, hc6, hm6, ho6, hf8⟩
  have hf68 := hf7.trans hf8
  have HIB := Lib.hid (HIB.out.fresh hf68)
  have HOE := Lib.hid (HOE.out.fresh hf68)
  have HB7 := Lib.hid (hb7.fresh hf8)
  have HF8 := Lib.hid (HF6.out.trans hf68)
  have HFD := Lib.hid (in_feedV _ W8 B2 [] none true A6 9 c6 awC HIB.out rfl ho6.bytes.1 (by omega) evs2 101 true none HQ2.out (by decide))
  unfold InFeedV at HFD
  rw [hp2] at HFD
  clear hp2
  clear hf7e hf7 hf8 hf68 hb7 ho7 ho6
  go_wp2_with fail
  with_reducible refine HFD.out.mono ?_
  rintro e W9 ⟨xs', _, _, _, rfl, hu1, hu2, hu3, ho9, hdead, hu4⟩
  clear hu1 hu2 hu3 hu4
  have HDD := Lib.hid (hdead (by first | rfl | trivial))
  have HOE : Hid (OwnE W9 W5.heap.size (.slice AV 2 cv) [x1, x2]) := Lib.hid (HOE.out.only ho9 (HOE.out.has HIB.out) HIB.out.ln HOFF.out)
  have HB7 := Lib.hid (HB7.out.only ho9 (HIB.out.odd HB7.out (by decide)))
  have HF9 : Hid (Fresh w W9) := Lib.hid (Only.fresh ((Only.of_fresh HF8.out).trans ho9) (fun i hi hk => by have := HLO2.out i hk; omega))
  clear ho9 hdead HFD HIB
  go_wp2_with (first | (refine wp_storeB (ds := #[.int .i64 101, .bool true]) rfl (.tmp 11) (.tmp 48) _ rfl rfl rfl (Blk.new _ _ _) (by kernel_rfl) rfl (by simp [Value.oneCell']) ?_) | fail)
  intro W10 hb10 ho10
  have hf10 : Fresh W9 W10 := Only.fresh ((Only.of_fresh (Fresh.alloc _ _)).trans ho10) (fun i hi e => by omega)
  obtain ⟨f11, hf11⟩ : ∃ f11, W9.heap.size = f11 := ⟨_, rfl⟩
  rw [hf11] at hb10 ⊢
  have HDD := Lib.hid (show InDead W10 B.p from HDD.out.fresh hf10)
  have HB10 := Lib.hid hb10
  go_wp2_with fail
  with_reducible refine (in_feed_dead _ _ _ HDD.out).mono ?_
  rintro e W11 ⟨rfl, hf11'⟩
  have hf911 := hf10.trans hf11'
  have HDD := Lib.hid (show InDead W11 B.p from HDD.out.fresh hf11')
  have HB10 := Lib.hid (HB10.out.fresh hf11')
  have HOE := Lib.hid (HOE.out.fresh hf911)
  have HB7 := Lib.hid (HB7.out.fresh hf911)
  have HF11 := Lib.hid (HF9.out.trans hf911)
  clear hb10 ho10 hf10 hf11 hf11' hf911
  go_wp2_with (first | (refine wp_storeB (ds := #[.int .i64 105, .bool true]) rfl (.tmp 13) (.tmp 53) _ rfl rfl rfl (Blk.new _ _ _) (by kernel_rfl) rfl (by simp [Value.oneCell']) ?_) | fail)
  intro W12 hb12 ho12
  have hf12 : Fresh W11 W12 := Only.fresh ((Only.of_fresh (Fresh.alloc _ _)).trans ho12) (fun i hi e => by omega)
  obtain ⟨f13, hf13⟩ : ∃ f13, W11.heap.size = f13 := ⟨_, rfl⟩
  rw [hf13] at hb12 ⊢
  have HDD := Lib.hid (show InDead W12 B.p from HDD.out.fresh hf12)
  have HB10 := Lib.hid (HB10.out.fresh hf12)
  have HOE := Lib.hid (HOE.out.fresh hf12)
  have HB7 := Lib.hid (HB7.out.fresh hf12)
  have HB12 := Lib.hid hb12
  have HF12 := Lib.hid (HF11.out.trans hf12)
  clear hb12 ho12 hf12 hf13
  go_wp2_with (first | (refine wp_loadB rfl (.tmp 7) _ rfl rfl HB7.out (by kernel_rfl) (fun w => by simp [isAgg, go_sem]) ?_) | fail)
  with_reducible refine (pok 0 false true (by decide) _).mono ?_
  rintro e W13 ⟨rfl, hf13⟩
  have HDD := Lib.hid (show InDead W13 B.p from HDD.out.fresh hf13)
  have HB10 := Lib.hid (HB10.out.fresh hf13)
  have HB12 := Lib.hid (HB12.out.fresh hf13)
  have HF13 := Lib.hid (HF12.out.trans hf13)
  have hoe := HOE.out.fresh hf13
  clear hf13 HB7
  obtain ⟨g, rfl, _, _, hc1⟩ := hoe.cells 0 x1 rfl
  obtain ⟨g', hg', _, _, hc2⟩ := hoe.cells 1 x2 rfl
  cases hg'
  have u0 := hc1 0 (by omega)
  have v0 := hc2 0 (by omega)
  have v2 := hc2 2 (by omega)
  have v5 := hc2 5 (by omega)
  simp only [evCells, EvV.arr, List.getElem?_cons_zero, List.getElem?_cons_succ, hy, k1, k2, n2] at u0 v0 v2 v5
  obtain ⟨b, o, hLA, _, _, lv, _⟩ := Many.lnAt (hoe.2.1 x2 (by simp)).lns.rows 0 y (by rw [hy]; rfl)
  rw [hLA] at v2
  rw [hyv] at lv
  obtain ⟨p0, _⟩ := HB10.out.c2
  obtain ⟨r0, _⟩ := HB12.out.c2
  clear hc1 hc2 hoe HOE
  simp at u0 v0 v2 v5 lv
  go_wp2_with fail
  with_reducible refine (in_dead_yes HDD.out).mono ?_
  rintro e W14 ⟨rfl, rfl⟩
  go_wp2
  go_ret
  exact ⟨rfl, HF13.out⟩
end Go.Proofs.YtginhebfjbhmnaaGreat

/-
  Layer 23: what chunks of whole frames do; how much an event says. No Go in sight.
-/
namespace Go.Proofs.YtginhebfjbhmnaaGreat
set_option maxRecDepth 100000
set_option linter.unusedVariables false
set_option linter.unusedSimpArgs false
open Go.RowKit
theorem allF_rowI {most : Int} (qs : List Fr) (hq : ∀ q ∈ qs, q.st ≤ 2147483647 ∧ q.pl.length ≤ 16777215 ∧ (q.pl.length : Int) ≤ most) (t : List UInt8) (ht : t.length ≤ 8) : ∀ n, (rowB qs ++ t).length ≤ n → allF most n (rowB qs ++ t) = some (qs, t) := by
  induction qs with
  | nil =>
    intro n hn
    refine allF_16 ?_
    unfold parseK
    rw [if_pos (by simp [rowB]; omega)]
  | cons q qs ih =>
    intro n hn
    obtain ⟨h1, h2, h3⟩ := hq q (by simp)
    have e : rowB (q :: qs) ++ t = frB2 q.x q.y q.st q.pl ++ (rowB qs ++ t) := by simp [rowB]
    rw [e] at hn ⊢
    have hk : parseK (frB2 q.x q.y q.st q.pl ++ (rowB qs ++ t)) most = 0 := by rw [frB2_parse _ _ _ _ _ _ (by omega), if_neg (by omega)]
    obtain ⟨m, hm, hA⟩ := allF_0 hn hk
    have hlf : lenF (frB2 q.x q.y q.st q.pl ++ (rowB qs ++ t)) = 9 + q.pl.length := by unfold lenF; rw [frB2_num _ _ _ _ _ (by omega)]
    have hd : (frB2 q.x q.y q.st q.pl ++ (rowB qs ++ t)).drop (9 + q.pl.length) = rowB qs ++ t := by
      rw [List.drop_append_of_le_length (by rw [frB2_length]; omega), List.drop_of_length_le (by rw [frB2_length]; omega)]
      rfl
    rw [hlf, hd] at hm hA
    rw [hA, ih (fun p hp => hq p (by simp [hp])) m hm]
    have hh : headF (frB2 q.x q.y q.st q.pl ++ (rowB qs ++ t)) = q := by
      unfold headF
      rw [List.getD_eq_getElem?_getD, List.getD_eq_getElem?_getD, frB2_get3, frB2_get4, frB2_stream _ _ _ _ _ h1, frB2_num _ _ _ _ _ (by omega), frB2_pl]
      rfl
    rw [hh]
    rfl
theorem feedQ_one (f : Fr) (hst : f.st ≤ 2147483647) (hl : f.pl.length ≤ 16384) (s : Option Part) (bg : Bool) : feedQ [] s bg (frB2 f.x f.y f.st f.pl) = feedR s bg (some ([f], [])) := by
  have e : frB2 f.x f.y f.st f.pl = rowB [f] ++ [] := by simp [rowB]
  unfold feedQ
  rw [List.nil_append, e, allF_rowI [f] (fun q hq => by rw [List.mem_singleton] at hq; subst hq; exact ⟨hst, by omega, by omega⟩) [] (by simp) _ (Nat.le_refl _)]
/-- One frame in a chunk of its own. -/
theorem feedR_one (f : Fr) (s : Option Part) (bg : Bool) (q : Int × Option Part × Ev) (hq : readP s bg f.x.toNat f.y.toNat f.st f.pl = q) : feedR s bg (some ([f], [])) = if q.1 = 0 then ((if q.2.2.k ≠ 0 then [q.2.2] else []), 0, some ([], q.2.1, true)) else ([], q.1, none) := by
  simp only [feedR, readAll, hq]
  by_cases h : q.1 = 0
  · simp only [h, ne_eq, not_true, if_false, if_true]
  · simp only [h, ne_eq, not_false_eq_true, if_true, if_false]
theorem readP_head (st : Int) (l : List UInt8) (h : (readP none true 1 4 st l).1 = 0) : (readP none true 1 4 st l).2.1 = none := by
  rw [readP_eq] at h ⊢
  generalize fkOf 1 4 st l = k at *
  simp only [Bool.true_eq_false, false_and, decide_false, Bool.false_eq_true, if_false, Option.isSome_none] at h ⊢
  unfold readQ at h ⊢
  by_cases hk : (prsF 1 4 st l k).2.1 ≠ 0
  · rw [if_pos hk, if_pos (.inr rfl)]
  · rw [if_neg hk] at h ⊢
    have e : prsF 1 4 st l k = (prOf 1 4 l, 0, false) := by
      unfold prsF at hk ⊢
      split at hk
      · exact absurd hk (by simp only [lkC]; split <;> decide)
      · rename_i h6
        rw [if_neg h6]
    rw [e] at h ⊢
    have he : (prOf 1 4 l).eh = true := by
      have : hasB 4 4 = true := by decide +kernel
      simp [prOf, this]
    have ho : ∀ (t : List UInt8) (en : Bool), onS 16384 none 1 st t en true = if 16384 < (t.length : Int) then (none, none, true) else (none, some (st, t, en), false) := fun t en => by simp [onS]
    simp only [he, ho]
    clear h
    unfold readO
    by_cases hl : (16384 : Int) < ((prOf 1 4 l).l.length : Int)
    · simp only [if_pos hl, if_true]
    · simp only [if_neg hl, Bool.false_eq_true, if_false]
      split <;> rfl
/-- How much an event says. -/
def Ev.lim (e : Ev) : Prop := e.xs.length ≤ 512 ∧ e.ps.length ≤ 16384
theorem readP_lim (s : Option Part) (bg : Bool) (ty fl st : Int) (l : List UInt8) (hl : l.length ≤ 16384) : (readP s bg ty fl st l).2.2.lim := by
  have h0 : Ev0.lim := ⟨by simp [Ev0], by simp [Ev0]⟩
  rw [readP_eq]
  generalize fkOf ty fl st l = k
  split
  · exact h0
  split
  · exact h0
  unfold readQ
  split
  · split
    · exact h0
    · exact ⟨by simp, by simp⟩
  unfold readO
  split
  · exact h0
  split
  · rename_i a t e _
    split
    · exact h0
    · have hi : Inv7 0 16384 (rd7 0 16384 false [] 0 t) := by
        unfold rd7
        rw [if_neg (by decide)]
        exact blockR_inv 0 16384 (by decide) _ _ _ _ _ _ (by decide) (by decide) (by simp [tz]) (by simp [tz]) (by decide)
      have h1 := hi.sum
      have h2 := tz_lenD ((rd7 0 16384 false [] 0 t).2.1.map (·.1))
      rw [List.length_map] at h2
      exact ⟨by simp only; omega, by simp⟩
  · have hp : (prsF ty fl st l k).1.ps.length ≤ 16384 := by
      unfold prsF
      split
      · simp [PR0]
      · simp only [prOf]
        repeat (split; · first | (simp [PR0]; done) | (simp only [prsL_len]; omega))
        simp [PR0]
    unfold evP
    repeat (split; · exact ⟨by simp, by first | (simp; done) | exact hp⟩)
    exact h0
theorem readAll_lim (F : List Fr) (hF : ∀ f ∈ F, (f.pl.length : Int) ≤ 16384) : ∀ (s : Option Part) (bg : Bool), ∀ e ∈ (readAll s bg F).1, e.lim := by
  induction F with
  | nil => intro s bg e he; simp [readAll] at he
  | cons f r ih =>
    intro s bg e he
    have hf : f.pl.length ≤ 16384 := by have := hF f (by simp); omega
    simp only [readAll] at he
    split at he
    · cases he
    · simp only at he
      split at he
      · rcases List.mem_cons.1 he with rfl | he
        · exact readP_lim _ _ _ _ _ _ hf
        · exact ih (fun g hg => hF g (by simp [hg])) _ _ e he
      · exact ih (fun g hg => hF g (by simp [hg])) _ _ e he
theorem feedQ_lim (l : List UInt8) (s : Option Part) (bg : Bool) (b : List UInt8) : ∀ e ∈ (feedQ l s bg b).1, e.lim := by
  unfold feedQ
  cases h : allF 16384 (l ++ b).length (l ++ b) with
  | none => intro e he; cases he
  | some P => exact readAll_lim P.1 (allF_pl _ _ _ h) s bg
end Go.Proofs.YtginhebfjbhmnaaGreat

/-
  Package inbound: rows of lines that are the same; an event's numbers.
-/
namespace Go.Proofs.YtginhebfjbhmnaaGreat
set_option maxRecDepth 100000
set_option linter.unusedVariables false
set_option linter.unusedSimpArgs false
open Go.RowKit
set_option maxHeartbeats 3200000 in
theorem sl_equalL (A B : Option Addr) (c d : Nat) (n : Nat) (xs : List LnD) (w : World) (hx : xs.length = n) (hm : Many lnD 3 w A xs) (hk : Many lnD 3 w B xs) (hl : n ≤ 1000000) :
    Calls Tryz.prog 27 #[.slice A n c, .slice B n d] w fun e w' => e = .returned (.bool true) ∧ Fresh w w' := by
  have HM := Lib.hid hm
  have HK := Lib.hid hk
  have HN := Lib.hid hx
  have hnn : ((n : Int) != (n : Int)) = false := by simp
  clear hx hm hk
  go_enter Tryz.func27, Tryz.ntmps27
  go_wp2_with fail
  go_loopw [13] (fun i wr => ∃ u : Nat, u ≤ n ∧ i = .int .i64 (u : Int) ∧ Fresh w wr) (fun i _ => n - (intOf i).toNat)
  case atStart => exact ⟨0, Nat.zero_le _, rfl, Fresh.refl _⟩
  case round =>
    obtain ⟨u, hu, rfl, hf⟩ := hrel
    have HFJ := Lib.hid hf
    clear hf
    by_cases huj : u < n
    · have huj' : (u : Int) < (n : Int) := by omega
      obtain ⟨g', hg⟩ : ∃ g, xs[u]? = some g := ⟨_, List.getElem?_eq_getElem (by rw [HN.out]; exact huj)⟩
      obtain ⟨b1, o1, rfl, hb1, z0, z1, z2⟩ := (HM.out.fresh HFJ.out).lnAt u g' hg
      obtain ⟨b2, o2, rfl, hb2, k0, k1, k2⟩ := (HK.out.fresh HFJ.out).lnAt u g' hg
      obtain ⟨⟨F1, F2⟩, F3⟩ := g'
      simp only at z0 z1 z2 k0 k1 k2
      have hE := run_eq_line F1 F2 F3
      clear hb1 hb2 hg
      go_upto_region 6 with fail
      go_quiet (fail)
      all_goals
        go_wp2
        go_roundw
        case rel => exact ⟨u + 1, by omega, by go_num, HFJ.out.trans (Fresh.drewN _ _)⟩
        case measure => simp [intOf]; omega
    · obtain rfl : u = n := by omega
      have hnj : ¬ (u : Int) < (u : Int) := by omega
      go_wp2_with fail
      go_ret
      exact ⟨rfl, HFJ.out⟩
theorem in_numbers (x : EvV) (w : World) : Calls Tryz.prog 26 #[.agg x.arr] w fun e w' => e = .returned (.agg #[.int .i64 x.e.k, .int .i64 x.e.st, .int .i64 x.e.n, .int .i64 x.e.co]) ∧ Fresh w w' := by
  unfold EvV.arr
  go_enter Tryz.func26, Tryz.ntmps26
  go_wp2_with fail
  refine wx_gen (fun W => Blk W (w.heap.size + 1) 72 #[.int .i64 x.e.k, .int .i64 x.e.st, .int .i64 x.e.n, .int .i64 x.e.co] ∧ Fresh w W) ⟨Blk.mkAt (by simp), (Fresh.alloc _ _).allocS _⟩ ?_
  rintro W ⟨hb, hf⟩
  exact bodyPost_ret (results_c0 (fn := Tryz.f26) rfl rfl hb (by kernel_rfl) (fun w => by simp [isAgg, go_sem])) rfl ⟨rfl, hf⟩
end Go.Proofs.YtginhebfjbhmnaaGreat

/-
  Contracts of package payload: slices.Equal of pairs, Known, OK.
-/
namespace Go.Proofs.YtginhebfjbhmnaaGreat
set_option maxRecDepth 100000
set_option linter.unusedVariables false
open Go.RowKit

theorem take_eq_succ {α : Type} {xs ys : List α} {k : Nat} {x y : α} (hx : xs[k]? = some x) (hy : ys[k]? = some y) (h : xs.take k = ys.take k) : (xs.take (k + 1) = ys.take (k + 1)) ↔ x = y := by
  obtain ⟨h1, e1⟩ := List.getElem?_eq_some_iff.1 hx
  obtain ⟨h2, e2⟩ := List.getElem?_eq_some_iff.1 hy
  rw [List.take_succ_eq_append_getElem h1, List.take_succ_eq_append_getElem h2, h, e1, e2]
  simp
set_option maxHeartbeats 3200000 in
theorem sequal (A B : Option Addr) (xs ys : List (Int × Int)) (c d : Nat) (w : World) (hA : Many pairC 2 w A xs) (hB : Many pairC 2 w B ys) (hx : xs.length ≤ 1000000) (hy : ys.length ≤ 1000000) :
    Calls Tryz.prog 29 #[.slice A xs.length c, .slice B ys.length d] w fun e w' => e = .returned (.bool (decide (xs = ys))) ∧ Fresh w w' := by
  have HA := Lib.hid hA
  have HB := Lib.hid hB
  clear hA hB
  by_cases hl : xs.length = ys.length
  · obtain ⟨n, hn⟩ : ∃ n, ys.length = n := ⟨_, rfl⟩
    rw [hn] at hl hy ⊢
    rw [hl] at hx ⊢
    obtain ⟨r, hr⟩ : ∃ r, decide (xs = ys) = r := ⟨_, rfl⟩
    rw [hr]
    have HR := Lib.hid hr
    have HL := Lib.hid (And.intro hl hn)
    clear hr hl hn
    go_enter Tryz.func29, Tryz.ntmps29
    go_wp2_with fail
    go_loopw [5, 13] (fun _ i wr => ∃ (k : Nat), k ≤ n ∧ i = .int .i64 (k : Int) ∧ xs.take k = ys.take k ∧ Fresh w wr) (fun _ i _ => n - (intOf i).toNat)
    case atStart => exact ⟨0, by omega, rfl, by simp, Fresh.refl _⟩
    case round =>
      obtain ⟨k, hk, rfl, ht, hf⟩ := hrel
      have HF := Lib.hid hf
      have HT := Lib.hid ht
      clear hf ht
      by_cases hlt : k < n
      · have hlt' : (k : Int) < (n : Int) := by omega
        obtain ⟨hl, hn⟩ := HL.out
        obtain ⟨⟨a, b⟩, hxk⟩ : ∃ x, xs[k]? = some x := ⟨_, List.getElem?_eq_getElem (by omega)⟩
        obtain ⟨⟨a', b'⟩, hyk⟩ : ∃ y, ys[k]? = some y := ⟨_, List.getElem?_eq_getElem (by omega)⟩
        obtain ⟨g, o, rfl, hg, hcc⟩ := HA.out.at k (a, b) hxk
        obtain ⟨g', o', rfl, hg', hcc'⟩ := HB.out.at k (a', b') hyk
        have q0 := (HF.out.cell (p := ⟨g, o + k * 2 + 0, none⟩) hg).trans (hcc 0 (by omega))
        have q1 := (HF.out.cell (p := ⟨g, o + k * 2 + 1, none⟩) hg).trans (hcc 1 (by omega))
        have r0 := (HF.out.cell (p := ⟨g', o' + k * 2 + 0, none⟩) hg').trans (hcc' 0 (by omega))
        have r1 := (HF.out.cell (p := ⟨g', o' + k * 2 + 1, none⟩) hg').trans (hcc' 1 (by omega))
        simp only [pairC, List.getElem?_cons_zero, List.getElem?_cons_succ, Nat.add_zero] at q0 q1 r0 r1
        have HTS := Lib.hid (take_eq_succ hxk hyk HT.out)
        have hE : ∀ W, (Op.equalIn 10000 76 (.agg #[.int .i64 a, .int .i64 b]) (.agg #[.int .i64 a', .int .i64 b'])).run Tryz.prog W = .ok (decide ([a, b] = [a', b'])) W := fun W =>
          run_equalIn_ints (P := Tryz.prog) Tryz.underlying76 Tryz.underlying3 (by kernel_rfl) 9998 [a, b] [a', b'] rfl rfl W
        have HXK := Lib.hid (And.intro hxk hyk)
        clear hcc hcc' hxk hyk hl hn
        by_cases hq : (a, b) = (a', b')
        · have e1 : decide ([a, b] = [a', b']) = true := decide_eq_true (by cases hq; rfl)
          rw [e1] at hE
          have HQ := Lib.hid hq
          clear hq e1
          go_wp2_with fail
          go_quiet (fail)
          go_wp2_with fail
          go_roundw
          case rel => exact ⟨k + 1, by omega, by first | rfl | simp, HTS.out.2 HQ.out, HF.out.trans (Fresh.drewN _ _)⟩
          case measure => simp only [intOf]; omega
        · have e1 : decide ([a, b] = [a', b']) = false := decide_eq_false (fun h => hq (by simp at h; simp [h]))
          rw [e1] at hE
          have HQ := Lib.hid hq
          clear hq e1
          go_wp2_with fail
          go_quiet (fail)
          go_wp2_with fail
          go_ret
          refine ⟨?_, HF.out.trans (Fresh.drewN _ _)⟩
          rw [← HR.out, decide_eq_false (fun h => HQ.out (HTS.out.1 (by rw [h])))]
          rfl
      · obtain rfl : k = n := by omega
        go_wp2_with fail
        go_ret
        refine ⟨?_, HF.out⟩
        obtain ⟨hl, hn⟩ := HL.out
        have := HT.out
        rw [List.take_of_length_le (by omega), List.take_of_length_le (by omega)] at this
        rw [← HR.out, decide_eq_true this]
        rfl
  · have e1 : decide (xs = ys) = false := decide_eq_false (fun h => hl (by rw [h]))
    have hl' : ¬ (xs.length : Int) = (ys.length : Int) := by omega
    rw [e1]
    clear e1
    go_enter Tryz.func29, Tryz.ntmps29
    go_wp2_with fail
    go_ret
    exact ⟨rfl, Fresh.refl _⟩
end Go.Proofs.YtginhebfjbhmnaaGreat

