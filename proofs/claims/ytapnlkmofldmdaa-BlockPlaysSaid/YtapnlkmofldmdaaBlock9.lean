/-
  Layer 12: the law BlockCopies.
-/
import Derived.Test.YtapnlkmofldmdaaBlock7
namespace Go.Proofs.Ytapnlkmofldmdaa
set_option linter.unusedVariables false
open Go.RowKit Go.ChangeShapes Go.WideShapes Go.Deep
/-- What a row of items leaves. -/
def runS (lim : Int) (s : Option Part) (ys : List ItV) : Option Part := ys.foldl (fun s y => (onS lim s y.ty y.st y.l y.en y.eh).1) s
theorem runS_take {lim : Int} {s : Option Part} {ys : List ItV} {k : Nat} {y : ItV} (h : ys[k]? = some y) : runS lim s (ys.take (k + 1)) = (onS lim (runS lim s (ys.take k)) y.ty y.st y.l y.en y.eh).1 := by
  obtain ⟨hk, rfl⟩ := List.getElem?_eq_some_iff.1 h
  unfold runS
  rw [List.take_succ_eq_append_getElem hk, List.foldl_append]
  rfl
/-- One item more of a row of items, at an assembler at p. -/
theorem on_row (p : Nat) (lim : Int) (s0 : Option Part) (v : Value) (x : ItsV) (w0 w : World) (k : Nat) (y : ItV) (hx : x.Ok w0) (hy : x.xs[k]? = some y) (hf : Fresh w0 w) (h : AsAt w p lim (runS lim s0 (x.xs.take k)) v) (hp : w0.heap.size ≤ p) :
    Calls Try.prog 14 #[.pointer (some ⟨p, 0, none⟩), .agg #[.int .i64 y.ty, .int .i64 y.st, .slice y.A y.l.length y.c, .bool y.en, .bool y.eh, .bool y.ak, .int .i64 y.fl, .int .i64 y.co, .int .i64 y.la, .int .i64 y.inc, .int .i64 y.de, .int .i64 y.we, .bool y.wd, .bool y.ex, .slice y.PA y.ps.length y.pc]] w
      fun e w' => (∃ a b c, e = .returned (.tuple #[a, b, c])) ∧ ∃ v', AsAt w' p lim (runS lim s0 (x.xs.take (k + 1))) v' ∧ Only (fun k => k = p ∨ v.ownBlock = some k) w w' ∧ (∀ k, v'.ownBlock = some k → v.ownBlock = some k ∨ w.heap.size ≤ k) := by
  have hok := hx.ok y (List.mem_of_getElem? hy)
  refine (on_any p lim _ v y w _ h (hok.fresh hf) (fun hn b o e => by
    obtain ⟨b', o', e', hb', _⟩ := hok.bs hn
    rw [e] at e'
    cases e'
    omega) rfl).mono ?_
  rintro e w' ⟨v', vb, rfl, ha, ho, hv, _⟩
  exact ⟨⟨_, _, _, rfl⟩, v', by rw [runS_take hy]; exact ha, ho, hv⟩
set_option maxRecDepth 100000 in
set_option maxHeartbeats 12800000 in
theorem BlockCopies_any (lim : Int) (s m : ItsV) (w : World) (hlim : (Lit.int .i64 lim).wf = true) (hs : s.OkW w) (hm : m.OkW w) :
    Calls Try.prog 6 #[.int .i64 lim, .slice s.A s.xs.length s.c, .slice m.A m.xs.length m.c] w
      fun en w' => en = .returned (.bool true) ∧ Below w.heap.size w w' := by
  have hle := hs.ok.le
  have hmax := hs.ok.max
  have hle2 := hm.ok.le
  have hmax2 := hm.ok.max
  have HS := Lib.hid hs
  have HM := Lib.hid hm
  clear hs hm
  obtain ⟨sA, sc, xs⟩ := s
  obtain ⟨mA, mc, ys⟩ := m
  simp only at hle hmax hle2 hmax2 ⊢
  unfold maxLen at hmax hmax2
  have HSM := Lib.hid (fun W (h : Fresh w W) => bsmall ⟨sA, sc, xs⟩ W ⟨⟨HS.out.ok.le, HS.out.ok.max, HS.out.ok.rows.fresh h, fun x hx => (HS.out.ok.ok x hx).fresh h⟩, HS.out.sz⟩)
  have HMM := Lib.hid (fun W (h : Fresh w W) => bsmall ⟨mA, mc, ys⟩ W ⟨⟨HM.out.ok.le, HM.out.ok.max, HM.out.ok.rows.fresh h, fun x hx => (HM.out.ok.ok x hx).fresh h⟩, HM.out.sz⟩)
  have HAW := Lib.hid blk_awake
  have key : (lim < 0 ∨ (¬ lim < 0 ∧ 1048576 < lim)) ∨ (¬ lim < 0 ∧ ¬ 1048576 < lim) := by omega
  rcases key with k0 | ⟨k1, k2⟩
  · have HN := Lib.hid (asNew_no lim w (by omega))
    rcases k0 with k1 | ⟨k1, k2⟩
    all_goals
      go_enter Try.func6, Try.ntmps6
      go_wp2_with fail
      with_reducible refine HN.out.mono ?_
      rintro e w1 ⟨rfl, rfl⟩
      go_wp2_with fail
      with_reducible refine (HAW.out _).mono ?_
      rintro e w3 ⟨rfl, hf3⟩
      have HF3 := Lib.hid hf3
      clear hf3
      go_wp2
      go_ret
      exact ⟨rfl, HF3.out⟩
  go_enter Try.func6, Try.ntmps6
  go_wp2_with fail
  with_reducible refine (asNew lim _ (by omega) (by omega)).mono ?_
  rintro e w1 ⟨p, rfl, hp, ha1, hf1⟩
  have HA1 := Lib.hid ha1
  have HF1 := Lib.hid hf1
  have HP : Hid (w.heap.size ≤ p) := Lib.hid hp
  clear ha1 hf1 hp
  go_wp2_with fail
  with_reducible refine (HSM.out _ HF1.out).mono ?_
  rintro e w2 ⟨rfl, hf2⟩
  have HF2 := Lib.hid (HF1.out.trans hf2)
  have HA2 := Lib.hid (HA1.out.fresh hf2)
  clear hf2
  cases hq : smallI (ItsV.mk sA sc xs).xs
  · go_wp2_with fail
    with_reducible refine (HAW.out _).mono ?_
    rintro e w3 ⟨rfl, hf3⟩
    have HF3 := Lib.hid (HF2.out.trans hf3)
    clear hf3
    go_wp2
    go_ret
    exact ⟨rfl, HF3.out⟩
  go_wp2_with fail
  with_reducible refine (HMM.out _ HF2.out).mono ?_
  rintro e w3 ⟨rfl, hf3⟩
  have HF3 := Lib.hid (HF2.out.trans hf3)
  have HA3 := Lib.hid (HA2.out.fresh hf3)
  clear hf3
  cases hq2 : smallI (ItsV.mk mA mc ys).xs
  · go_wp2_with fail
    with_reducible refine (HAW.out _).mono ?_
    rintro e w4 ⟨rfl, hf4⟩
    have HF4 := Lib.hid (HF3.out.trans hf4)
    clear hf4
    go_wp2
    go_ret
    exact ⟨rfl, HF4.out⟩
  go_wp2
  go_loopw [58] (fun i wr => ∃ (k : Nat) (v : Value), k ≤ xs.length ∧ i = .int .i64 (k : Int) ∧ AsAt wr p lim (runS lim none (xs.take k)) v ∧ Fresh w wr ∧ (∀ k, v.ownBlock = some k → w.heap.size ≤ k)) (fun i _ => xs.length - (intOf i).toNat)
  case atStart => exact ⟨0, _, by omega, rfl, HA3.out, HF3.out, (fun k hk => by cases hk)⟩
  case round =>
    obtain ⟨k, v, hk, rfl, ha, hf, hv⟩ := hrel
    have HA := Lib.hid ha
    have HF := Lib.hid hf
    have HV := Lib.hid hv
    by_cases hlt : k < xs.length
    · have hlt' : (k : Int) < (xs.length : Int) := by omega
      obtain ⟨y, hy⟩ : ∃ y, xs[k]? = some y := ⟨_, List.getElem?_eq_getElem hlt⟩
      obtain ⟨b, o, rfl, hbw, hc⟩ := HS.out.ok.rows.item k y hy
      obtain ⟨e0, e1, e2, e3, e4, e5, e6, e7, e8, e9, e10, e11, e12, e13, e14⟩ := hc.only (Only.of_fresh (S := fun _ => False) hf) hbw (fun e => e)
      have HON := Lib.hid (fun (W : World) (hA : AsAt W p lim (runS lim none (xs.take k)) v) (hF : Fresh w W) => on_row p lim none v ⟨_, sc, xs⟩ w W k y HS.out.ok hy hF hA HP.out)
      obtain ⟨yty, yst, yA, yc, yl, yen, yeh, yak, yfl, yco, yla, yinc, yde, ywe, ywd, yex, yPA, ypc, yps⟩ := y
      simp only at e0 e1 e2 e3 e4 e5 e6 e7 e8 e9 e10 e11 e12 e13 e14 HON
      clear hy hc ha hf hv
      go_wp2_with fail
      with_reducible refine (HON.out _ (HA.out.fresh (Fresh.alloc _ _)) (HF.out.allocS _)).mono ?_
      rintro e w3 ⟨⟨_, _, _, rfl⟩, v3, ha3, ho3, hv3⟩
      have HA3 := Lib.hid ha3
      have hOO : Only (fun k => k = p ∨ v.ownBlock = some k) wr w3 := (Only.of_fresh (Fresh.alloc _ _)).trans ho3
      have HF3 : Hid (Fresh w w3) := Lib.hid (Below.trans HF.out (Only.below hOO HF.out.size (fun k e => by
        rcases e with e | e
        · have := HP.out; omega
        · exact HV.out k e)))
      have HV3 : Hid (∀ k, v3.ownBlock = some k → w.heap.size ≤ k) := Lib.hid (fun k hk => by
        rcases hv3 k hk with e | e
        · exact HV.out k e
        · have := HF.out.size; simp at e; omega)
      clear ha3 ho3 hv3 hOO
      go_wp2
      go_roundw
      case rel => exact ⟨k + 1, v3, by omega, by go_num, HA3.out, HF3.out, HV3.out⟩
      case measure => simp [intOf]; omega
    · have hlt' : ¬ (k : Int) < (xs.length : Int) := by omega
      clear ha hf hv HA1 HA2 HA3 HF1 HF2 HF3
      go_wp2_with fail
      with_reducible refine (asCopy p lim _ v _ HA.out).mono ?_
      rintro e w2 ⟨q, u, rfl, hq0, ha2, hu, hf2⟩
      obtain ⟨z0, hz0⟩ : ∃ z, z = wr.heap.size := ⟨_, rfl⟩
      have HQ : Hid (z0 ≤ q) := Lib.hid (by rw [hz0]; exact hq0)
      have HF0 : Hid (w.heap.size ≤ z0) := Lib.hid (by rw [hz0]; exact HF.out.size)
      have HC2 := Lib.hid ha2
      have HU : Hid (∀ k, u.ownBlock = some k → z0 ≤ k) := Lib.hid (by rw [hz0]; exact hu)
      have HA2 := Lib.hid (HA.out.fresh hf2)
      have HF2 := Lib.hid (HF.out.trans hf2)
      have HPW : Hid (p < z0 ∧ ∀ k, v.ownBlock = some k → k ≠ p ∧ k < z0) := Lib.hid (by rw [hz0]; exact HA.out.lt)
      generalize hS1 : runS lim none (List.take k xs) = s1 at *
      clear hq0 ha2 hu hf2 hS1 hz0
      go_wp2_with fail
      with_reducible refine (asWithin p lim s1 v _ HA2.out).mono ?_
      rintro e w3 ⟨rfl, hf3⟩
      have HA3 := Lib.hid (HA2.out.fresh hf3)
      have HC3 := Lib.hid (HC2.out.fresh hf3)
      have HF3 := Lib.hid (HF2.out.trans hf3)
      clear hf3
      go_wp2_with fail
      with_reducible refine (asWaiting p lim s1 v _ HA3.out).mono ?_
      rintro e w4 ⟨rfl, rfl⟩
      generalize hLS : ((lenS s1 : Nat) : Int) = ls at *
      have HLS := Lib.hid hLS
      generalize hAT : atS s1 = at1 at *
      have HAT := Lib.hid hAT
      generalize hIS : s1.isSome = is1 at *
      have HIS := Lib.hid hIS
      have hisn : (is1 != is1) = false := by cases is1 <;> rfl
      clear hLS hAT hIS
      go_wp2
      go_loopw [79] (fun i wr2 => ∃ (j : Nat) (u : Value), j ≤ ys.length ∧ i = .int .i64 (j : Int) ∧ AsAt wr2 q lim (runS lim s1 (ys.take j)) u ∧ AsAt wr2 p lim s1 v ∧ Fresh w wr2 ∧ (∀ k, u.ownBlock = some k → z0 ≤ k)) (fun i _ => ys.length - (intOf i).toNat)
      case atStart => exact ⟨0, _, by omega, rfl, HC3.out, HA3.out, HF3.out, HU.out⟩
      case round =>
        obtain ⟨j, u, hj, rfl, hc, ha, hf, hu⟩ := hrel
        have HC := Lib.hid hc
        have HA := Lib.hid ha
        have HF := Lib.hid hf
        have HU := Lib.hid hu
        by_cases hlt : j < ys.length
        · have HPQ : Hid (w.heap.size ≤ q) := Lib.hid (by have := HF0.out; have := HQ.out; omega)
          have hlt' : (j : Int) < (ys.length : Int) := by omega
          obtain ⟨y, hy⟩ : ∃ y, ys[j]? = some y := ⟨_, List.getElem?_eq_getElem hlt⟩
          obtain ⟨b, o, rfl, hbw, hcc⟩ := HM.out.ok.rows.item j y hy
          obtain ⟨e0, e1, e2, e3, e4, e5, e6, e7, e8, e9, e10, e11, e12, e13, e14⟩ := hcc.only (Only.of_fresh (S := fun _ => False) hf) hbw (fun e => e)
          have HON := Lib.hid (fun (W : World) (hA : AsAt W q lim (runS lim s1 (ys.take j)) u) (hF : Fresh w W) => on_row q lim s1 u ⟨_, mc, ys⟩ w W j y HM.out.ok hy hF hA HPQ.out)
          obtain ⟨yty, yst, yA, yc, yl, yen, yeh, yak, yfl, yco, yla, yinc, yde, ywe, ywd, yex, yPA, ypc, yps⟩ := y
          simp only at e0 e1 e2 e3 e4 e5 e6 e7 e8 e9 e10 e11 e12 e13 e14 HON
          clear hy hcc ha hc hf hu
          go_wp2_with fail
          with_reducible refine (HON.out _ (HC.out.fresh (Fresh.alloc _ _)) (HF.out.allocS _)).mono ?_
          rintro e w5 ⟨⟨_, _, _, rfl⟩, u5, ha5, ho5, hv5⟩
          have HX5 := Lib.hid ha5
          have hOO : Only (fun k => k = q ∨ u.ownBlock = some k) wr w5 := (Only.of_fresh (Fresh.alloc _ _)).trans ho5
          have HF5 : Hid (Fresh w w5) := Lib.hid (Below.trans HF.out (Only.below hOO HF.out.size (fun k e => by
            have := HF0.out
            rcases e with e | e
            · have := HQ.out; omega
            · have := HU.out k e; omega)))
          have HU5 : Hid (∀ k, u5.ownBlock = some k → z0 ≤ k) := Lib.hid (fun k hk => by
            rcases hv5 k hk with e | e
            · exact HU.out k e
            · have := HPW.out.1; have := HC.out.lt.1; have := HQ.out; simp at e; omega)
          have HA5 := Lib.hid (HA.out.only hOO (by
            have h1 := HPW.out.1
            have h2 := HQ.out
            rintro (e | e)
            · omega
            · have := HU.out _ e; omega) (fun k hk => by
            have h1 := (HPW.out.2 k hk).2
            have h2 := HQ.out
            rintro (e | e)
            · omega
            · have := HU.out _ e; omega))
          clear ha5 ho5 hv5 hOO
          go_wp2
          go_roundw
          case rel => exact ⟨j + 1, u5, by omega, by go_num, HX5.out, HA5.out, HF5.out, HU5.out⟩
          case measure => simp [intOf]; omega
        · have hlt' : ¬ (j : Int) < (ys.length : Int) := by omega
          obtain rfl : j = ys.length := by omega
          rw [List.take_length] at hc
          have HC := Lib.hid hc
          generalize hS2 : runS lim s1 ys = s2 at *
          clear hc ha hf hu
          go_wp2_with fail
          with_reducible refine (asWithin p lim s1 v _ HA.out).mono ?_
          rintro e w5 ⟨rfl, hf5⟩
          have HA5 := Lib.hid (HA.out.fresh hf5)
          have HC5 := Lib.hid (HC.out.fresh hf5)
          have HF5 := Lib.hid (HF.out.trans hf5)
          clear hf5
          rw [HAT.out, HIS.out]
          go_wp2_with fail
          with_reducible refine (asWaiting p lim s1 v _ HA5.out).mono ?_
          rintro e w6 ⟨rfl, rfl⟩
          rw [HLS.out]
          have HUL : Hid (∀ k, u.ownBlock = some k → k < w5.heap.size) := Lib.hid (fun k hk => (HC5.out.lt.2 k hk).2)
          have HS2 := Lib.hid hS2
          clear hS2
          go_wp2
          go_loopw [108] (fun i wr3 => ∃ (l : Nat) (v3 : Value), l ≤ ys.length ∧ i = .int .i64 (l : Int) ∧ AsAt wr3 p lim (runS lim s1 (ys.take l)) v3 ∧ AsAt wr3 q lim s2 u ∧ Fresh w wr3 ∧ (∀ k, v3.ownBlock = some k → w.heap.size ≤ k ∧ k ≠ q ∧ u.ownBlock ≠ some k)) (fun i _ => ys.length - (intOf i).toNat)
          case atStart => exact ⟨0, _, by omega, rfl, HA5.out, HC5.out, HF5.out, fun k hk => ⟨HV.out k hk, by have := (HPW.out.2 k hk).2; have := HQ.out; omega, fun e => by have := (HPW.out.2 k hk).2; have := HU.out k e; omega⟩⟩
          case round =>
            obtain ⟨l, v3, hl, rfl, ha, hc, hf, hu⟩ := hrel
            have HA := Lib.hid ha
            have HC := Lib.hid hc
            have HF := Lib.hid hf
            have HV3 := Lib.hid hu
            by_cases hlt : l < ys.length
            · have HPQ := HP
              have hlt' : (l : Int) < (ys.length : Int) := by omega
              obtain ⟨y, hy⟩ : ∃ y, ys[l]? = some y := ⟨_, List.getElem?_eq_getElem hlt⟩
              obtain ⟨b, o, rfl, hbw, hcc⟩ := HM.out.ok.rows.item l y hy
              obtain ⟨e0, e1, e2, e3, e4, e5, e6, e7, e8, e9, e10, e11, e12, e13, e14⟩ := hcc.only (Only.of_fresh (S := fun _ => False) hf) hbw (fun e => e)
              have HON := Lib.hid (fun (W : World) (hA : AsAt W p lim (runS lim s1 (ys.take l)) v3) (hF : Fresh w W) => on_row p lim s1 v3 ⟨_, mc, ys⟩ w W l y HM.out.ok hy hF hA HPQ.out)
              obtain ⟨yty, yst, yA, yc, yl, yen, yeh, yak, yfl, yco, yla, yinc, yde, ywe, ywd, yex, yPA, ypc, yps⟩ := y
              simp only at e0 e1 e2 e3 e4 e5 e6 e7 e8 e9 e10 e11 e12 e13 e14 HON
              clear hy hcc ha hc hf hu
              go_wp2_with fail
              with_reducible refine (HON.out _ (HA.out.fresh (Fresh.alloc _ _)) (HF.out.allocS _)).mono ?_
              rintro e w5 ⟨⟨_, _, _, rfl⟩, u5, ha5, ho5, hv5⟩
              have HX5 := Lib.hid ha5
              have hOO : Only (fun k => k = p ∨ v3.ownBlock = some k) wr w5 := (Only.of_fresh (Fresh.alloc _ _)).trans ho5
              have HF5 : Hid (Fresh w w5) := Lib.hid (Below.trans HF.out (Only.below hOO HF.out.size (fun k e => by
                rcases e with e | e
                · have := HP.out; omega
                · have := (HV3.out k e).1; omega)))
              have HV5 : Hid (∀ k, u5.ownBlock = some k → w.heap.size ≤ k ∧ k ≠ q ∧ u.ownBlock ≠ some k) := Lib.hid (fun k hk => by
                rcases hv5 k hk with e | e
                · exact HV3.out k e
                · have h1 := HF.out.size
                  have h2 := HC.out.lt
                  simp at e
                  exact ⟨by omega, by omega, fun e2 => by have := (h2.2 k e2).2; omega⟩)
              have HC5 := Lib.hid (HC.out.only hOO (by
                have h1 := HPW.out.1
                have h2 := HQ.out
                rintro (e | e)
                · omega
                · exact (HV3.out _ e).2.1 rfl) (fun k hk => by
                have h1 := HU.out k hk
                have h2 := HPW.out.1
                rintro (e | e)
                · omega
                · exact (HV3.out _ e).2.2 hk))
              clear ha5 ho5 hv5 hOO
              go_wp2
              go_roundw
              case rel => exact ⟨l + 1, u5, by omega, by go_num, HX5.out, HC5.out, HF5.out, HV5.out⟩
              case measure => simp [intOf]; omega
            · have hlt' : ¬ (l : Int) < (ys.length : Int) := by omega
              obtain rfl : l = ys.length := by omega
              rw [List.take_length, HS2.out] at ha
              have HA := Lib.hid ha
              clear ha hc hf hu
              go_wp2_with fail
              with_reducible refine (asWaiting p lim s2 v3 _ HA.out).mono ?_
              rintro e w7 ⟨rfl, rfl⟩
              generalize hls2 : ((lenS s2 : Nat) : Int) = ls2 at *
              go_wp2_with fail
              with_reducible refine (asWaiting q lim s2 u _ HC.out).mono ?_
              rintro e w7 ⟨rfl, rfl⟩
              have HL2 := Lib.hid hls2
              try rw [HL2.out]
              have HF9 := Lib.hid HF.out
              go_wp2_with fail
              with_reducible refine (HAW.out _).mono ?_
              rintro e w8 ⟨rfl, hf8⟩
              have HF8 := Lib.hid (HF9.out.trans hf8)
              clear hf8
              go_wp2
              go_ret
              exact ⟨rfl, HF8.out⟩
end Go.Proofs.Ytapnlkmofldmdaa
