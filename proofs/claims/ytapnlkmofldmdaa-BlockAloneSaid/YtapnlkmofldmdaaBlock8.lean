/-
  The law BlockAlone: its walk.
-/
import Derived.Test.YtapnlkmofldmdaaBlock7
namespace Go.Proofs.Ytapnlkmofldmdaa
set_option linter.unusedVariables false
open Go.RowKit Go.ChangeShapes Go.WideShapes Go.Deep
theorem ItsV.OkW.fresh {w w' : World} {s : ItsV} (h : s.OkW w) (hf : Fresh w w') : s.OkW w' := ⟨⟨h.ok.le, h.ok.max, h.ok.rows.fresh hf, fun x hx => (h.ok.ok x hx).fresh hf⟩, h.sz⟩
theorem onS_fault {lim : Int} {s : Option Part} {ty st : Int} {t : List UInt8} {e h : Bool} (hf : (onS lim s ty st t e h).2.2 = true) : onS lim s ty st t e h = (s, none, true) := by
  cases s with
  | none =>
    unfold onS at hf ⊢
    simp only at hf ⊢
    split
    · rfl
    · rename_i h9
      rw [if_neg h9] at hf
      split
      · rename_i h1; rw [if_pos h1] at hf; cases hf
      · rename_i h1
        rw [if_neg h1] at hf
        split
        · rfl
        · rename_i h2
          rw [if_neg h2] at hf
          split at hf <;> cases hf
  | some y =>
    obtain ⟨a, l, b⟩ := y
    unfold onS at hf ⊢
    simp only at hf ⊢
    split
    · rfl
    · rename_i h9
      rw [if_neg h9] at hf
      split
      · rfl
      · rename_i h1
        rw [if_neg h1] at hf
        split
        · rfl
        · rename_i h2
          rw [if_neg h2] at hf
          split at hf <;> cases hf
theorem onS_other {lim a : Int} {l : List UInt8} {b : Bool} {ty st : Int} {t : List UInt8} {e h : Bool} (hn : ty ≠ 9 ∨ st ≠ a) : onS lim (some (a, l, b)) ty st t e h = (some (a, l, b), none, true) := by
  unfold onS
  simp only
  split
  · rfl
  · rename_i h9
    rw [if_pos (by
      rcases hn with hn | hn
      · exact absurd hn h9
      · exact hn)]
theorem blkV_slice {w : World} (o : Option Part) (v : Value) (h : ∀ st l b, o = some (st, l, b) → Own w 0 5 1 v l.length (l.map byteV)) : ∃ q1 A n c q3, blkV o v = .agg #[.int .i64 q1, .slice A n c, .bool q3] := by
  cases o with
  | none => exact ⟨_, _, _, _, _, rfl⟩
  | some y =>
    obtain ⟨st, l, b⟩ := y
    obtain ⟨A, c, rfl, _⟩ := (h st l b rfl).slice
    exact ⟨_, _, _, _, _, rfl⟩
theorem blkV_form (o : Option Part) (v : Value) : ∃ q1 q2 q3, blkV o v = .agg #[.int .i64 q1, q2, .bool q3] := by
  cases o with
  | none => exact ⟨_, _, _, rfl⟩
  | some y => exact ⟨_, _, _, rfl⟩
set_option maxRecDepth 100000 in
set_option maxHeartbeats 12800000 in
theorem BlockAlone_any (lim : Int) (s : ItsV) (x : ItV) (w : World) (hlim : (Lit.int .i64 lim).wf = true) (hs : s.OkW w) (hx : x.Ok w) :
    Calls Try.prog 5 #[.int .i64 lim, .slice s.A s.xs.length s.c, .agg #[.int .i64 x.ty, .int .i64 x.st, .slice x.A x.l.length x.c, .bool x.en, .bool x.eh, .bool x.ak, .int .i64 x.fl, .int .i64 x.co, .int .i64 x.la, .int .i64 x.inc, .int .i64 x.de, .int .i64 x.we, .bool x.wd, .bool x.ex, .slice x.PA x.ps.length x.pc]] w
      fun en w' => en = .returned (.bool true) ∧ Below w.heap.size w w' := by
  have hle := hs.ok.le
  have hmax := hs.ok.max
  have HS := Lib.hid hs
  have HX := Lib.hid hx
  have hxl := hx.le
  have hxm := hx.max
  clear hs hx
  obtain ⟨sA, sc, xs⟩ := s
  obtain ⟨ty, st, A, c, t, en, eh, ak, fl, co, la, inc, de, we, wd, ex, PA, pc, ps⟩ := x
  simp only at hle hmax hxl hxm ⊢
  unfold maxLen at hmax hxm
  have HSM := Lib.hid (fun W (h : Fresh w W) => bsmall ⟨sA, sc, xs⟩ W (HS.out.fresh h))
  have HAW := Lib.hid blk_awake
  have key : smallI xs = false ∨ (smallI xs = true ∧ lim < 0) ∨ (smallI xs = true ∧ ¬ lim < 0 ∧ 1048576 < lim) ∨ (smallI xs = true ∧ ¬ lim < 0 ∧ ¬ 1048576 < lim ∧ (300 : Int) < (t.length : Int)) ∨ (smallI xs = true ∧ ¬ lim < 0 ∧ ¬ 1048576 < lim ∧ ¬ (300 : Int) < (t.length : Int)) := by
    cases h : smallI xs with
    | false => exact .inl rfl
    | true =>
      right
      simp only [true_and]
      omega
  rcases key with hq | ⟨hq, k1⟩ | ⟨hq, k1, k2⟩ | ⟨hq, k1, k2, k3⟩ | ⟨hq, k1, k2, k3⟩
  rotate_right
  · have HSB : Hid (smallI xs = true) := Lib.hid hq
    clear hq
    go_enter Try.func5, Try.ntmps5
    go_wp2_with fail
    with_reducible refine (HSM.out _ (Fresh.alloc _ _)).mono ?_
    rintro e w1 ⟨rfl, hf1⟩
    have hbx := (Blk.new w 34 #[.int .i64 ty, .int .i64 st, .slice A t.length c, .bool en, .bool eh, .bool ak, .int .i64 fl, .int .i64 co, .int .i64 la, .int .i64 inc, .int .i64 de, .int .i64 we, .bool wd, .bool ex, .slice PA ps.length pc]).fresh hf1
    have HBX := Lib.hid hbx
    have HF1 := Lib.hid ((Fresh.alloc _ _).trans hf1)
    have hzz := hbx.lt
    have x2 := hbx.cell 2
    simp only [List.getElem?_toArray, List.getElem?_cons_zero, List.getElem?_cons_succ] at x2
    clear hf1 hbx
    rw [show smallI (ItsV.mk sA sc xs).xs = true from HSB.out]
    go_wp2_with fail
    with_reducible refine (asNew lim _ (by omega) (by omega)).mono ?_
    rintro e w2 ⟨p, rfl, hp, ha2, hf2⟩
    have HA2 := Lib.hid ha2
    have HF2 := Lib.hid (HF1.out.trans hf2)
    have HBX2 := Lib.hid (HBX.out.fresh hf2)
    have HP : Hid (w.heap.size < p ∧ w.heap.size ≤ p) := Lib.hid ⟨by omega, by omega⟩
    clear ha2 hf2 hp hzz x2 HBX
    go_wp2
    go_loopw [50] (fun i wr => ∃ (k : Nat) (s : Option Part) (v : Value), k ≤ xs.length ∧ i = .int .i64 (k : Int) ∧ AsAt wr p lim s v ∧ Fresh w wr ∧ (∀ k, v.ownBlock = some k → w.heap.size < k) ∧
        Blk wr w.heap.size 34 #[.int .i64 ty, .int .i64 st, .slice A t.length c, .bool en, .bool eh, .bool ak, .int .i64 fl, .int .i64 co, .int .i64 la, .int .i64 inc, .int .i64 de, .int .i64 we, .bool wd, .bool ex, .slice PA ps.length pc]) (fun i _ => xs.length - (intOf i).toNat)
    case atStart => exact ⟨0, none, _, by omega, rfl, HA2.out, HF2.out, (fun k hk => by cases hk), HBX2.out⟩
    case round =>
      obtain ⟨k, s, v, hk, rfl, ha, hf, hv, hbx⟩ := hrel
      have HA := Lib.hid ha
      have HF := Lib.hid hf
      have HV := Lib.hid hv
      have HBX := Lib.hid hbx
      have hszw := hf.size
      by_cases hlt : k < xs.length
      · have hlt' : (k : Int) < (xs.length : Int) := by omega
        obtain ⟨y, hy⟩ : ∃ y, xs[k]? = some y := ⟨_, List.getElem?_eq_getElem hlt⟩
        obtain ⟨b, o, rfl, hbw, hc⟩ := HS.out.ok.rows.item k y hy
        obtain ⟨e0, e1, e2, e3, e4, e5, e6, e7, e8, e9, e10, e11, e12, e13, e14⟩ := hc.only (Only.of_fresh (S := fun _ => False) hf) hbw (fun e => e)
        have hok := HS.out.ok.ok y (List.mem_of_getElem? hy)
        obtain ⟨r, hr⟩ : ∃ r, onS lim s y.ty y.st y.l y.en y.eh = r := ⟨_, rfl⟩
        have HON := Lib.hid (fun (W : World) (hA : AsAt W p lim s v) (hF : Fresh w W) => on_any p lim s v y W r hA (hok.fresh hF) (fun hn b o e => by
          obtain ⟨b', o', e', hb', _⟩ := hok.bs hn
          rw [e] at e'
          cases e'
          have := HP.out
          omega) hr)
        obtain ⟨yty, yst, yA, yc, yl, yen, yeh, yak, yfl, yco, yla, yinc, yde, ywe, ywd, yex, yPA, ypc, yps⟩ := y
        simp only at e0 e1 e2 e3 e4 e5 e6 e7 e8 e9 e10 e11 e12 e13 e14 HON
        clear hok hy hc ha hf hv hbx
        go_wp2_with fail
        with_reducible refine (HON.out _ (HA.out.fresh (Fresh.alloc _ _)) (HF.out.allocS _)).mono ?_
        rintro e w3 ⟨v3, b3, rfl, ha3, ho3, hv3, _⟩
        have HA3 := Lib.hid ha3
        have hOO : Only (fun k => k = p ∨ v.ownBlock = some k) wr w3 := (Only.of_fresh (Fresh.alloc _ _)).trans ho3
        have HF3 : Hid (Fresh w w3) := Lib.hid (Below.trans HF.out (Only.below hOO HF.out.size (fun k e => by
          rcases e with e | e
          · have := HP.out; omega
          · have := HV.out k e; omega)))
        have HV3 : Hid (∀ k, v3.ownBlock = some k → w.heap.size < k) := Lib.hid (fun k hk => by
          rcases hv3 k hk with e | e
          · exact HV.out k e
          · have := HBX.out.lt; simp at e; omega)
        have HBX3 := Lib.hid (HBX.out.only hOO (by
          rintro (e | e)
          · have := HP.out; omega
          · have := HV.out _ e; omega))
        clear ha3 ho3 hv3 hOO
        go_wp2
        go_roundw
        case rel => exact ⟨k + 1, _, v3, by omega, by go_num, HA3.out, HF3.out, HV3.out, HBX3.out⟩
        case measure => simp [intOf]; omega
      · have hlt' : ¬ (k : Int) < (xs.length : Int) := by omega
        clear ha hf hv hbx
        cases s with
        | none =>
          obtain ⟨⟨r1, r2, f⟩, hr⟩ : ∃ r, onS lim none ty st t en eh = r := ⟨_, rfl⟩
          cases f
          · as_aux_lemma =>
              go_wp2_with fail
              with_reducible refine (asWithin p lim none v _ HA.out).mono ?_
              rintro e w3 ⟨rfl, hf3⟩
              have HA3 := Lib.hid (HA.out.fresh hf3)
              have HF3 := Lib.hid (HF.out.trans hf3)
              have HBX3 := Lib.hid (HBX.out.fresh hf3)
              clear hf3
              dsimp only [atS, Option.isSome]
              go_wp2_with fail
              with_reducible refine (asWaiting p lim none v _ HA3.out).mono ?_
              rintro e w4 ⟨rfl, rfl⟩
              have e0 := HBX3.out.cell 0
              have e1 := HBX3.out.cell 1
              have e2 := HBX3.out.cell 2
              have e3 := HBX3.out.cell 3
              have e4 := HBX3.out.cell 4
              have e5 := HBX3.out.cell 5
              have e6 := HBX3.out.cell 6
              have e7 := HBX3.out.cell 7
              have e8 := HBX3.out.cell 8
              have e9 := HBX3.out.cell 9
              have e10 := HBX3.out.cell 10
              have e11 := HBX3.out.cell 11
              have e12 := HBX3.out.cell 12
              have e13 := HBX3.out.cell 13
              have e14 := HBX3.out.cell 14
              simp only [List.getElem?_toArray, List.getElem?_cons_zero, List.getElem?_cons_succ] at e0 e1 e2 e3 e4 e5 e6 e7 e8 e9 e10 e11 e12 e13 e14
              generalize hLS : ((lenS none : Nat) : Int) = ls at *
              have HLS := Lib.hid hLS
              clear hLS
              go_wp2_with fail
              refine (on_anyN p lim none v ty st A t.length c t en eh ak fl co la inc de we wd ex PA ps.length pc ps _ (r1, r2, false) HA3.out rfl rfl (HX.out.fresh HF3.out) (fun hn b o e => by
                obtain ⟨b', o', e', hb', _⟩ := HX.out.bs hn
                rw [e] at e'
                cases e'
                have := HP.out
                omega) hr).mono ?_
              rintro e w5 ⟨v5, b5, rfl, ha5, ho5, hv5, hb5⟩
              have HA5 := Lib.hid ha5
              have HF5 : Hid (Fresh w w5) := Lib.hid (Below.trans HF3.out (Only.below ho5 HF3.out.size (fun k e => by
                rcases e with e | e
                · have := HP.out; omega
                · have := HV.out k e; omega)))
              have hz5 : w.heap.size < w5.heap.size := by have := HBX3.out.lt; have := ho5.size; omega
              have x0 := (HBX3.out.only ho5 (by
                rintro (e | e)
                · have := HP.out; omega
                · have := HV.out _ e; omega)).cell 0
              have x1 := (HBX3.out.only ho5 (by
                rintro (e | e)
                · have := HP.out; omega
                · have := HV.out _ e; omega)).cell 1
              simp only [List.getElem?_toArray, List.getElem?_cons_zero, List.getElem?_cons_succ] at x0 x1
              clear ha5 ho5 hv5 e0 e1 e2 e3 e4 e5 e6 e7 e8 e9 e10 e11 e12 e13 e14
              obtain ⟨q1, qA, qn, qc, q3, hqf⟩ := blkV_slice (w := w5) r2 b5 (fun st l b e => (hb5 st l b e).1)
              dsimp only at hqf ⊢
              rw [hqf]
              clear hb5
              dsimp only [fltV, if_false, Bool.false_eq_true]
              clear hqf
              go_upto_region 17 with (first | (go_at_call 17; go_in) | (go_at_call 15; go_in))
              refine wp_gen (fun W => Fresh w W) (by repeat (first | with_reducible exact HF5.out | with_reducible apply Fresh.drewS | with_reducible apply Fresh.allocS)) ?_
              intro W6 hf6
              have HF6 := Lib.hid hf6
              clear hf6 x0 x1 hz5
              go_wp2_with fail
              with_reducible refine (HAW.out _).mono ?_
              rintro e w7 ⟨rfl, hf7⟩
              have HF7 := Lib.hid (HF6.out.trans hf7)
              clear hf7
              go_wp2
              go_ret
              exact ⟨rfl, HF7.out⟩
          · have hr2 := onS_fault (lim := lim) (s := none) (ty := ty) (st := st) (t := t) (e := en) (h := eh) (by rw [hr])
            as_aux_lemma =>
              go_wp2_with fail
              with_reducible refine (asWithin p lim none v _ HA.out).mono ?_
              rintro e w3 ⟨rfl, hf3⟩
              have HA3 := Lib.hid (HA.out.fresh hf3)
              have HF3 := Lib.hid (HF.out.trans hf3)
              have HBX3 := Lib.hid (HBX.out.fresh hf3)
              clear hf3
              dsimp only [atS, Option.isSome]
              go_wp2_with fail
              with_reducible refine (asWaiting p lim none v _ HA3.out).mono ?_
              rintro e w4 ⟨rfl, rfl⟩
              have e0 := HBX3.out.cell 0
              have e1 := HBX3.out.cell 1
              have e2 := HBX3.out.cell 2
              have e3 := HBX3.out.cell 3
              have e4 := HBX3.out.cell 4
              have e5 := HBX3.out.cell 5
              have e6 := HBX3.out.cell 6
              have e7 := HBX3.out.cell 7
              have e8 := HBX3.out.cell 8
              have e9 := HBX3.out.cell 9
              have e10 := HBX3.out.cell 10
              have e11 := HBX3.out.cell 11
              have e12 := HBX3.out.cell 12
              have e13 := HBX3.out.cell 13
              have e14 := HBX3.out.cell 14
              simp only [List.getElem?_toArray, List.getElem?_cons_zero, List.getElem?_cons_succ] at e0 e1 e2 e3 e4 e5 e6 e7 e8 e9 e10 e11 e12 e13 e14
              generalize hLS : ((lenS none : Nat) : Int) = ls at *
              have HLS := Lib.hid hLS
              clear hLS
              go_wp2_with fail
              refine (on_anyN p lim none v ty st A t.length c t en eh ak fl co la inc de we wd ex PA ps.length pc ps _ (none, none, true) HA3.out rfl rfl (HX.out.fresh HF3.out) (fun hn b o e => by
                obtain ⟨b', o', e', hb', _⟩ := HX.out.bs hn
                rw [e] at e'
                cases e'
                have := HP.out
                omega) hr2).mono ?_
              rintro e w5 ⟨v5, b5, rfl, ha5, ho5, hv5, hb5⟩
              have HA5 := Lib.hid ha5
              have HF5 : Hid (Fresh w w5) := Lib.hid (Below.trans HF3.out (Only.below ho5 HF3.out.size (fun k e => by
                rcases e with e | e
                · have := HP.out; omega
                · have := HV.out k e; omega)))
              have hz5 : w.heap.size < w5.heap.size := by have := HBX3.out.lt; have := ho5.size; omega
              have x0 := (HBX3.out.only ho5 (by
                rintro (e | e)
                · have := HP.out; omega
                · have := HV.out _ e; omega)).cell 0
              have x1 := (HBX3.out.only ho5 (by
                rintro (e | e)
                · have := HP.out; omega
                · have := HV.out _ e; omega)).cell 1
              simp only [List.getElem?_toArray, List.getElem?_cons_zero, List.getElem?_cons_succ] at x0 x1
              clear ha5 ho5 hv5 e0 e1 e2 e3 e4 e5 e6 e7 e8 e9 e10 e11 e12 e13 e14
              clear hb5
              dsimp only [blkV, fltV, Option.isSome, if_true]
              go_upto_region 18 with (first | (go_at_call 17; go_in) | (go_at_call 15; go_in))
              refine wp_gen (fun W => Fresh w5 W) (by repeat (first | with_reducible exact Fresh.refl _ | with_reducible apply Fresh.drewS | with_reducible apply Fresh.allocS)) ?_
              intro W6 hf6
              have HA6 := Lib.hid (HA5.out.fresh hf6)
              have HF6 := Lib.hid (HF5.out.trans hf6)
              clear hf6 x0 x1 hz5
              go_wp2_with fail
              with_reducible refine (asWithin p lim none v5 _ HA6.out).mono ?_
              rintro e w7 ⟨rfl, hf7⟩
              have HA7 := Lib.hid (HA6.out.fresh hf7)
              have HF7 := Lib.hid (HF6.out.trans hf7)
              clear hf7
              dsimp only [atS, Option.isSome]
              go_wp2_with fail
              with_reducible refine (asWaiting p lim none v5 _ HA7.out).mono ?_
              rintro e w8 ⟨rfl, rfl⟩
              rw [HLS.out]
              go_wp2_with fail
              with_reducible refine (HAW.out _).mono ?_
              rintro e w8 ⟨rfl, hf8⟩
              have HF8 := Lib.hid (HF7.out.trans hf8)
              clear hf8
              go_wp2
              go_ret
              exact ⟨rfl, HF8.out⟩
        | some y =>
          obtain ⟨a, l, b⟩ := y
          by_cases h9 : ty = 9
          · subst h9
            by_cases hst : st = a
            · subst hst
              have hq1 : (st != st) = false := by simp
              obtain ⟨⟨r1, r2, f⟩, hr⟩ : ∃ r, onS lim (some (st, l, b)) 9 st t en eh = r := ⟨_, rfl⟩
              cases f
              · as_aux_lemma =>
                  go_wp2_with fail
                  with_reducible refine (asWithin p lim (some (st, l, b)) v _ HA.out).mono ?_
                  rintro e w3 ⟨rfl, hf3⟩
                  have HA3 := Lib.hid (HA.out.fresh hf3)
                  have HF3 := Lib.hid (HF.out.trans hf3)
                  have HBX3 := Lib.hid (HBX.out.fresh hf3)
                  clear hf3
                  dsimp only [atS, Option.isSome]
                  go_wp2_with fail
                  with_reducible refine (asWaiting p lim (some (st, l, b)) v _ HA3.out).mono ?_
                  rintro e w4 ⟨rfl, rfl⟩
                  have e0 := HBX3.out.cell 0
                  have e1 := HBX3.out.cell 1
                  have e2 := HBX3.out.cell 2
                  have e3 := HBX3.out.cell 3
                  have e4 := HBX3.out.cell 4
                  have e5 := HBX3.out.cell 5
                  have e6 := HBX3.out.cell 6
                  have e7 := HBX3.out.cell 7
                  have e8 := HBX3.out.cell 8
                  have e9 := HBX3.out.cell 9
                  have e10 := HBX3.out.cell 10
                  have e11 := HBX3.out.cell 11
                  have e12 := HBX3.out.cell 12
                  have e13 := HBX3.out.cell 13
                  have e14 := HBX3.out.cell 14
                  simp only [List.getElem?_toArray, List.getElem?_cons_zero, List.getElem?_cons_succ] at e0 e1 e2 e3 e4 e5 e6 e7 e8 e9 e10 e11 e12 e13 e14
                  generalize hLS : ((lenS (some (st, l, b)) : Nat) : Int) = ls at *
                  have HLS := Lib.hid hLS
                  clear hLS
                  go_wp2_with fail
                  refine (on_anyN p lim (some (st, l, b)) v 9 st A t.length c t en eh ak fl co la inc de we wd ex PA ps.length pc ps _ (r1, r2, false) HA3.out rfl rfl (HX.out.fresh HF3.out) (fun hn b o e => by
                    obtain ⟨b', o', e', hb', _⟩ := HX.out.bs hn
                    rw [e] at e'
                    cases e'
                    have := HP.out
                    omega) hr).mono ?_
                  rintro e w5 ⟨v5, b5, rfl, ha5, ho5, hv5, hb5⟩
                  have HA5 := Lib.hid ha5
                  have HF5 : Hid (Fresh w w5) := Lib.hid (Below.trans HF3.out (Only.below ho5 HF3.out.size (fun k e => by
                    rcases e with e | e
                    · have := HP.out; omega
                    · have := HV.out k e; omega)))
                  have hz5 : w.heap.size < w5.heap.size := by have := HBX3.out.lt; have := ho5.size; omega
                  have x0 := (HBX3.out.only ho5 (by
                    rintro (e | e)
                    · have := HP.out; omega
                    · have := HV.out _ e; omega)).cell 0
                  have x1 := (HBX3.out.only ho5 (by
                    rintro (e | e)
                    · have := HP.out; omega
                    · have := HV.out _ e; omega)).cell 1
                  simp only [List.getElem?_toArray, List.getElem?_cons_zero, List.getElem?_cons_succ] at x0 x1
                  clear ha5 ho5 hv5 e0 e1 e2 e3 e4 e5 e6 e7 e8 e9 e10 e11 e12 e13 e14
                  obtain ⟨q1, qA, qn, qc, q3, hqf⟩ := blkV_slice (w := w5) r2 b5 (fun st l b e => (hb5 st l b e).1)
                  dsimp only at hqf ⊢
                  rw [hqf]
                  clear hb5
                  dsimp only [fltV, if_false, Bool.false_eq_true]
                  clear hqf
                  go_upto_region 17 with (first | (go_at_call 17; go_in) | (go_at_call 15; go_in))
                  refine wp_gen (fun W => Fresh w W) (by repeat (first | with_reducible exact HF5.out | with_reducible apply Fresh.drewS | with_reducible apply Fresh.allocS)) ?_
                  intro W6 hf6
                  have HF6 := Lib.hid hf6
                  clear hf6 x0 x1 hz5
                  go_wp2_with fail
                  with_reducible refine (HAW.out _).mono ?_
                  rintro e w7 ⟨rfl, hf7⟩
                  have HF7 := Lib.hid (HF6.out.trans hf7)
                  clear hf7
                  go_wp2
                  go_ret
                  exact ⟨rfl, HF7.out⟩
              · have hr2 := onS_fault (lim := lim) (s := some (st, l, b)) (ty := 9) (st := st) (t := t) (e := en) (h := eh) (by rw [hr])
                as_aux_lemma =>
                  go_wp2_with fail
                  with_reducible refine (asWithin p lim (some (st, l, b)) v _ HA.out).mono ?_
                  rintro e w3 ⟨rfl, hf3⟩
                  have HA3 := Lib.hid (HA.out.fresh hf3)
                  have HF3 := Lib.hid (HF.out.trans hf3)
                  have HBX3 := Lib.hid (HBX.out.fresh hf3)
                  clear hf3
                  dsimp only [atS, Option.isSome]
                  go_wp2_with fail
                  with_reducible refine (asWaiting p lim (some (st, l, b)) v _ HA3.out).mono ?_
                  rintro e w4 ⟨rfl, rfl⟩
                  have e0 := HBX3.out.cell 0
                  have e1 := HBX3.out.cell 1
                  have e2 := HBX3.out.cell 2
                  have e3 := HBX3.out.cell 3
                  have e4 := HBX3.out.cell 4
                  have e5 := HBX3.out.cell 5
                  have e6 := HBX3.out.cell 6
                  have e7 := HBX3.out.cell 7
                  have e8 := HBX3.out.cell 8
                  have e9 := HBX3.out.cell 9
                  have e10 := HBX3.out.cell 10
                  have e11 := HBX3.out.cell 11
                  have e12 := HBX3.out.cell 12
                  have e13 := HBX3.out.cell 13
                  have e14 := HBX3.out.cell 14
                  simp only [List.getElem?_toArray, List.getElem?_cons_zero, List.getElem?_cons_succ] at e0 e1 e2 e3 e4 e5 e6 e7 e8 e9 e10 e11 e12 e13 e14
                  generalize hLS : ((lenS (some (st, l, b)) : Nat) : Int) = ls at *
                  have HLS := Lib.hid hLS
                  clear hLS
                  go_wp2_with fail
                  refine (on_anyN p lim (some (st, l, b)) v 9 st A t.length c t en eh ak fl co la inc de we wd ex PA ps.length pc ps _ (some (st, l, b), none, true) HA3.out rfl rfl (HX.out.fresh HF3.out) (fun hn b o e => by
                    obtain ⟨b', o', e', hb', _⟩ := HX.out.bs hn
                    rw [e] at e'
                    cases e'
                    have := HP.out
                    omega) hr2).mono ?_
                  rintro e w5 ⟨v5, b5, rfl, ha5, ho5, hv5, hb5⟩
                  have HA5 := Lib.hid ha5
                  have HF5 : Hid (Fresh w w5) := Lib.hid (Below.trans HF3.out (Only.below ho5 HF3.out.size (fun k e => by
                    rcases e with e | e
                    · have := HP.out; omega
                    · have := HV.out k e; omega)))
                  have hz5 : w.heap.size < w5.heap.size := by have := HBX3.out.lt; have := ho5.size; omega
                  have x0 := (HBX3.out.only ho5 (by
                    rintro (e | e)
                    · have := HP.out; omega
                    · have := HV.out _ e; omega)).cell 0
                  have x1 := (HBX3.out.only ho5 (by
                    rintro (e | e)
                    · have := HP.out; omega
                    · have := HV.out _ e; omega)).cell 1
                  simp only [List.getElem?_toArray, List.getElem?_cons_zero, List.getElem?_cons_succ] at x0 x1
                  clear ha5 ho5 hv5 e0 e1 e2 e3 e4 e5 e6 e7 e8 e9 e10 e11 e12 e13 e14
                  clear hb5
                  dsimp only [blkV, fltV, Option.isSome, if_true]
                  go_upto_region 18 with (first | (go_at_call 17; go_in) | (go_at_call 15; go_in))
                  refine wp_gen (fun W => Fresh w5 W) (by repeat (first | with_reducible exact Fresh.refl _ | with_reducible apply Fresh.drewS | with_reducible apply Fresh.allocS)) ?_
                  intro W6 hf6
                  have HA6 := Lib.hid (HA5.out.fresh hf6)
                  have HF6 := Lib.hid (HF5.out.trans hf6)
                  clear hf6 x0 x1 hz5
                  go_wp2_with fail
                  with_reducible refine (asWithin p lim (some (st, l, b)) v5 _ HA6.out).mono ?_
                  rintro e w7 ⟨rfl, hf7⟩
                  have HA7 := Lib.hid (HA6.out.fresh hf7)
                  have HF7 := Lib.hid (HF6.out.trans hf7)
                  clear hf7
                  dsimp only [atS, Option.isSome]
                  go_wp2_with fail
                  with_reducible refine (asWaiting p lim (some (st, l, b)) v5 _ HA7.out).mono ?_
                  rintro e w8 ⟨rfl, rfl⟩
                  rw [HLS.out]
                  go_wp2_with fail
                  with_reducible refine (HAW.out _).mono ?_
                  rintro e w8 ⟨rfl, hf8⟩
                  have HF8 := Lib.hid (HF7.out.trans hf8)
                  clear hf8
                  go_wp2
                  go_ret
                  exact ⟨rfl, HF8.out⟩
            · have hst' : (st != a) = true := by simpa using hst
              as_aux_lemma =>
                go_wp2_with fail
                with_reducible refine (asWithin p lim (some (a, l, b)) v _ HA.out).mono ?_
                rintro e w3 ⟨rfl, hf3⟩
                have HA3 := Lib.hid (HA.out.fresh hf3)
                have HF3 := Lib.hid (HF.out.trans hf3)
                have HBX3 := Lib.hid (HBX.out.fresh hf3)
                clear hf3
                dsimp only [atS, Option.isSome]
                go_wp2_with fail
                with_reducible refine (asWaiting p lim (some (a, l, b)) v _ HA3.out).mono ?_
                rintro e w4 ⟨rfl, rfl⟩
                have e0 := HBX3.out.cell 0
                have e1 := HBX3.out.cell 1
                have e2 := HBX3.out.cell 2
                have e3 := HBX3.out.cell 3
                have e4 := HBX3.out.cell 4
                have e5 := HBX3.out.cell 5
                have e6 := HBX3.out.cell 6
                have e7 := HBX3.out.cell 7
                have e8 := HBX3.out.cell 8
                have e9 := HBX3.out.cell 9
                have e10 := HBX3.out.cell 10
                have e11 := HBX3.out.cell 11
                have e12 := HBX3.out.cell 12
                have e13 := HBX3.out.cell 13
                have e14 := HBX3.out.cell 14
                simp only [List.getElem?_toArray, List.getElem?_cons_zero, List.getElem?_cons_succ] at e0 e1 e2 e3 e4 e5 e6 e7 e8 e9 e10 e11 e12 e13 e14
                generalize hLS : ((lenS (some (a, l, b)) : Nat) : Int) = ls at *
                have HLS := Lib.hid hLS
                clear hLS
                go_wp2_with fail
                refine (on_anyN p lim (some (a, l, b)) v 9 st A t.length c t en eh ak fl co la inc de we wd ex PA ps.length pc ps _ (some (a, l, b), none, true) HA3.out rfl rfl (HX.out.fresh HF3.out) (fun hn b o e => by
                  obtain ⟨b', o', e', hb', _⟩ := HX.out.bs hn
                  rw [e] at e'
                  cases e'
                  have := HP.out
                  omega) (onS_other (.inr hst))).mono ?_
                rintro e w5 ⟨v5, b5, rfl, ha5, ho5, hv5, hb5⟩
                have HA5 := Lib.hid ha5
                have HF5 : Hid (Fresh w w5) := Lib.hid (Below.trans HF3.out (Only.below ho5 HF3.out.size (fun k e => by
                  rcases e with e | e
                  · have := HP.out; omega
                  · have := HV.out k e; omega)))
                have hz5 : w.heap.size < w5.heap.size := by have := HBX3.out.lt; have := ho5.size; omega
                have x0 := (HBX3.out.only ho5 (by
                  rintro (e | e)
                  · have := HP.out; omega
                  · have := HV.out _ e; omega)).cell 0
                have x1 := (HBX3.out.only ho5 (by
                  rintro (e | e)
                  · have := HP.out; omega
                  · have := HV.out _ e; omega)).cell 1
                simp only [List.getElem?_toArray, List.getElem?_cons_zero, List.getElem?_cons_succ] at x0 x1
                clear ha5 ho5 hv5 e0 e1 e2 e3 e4 e5 e6 e7 e8 e9 e10 e11 e12 e13 e14
                clear hb5
                dsimp only [blkV, fltV, Option.isSome, if_true]
                go_upto_region 18 with (first | (go_at_call 17; go_in) | (go_at_call 15; go_in))
                refine wp_gen (fun W => Fresh w5 W) (by repeat (first | with_reducible exact Fresh.refl _ | with_reducible apply Fresh.drewS | with_reducible apply Fresh.allocS)) ?_
                intro W6 hf6
                have HA6 := Lib.hid (HA5.out.fresh hf6)
                have HF6 := Lib.hid (HF5.out.trans hf6)
                clear hf6 x0 x1 hz5
                go_wp2_with fail
                with_reducible refine (asWithin p lim (some (a, l, b)) v5 _ HA6.out).mono ?_
                rintro e w7 ⟨rfl, hf7⟩
                have HA7 := Lib.hid (HA6.out.fresh hf7)
                have HF7 := Lib.hid (HF6.out.trans hf7)
                clear hf7
                dsimp only [atS, Option.isSome]
                go_wp2_with fail
                with_reducible refine (asWaiting p lim (some (a, l, b)) v5 _ HA7.out).mono ?_
                rintro e w8 ⟨rfl, rfl⟩
                rw [HLS.out]
                go_wp2_with fail
                with_reducible refine (HAW.out _).mono ?_
                rintro e w8 ⟨rfl, hf8⟩
                have HF8 := Lib.hid (HF7.out.trans hf8)
                clear hf8
                go_wp2
                go_ret
                exact ⟨rfl, HF8.out⟩
          · have h9' : (ty != 9) = true := by simpa using h9
            as_aux_lemma =>
              go_wp2_with fail
              with_reducible refine (asWithin p lim (some (a, l, b)) v _ HA.out).mono ?_
              rintro e w3 ⟨rfl, hf3⟩
              have HA3 := Lib.hid (HA.out.fresh hf3)
              have HF3 := Lib.hid (HF.out.trans hf3)
              have HBX3 := Lib.hid (HBX.out.fresh hf3)
              clear hf3
              dsimp only [atS, Option.isSome]
              go_wp2_with fail
              with_reducible refine (asWaiting p lim (some (a, l, b)) v _ HA3.out).mono ?_
              rintro e w4 ⟨rfl, rfl⟩
              have e0 := HBX3.out.cell 0
              have e1 := HBX3.out.cell 1
              have e2 := HBX3.out.cell 2
              have e3 := HBX3.out.cell 3
              have e4 := HBX3.out.cell 4
              have e5 := HBX3.out.cell 5
              have e6 := HBX3.out.cell 6
              have e7 := HBX3.out.cell 7
              have e8 := HBX3.out.cell 8
              have e9 := HBX3.out.cell 9
              have e10 := HBX3.out.cell 10
              have e11 := HBX3.out.cell 11
              have e12 := HBX3.out.cell 12
              have e13 := HBX3.out.cell 13
              have e14 := HBX3.out.cell 14
              simp only [List.getElem?_toArray, List.getElem?_cons_zero, List.getElem?_cons_succ] at e0 e1 e2 e3 e4 e5 e6 e7 e8 e9 e10 e11 e12 e13 e14
              generalize hLS : ((lenS (some (a, l, b)) : Nat) : Int) = ls at *
              have HLS := Lib.hid hLS
              clear hLS
              go_wp2_with fail
              refine (on_anyN p lim (some (a, l, b)) v ty st A t.length c t en eh ak fl co la inc de we wd ex PA ps.length pc ps _ (some (a, l, b), none, true) HA3.out rfl rfl (HX.out.fresh HF3.out) (fun hn b o e => by
                obtain ⟨b', o', e', hb', _⟩ := HX.out.bs hn
                rw [e] at e'
                cases e'
                have := HP.out
                omega) (onS_other (.inl h9))).mono ?_
              rintro e w5 ⟨v5, b5, rfl, ha5, ho5, hv5, hb5⟩
              have HA5 := Lib.hid ha5
              have HF5 : Hid (Fresh w w5) := Lib.hid (Below.trans HF3.out (Only.below ho5 HF3.out.size (fun k e => by
                rcases e with e | e
                · have := HP.out; omega
                · have := HV.out k e; omega)))
              have hz5 : w.heap.size < w5.heap.size := by have := HBX3.out.lt; have := ho5.size; omega
              have x0 := (HBX3.out.only ho5 (by
                rintro (e | e)
                · have := HP.out; omega
                · have := HV.out _ e; omega)).cell 0
              have x1 := (HBX3.out.only ho5 (by
                rintro (e | e)
                · have := HP.out; omega
                · have := HV.out _ e; omega)).cell 1
              simp only [List.getElem?_toArray, List.getElem?_cons_zero, List.getElem?_cons_succ] at x0 x1
              clear ha5 ho5 hv5 e0 e1 e2 e3 e4 e5 e6 e7 e8 e9 e10 e11 e12 e13 e14
              clear hb5
              dsimp only [blkV, fltV, Option.isSome, if_true]
              go_upto_region 18 with (first | (go_at_call 17; go_in) | (go_at_call 15; go_in))
              refine wp_gen (fun W => Fresh w5 W) (by repeat (first | with_reducible exact Fresh.refl _ | with_reducible apply Fresh.drewS | with_reducible apply Fresh.allocS)) ?_
              intro W6 hf6
              have HA6 := Lib.hid (HA5.out.fresh hf6)
              have HF6 := Lib.hid (HF5.out.trans hf6)
              clear hf6 x0 x1 hz5
              go_wp2_with fail
              with_reducible refine (asWithin p lim (some (a, l, b)) v5 _ HA6.out).mono ?_
              rintro e w7 ⟨rfl, hf7⟩
              have HA7 := Lib.hid (HA6.out.fresh hf7)
              have HF7 := Lib.hid (HF6.out.trans hf7)
              clear hf7
              dsimp only [atS, Option.isSome]
              go_wp2_with fail
              with_reducible refine (asWaiting p lim (some (a, l, b)) v5 _ HA7.out).mono ?_
              rintro e w8 ⟨rfl, rfl⟩
              rw [HLS.out]
              go_wp2_with fail
              with_reducible refine (HAW.out _).mono ?_
              rintro e w8 ⟨rfl, hf8⟩
              have HF8 := Lib.hid (HF7.out.trans hf8)
              clear hf8
              go_wp2
              go_ret
              exact ⟨rfl, HF8.out⟩
  all_goals
    go_enter Try.func5, Try.ntmps5
    go_wp2_with fail
    with_reducible refine (HSM.out _ (Fresh.alloc _ _)).mono ?_
    rintro e w1 ⟨rfl, hf1⟩
    have hbx := (Blk.new w 34 #[.int .i64 ty, .int .i64 st, .slice A t.length c, .bool en, .bool eh, .bool ak, .int .i64 fl, .int .i64 co, .int .i64 la, .int .i64 inc, .int .i64 de, .int .i64 we, .bool wd, .bool ex, .slice PA ps.length pc]).fresh hf1
    have HF1 := Lib.hid ((Fresh.alloc _ _).trans hf1)
    have x2 := hbx.cell 2
    simp only [List.getElem?_toArray, List.getElem?_cons_zero, List.getElem?_cons_succ] at x2
    clear hf1 hbx
    simp only [hq]
    go_wp2_with fail
    with_reducible refine (HAW.out _).mono ?_
    rintro e w3 ⟨rfl, hf3⟩
    have HF3 := Lib.hid (HF1.out.trans hf3)
    clear hf3
    go_wp2
    go_ret
    exact ⟨rfl, HF3.out⟩
end Go.Proofs.Ytapnlkmofldmdaa
