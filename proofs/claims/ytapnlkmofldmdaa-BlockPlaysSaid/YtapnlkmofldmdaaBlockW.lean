/-
  Layer 12: the law BlockPlays.
-/
import Derived.Test.YtapnlkmofldmdaaBlockR
import Derived.Test.YtapnlkmofldmdaaBlock9
namespace Go.Proofs.Ytapnlkmofldmdaa
set_option linter.unusedVariables false
set_option linter.unusedSimpArgs false
open Go.RowKit Go.ChangeShapes Go.WideShapes Go.Deep
theorem onS_pos {lim : Int} {s : Option Part} {ty st : Int} {t : List UInt8} {e h : Bool} (hs : ∀ a l b, s = some (a, l, b) → 1 ≤ a) (h1 : 1 ≤ st) : ∀ a l b, (onS lim s ty st t e h).1 = some (a, l, b) → 1 ≤ a := by
  intro a l b
  unfold onS
  cases s with
  | none =>
    dsimp only
    repeat' split
    all_goals
      intro e
      first
        | (cases e; done)
        | (cases e; exact h1)
  | some y =>
    obtain ⟨a', l', b'⟩ := y
    have := hs a' l' b' rfl
    dsimp only
    repeat' split
    all_goals
      intro e
      first
        | (cases e; done)
        | (cases e; exact this)
theorem atS_ne {s : Option Part} (h : ∀ a l b, s = some (a, l, b) → 1 ≤ a) : (atS s != 0) = s.isSome := by
  cases s with
  | none => rfl
  | some y =>
    obtain ⟨a, l, b⟩ := y
    have := h a l b rfl
    simp [atS]
    omega
theorem totI_at (ls : List ItV) (k : Nat) (y : ItV) (h : ls[k]? = some y) : y.l.length ≤ totI ls := by
  have h1 := totI_take ls k y h
  have h2 := totI_le ls (k + 1)
  omega
set_option maxRecDepth 100000 in
set_option maxHeartbeats 12800000 in
theorem BlockPlays_any (lim : Int) (s : ItsV) (w : World) (hlim : (Lit.int .i64 lim).wf = true) (hs : s.OkW w) :
    Calls Try.prog 3 #[.int .i64 lim, .slice s.A s.xs.length s.c] w
      fun en w' => en = .returned (.bool true) ∧ Below w.heap.size w w' := by
  have hle := hs.ok.le
  have hmax := hs.ok.max
  have HS := Lib.hid hs
  clear hs
  obtain ⟨sA, sc, xs⟩ := s
  simp only at hle hmax ⊢
  unfold maxLen at hmax
  have HSM := Lib.hid (bsmall ⟨sA, sc, xs⟩ w HS.out)
  have HAW := Lib.hid blk_awake
  by_cases hq : smallI xs = false ∨ lim < 0 ∨ 1048576 < lim
  · rcases (show smallI xs = false ∨ (smallI xs = true ∧ lim < 0) ∨ (smallI xs = true ∧ ¬ lim < 0 ∧ 1048576 < lim) by
      rcases hq with h | h | h
      · exact .inl h
      · cases hx : smallI xs
        · exact .inl rfl
        · exact .inr (.inl ⟨rfl, h⟩)
      · cases hx : smallI xs
        · exact .inl rfl
        · exact .inr (.inr ⟨rfl, by omega, h⟩)) with h1 | ⟨h1, h2⟩ | ⟨h1, h2, h3⟩
    all_goals
      clear hq
      simp only at HSM
      rw [h1] at HSM
      go_enter Try.func3, Try.ntmps3
      go_wp2_with fail
      with_reducible refine HSM.out.mono ?_
      rintro e w1 ⟨rfl, hf1⟩
      have HF1 := Lib.hid hf1
      clear hf1
      go_wp2_with fail
      with_reducible refine (HAW.out _).mono ?_
      rintro e w3 ⟨rfl, hf3⟩
      have HF3 := Lib.hid (HF1.out.trans hf3)
      clear hf3
      go_wp2
      go_ret
      exact ⟨rfl, HF3.out⟩
  have h1 : smallI xs = true := by
    cases hx : smallI xs
    · exact absurd (.inl hx) hq
    · rfl
  have h2 : ¬ lim < 0 := fun h => hq (.inr (.inl h))
  have h3 : ¬ 1048576 < lim := fun h => hq (.inr (.inr h))
  have HT : Hid (totI xs ≤ 500) := Lib.hid (of_decide_eq_true h1)
  simp only at HSM
  rw [h1] at HSM
  clear hq h1
  go_enter Try.func3, Try.ntmps3
  go_wp2_with fail
  with_reducible refine HSM.out.mono ?_
  rintro e w1 ⟨rfl, hf1⟩
  have HF1 := Lib.hid hf1
  clear hf1
  go_wp2_with fail
  with_reducible refine (asNew lim _ (by omega) (by omega)).mono ?_
  rintro e w2 ⟨p, rfl, hp, ha2, hf2⟩
  have HF2 := Lib.hid (HF1.out.trans hf2)
  have HA2 := Lib.hid ha2
  have HP : Hid (w.heap.size ≤ p) := Lib.hid (Nat.le_trans (Below.size HF1.out) hp)
  clear ha2 hf2 hp HF1
  go_upto_region 7 with fail
  refine wp_gen (fun W => Fresh w W ∧ AsAt W p lim none (.slice none 0 0) ∧ Blk W w2.heap.size 30 #[.int .i64 0, .string ByteArray.empty, .int .i64 0]) ⟨HF2.out.allocS _, HA2.out.fresh (Fresh.alloc _ _), Blk.new _ _ _⟩ ?_
  rintro W2 ⟨hf, ha, hb⟩
  have HG : Hid (w.heap.size ≤ w2.heap.size) := Lib.hid (Below.size HF2.out)
  have HF := Lib.hid hf
  have HA := Lib.hid ha
  have HB := Lib.hid hb
  generalize w2.heap.size = g at *
  clear hf ha hb HF2 HA2
  go_wp2
  go_loopw [38] (fun i wr => ∃ (k : Nat) (v : Value), k ≤ xs.length ∧ i = .int .i64 (k : Int) ∧ AsAt wr p lim (runS lim none (xs.take k)) v ∧ Fresh w wr ∧ (∀ k, v.ownBlock = some k → w.heap.size ≤ k) ∧ (∀ a l b, runS lim none (xs.take k) = some (a, l, b) → 1 ≤ a) ∧ ∃ q1 q2 q3, refV (runS lim none (xs.take k)) = .agg #[.int .i64 q1, .string q2, .int .i64 q3] ∧ q1 = atS (runS lim none (xs.take k)) ∧ Blk wr g 30 #[.int .i64 q1, .string q2, .int .i64 q3]) (fun i _ => xs.length - (intOf i).toNat)
  case atStart => exact ⟨0, _, by omega, rfl, HA.out, HF.out, (fun k hk => by cases hk), (fun a l b e => by cases e), _, _, _, rfl, rfl, HB.out⟩
  case round =>
    obtain ⟨k, v, hk, rfl, ha, hf, hv, hpos, q1, q2, q3, hq, hq1, hb⟩ := hrel
    have HA := Lib.hid ha
    have HF := Lib.hid hf
    have HV := Lib.hid hv
    have HB := Lib.hid hb
    have HPOS := Lib.hid hpos
    have HQ := Lib.hid hq
    obtain ⟨c0, c1, c2⟩ := hb.c3
    clear hpos hq
    by_cases hlt : k < xs.length
    · have hlt' : (k : Int) < (xs.length : Int) := by omega
      obtain ⟨y, hy⟩ : ∃ y, xs[k]? = some y := ⟨_, List.getElem?_eq_getElem hlt⟩
      obtain ⟨b, o, rfl, hbw, hc⟩ := HS.out.ok.rows.item k y hy
      obtain ⟨e0, e1, e2, e3, e4, e5, e6, e7, e8, e9, e10, e11, e12, e13, e14⟩ := hc.only (Only.of_fresh (S := fun _ => False) hf) hbw (fun e => e)
      have hym := List.mem_of_getElem? hy
      have HY := Lib.hid (HS.out.ok.ok y hym)
      have HLEN := Lib.hid (Nat.le_trans (totI_at xs k y hy) HT.out)
      have HTK := Lib.hid (runS_take (lim := lim) (s := none) hy)
      clear hym hy hc
      by_cases hst : y.st < 1
      · obtain ⟨yty, yst, yA, yc, yl, yen, yeh, yak, yfl, yco, yla, yinc, yde, ywe, ywd, yex, yPA, ypc, yps⟩ := y
        simp only at e0 e1 e2 e3 e4 e5 e6 e7 e8 e9 e10 e11 e12 e13 e14 hst
        clear ha hf hv hb
        go_wp2_with fail
        with_reducible refine (HAW.out _).mono ?_
        rintro e w3 ⟨rfl, hf3⟩
        have HF3 := Lib.hid ((HF.out.allocS _).trans hf3)
        clear hf3
        go_wp2
        go_ret
        exact ⟨rfl, HF3.out⟩
      have HSTEP := Lib.hid (fun (W : World) (hA : AsAt W p lim (runS lim none (xs.take k)) v) (hF : Fresh w W) => blk_step p lim (runS lim none (xs.take k)) v y W _ hA (HY.out.fresh hF) (fun hn b o e h => by
          obtain ⟨b', o', e', hb', _⟩ := HY.out.bs hn
          rw [e] at e'
          cases e'
          have := HP.out
          omega) HPOS.out (fun hn b o e h => by
          obtain ⟨b', o', e', hb', _⟩ := HY.out.bs hn
          rw [e] at e'
          cases e'
          have := HV.out _ h
          omega) (by have := HLEN.out; omega) rfl)
      rw [HQ.out] at HSTEP
      have HPO : Hid (∀ a l b, (onS lim (runS lim none (xs.take k)) y.ty y.st y.l y.en y.eh).1 = some (a, l, b) → 1 ≤ a) := Lib.hid (onS_pos HPOS.out (by omega))
      obtain ⟨yty, yst, yA, yc, yl, yen, yeh, yak, yfl, yco, yla, yinc, yde, ywe, ywd, yex, yPA, ypc, yps⟩ := y
      simp only at e0 e1 e2 e3 e4 e5 e6 e7 e8 e9 e10 e11 e12 e13 e14 hst HSTEP HTK HPO
      generalize hr : (onS lim (runS lim none (xs.take k)) yty yst yl yen yeh).1 = r at HSTEP HTK HPO
      generalize runS lim none (xs.take k) = s0 at *
      clear ha hf hv hb hr hq1
      obtain ⟨n1, n2, n3, hn, kn1, kn2⟩ := refV_form r
      rw [hn] at HSTEP
      have HN := Lib.hid (And.intro hn kn1)
      clear hn kn1 kn2
      go_upto_region 13 with fail
      refine wp_gen (fun W => Fresh wr W ∧ Blk W wr.heap.size 34 #[.int .i64 yty, .int .i64 yst, .slice yA yl.length yc, .bool yen, .bool yeh, .bool yak, .int .i64 yfl, .int .i64 yco, .int .i64 yla, .int .i64 yinc, .int .i64 yde, .int .i64 ywe, .bool ywd, .bool yex, .slice yPA yps.length ypc]) ⟨Fresh.alloc _ _, Blk.new _ _ _⟩ ?_
      clear c0 c1 c2 e0 e1 e2 e3 e4 e5 e6 e7 e8 e9 e10 e11 e12 e13 e14
      rintro W3 ⟨hf3, hy3⟩
      have e0 := hy3.cell 0
      have e1 := hy3.cell 1
      have e2 := hy3.cell 2
      have e3 := hy3.cell 3
      have e4 := hy3.cell 4
      have e5 := hy3.cell 5
      have e6 := hy3.cell 6
      have e7 := hy3.cell 7
      have e8 := hy3.cell 8
      have e9 := hy3.cell 9
      have e10 := hy3.cell 10
      have e11 := hy3.cell 11
      have e12 := hy3.cell 12
      have e13 := hy3.cell 13
      have e14 := hy3.cell 14
      simp only [List.getElem?_toArray, List.getElem?_cons_zero, List.getElem?_cons_succ] at e0 e1 e2 e3 e4 e5 e6 e7 e8 e9 e10 e11 e12 e13 e14
      obtain ⟨c0, c1, c2⟩ := (HB.out.fresh hf3).c3
      have HF3 := Lib.hid (HF.out.trans hf3)
      have HA3 := Lib.hid (HA.out.fresh hf3)
      have HB3 := Lib.hid (HB.out.fresh hf3)
      have hgl := HB.out.lt
      clear hf3 hy3
      go_wp2_with fail
      with_reducible refine (HSTEP.out _ HA3.out HF3.out).mono ?_
      rintro e w4 ⟨rfl, v4, ha4, ho4, hv4⟩
      have HA4 := Lib.hid ha4
      have HF4 : Hid (Fresh w w4) := Lib.hid (Below.trans HF3.out (Only.below ho4 HF3.out.size (fun k e => by
        rcases e with e | e
        · have := HP.out; omega
        · exact HV.out k e)))
      have HV4 : Hid (∀ k, v4.ownBlock = some k → w.heap.size ≤ k) := Lib.hid (fun k hk => by
        rcases hv4 k hk with e | e
        · exact HV.out k e
        · have := HF3.out.size; omega)
      have hb4 : Blk w4 g 30 #[.int .i64 q1, .string q2, .int .i64 q3] := HB3.out.only ho4 (by
        rintro (e | e)
        · cases s0 with
          | none => exact (HA3.out.idle rfl).1.ne HB3.out (by decide) e.symm
          | some z => obtain ⟨a, l, b⟩ := z; exact (HA3.out.part a l b rfl).1.ne HB3.out (by decide) e.symm
        · cases s0 with
          | none => rw [(HA3.out.idle rfl).2] at e; cases e
          | some z =>
            obtain ⟨a, l, b⟩ := z
            obtain ⟨cur, hc⟩ := own_blk (HA3.out.part a l b rfl).2.1 e
            exact hc.ne HB3.out (by decide) rfl)
      have HB4 := Lib.hid hb4
      obtain ⟨d0, d1, d2⟩ := hb4.c3
      have fr0 := hb4.frozen 0
      have fr1 := hb4.frozen 1
      have fr2 := hb4.frozen 2
      clear ha4 ho4 hv4 hb4 c0 c1 c2 e0 e1 e2 e3 e4 e5 e6 e7 e8 e9 e10 e11 e12 e13 e14
      go_upto_region 16 with fail
      refine wp_gen (fun W => Fresh w W ∧ AsAt W p lim r v4 ∧ Blk W g 30 #[.int .i64 n1, .string n2, .int .i64 n3]) ?_ ?_
      · have ho : Only (· = g) w4 (((w4.setCell ⟨g, 0, none⟩ (.int .i64 n1)).setCell ⟨g, 1, none⟩ (.string n2)).setCell ⟨g, 2, none⟩ (.int .i64 n3)) := (((Only.refl (· = g) w4).step ⟨g, 0, none⟩ _ (.inl rfl)).step ⟨g, 1, none⟩ _ (.inl rfl)).step ⟨g, 2, none⟩ _ (.inl rfl)
        refine ⟨Below.trans HF4.out (Only.below ho HF4.out.size (fun k e => by rw [e]; exact HG.out)), HA4.out.only ho (fun e => ?_) (fun k hk e => ?_), ((HB4.out.set 0 (.int .i64 n1)).set 1 (.string n2)).set 2 (.int .i64 n3)⟩
        · cases r with
          | none => exact (HA4.out.idle rfl).1.ne HB4.out (by decide) e
          | some z => obtain ⟨a, l, b⟩ := z; exact (HA4.out.part a l b rfl).1.ne HB4.out (by decide) e
        · cases r with
          | none => rw [(HA4.out.idle rfl).2] at hk; cases hk
          | some z =>
            obtain ⟨a, l, b⟩ := z
            obtain ⟨cur, hc⟩ := own_blk (HA4.out.part a l b rfl).2.1 hk
            exact hc.ne HB4.out (by decide) e
      clear d0 d1 d2 fr0 fr1 fr2
      rintro W5 ⟨hf5, ha5, hb5⟩
      have HF5 := Lib.hid hf5
      have HA5 := Lib.hid ha5
      have HB5 := Lib.hid hb5
      clear hf5 ha5 hb5
      go_wp2_with fail
      with_reducible refine (asWithin p lim r v4 _ HA5.out).mono ?_
      rintro e w6 ⟨rfl, hf6⟩
      have HF6 := Lib.hid (HF5.out.trans hf6)
      have HA6 := Lib.hid (HA5.out.fresh hf6)
      have HB6 := Lib.hid (HB5.out.fresh hf6)
      obtain ⟨d0, d1, d2⟩ := HB6.out.c3
      have hne : (n1 != 0) = r.isSome := by rw [HN.out.2]; exact atS_ne HPO.out
      have hat : (atS r != n1) = false := by rw [HN.out.2]; simp
      have hbb : (r.isSome != r.isSome) = false := by cases r.isSome <;> rfl
      generalize hat2 : atS r = at1 at *
      generalize r.isSome = is1 at *
      have HN2 := Lib.hid (HN.out.2)
      clear hf6
      go_wp2
      go_roundw
      case rel => exact ⟨k + 1, v4, by omega, by go_num, by rw [HTK.out]; exact HA6.out, HF6.out, HV4.out, by rw [HTK.out]; exact HPO.out, n1, n2, n3, by rw [HTK.out]; exact HN.out.1, by rw [HTK.out, hat2]; exact HN2.out, HB6.out⟩
      case measure => simp [intOf]; omega
    · have hlt' : ¬ (k : Int) < (xs.length : Int) := by omega
      clear ha hf hv hb
      go_wp2_with fail
      with_reducible refine (HAW.out _).mono ?_
      rintro e w3 ⟨rfl, hf3⟩
      have HF3 := Lib.hid (HF.out.trans hf3)
      clear hf3
      go_wp2
      go_ret
      exact ⟨rfl, HF3.out⟩
end Go.Proofs.Ytapnlkmofldmdaa
