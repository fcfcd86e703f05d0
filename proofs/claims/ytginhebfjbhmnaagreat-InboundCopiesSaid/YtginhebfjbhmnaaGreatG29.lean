/-
  Texts laid together: Dyn3 Dyn4 Dyn5 Val3.
-/
import Derived.Test.YtginhebfjbhmnaaGreatG26
import Derived.Test.YtginhebfjbhmnaaGreatG28
import Derived.Deep.Cut
import Derived.Maps.AppendAt
import Derived.Handy
/-
  Package dyn: shrink.
-/
namespace Go.Proofs.YtginhebfjbhmnaaGreat
set_option maxRecDepth 100000
set_option linter.unusedVariables false
set_option linter.unusedSimpArgs false
open Go.RowKit

theorem dy_size (p : FldT) (w : World) (h : fz p ≤ 4503599627370496) : Calls Tryz.prog 83 #[.agg #[.string p.1, .string p.2]] w fun e w' => e = .returned (.int .i64 (fz p : Int)) ∧ Fresh w w' := by
  obtain ⟨a, b⟩ := p
  unfold fz at h ⊢
  simp only at h ⊢
  have h1 : IntKind.i64.wrap ((a.size : Int) + (b.size : Int)) = (a.size : Int) + (b.size : Int) := by rw [IntKind.wrap_i64]; omega
  have h2 : IntKind.i64.wrap ((a.size : Int) + (b.size : Int) + 32) = (a.size : Int) + (b.size : Int) + 32 := by rw [IntKind.wrap_i64]; omega
  go_enter Tryz.func83, Tryz.ntmps83
  go_wp2
  go_ret
  exact ⟨by simp, by repeat (first | with_reducible exact Fresh.refl _ | with_reducible apply Fresh.drewS | with_reducible apply Fresh.allocS)⟩
theorem ownBlkD {w : World} {base sz n : Nat} {E : TypeId} {v : Value} {xs : List Value} (h : Own w base E sz v n xs) {g : Nat} (hg : v.ownBlock = some g) : ∃ cur, Blk w g E cur := by
  rcases h.2 with ⟨rfl, _⟩ | ⟨g', cap, cur, rfl, _, hh, _⟩
  · cases hg
  · simp [Value.ownBlock] at hg
    subst hg
    exact ⟨cur, hh⟩
theorem goneN_step (fs : List FldT) (room : Int) (k : Nat) (f : FldT) (r : List FldT) (hk : fs.drop k = f :: r) (hr : room < (tz (f :: r) : Int)) (h : goneN fs room = k + goneN (fs.drop k) room) : goneN fs room = (k + 1) + goneN (fs.drop (k + 1)) room ∧ fs.drop (k + 1) = r := by
  have h1 : fs.drop (k + 1) = r := by rw [← List.drop_drop, hk]; rfl
  refine ⟨?_, h1⟩
  rw [h, hk, h1, goneN, if_pos hr]
  omega
theorem goneN_stop (l : List FldT) (room : Int) (h : (tz l : Int) ≤ room) : goneN l room = 0 := by
  cases l with
  | nil => rfl
  | cons f r => rw [goneN, if_neg (by omega)]
set_option maxRecDepth 100000 in
set_option maxHeartbeats 6400000 in
theorem dy_shrink (base p : Nat) (v : Value) (fs : List FldT) (lim room : Int) (w : World) (h : TabAt w base p v fs lim) (hz : tz fs ≤ 4503599627370496) :
    Calls Tryz.prog 90 #[.pointer (some ⟨p, 0, none⟩), .int .i64 room] w fun e w' => e = .returned (.int .i64 (goneN fs room : Int)) ∧ ∃ v', TabAt w' base p v' (fs.drop (goneN fs room)) lim ∧ v'.ownBlock = v.ownBlock ∧ Only (fun k => k = p ∨ v.ownBlock = some k) w w' := by
  obtain ⟨A, c, rfl, hc1, hc2, _⟩ := h.own.slice
  simp only [maxLen] at hc2
  have HB := Lib.hid h.blk
  have HO := Lib.hid h.own
  have HZ := Lib.hid hz
  obtain ⟨n, hn⟩ : ∃ n, fs.length = n := ⟨_, rfl⟩
  clear h
  rw [hn] at hc1
  go_enter Tryz.func90, Tryz.ntmps90
  go_wp2
  go_loopw [5] (fun i wr => ∃ k : Nat, k ≤ n ∧ i = .int .i64 (k : Int) ∧ Blk wr p 111 #[.slice A n c, .int .i64 (tz (fs.drop k) : Int), .int .i64 lim] ∧ Only (· = p) w wr ∧ goneN fs room = k + goneN (fs.drop k) room) (fun i _ => n - (intOf i).toNat)
  case atStart => exact ⟨0, by omega, rfl, by rw [← hn]; exact HB.out, Only.refl _ _, by simp⟩
  case round =>
    obtain ⟨k, hk, rfl, hb, ho, hg⟩ := hrel
    have HBP := Lib.hid hb
    have HOP := Lib.hid ho
    have HG := Lib.hid hg
    obtain ⟨c0, c1, c2⟩ := hb.c3
    clear hb ho hg
    by_cases hlt : k < n
    · have hlt' : (k : Int) < (n : Int) := by omega
      obtain ⟨f, r, hfr⟩ : ∃ f r, fs.drop k = f :: r := by
        cases hd : fs.drop k with
        | nil => have := List.drop_eq_nil_iff.1 hd; omega
        | cons f r => exact ⟨f, r, rfl⟩
      rw [hfr] at c1 HBP
      by_cases hroom : room < (tz (f :: r) : Int)
      · have HR := Lib.hid (goneN_step fs room k f r hfr hroom HG.out)
        go_upto_region 3 with fail
        obtain ⟨g, rfl, hgb, hgl, hgc, _, cur, hcur⟩ := HO.out.pos (by omega)
        have hgp : ¬ g = p := fun e => hcur.ne HB.out (by decide) e
        have hrow : ∀ j, j < n * 2 → wr.cell? ⟨g, j, none⟩ = (rowD fs)[j]? := fun j hj => by
          rcases HO.out.form with ⟨e, _⟩ | ⟨g', cap', e, _, _, _, _, hc⟩
          · cases e
          · injection e with e1 e2 e3
            injection e1 with e1
            injection e1 with e1
            subst e1
            exact (HOP.out.cell (p := ⟨g, j, none⟩) hgl hgp).trans (hc j (by rw [rowD_length, hn]; omega)).1
        have hdr := rowD_drop fs k
        rw [hfr] at hdr
        have hf0 : wr.cell? ⟨g, k * 2, none⟩ = some (.string f.1) := by
          rw [hrow _ (by omega), ← Nat.add_zero (k * 2), ← List.getElem?_drop, hdr]; rfl
        have hf1 : wr.cell? ⟨g, k * 2 + 1, none⟩ = some (.string f.2) := by
          rw [hrow _ (by omega), ← List.getElem?_drop, hdr]; rfl
        have hzr : tz (f :: r) ≤ tz fs := by
          have h1 := tz_append (fs.take k) (fs.drop k)
          rw [List.take_append_drop, hfr] at h1
          omega
        have htc := tz_cons f r
        have HSF : Hid (fz f ≤ 4503599627370496) := Lib.hid (by have := HZ.out; omega)
        have hwr : IntKind.i64.wrap ((tz (f :: r) : Int) - (fz f : Int)) = (tz r : Int) := by have := HZ.out; rw [IntKind.wrap_i64]; omega
        have HGL : Hid (g < wr.heap.size) := Lib.hid (Nat.lt_of_lt_of_le hgl HOP.out.size)
        have HSK : Hid (∀ w3, Fresh wr w3 → Blk w3 p 111 #[.slice (some ⟨g, 0, none⟩) n c, .int .i64 (tz (f :: r) : Int), .int .i64 lim] ∧ w3.cell? ⟨g, k * 2, none⟩ = some (.string f.1) ∧ w3.cell? ⟨g, k * 2 + 1, none⟩ = some (.string f.2)) := Lib.hid (fun w3 hf => ⟨HBP.out.fresh hf, (hf.cell (p := ⟨g, k * 2, none⟩) HGL.out).trans hf0, (hf.cell (p := ⟨g, k * 2 + 1, none⟩) HGL.out).trans hf1⟩)
        have q1 := HBP.out.frozen 1
        clear hrow hdr hzr htc hcur hgb hgc hgl
        go_region_with (go_at_call 83; refine (dy_size f _ HSF.out).mono ?_; rintro e w3 ⟨rfl, hf3⟩; have hf4 : Fresh wr w3 := Fresh.trans (by first | with_reducible exact Fresh.refl _ | with_reducible exact Fresh.drew _) hf3; obtain ⟨b3, hf0, hf1⟩ := HSK.out _ hf4; obtain ⟨c0, c1, c2⟩ := b3.c3; have q1 := b3.frozen 1; clear hf3)
        all_goals
          refine wx_gen (fun W => Blk W p 111 #[.slice (some ⟨g, 0, none⟩) n c, .int .i64 (tz r : Int), .int .i64 lim] ∧ Only (· = p) w W) ⟨b3.set 1 _, (HOP.out.trans (Only.of_fresh hf4)).step ⟨p, 1, none⟩ _ (.inl rfl)⟩ ?_
          clear b3 hf4 c0 c1 c2 q1 hf0 hf1 hwr
          rintro W5 ⟨hb5, ho5⟩
          go_wp2
          go_roundw
          case rel => exact ⟨k + 1, by omega, by go_num, by rw [HR.out.2]; exact hb5, ho5, by rw [HR.out.1]⟩
          case measure => simp [intOf]; omega

      · have HR : Hid (goneN fs room = k) := Lib.hid (by rw [HG.out, hfr, goneN_stop _ _ (by omega)]; rfl)
        rw [← hfr] at HBP
        clear c0 c1 c2
        have hj : k ≤ fs.length := by omega
        have HDEL := Lib.hid (fun W (ho : Only (· = p) w W) => dy_delete base (.slice A fs.length c) fs k W (HO.out.only ho (fun q hq e => by
          rw [e] at hq
          obtain ⟨cur, hc⟩ := ownBlkD HO.out hq
          exact hc.ne HB.out (by decide) rfl)) hj)
        rw [hn] at HDEL
        obtain ⟨c0, c1, c2⟩ := HBP.out.c3
        go_upto_region 5 with fail
        go_wp2_with fail
        with_reducible refine (HDEL.out _ HOP.out).mono ?_
        rintro e w3 ⟨v3, rfl, hov, hbv, ho3⟩
        obtain ⟨A3, c3, rfl, _⟩ := hov.slice
        have hne : ∀ q, (Value.slice A n c).ownBlock = some q → ¬ p = q := fun q hq e => by
          rw [← e, ← hn] at hq
          obtain ⟨cur, hc⟩ := ownBlkD HO.out hq
          exact hc.ne HB.out (by decide) rfl
        have hb3 := HBP.out.only ho3 (fun e => hne _ e rfl)
        obtain ⟨c0, c1, c2⟩ := hb3.c3
        have q0 := hb3.frozen 0
        have HF := Lib.hid (And.intro hov (And.intro hbv (And.intro hb3 ((HOP.out.mono (fun i (e : i = p) => (.inl e : i = p ∨ (Value.slice A n c).ownBlock = some i))).trans (ho3.mono (fun i e => .inr e))))))
        clear hov hbv ho3 hne hb3
        go_wp2
        go_ret
        obtain ⟨h1, h2, h3, h4⟩ := HF.out
        subst hn
        refine ⟨by rw [HR.out]; rfl, .slice A3 (fs.length - k) c3, ⟨?_, ?_⟩, ?_, h4.step ⟨p, 0, none⟩ _ (.inl (.inl rfl))⟩
        · rw [HR.out]
          exact h3.set 0 _
        · rw [HR.out, List.length_drop]
          refine h1.only (Only.setCell _ _ _) (fun q hq e => ?_)
          rw [e] at hq
          obtain ⟨cur, hc⟩ := ownBlkD h1 hq
          exact hc.ne h3 (by decide) rfl
        · exact h2
    · have hlt' : ¬ (k : Int) < (n : Int) := by omega
      have HR : Hid (goneN fs room = k) := Lib.hid (by rw [HG.out, List.drop_of_length_le (by omega)]; rfl)
      clear c0 c1 c2
      have hj : k ≤ fs.length := by omega
      have HDEL := Lib.hid (fun W (ho : Only (· = p) w W) => dy_delete base (.slice A fs.length c) fs k W (HO.out.only ho (fun q hq e => by
        rw [e] at hq
        obtain ⟨cur, hc⟩ := ownBlkD HO.out hq
        exact hc.ne HB.out (by decide) rfl)) hj)
      rw [hn] at HDEL
      obtain ⟨c0, c1, c2⟩ := HBP.out.c3
      go_upto_region 5 with fail
      go_wp2_with fail
      with_reducible refine (HDEL.out _ HOP.out).mono ?_
      rintro e w3 ⟨v3, rfl, hov, hbv, ho3⟩
      obtain ⟨A3, c3, rfl, _⟩ := hov.slice
      have hne : ∀ q, (Value.slice A n c).ownBlock = some q → ¬ p = q := fun q hq e => by
        rw [← e, ← hn] at hq
        obtain ⟨cur, hc⟩ := ownBlkD HO.out hq
        exact hc.ne HB.out (by decide) rfl
      have hb3 := HBP.out.only ho3 (fun e => hne _ e rfl)
      obtain ⟨c0, c1, c2⟩ := hb3.c3
      have q0 := hb3.frozen 0
      have HF := Lib.hid (And.intro hov (And.intro hbv (And.intro hb3 ((HOP.out.mono (fun i (e : i = p) => (.inl e : i = p ∨ (Value.slice A n c).ownBlock = some i))).trans (ho3.mono (fun i e => .inr e))))))
      clear hov hbv ho3 hne hb3
      go_wp2
      go_ret
      obtain ⟨h1, h2, h3, h4⟩ := HF.out
      subst hn
      refine ⟨by rw [HR.out]; rfl, .slice A3 (fs.length - k) c3, ⟨?_, ?_⟩, ?_, h4.step ⟨p, 0, none⟩ _ (.inl (.inl rfl))⟩
      · rw [HR.out]
        exact h3.set 0 _
      · rw [HR.out, List.length_drop]
        refine h1.only (Only.setCell _ _ _) (fun q hq e => ?_)
        rw [e] at hq
        obtain ⟨cur, hc⟩ := ownBlkD h1 hq
        exact hc.ne h3 (by decide) rfl
      · exact h2
end Go.Proofs.YtginhebfjbhmnaaGreat

/-
  Package dyn: New, Len, Size, Limit, Get, Resize; one field more in a row.
-/
namespace Go.Proofs.YtginhebfjbhmnaaGreat
set_option maxRecDepth 100000
set_option linter.unusedVariables false
set_option linter.unusedSimpArgs false
open Go.RowKit

theorem TabAt.only {S : Nat → Prop} {w w' : World} {base p : Nat} {v : Value} {fs : List FldT} {lim : Int} (h : TabAt w base p v fs lim) (ho : Only S w w') (hp : ¬ S p) (hv : ∀ k, v.ownBlock = some k → ¬ S k) : TabAt w' base p v fs lim :=
  ⟨h.blk.only ho hp, h.own.only ho hv⟩
theorem TabAt.fresh {w w' : World} {base p : Nat} {v : Value} {fs : List FldT} {lim : Int} (h : TabAt w base p v fs lim) (hf : Fresh w w') : TabAt w' base p v fs lim := ⟨h.blk.fresh hf, h.own.fresh hf⟩
theorem TabAt.ne {w : World} {base p : Nat} {v : Value} {fs : List FldT} {lim : Int} (h : TabAt w base p v fs lim) : ∀ k, v.ownBlock = some k → k ≠ p ∧ k < w.heap.size := fun k hk => by
  obtain ⟨cur, hc⟩ := ownBlkD h.own hk
  exact ⟨hc.ne h.blk (by decide), hc.lt⟩
theorem dy_right (lim : Int) (r : Bool) (hr : decide (0 ≤ lim ∧ lim ≤ 65536) = r) (w : World) : Calls Tryz.prog 47 #[.int .i64 lim] w fun e w' => e = .returned (.bool r) ∧ w' = w := by
  by_cases h0 : 0 ≤ lim
  · by_cases h1 : lim ≤ 65536
    · rw [decide_eq_true ⟨h0, h1⟩] at hr
      subst hr
      go_enter Tryz.func47, Tryz.ntmps47
      go_wp2
      go_ret
      exact ⟨rfl, rfl⟩
    · rw [decide_eq_false (fun h => h1 h.2)] at hr
      subst hr
      go_enter Tryz.func47, Tryz.ntmps47
      go_wp2
      go_ret
      exact ⟨rfl, rfl⟩
  · rw [decide_eq_false (fun h => h0 h.1)] at hr
    subst hr
    go_enter Tryz.func47, Tryz.ntmps47
    go_wp2
    go_ret
    exact ⟨rfl, rfl⟩
theorem dy_new_no (lim : Int) (h : lim < 0 ∨ 65536 < lim) (w : World) : Calls Tryz.prog 35 #[.int .i64 lim] w fun e w' => e = .returned (.tuple #[.pointer none, .int .i64 11]) ∧ w' = w := by
  have hr := dy_right lim false (decide_eq_false (by omega)) w
  go_enter Tryz.func35, Tryz.ntmps35
  go_wp2_with fail
  with_reducible refine hr.mono ?_
  rintro e w1 ⟨rfl, rfl⟩
  go_wp2
  go_ret2
  exact ⟨rfl, rfl⟩
theorem dy_new (lim : Int) (h0 : 0 ≤ lim) (h1 : lim ≤ 65536) (w : World) : Calls Tryz.prog 35 #[.int .i64 lim] w fun e w' => ∃ p, e = .returned (.tuple #[.pointer (some ⟨p, 0, none⟩), .int .i64 0]) ∧ w.heap.size ≤ p ∧ (∀ base, TabAt w' base p (.slice none 0 0) [] lim) ∧ Fresh w w' := by
  have hr := dy_right lim true (decide_eq_true ⟨h0, h1⟩) w
  go_enter Tryz.func35, Tryz.ntmps35
  go_wp2_with fail
  with_reducible refine hr.mono ?_
  rintro e w1 ⟨rfl, rfl⟩
  go_wp2
  go_ret2
  exact ⟨_, rfl, Nat.le_refl _, fun base => ⟨Blk.new _ _ _, Own.nil _ _ _ _⟩, Fresh.alloc _ _⟩
section
variable {base p : Nat} {v : Value} {fs : List FldT} {lim : Int} {w : World}
theorem dy_resize_no (n : Int) (h : n < 0 ∨ 65536 < n) : Calls Tryz.prog 86 #[.pointer (some ⟨p, 0, none⟩), .int .i64 n] w fun e w' => e = .returned (.tuple #[.int .i64 0, .int .i64 11]) ∧ w' = w := by
  have hr := dy_right n false (decide_eq_false (by omega)) w
  go_enter Tryz.func86, Tryz.ntmps86
  go_wp2_with fail
  with_reducible refine hr.mono ?_
  rintro e w1 ⟨rfl, rfl⟩
  go_wp2
  go_ret2
  exact ⟨rfl, rfl⟩
theorem dy_resize (n : Int) (h : TabAt w base p v fs lim) (hz : tz fs ≤ 4503599627370496) (h0 : 0 ≤ n) (h1 : n ≤ 65536) : Calls Tryz.prog 86 #[.pointer (some ⟨p, 0, none⟩), .int .i64 n] w fun e w' => e = .returned (.tuple #[.int .i64 (goneN fs n : Int), .int .i64 0]) ∧ ∃ v', TabAt w' base p v' (fs.drop (goneN fs n)) n ∧ v'.ownBlock = v.ownBlock ∧ Only (fun k => k = p ∨ v.ownBlock = some k) w w' := by
  have hr := dy_right n true (decide_eq_true ⟨h0, h1⟩) w
  have H := Lib.hid h
  have HZ := Lib.hid hz
  obtain ⟨c0, c1, c2⟩ := h.blk.c3
  have q2 := h.blk.frozen 2
  clear h hz
  go_enter Tryz.func86, Tryz.ntmps86
  go_wp2_with fail
  with_reducible refine hr.mono ?_
  rintro e w1 ⟨rfl, rfl⟩
  go_upto_region 4 with fail
  have ht : TabAt (w1.setCell ⟨p, 2, none⟩ (.int .i64 n)) base p v fs n := ⟨H.out.blk.set 2 _, H.out.own.only (Only.setCell _ _ _) (fun k hk e => (H.out.ne k hk).1 e)⟩
  have HS := Lib.hid (dy_shrink base p v fs n n _ ht HZ.out)
  clear c0 c1 c2 q2 ht hr
  go_wp2_with fail
  with_reducible refine HS.out.mono ?_
  rintro e w2 ⟨rfl, v2, ht2, hv2, ho2⟩
  have HF := Lib.hid (And.intro ht2 (And.intro hv2 ho2))
  clear ht2 hv2 ho2
  go_wp2
  go_ret2
  exact ⟨rfl, v2, HF.out.1, HF.out.2.1, ((Only.setCell w1 ⟨p, 2, none⟩ (.int .i64 n)).mono (fun i e => .inl e)).trans HF.out.2.2⟩
theorem dy_get_no (i : Int) (h : TabAt w base p v fs lim) (hi : i < 1 ∨ (fs.length : Int) < i) : Calls Tryz.prog 92 #[.pointer (some ⟨p, 0, none⟩), .int .i64 i] w fun e w' => e = .returned (.tuple #[.agg #[.string ByteArray.empty, .string ByteArray.empty], .int .i64 23]) ∧ Fresh w w' := by
  obtain ⟨A, c, rfl, _⟩ := h.own.slice
  obtain ⟨c0, c1, c2⟩ := h.blk.c3
  have hlt := h.blk.lt
  clear h
  by_cases h1 : i < 1
  · go_enter Tryz.func92, Tryz.ntmps92
    go_wp2
    go_returns
    exact ⟨rfl, by repeat (first | with_reducible exact Fresh.refl _ | with_reducible apply Fresh.drewS | with_reducible apply Fresh.allocS)⟩
  · have h2 : (fs.length : Int) < i := by omega
    clear hi
    go_enter Tryz.func92, Tryz.ntmps92
    go_wp2
    go_returns
    exact ⟨rfl, by repeat (first | with_reducible exact Fresh.refl _ | with_reducible apply Fresh.drewS | with_reducible apply Fresh.allocS)⟩
end
theorem fld_push {w : World} {base : Nat} {v : Value} {fs : List FldT} (h : Own w base 62 2 v fs.length (rowD fs)) (hb : base ≤ w.heap.size) (f : FldT) (hn : (fs.length + 1) * 32 ≤ 140737488355328) (g : Nat) (hg : w.heap.size = g) :
    ∃ A' c' w', (Builtin.append_ #[109, 109] 109 #[v, .slice (some ⟨g, 0, none⟩) 1 1]).run Tryz.prog (w.alloc (.cells #[.string f.1, .string f.2] 62)) = .ok (.slice A' (fs.length + 1) c') w' ∧ Own w' base 62 2 (.slice A' (fs.length + 1) c') (fs ++ [f]).length (rowD (fs ++ [f])) ∧ Only (fun k => v.ownBlock = some k) w w' ∧
      (∀ k, (Value.slice A' (fs.length + 1) c').ownBlock = some k → v.ownBlock = some k ∨ w.heap.size < k) := by
  subst hg
  obtain ⟨i, hi, hiz, his, hib⟩ := info_parts fld_info
  obtain ⟨v', w', hr, ho, hgr, _, hat⟩ := run_append_own_at (P := Tryz.prog) (w.alloc (.cells #[.string f.1, .string f.2] 62)) base 109 109 62 i _ 2 32 Tryz.underlying109 hi hiz his hib rfl (by omega) v fs.length _ (h.fresh (Fresh.alloc _ _)) ⟨w.heap.size, 0, none⟩ 1 1 [.string f.1, .string f.2] rfl
    (fun j u hj => by
      rw [add_eq _ _ rfl]
      simp only [Nat.zero_add]
      rw [(Blk.new w 62 #[.string f.1, .string f.2]).cell]
      simpa using hj) (by
    intro u hu
    simp only [List.mem_cons, List.not_mem_nil, or_false] at hu
    rcases hu with rfl | rfl <;> rfl) (by unfold maxLen; omega) hn (by simp; omega)
  obtain ⟨A', c', rfl, _⟩ := Own.slice (show Own w' base _ 2 v' _ _ from ho)
  have hO : Only (fun k => v.ownBlock = some k) (w.alloc (.cells #[.string f.1, .string f.2] 62)) w' := ⟨hgr.os, hgr.tape, hgr.output, hgr.size, fun k hk hne => hgr.block k hk (fun e => hne e.symm)⟩
  have hO2 : Only (fun k => v.ownBlock = some k) w w' := (Only.of_fresh (Fresh.alloc _ _)).trans hO
  refine ⟨A', c', w', hr, ?_, hO2, fun k hk => ?_⟩
  · have : Own w' base 62 2 (.slice A' (fs.length + 1) c') (fs.length + 1) _ := ho
    simpa [rowD, fldD] using this
  · rcases hat with e | e
    · rw [e] at hk; exact .inl hk
    · rw [e] at hk; simp at hk; right; omega
end Go.Proofs.YtginhebfjbhmnaaGreat

/-
  Package dyn: Get, Add.
-/
namespace Go.Proofs.YtginhebfjbhmnaaGreat
set_option maxRecDepth 100000
set_option linter.unusedVariables false
set_option linter.unusedSimpArgs false
open Go.RowKit
section
variable {base p : Nat} {v : Value} {fs : List FldT} {lim : Int} {w : World}
theorem rowD_at {f : FldT} {k : Nat} (hf : fs[k]? = some f) : (rowD fs)[k * 2]? = some (.string f.1) ∧ (rowD fs)[k * 2 + 1]? = some (.string f.2) := by
  obtain ⟨hk, rfl⟩ := List.getElem?_eq_some_iff.1 hf
  have h := rowD_drop fs k
  rw [List.drop_eq_getElem_cons hk] at h
  constructor
  · rw [← Nat.add_zero (k * 2), ← List.getElem?_drop, h]; rfl
  · rw [← List.getElem?_drop, h]; rfl
theorem dy_get (i : Int) (k : Nat) (f : FldT) (h : TabAt w base p v fs lim) (hf : fs[k]? = some f) (hi : i = (fs.length : Int) - (k : Int)) (hm : fs.length ≤ 1000000) : Calls Tryz.prog 92 #[.pointer (some ⟨p, 0, none⟩), .int .i64 i] w fun e w' => e = .returned (.tuple #[.agg #[.string f.1, .string f.2], .int .i64 0]) ∧ Fresh w w' := by
  have hk := (List.getElem?_eq_some_iff.1 hf).1
  rcases h.own.form with ⟨_, h0, _⟩ | ⟨g, c, rfl, hgb, hgl, hnc, hcm, hcell⟩
  · omega
  obtain ⟨hr0, hr1⟩ := rowD_at hf
  have g0 := (hcell (k * 2) (by rw [rowD_length]; omega)).1.trans hr0
  have g1 := (hcell (k * 2 + 1) (by rw [rowD_length]; omega)).1.trans hr1
  obtain ⟨c0, c1, c2⟩ := h.blk.c3
  have hlt := h.blk.lt
  simp only [maxLen] at hcm
  obtain ⟨n, hn⟩ : ∃ n, fs.length = n := ⟨_, rfl⟩
  rw [hn] at hk hi hm c0 hnc
  clear h hcell hr0 hr1 hf hn
  have hw : IntKind.i64.wrap ((n : Int) - i) = (k : Int) := by rw [IntKind.wrap_i64]; omega
  have i1 : ¬ i < 1 := by omega
  have i2 : ¬ (n : Int) < i := by omega
  clear hi
  go_enter Tryz.func92, Tryz.ntmps92
  go_upto_region 3 with fail
  refine wp_gen (fun W => Fresh w W ∧ Blk W w.heap.size 62 #[.string ByteArray.empty, .string ByteArray.empty]) ⟨Fresh.alloc _ _, Blk.new _ _ _⟩ ?_
  rintro W ⟨hf, hb⟩
  have g0 := (hf.cell (p := ⟨g, k * 2, none⟩) hgl).trans g0
  have g1 := (hf.cell (p := ⟨g, k * 2 + 1, none⟩) hgl).trans g1
  have c0 := (hf.cell (p := ⟨p, 0, none⟩) hlt).trans c0
  obtain ⟨r0, r1⟩ := hb.c2
  have q0 := hb.frozen 0
  have q1 := hb.frozen 1
  have HF := Lib.hid hf
  have HB := Lib.hid hb
  clear hf hb c1 c2
  go_region_with fail
  all_goals
    refine wx_gen (fun W' => Fresh w W' ∧ Blk W' w.heap.size 62 #[.string f.1, .string f.2]) ⟨?_, ?_⟩ ?_
    · repeat (first | with_reducible exact HF.out | with_reducible apply Fresh.drewS | with_reducible refine Fresh.step2 (Nat.le_refl _) ?_)
    · first | exact (HB.out.set 0 _).set 1 _ | exact ((HB.out.set 0 _).set 1 _).drew
    clear r0 r1 q0 q1 g0 g1 c0
    rintro W' ⟨hf', hb'⟩
    obtain ⟨r0, r1⟩ := hb'.c2
    have HF' := Lib.hid hf'
    clear hf' hb'
    go_wp2
    refine bodyPost_ret (v := .tuple #[.agg #[.string f.1, .string f.2], .int .i64 0]) (by simp [results, Tryz.results92, go_sem, r0, r1]) rfl ?_
    exact ⟨rfl, HF'.out⟩
end
end Go.Proofs.YtginhebfjbhmnaaGreat

/-
  A region that draws its order, told by values, where what holds of the world hangs on what has come up; what has come up is closed.
-/
namespace Go.Proofs.YtginhebfjbhmnaaGreat
set_option maxRecDepth 100000
set_option linter.unusedVariables false
open Go.RowKit

/-- Whatever has come up, what it waits for has. -/
def Closed (ops : Array Oper) (L : Array Bool) : Prop := ∀ j o, ops[j]? = some o → L.getD j false = true → DepsIn o L
theorem Closed.start (ops : Array Oper) (n : Nat) : Closed ops (Array.replicate n false) := fun j o _ h => by simp [Array.getD] at h
theorem Closed.step {ops : Array Oper} {L : Array Bool} {i : Nat} {o : Oper} (h : Closed ops L) (hi : i < L.size) (ho : ops[i]? = some o) (hd : DepsIn o L) : Closed ops (L.setIfInBounds i true) := by
  intro j o' ho' hl e he hb
  rw [getD_set _ _ _ _ hi]
  by_cases h1 : e.on = i
  · rw [if_pos h1]
  · rw [if_neg h1]
    by_cases h2 : j = i
    · subst h2
      rw [ho] at ho'
      obtain rfl := Option.some.inj ho'
      exact hd e he hb
    · rw [getD_set _ _ _ _ hi, if_neg h2] at hl
      exact h j o' ho' hl e he hb
/-- What came up ahead: if j has come up, and waits for i, i has. -/
def waitsB (ops : Array Oper) (j i : Nat) : Bool := ((ops[j]?).map fun o => o.after.any fun e => e.on == i && Region.binds .any e).getD false
theorem Closed.back {ops : Array Oper} {L : Array Bool} (h : Closed ops L) {j i : Nat} (hw : waitsB ops j i = true) (hl : L.getD j false = true) : L.getD i false = true := by
  unfold waitsB at hw
  cases ho : ops[j]? with
  | none => rw [ho] at hw; simp at hw
  | some o =>
    rw [ho] at hw
    simp only [Option.map_some, Option.getD_some] at hw
    obtain ⟨e, he, hh⟩ := Array.any_eq_true'.1 hw
    simp only [Bool.and_eq_true, beq_iff_eq] at hh
    rw [← hh.1]
    exact h j o ho hl e he hh.2
def AllVC (P : Program) (n : Nat) (ops : Array Oper) (A : Act) (V : Nat → Value) (I : Array Bool → World → Prop) : Nat → List Oper → Prop
  | _, [] => True
  | i, o :: os => (∀ listed w, listed.size = n → Closed ops listed → listed.getD i false = false → DepsIn o listed → I listed w →
      (Region.wanted o (yielded ops A.tmps) = true ∧ StepV P o A.eval (V i) (I (listed.setIfInBounds i true)) w) ∨ (Region.wanted o (yielded ops A.tmps) = false ∧ V i = undef ∧ I (listed.setIfInBounds i true) w)) ∧ AllVC P n ops A V I (i + 1) os
section
variable {P : Program} {n : Nat} {ops : Array Oper} {A : Act} {V : Nat → Value} {I : Array Bool → World → Prop}
theorem AllVC.at : ∀ {l : List Oper} {k i : Nat} {o : Oper}, AllVC P n ops A V I k l → l[i]? = some o → ∀ listed w, listed.size = n → Closed ops listed → listed.getD (k + i) false = false → DepsIn o listed → I listed w →
      (Region.wanted o (yielded ops A.tmps) = true ∧ StepV P o A.eval (V (k + i)) (I (listed.setIfInBounds (k + i) true)) w) ∨ (Region.wanted o (yielded ops A.tmps) = false ∧ V (k + i) = undef ∧ I (listed.setIfInBounds (k + i) true) w)
  | [], _, _, _, _, h => by simp at h
  | x :: l, k, 0, o, h, ho => by
    simp at ho
    subst ho
    exact h.1
  | x :: l, k, i + 1, o, h, ho => by
    have := AllVC.at (i := i) h.2 (by simpa using ho)
    rw [show k + 1 + i = k + (i + 1) by omega] at this
    exact this
theorem wp_region_valsC {Q : Exit → Act → World → Prop} {id : Nat} {a0 : Act} {w : World} (hm : P.follows .mixedOrders = true) (hd : dagB .any ops = true) (ha : apartB ops = true) (hr : readsB ops = true) (hs : Region.noSelect ops = true)
    (V : Nat → Value) (A : Act) (hA : actOf (dstOf ops) a0 V ops.size = A) (I : Array Bool → World → Prop) (h0 : I (Array.replicate ops.size false) w.drew) (hstep : AllVC P ops.size ops A V I 0 ops.toList)
    (hend : ∀ listed w, (∀ i, i < ops.size → listed.getD i false = true) → I listed w → Q .normal A w) : (Code.region id ops true).wp P Q a0 w := by
  refine wp_region_inv hm hd (fun listed a w => ∃ u, a = actOf (dstOf ops) a0 u ops.size ∧ (∀ j, listed.getD j false = true → u j = V j) ∧ Closed ops listed ∧ I listed w) ?_ ?_ ?_
  · refine ⟨fun i => match dstOf ops i with
      | none => undef
      | some d => a0.eval (.tmp d), (actOf_self fun i d _ h => by simp only [h]).symm, fun j h => ?_, Closed.start _ _, h0⟩
    simp [Array.getD] at h
  · rintro listed a w i o hsz ho hf hdep ⟨u, rfl, hu, hC, hI⟩ K hK
    have hi := (Array.getElem?_eq_some_iff.1 ho).1
    have hdo : o.dst = dstOf ops i := by unfold dstOf; rw [ho]; rfl
    have hlk := looks_same (V := V) (a0 := a0) ha hr ho hdep hu
    rw [hA] at hlk
    have hK' : ∀ w', I (listed.setIfInBounds i true) w' → K ((actOf (dstOf ops) a0 u ops.size).put o.dst (V i)) w' := fun w' hI' => hK _ _ ⟨updV u i (V i), by rw [hdo]; exact put_actOf (apart_of ha) hi, updV_listed (by omega) hu, hC.step (by omega) ho hdep, hI'⟩
    rw [same_wanted hlk]
    have hst := AllVC.at (i := i) hstep (by simpa using ho) listed w hsz hC (by rw [Nat.zero_add]; exact getD_tf hf) hdep hI
    rw [Nat.zero_add] at hst
    rcases hst with ⟨hw, hst⟩ | ⟨hw, hv, hI'⟩
    · rw [if_pos hw]
      have hex := same_exec (fun cs b => Region.noSelect_spec hs i o cs b ho) hlk
      unfold Oper.wp
      rw [hex]
      rcases hst with ⟨w', h, hI'⟩ | ⟨w', hv, h, hI'⟩ | ⟨f, args, w', h, hc⟩
      · rw [h]; exact hK' _ hI'
      · rw [h]; rw [hv] at hK'; exact hK' _ hI'
      · rw [h, Oper.upon_enter]
        refine hc.mono fun e w'' hh => ?_
        obtain ⟨rfl, hI'⟩ := hh
        exact hK' _ hI'
    · rw [if_neg (by rw [hw]; exact Bool.false_ne_true)]
      rw [hv] at hK'
      exact hK' _ hI'
  · rintro listed a w hsz hl ⟨u, rfl, hu, _, hI⟩
    rw [show actOf (dstOf ops) a0 u ops.size = A by rw [← hA]; exact actOf_congr fun i hi => hu i (hl i hi)]
    exact hend _ _ hl hI
end
end Go.Proofs.YtginhebfjbhmnaaGreat

