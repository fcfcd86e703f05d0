/-
  Texts laid together: Dyn3 Dyn4 Dyn5 Dyn6.
-/
import Derived.Test.YtapikjhfgcbifaaGreatDoorDynP
import Derived.Test.YtapikjhfgcbifaaGreatDoorValM
import Derived.Deep.Cut
import Derived.Maps.AppendAt
import Derived.Handy
/-
  Package dyn: shrink.
-/
namespace Go.Proofs.YtapikjhfgcbifaaGreatDoor
set_option linter.unusedVariables false
set_option linter.unusedSimpArgs false
open Go.RowKit

theorem dy_size (p : FldT) (w : World) (h : fz p ≤ 4503599627370496) : Calls Tryz.prog 43 #[.agg #[.string p.1, .string p.2]] w fun e w' => e = .returned (.int .i64 (fz p : Int)) ∧ Fresh w w' := by
  obtain ⟨a, b⟩ := p
  unfold fz at h ⊢
  simp only at h ⊢
  have h1 : IntKind.i64.wrap ((a.size : Int) + (b.size : Int)) = (a.size : Int) + (b.size : Int) := by rw [IntKind.wrap_i64]; omega
  have h2 : IntKind.i64.wrap ((a.size : Int) + (b.size : Int) + 32) = (a.size : Int) + (b.size : Int) + 32 := by rw [IntKind.wrap_i64]; omega
  go_enter Tryz.func43, Tryz.ntmps43
  go_wp2
  go_ret
  exact ⟨by simp, by repeat (first | with_reducible exact Fresh.refl _ | with_reducible apply Fresh.drewS | with_reducible apply Fresh.allocS)⟩
theorem ownBlkD {w : World} {base sz n : Nat} {E : TypeId} {v : Value} {xs : List Value} (h : Own w base E sz v n xs) {g : Nat} (hg : v.ownBlock = some g) : ∃ cur, Blk w g E cur := by
  rcases h.2 with ⟨rfl, _⟩ | ⟨g', cap, cur, rfl, _, hh, _⟩
  · cases hg
  · simp [Value.ownBlock] at hg
    subst hg
    exact ⟨cur, hh⟩
theorem goneN_step (fs : List FldT) (room : Int) (k : Nat) (f : FldT) (r : List FldT) (hk : fs.drop k = f :: r) (hr : room < (tz (f :: r) : Int)) (h : goneN fs room = k + goneN (fs.drop k) room) : goneN fs room = (k + 1) + goneN (fs.drop (k + 1)) room ∧ fs.drop (k + 1) = r := by
  have h1 : fs.drop (k + 1) = r := by rw [← List.drop_drop, hk]; rfl
  refine ⟨?_, h1⟩
  rw [h, hk, h1, goneN, if_pos hr]
  omega
theorem goneN_stop (l : List FldT) (room : Int) (h : (tz l : Int) ≤ room) : goneN l room = 0 := by
  cases l with
  | nil => rfl
  | cons f r => rw [goneN, if_neg (by omega)]
set_option maxRecDepth 100000 in
set_option maxHeartbeats 6400000 in
theorem dy_shrink (base p : Nat) (v : Value) (fs : List FldT) (lim room : Int) (w : World) (h : TabAt w base p v fs lim) (hz : tz fs ≤ 4503599627370496) :
    Calls Tryz.prog 101 #[.pointer (some ⟨p, 0, none⟩), .int .i64 room] w fun e w' => e = .returned (.int .i64 (goneN fs room : Int)) ∧ ∃ v', TabAt w' base p v' (fs.drop (goneN fs room)) lim ∧ v'.ownBlock = v.ownBlock ∧ Only (fun k => k = p ∨ v.ownBlock = some k) w w' := by
  obtain ⟨A, c, rfl, hc1, hc2, _⟩ := h.own.slice
  simp only [maxLen] at hc2
  have HB := Lib.hid h.blk
  have HO := Lib.hid h.own
  have HZ := Lib.hid hz
  obtain ⟨n, hn⟩ : ∃ n, fs.length = n := ⟨_, rfl⟩
  clear h
  rw [hn] at hc1
  go_enter Tryz.func101, Tryz.ntmps101
  go_wp2
  go_loopw [5] (fun i wr => ∃ k : Nat, k ≤ n ∧ i = .int .i64 (k : Int) ∧ Blk wr p 92 #[.slice A n c, .int .i64 (tz (fs.drop k) : Int), .int .i64 lim] ∧ Only (· = p) w wr ∧ goneN fs room = k + goneN (fs.drop k) room) (fun i _ => n - (intOf i).toNat)
  case atStart => exact ⟨0, by omega, rfl, by rw [← hn]; exact HB.out, Only.refl _ _, by simp⟩
  case round =>
    obtain ⟨k, hk, rfl, hb, ho, hg⟩ := hrel
    have HBP := Lib.hid hb
    have HOP := Lib.hid ho
    have HG := Lib.hid hg
    obtain ⟨c0, c1, c2⟩ := hb.c3
    clear hb ho hg
    by_cases hlt : k < n
    · have hlt' : (k : Int) < (n : Int) := by omega
      obtain ⟨f, r, hfr⟩ : ∃ f r, fs.drop k = f :: r := by
        cases hd : fs.drop k with
        | nil => have := List.drop_eq_nil_iff.1 hd; omega
        | cons f r => exact ⟨f, r, rfl⟩
      rw [hfr] at c1 HBP
      by_cases hroom : room < (tz (f :: r) : Int)
      · have HR := Lib.hid (goneN_step fs room k f r hfr hroom HG.out)
        go_upto_region 3 with fail
        obtain ⟨g, rfl, hgb, hgl, hgc, _, cur, hcur⟩ := HO.out.pos (by omega)
        have hgp : ¬ g = p := fun e => hcur.ne HB.out (by decide) e
        have hrow : ∀ j, j < n * 2 → wr.cell? ⟨g, j, none⟩ = (rowD fs)[j]? := fun j hj => by
          rcases HO.out.form with ⟨e, _⟩ | ⟨g', cap', e, _, _, _, _, hc⟩
          · cases e
          · injection e with e1 e2 e3
            injection e1 with e1
            injection e1 with e1
            subst e1
            exact (HOP.out.cell (p := ⟨g, j, none⟩) hgl hgp).trans (hc j (by rw [rowD_length, hn]; omega)).1
        have hdr := rowD_drop fs k
        rw [hfr] at hdr
        have hf0 : wr.cell? ⟨g, k * 2, none⟩ = some (.string f.1) := by
          rw [hrow _ (by omega), ← Nat.add_zero (k * 2), ← List.getElem?_drop, hdr]; rfl
        have hf1 : wr.cell? ⟨g, k * 2 + 1, none⟩ = some (.string f.2) := by
          rw [hrow _ (by omega), ← List.getElem?_drop, hdr]; rfl
        have hzr : tz (f :: r) ≤ tz fs := by
          have h1 := tz_append (fs.take k) (fs.drop k)
          rw [List.take_append_drop, hfr] at h1
          omega
        have htc := tz_cons f r
        have HSF : Hid (fz f ≤ 4503599627370496) := Lib.hid (by have := HZ.out; omega)
        have hwr : IntKind.i64.wrap ((tz (f :: r) : Int) - (fz f : Int)) = (tz r : Int) := by have := HZ.out; rw [IntKind.wrap_i64]; omega
        have HGL : Hid (g < wr.heap.size) := Lib.hid (Nat.lt_of_lt_of_le hgl HOP.out.size)
        have HSK : Hid (∀ w3, Fresh wr w3 → Blk w3 p 92 #[.slice (some ⟨g, 0, none⟩) n c, .int .i64 (tz (f :: r) : Int), .int .i64 lim] ∧ w3.cell? ⟨g, k * 2, none⟩ = some (.string f.1) ∧ w3.cell? ⟨g, k * 2 + 1, none⟩ = some (.string f.2)) := Lib.hid (fun w3 hf => ⟨HBP.out.fresh hf, (hf.cell (p := ⟨g, k * 2, none⟩) HGL.out).trans hf0, (hf.cell (p := ⟨g, k * 2 + 1, none⟩) HGL.out).trans hf1⟩)
        have q1 := HBP.out.frozen 1
        clear hrow hdr hzr htc hcur hgb hgc hgl
        go_region_with (go_at_call 43; refine (dy_size f _ HSF.out).mono ?_; rintro e w3 ⟨rfl, hf3⟩; have hf4 : Fresh wr w3 := Fresh.trans (by first | with_reducible exact Fresh.refl _ | with_reducible exact Fresh.drew _) hf3; obtain ⟨b3, hf0, hf1⟩ := HSK.out _ hf4; obtain ⟨c0, c1, c2⟩ := b3.c3; have q1 := b3.frozen 1; clear hf3)
        all_goals
          refine wx_gen (fun W => Blk W p 92 #[.slice (some ⟨g, 0, none⟩) n c, .int .i64 (tz r : Int), .int .i64 lim] ∧ Only (· = p) w W) ⟨b3.set 1 _, (HOP.out.trans (Only.of_fresh hf4)).step ⟨p, 1, none⟩ _ (.inl rfl)⟩ ?_
          clear b3 hf4 c0 c1 c2 q1 hf0 hf1 hwr
          rintro W5 ⟨hb5, ho5⟩
          go_wp2
          go_roundw
          case rel => exact ⟨k + 1, by omega, by go_num, by rw [HR.out.2]; exact hb5, ho5, by rw [HR.out.1]⟩
          case measure => simp [intOf]; omega

      · have HR : Hid (goneN fs room = k) := Lib.hid (by rw [HG.out, hfr, goneN_stop _ _ (by omega)]; rfl)
        rw [← hfr] at HBP
        clear c0 c1 c2
        have hj : k ≤ fs.length := by omega
        have HDEL := Lib.hid (fun W (ho : Only (· = p) w W) => dy_delete base (.slice A fs.length c) fs k W (HO.out.only ho (fun q hq e => by
          rw [e] at hq
          obtain ⟨cur, hc⟩ := ownBlkD HO.out hq
          exact hc.ne HB.out (by decide) rfl)) hj)
        rw [hn] at HDEL
        obtain ⟨c0, c1, c2⟩ := HBP.out.c3
        go_upto_region 5 with fail
        go_wp2_with fail
        with_reducible refine (HDEL.out _ HOP.out).mono ?_
        rintro e w3 ⟨v3, rfl, hov, hbv, ho3⟩
        obtain ⟨A3, c3, rfl, _⟩ := hov.slice
        have hne : ∀ q, (Value.slice A n c).ownBlock = some q → ¬ p = q := fun q hq e => by
          rw [← e, ← hn] at hq
          obtain ⟨cur, hc⟩ := ownBlkD HO.out hq
          exact hc.ne HB.out (by decide) rfl
        have hb3 := HBP.out.only ho3 (fun e => hne _ e rfl)
        obtain ⟨c0, c1, c2⟩ := hb3.c3
        have q0 := hb3.frozen 0
        have HF := Lib.hid (And.intro hov (And.intro hbv (And.intro hb3 ((HOP.out.mono (fun i (e : i = p) => (.inl e : i = p ∨ (Value.slice A n c).ownBlock = some i))).trans (ho3.mono (fun i e => .inr e))))))
        clear hov hbv ho3 hne hb3
        go_wp2
        go_ret
        obtain ⟨h1, h2, h3, h4⟩ := HF.out
        subst hn
        refine ⟨by rw [HR.out]; rfl, .slice A3 (fs.length - k) c3, ⟨?_, ?_⟩, ?_, h4.step ⟨p, 0, none⟩ _ (.inl (.inl rfl))⟩
        · rw [HR.out]
          exact h3.set 0 _
        · rw [HR.out, List.length_drop]
          refine h1.only (Only.setCell _ _ _) (fun q hq e => ?_)
          rw [e] at hq
          obtain ⟨cur, hc⟩ := ownBlkD h1 hq
          exact hc.ne h3 (by decide) rfl
        · exact h2
    · have hlt' : ¬ (k : Int) < (n : Int) := by omega
      have HR : Hid (goneN fs room = k) := Lib.hid (by rw [HG.out, List.drop_of_length_le (by omega)]; rfl)
      clear c0 c1 c2
      have hj : k ≤ fs.length := by omega
      have HDEL := Lib.hid (fun W (ho : Only (· = p) w W) => dy_delete base (.slice A fs.length c) fs k W (HO.out.only ho (fun q hq e => by
        rw [e] at hq
        obtain ⟨cur, hc⟩ := ownBlkD HO.out hq
        exact hc.ne HB.out (by decide) rfl)) hj)
      rw [hn] at HDEL
      obtain ⟨c0, c1, c2⟩ := HBP.out.c3
      go_upto_region 5 with fail
      go_wp2_with fail
      with_reducible refine (HDEL.out _ HOP.out).mono ?_
      rintro e w3 ⟨v3, rfl, hov, hbv, ho3⟩
      obtain ⟨A3, c3, rfl, _⟩ := hov.slice
      have hne : ∀ q, (Value.slice A n c).ownBlock = some q → ¬ p = q := fun q hq e => by
        rw [← e, ← hn] at hq
        obtain ⟨cur, hc⟩ := ownBlkD HO.out hq
        exact hc.ne HB.out (by decide) rfl
      have hb3 := HBP.out.only ho3 (fun e => hne _ e rfl)
      obtain ⟨c0, c1, c2⟩ := hb3.c3
      have q0 := hb3.frozen 0
      have HF := Lib.hid (And.intro hov (And.intro hbv (And.intro hb3 ((HOP.out.mono (fun i (e : i = p) => (.inl e : i = p ∨ (Value.slice A n c).ownBlock = some i))).trans (ho3.mono (fun i e => .inr e))))))
      clear hov hbv ho3 hne hb3
      go_wp2
      go_ret
      obtain ⟨h1, h2, h3, h4⟩ := HF.out
      subst hn
      refine ⟨by rw [HR.out]; rfl, .slice A3 (fs.length - k) c3, ⟨?_, ?_⟩, ?_, h4.step ⟨p, 0, none⟩ _ (.inl (.inl rfl))⟩
      · rw [HR.out]
        exact h3.set 0 _
      · rw [HR.out, List.length_drop]
        refine h1.only (Only.setCell _ _ _) (fun q hq e => ?_)
        rw [e] at hq
        obtain ⟨cur, hc⟩ := ownBlkD h1 hq
        exact hc.ne h3 (by decide) rfl
      · exact h2
end Go.Proofs.YtapikjhfgcbifaaGreatDoor

/-
  Package dyn: New, Len, Size, Limit, Get, Resize; one field more in a row.
-/
namespace Go.Proofs.YtapikjhfgcbifaaGreatDoor
set_option linter.unusedVariables false
set_option linter.unusedSimpArgs false
open Go.RowKit

theorem TabAt.only {S : Nat → Prop} {w w' : World} {base p : Nat} {v : Value} {fs : List FldT} {lim : Int} (h : TabAt w base p v fs lim) (ho : Only S w w') (hp : ¬ S p) (hv : ∀ k, v.ownBlock = some k → ¬ S k) : TabAt w' base p v fs lim :=
  ⟨h.blk.only ho hp, h.own.only ho hv⟩
theorem TabAt.fresh {w w' : World} {base p : Nat} {v : Value} {fs : List FldT} {lim : Int} (h : TabAt w base p v fs lim) (hf : Fresh w w') : TabAt w' base p v fs lim := ⟨h.blk.fresh hf, h.own.fresh hf⟩
theorem TabAt.ne {w : World} {base p : Nat} {v : Value} {fs : List FldT} {lim : Int} (h : TabAt w base p v fs lim) : ∀ k, v.ownBlock = some k → k ≠ p ∧ k < w.heap.size := fun k hk => by
  obtain ⟨cur, hc⟩ := ownBlkD h.own hk
  exact ⟨hc.ne h.blk (by decide), hc.lt⟩
theorem dy_right (lim : Int) (r : Bool) (hr : decide (0 ≤ lim ∧ lim ≤ 65536) = r) (w : World) : Calls Tryz.prog 57 #[.int .i64 lim] w fun e w' => e = .returned (.bool r) ∧ w' = w := by
  by_cases h0 : 0 ≤ lim
  · by_cases h1 : lim ≤ 65536
    · rw [decide_eq_true ⟨h0, h1⟩] at hr
      subst hr
      go_enter Tryz.func57, Tryz.ntmps57
      go_wp2
      go_ret
      exact ⟨rfl, rfl⟩
    · rw [decide_eq_false (fun h => h1 h.2)] at hr
      subst hr
      go_enter Tryz.func57, Tryz.ntmps57
      go_wp2
      go_ret
      exact ⟨rfl, rfl⟩
  · rw [decide_eq_false (fun h => h0 h.1)] at hr
    subst hr
    go_enter Tryz.func57, Tryz.ntmps57
    go_wp2
    go_ret
    exact ⟨rfl, rfl⟩
theorem dy_new_no (lim : Int) (h : lim < 0 ∨ 65536 < lim) (w : World) : Calls Tryz.prog 40 #[.int .i64 lim] w fun e w' => e = .returned (.tuple #[.pointer none, .int .i64 11]) ∧ w' = w := by
  have hr := dy_right lim false (decide_eq_false (by omega)) w
  go_enter Tryz.func40, Tryz.ntmps40
  go_wp2_with fail
  with_reducible refine hr.mono ?_
  rintro e w1 ⟨rfl, rfl⟩
  go_wp2
  go_ret2
  exact ⟨rfl, rfl⟩
theorem dy_new (lim : Int) (h0 : 0 ≤ lim) (h1 : lim ≤ 65536) (w : World) : Calls Tryz.prog 40 #[.int .i64 lim] w fun e w' => ∃ p, e = .returned (.tuple #[.pointer (some ⟨p, 0, none⟩), .int .i64 0]) ∧ w.heap.size ≤ p ∧ (∀ base, TabAt w' base p (.slice none 0 0) [] lim) ∧ Fresh w w' := by
  have hr := dy_right lim true (decide_eq_true ⟨h0, h1⟩) w
  go_enter Tryz.func40, Tryz.ntmps40
  go_wp2_with fail
  with_reducible refine hr.mono ?_
  rintro e w1 ⟨rfl, rfl⟩
  go_wp2
  go_ret2
  exact ⟨_, rfl, Nat.le_refl _, fun base => ⟨Blk.new _ _ _, Own.nil _ _ _ _⟩, Fresh.alloc _ _⟩
section
variable {base p : Nat} {v : Value} {fs : List FldT} {lim : Int} {w : World}
theorem dy_resize_no (n : Int) (h : n < 0 ∨ 65536 < n) : Calls Tryz.prog 83 #[.pointer (some ⟨p, 0, none⟩), .int .i64 n] w fun e w' => e = .returned (.tuple #[.int .i64 0, .int .i64 11]) ∧ w' = w := by
  have hr := dy_right n false (decide_eq_false (by omega)) w
  go_enter Tryz.func83, Tryz.ntmps83
  go_wp2_with fail
  with_reducible refine hr.mono ?_
  rintro e w1 ⟨rfl, rfl⟩
  go_wp2
  go_ret2
  exact ⟨rfl, rfl⟩
theorem dy_resize (n : Int) (h : TabAt w base p v fs lim) (hz : tz fs ≤ 4503599627370496) (h0 : 0 ≤ n) (h1 : n ≤ 65536) : Calls Tryz.prog 83 #[.pointer (some ⟨p, 0, none⟩), .int .i64 n] w fun e w' => e = .returned (.tuple #[.int .i64 (goneN fs n : Int), .int .i64 0]) ∧ ∃ v', TabAt w' base p v' (fs.drop (goneN fs n)) n ∧ v'.ownBlock = v.ownBlock ∧ Only (fun k => k = p ∨ v.ownBlock = some k) w w' := by
  have hr := dy_right n true (decide_eq_true ⟨h0, h1⟩) w
  have H := Lib.hid h
  have HZ := Lib.hid hz
  obtain ⟨c0, c1, c2⟩ := h.blk.c3
  have q2 := h.blk.frozen 2
  clear h hz
  go_enter Tryz.func83, Tryz.ntmps83
  go_wp2_with fail
  with_reducible refine hr.mono ?_
  rintro e w1 ⟨rfl, rfl⟩
  go_upto_region 4 with fail
  have ht : TabAt (w1.setCell ⟨p, 2, none⟩ (.int .i64 n)) base p v fs n := ⟨H.out.blk.set 2 _, H.out.own.only (Only.setCell _ _ _) (fun k hk e => (H.out.ne k hk).1 e)⟩
  have HS := Lib.hid (dy_shrink base p v fs n n _ ht HZ.out)
  clear c0 c1 c2 q2 ht hr
  go_wp2_with fail
  with_reducible refine HS.out.mono ?_
  rintro e w2 ⟨rfl, v2, ht2, hv2, ho2⟩
  have HF := Lib.hid (And.intro ht2 (And.intro hv2 ho2))
  clear ht2 hv2 ho2
  go_wp2
  go_ret2
  exact ⟨rfl, v2, HF.out.1, HF.out.2.1, ((Only.setCell w1 ⟨p, 2, none⟩ (.int .i64 n)).mono (fun i e => .inl e)).trans HF.out.2.2⟩
theorem dy_get_no (i : Int) (h : TabAt w base p v fs lim) (hi : i < 1 ∨ (fs.length : Int) < i) : Calls Tryz.prog 103 #[.pointer (some ⟨p, 0, none⟩), .int .i64 i] w fun e w' => e = .returned (.tuple #[.agg #[.string ByteArray.empty, .string ByteArray.empty], .int .i64 23]) ∧ Fresh w w' := by
  obtain ⟨A, c, rfl, _⟩ := h.own.slice
  obtain ⟨c0, c1, c2⟩ := h.blk.c3
  have hlt := h.blk.lt
  clear h
  by_cases h1 : i < 1
  · go_enter Tryz.func103, Tryz.ntmps103
    go_wp2
    go_returns
    exact ⟨rfl, by repeat (first | with_reducible exact Fresh.refl _ | with_reducible apply Fresh.drewS | with_reducible apply Fresh.allocS)⟩
  · have h2 : (fs.length : Int) < i := by omega
    clear hi
    go_enter Tryz.func103, Tryz.ntmps103
    go_wp2
    go_returns
    exact ⟨rfl, by repeat (first | with_reducible exact Fresh.refl _ | with_reducible apply Fresh.drewS | with_reducible apply Fresh.allocS)⟩
end
theorem fld_push {w : World} {base : Nat} {v : Value} {fs : List FldT} (h : Own w base 29 2 v fs.length (rowD fs)) (hb : base ≤ w.heap.size) (f : FldT) (hn : (fs.length + 1) * 32 ≤ 140737488355328) (g : Nat) (hg : w.heap.size = g) :
    ∃ A' c' w', (Builtin.append_ #[22, 22] 22 #[v, .slice (some ⟨g, 0, none⟩) 1 1]).run Tryz.prog (w.alloc (.cells #[.string f.1, .string f.2] 29)) = .ok (.slice A' (fs.length + 1) c') w' ∧ Own w' base 29 2 (.slice A' (fs.length + 1) c') (fs ++ [f]).length (rowD (fs ++ [f])) ∧ Only (fun k => v.ownBlock = some k) w w' ∧
      (∀ k, (Value.slice A' (fs.length + 1) c').ownBlock = some k → v.ownBlock = some k ∨ w.heap.size < k) := by
  subst hg
  obtain ⟨i, hi, hiz, his, hib⟩ := info_parts fld_info
  obtain ⟨v', w', hr, ho, hgr, _, hat⟩ := run_append_own_at (P := Tryz.prog) (w.alloc (.cells #[.string f.1, .string f.2] 29)) base 22 22 29 i _ 2 32 Tryz.underlying22 hi hiz his hib rfl (by omega) v fs.length _ (h.fresh (Fresh.alloc _ _)) ⟨w.heap.size, 0, none⟩ 1 1 [.string f.1, .string f.2] rfl
    (fun j u hj => by
      rw [add_eq _ _ rfl]
      simp only [Nat.zero_add]
      rw [(Blk.new w 29 #[.string f.1, .string f.2]).cell]
      simpa using hj) (by
    intro u hu
    simp only [List.mem_cons, List.not_mem_nil, or_false] at hu
    rcases hu with rfl | rfl <;> rfl) (by unfold maxLen; omega) hn (by simp; omega)
  obtain ⟨A', c', rfl, _⟩ := Own.slice (show Own w' base _ 2 v' _ _ from ho)
  have hO : Only (fun k => v.ownBlock = some k) (w.alloc (.cells #[.string f.1, .string f.2] 29)) w' := ⟨hgr.os, hgr.tape, hgr.output, hgr.size, fun k hk hne => hgr.block k hk (fun e => hne e.symm)⟩
  have hO2 : Only (fun k => v.ownBlock = some k) w w' := (Only.of_fresh (Fresh.alloc _ _)).trans hO
  refine ⟨A', c', w', hr, ?_, hO2, fun k hk => ?_⟩
  · have : Own w' base 29 2 (.slice A' (fs.length + 1) c') (fs.length + 1) _ := ho
    simpa [rowD, fldD] using this
  · rcases hat with e | e
    · rw [e] at hk; exact .inl hk
    · rw [e] at hk; simp at hk; right; omega
end Go.Proofs.YtapikjhfgcbifaaGreatDoor

/-
  Package dyn: Get, Add.
-/
namespace Go.Proofs.YtapikjhfgcbifaaGreatDoor
set_option linter.unusedVariables false
set_option linter.unusedSimpArgs false
open Go.RowKit
section
variable {base p : Nat} {v : Value} {fs : List FldT} {lim : Int} {w : World}
theorem rowD_at {f : FldT} {k : Nat} (hf : fs[k]? = some f) : (rowD fs)[k * 2]? = some (.string f.1) ∧ (rowD fs)[k * 2 + 1]? = some (.string f.2) := by
  obtain ⟨hk, rfl⟩ := List.getElem?_eq_some_iff.1 hf
  have h := rowD_drop fs k
  rw [List.drop_eq_getElem_cons hk] at h
  constructor
  · rw [← Nat.add_zero (k * 2), ← List.getElem?_drop, h]; rfl
  · rw [← List.getElem?_drop, h]; rfl
theorem dy_get (i : Int) (k : Nat) (f : FldT) (h : TabAt w base p v fs lim) (hf : fs[k]? = some f) (hi : i = (fs.length : Int) - (k : Int)) (hm : fs.length ≤ 1000000) : Calls Tryz.prog 103 #[.pointer (some ⟨p, 0, none⟩), .int .i64 i] w fun e w' => e = .returned (.tuple #[.agg #[.string f.1, .string f.2], .int .i64 0]) ∧ Fresh w w' := by
  have hk := (List.getElem?_eq_some_iff.1 hf).1
  rcases h.own.form with ⟨_, h0, _⟩ | ⟨g, c, rfl, hgb, hgl, hnc, hcm, hcell⟩
  · omega
  obtain ⟨hr0, hr1⟩ := rowD_at hf
  have g0 := (hcell (k * 2) (by rw [rowD_length]; omega)).1.trans hr0
  have g1 := (hcell (k * 2 + 1) (by rw [rowD_length]; omega)).1.trans hr1
  obtain ⟨c0, c1, c2⟩ := h.blk.c3
  have hlt := h.blk.lt
  simp only [maxLen] at hcm
  obtain ⟨n, hn⟩ : ∃ n, fs.length = n := ⟨_, rfl⟩
  rw [hn] at hk hi hm c0 hnc
  clear h hcell hr0 hr1 hf hn
  have hw : IntKind.i64.wrap ((n : Int) - i) = (k : Int) := by rw [IntKind.wrap_i64]; omega
  have i1 : ¬ i < 1 := by omega
  have i2 : ¬ (n : Int) < i := by omega
  clear hi
  go_enter Tryz.func103, Tryz.ntmps103
  go_upto_region 3 with fail
  refine wp_gen (fun W => Fresh w W ∧ Blk W w.heap.size 29 #[.string ByteArray.empty, .string ByteArray.empty]) ⟨Fresh.alloc _ _, Blk.new _ _ _⟩ ?_
  rintro W ⟨hf, hb⟩
  have g0 := (hf.cell (p := ⟨g, k * 2, none⟩) hgl).trans g0
  have g1 := (hf.cell (p := ⟨g, k * 2 + 1, none⟩) hgl).trans g1
  have c0 := (hf.cell (p := ⟨p, 0, none⟩) hlt).trans c0
  obtain ⟨r0, r1⟩ := hb.c2
  have q0 := hb.frozen 0
  have q1 := hb.frozen 1
  have HF := Lib.hid hf
  have HB := Lib.hid hb
  clear hf hb c1 c2
  go_region_with fail
  all_goals
    refine wx_gen (fun W' => Fresh w W' ∧ Blk W' w.heap.size 29 #[.string f.1, .string f.2]) ⟨?_, ?_⟩ ?_
    · repeat (first | with_reducible exact HF.out | with_reducible apply Fresh.drewS | with_reducible refine Fresh.step2 (Nat.le_refl _) ?_)
    · first | exact (HB.out.set 0 _).set 1 _ | exact ((HB.out.set 0 _).set 1 _).drew
    clear r0 r1 q0 q1 g0 g1 c0
    rintro W' ⟨hf', hb'⟩
    obtain ⟨r0, r1⟩ := hb'.c2
    have HF' := Lib.hid hf'
    clear hf' hb'
    go_wp2
    refine bodyPost_ret (v := .tuple #[.agg #[.string f.1, .string f.2], .int .i64 0]) (by simp [results, Tryz.results103, go_sem, r0, r1]) rfl ?_
    exact ⟨rfl, HF'.out⟩
end
end Go.Proofs.YtapikjhfgcbifaaGreatDoor

/-
  Package dyn: Add.
-/
namespace Go.Proofs.YtapikjhfgcbifaaGreatDoor
set_option linter.unusedVariables false
set_option linter.unusedSimpArgs false
open Go.RowKit
def addF (fs : List FldT) (lim : Int) (f : FldT) : List FldT := if (fz f : Int) ≤ lim then fs.drop (goneN fs (lim - fz f)) ++ [f] else fs.drop (goneN fs (lim - fz f))
theorem tz_drop (fs : List FldT) (k : Nat) : tz (fs.drop k) ≤ tz fs := by
  have h := tz_append (fs.take k) (fs.drop k)
  rw [List.take_append_drop] at h
  omega
/-- Behind the beginning: f's box at b, the table as it is by now. -/
structure AdW (w : World) (base p b : Nat) (v : Value) (fs : List FldT) (lim : Int) (f : FldT) (v' : Value) (W : World) : Prop where
  box : Blk W b 29 #[.string f.1, .string f.2]
  tab : TabAt W base p v' fs lim
  own : v'.ownBlock = v.ownBlock
  fr : Only (fun k => k = p ∨ v.ownBlock = some k) w W
theorem AdW.fresh {w W W' : World} {base p b : Nat} {v v' : Value} {fs : List FldT} {lim : Int} {f : FldT} (h : AdW w base p b v fs lim f v' W) (hf : Fresh W W') : AdW w base p b v fs lim f v' W' :=
  ⟨h.box.fresh hf, h.tab.fresh hf, h.own, h.fr.freshS hf⟩
section
variable {base p : Nat} {v : Value} {fs : List FldT} {lim : Int} {w : World}
set_option maxRecDepth 100000 in
set_option maxHeartbeats 6400000 in
theorem dy_add (f : FldT) (h : TabAt w base p v fs lim) (hz : tz fs + fz f ≤ 4503599627370496) (hbase : base ≤ w.heap.size) (h0 : 0 ≤ lim) (h1 : lim ≤ 65536) (hm : fs.length ≤ 1000000) :
    Calls Tryz.prog 86 #[.pointer (some ⟨p, 0, none⟩), .agg #[.string f.1, .string f.2]] w fun e w' => e = .returned (.int .i64 (goneN fs (lim - fz f) : Int)) ∧ ∃ v', TabAt w' base p v' (addF fs lim f) lim ∧ (∀ k, v'.ownBlock = some k → v.ownBlock = some k ∨ w.heap.size ≤ k) ∧ Only (fun k => k = p ∨ v.ownBlock = some k) w w' := by
  have HT := Lib.hid h
  have HZ := Lib.hid hz
  have HBS := Lib.hid hbase
  have HM := Lib.hid hm
  have HSF : Hid (fz f ≤ 4503599627370496) := Lib.hid (by omega)
  have hw1 : IntKind.i64.wrap (lim - (fz f : Int)) = lim - (fz f : Int) := by rw [IntKind.wrap_i64]; omega
  obtain ⟨gn, hgn⟩ : ∃ gn, goneN fs (lim - fz f) = gn := ⟨_, rfl⟩
  have HGN := Lib.hid hgn
  obtain ⟨b, hb⟩ : ∃ b, w.heap.size = b := ⟨_, rfl⟩
  have HB0 := Lib.hid hb
  clear h hz hbase hm
  go_enter Tryz.func86, Tryz.ntmps86
  go_upto_region 1 with fail
  try rw [hb]
  refine wp_gen (AdW w base p b v fs lim f v) ⟨by rw [← hb]; exact Blk.new _ _ _, HT.out.fresh (Fresh.alloc _ _), rfl, Only.of_fresh (Fresh.alloc _ _)⟩ ?_
  rintro W hW
  have HW := Lib.hid hW
  have HSK : Hid (∀ w', Fresh W w' → w'.cell? ⟨p, 2, none⟩ = some (.int .i64 lim) ∧ w'.cell? ⟨b, 0, none⟩ = some (.string f.1) ∧ w'.cell? ⟨b, 1, none⟩ = some (.string f.2)) := Lib.hid (fun w' hf => ⟨(hW.tab.blk.fresh hf).cell 2, (hW.box.fresh hf).cell 0, (hW.box.fresh hf).cell 1⟩)
  have HSH : Hid (∀ w', Fresh W w' → Calls Tryz.prog 101 #[.pointer (some ⟨p, 0, none⟩), .int .i64 (lim - (fz f : Int))] w' fun e w2 => e = .returned (.int .i64 (gn : Int)) ∧ ∃ v', AdW w base p b v (fs.drop gn) lim f v' w2) := Lib.hid (fun w' hf => by
    refine (dy_shrink base p v fs lim (lim - fz f) w' (HW.out.tab.fresh hf) (by have := HZ.out; omega)).mono ?_
    rw [hgn]
    rintro e w2 ⟨rfl, v2, ht, hv, ho⟩
    have hA := HW.out.fresh hf
    refine ⟨rfl, v2, hA.box.only ho ?_, ht, hv, hA.fr.trans ho⟩
    have h3 := HT.out.blk.lt
    have h4 := HB0.out
    rintro (e | e)
    · omega
    · have := (HT.out.ne _ e).2; omega)
  clear hW hgn
  refine wp_region_valsC (by kernel_rfl) (by kernel_rfl) (by kernel_rfl) (by kernel_rfl) (by kernel_rfl) (fun i => ([.pointer (some ⟨p, 0, none⟩), .pointer (some ⟨p, 0, none⟩), .pointer (some ⟨p, 0, none⟩), .pointer (some ⟨p, 2, none⟩), .int .i64 lim, .agg #[.string f.1, .string f.2], .int .i64 (fz f : Int), .int .i64 (lim - (fz f : Int)), .int .i64 (gn : Int), .int .i64 (gn : Int)] : List Value).getD i undef) { tmps := #[.pointer (some ⟨p, 0, none⟩), .agg #[.string f.1, .string f.2], undef, .pointer (some ⟨b, 0, none⟩), .int .i64 0, .int .i64 (gn : Int), .pointer (some ⟨p, 0, none⟩), .pointer (some ⟨p, 0, none⟩), .pointer (some ⟨p, 0, none⟩), .pointer (some ⟨p, 2, none⟩), .int .i64 lim, .agg #[.string f.1, .string f.2], .int .i64 (fz f : Int), .int .i64 (lim - (fz f : Int)), .int .i64 (gn : Int), undef, undef, undef, undef, undef, undef, undef, undef, undef, undef, undef, undef, undef, undef, undef, undef, undef, undef, undef, undef, undef, undef, undef, undef, undef, undef, undef], defers := [] } (by kernel_rfl) (Once 8 (fun w2 => Fresh W w2) (fun w2 => ∃ v2, AdW w base p b v (fs.drop gn) lim f v2 w2)) (Once.start (Fresh.drew _)) ⟨?_, ?_, ?_, ?_, ?_, ?_, ?_, ?_, ?_, ?_, trivial⟩ ?_
  · intro L w2 hs hC hl hD hI
    refine .inl ⟨by kernel_rfl, ?_⟩
    as_aux_lemma =>
      obtain ⟨c2, x0, x1⟩ : w2.cell? ⟨p, 2, none⟩ = some (.int .i64 lim) ∧ w2.cell? ⟨b, 0, none⟩ = some (.string f.1) ∧ w2.cell? ⟨b, 1, none⟩ = some (.string f.2) := hI.any (z := fun w2 => w2.cell? ⟨p, 2, none⟩ = some (.int .i64 lim) ∧ w2.cell? ⟨b, 0, none⟩ = some (.string f.1) ∧ w2.cell? ⟨b, 1, none⟩ = some (.string f.2)) (fun hx => HSK.out _ hx) (fun ⟨v2, hy⟩ => ⟨hy.tab.blk.cell 2, hy.box.cell 0, hy.box.cell 1⟩)
      exact .val _ (by simp [execOp, Act.eval, c2, x0, x1, hw1, go_sem]) (hI.keep hs (by decide) (by decide) id id)
  · intro L w2 hs hC hl hD hI
    refine .inl ⟨by kernel_rfl, ?_⟩
    as_aux_lemma =>
      obtain ⟨c2, x0, x1⟩ : w2.cell? ⟨p, 2, none⟩ = some (.int .i64 lim) ∧ w2.cell? ⟨b, 0, none⟩ = some (.string f.1) ∧ w2.cell? ⟨b, 1, none⟩ = some (.string f.2) := hI.any (z := fun w2 => w2.cell? ⟨p, 2, none⟩ = some (.int .i64 lim) ∧ w2.cell? ⟨b, 0, none⟩ = some (.string f.1) ∧ w2.cell? ⟨b, 1, none⟩ = some (.string f.2)) (fun hx => HSK.out _ hx) (fun ⟨v2, hy⟩ => ⟨hy.tab.blk.cell 2, hy.box.cell 0, hy.box.cell 1⟩)
      exact .val _ (by simp [execOp, Act.eval, c2, x0, x1, hw1, go_sem]) (hI.keep hs (by decide) (by decide) id id)
  · intro L w2 hs hC hl hD hI
    refine .inl ⟨by kernel_rfl, ?_⟩
    as_aux_lemma =>
      obtain ⟨c2, x0, x1⟩ : w2.cell? ⟨p, 2, none⟩ = some (.int .i64 lim) ∧ w2.cell? ⟨b, 0, none⟩ = some (.string f.1) ∧ w2.cell? ⟨b, 1, none⟩ = some (.string f.2) := hI.any (z := fun w2 => w2.cell? ⟨p, 2, none⟩ = some (.int .i64 lim) ∧ w2.cell? ⟨b, 0, none⟩ = some (.string f.1) ∧ w2.cell? ⟨b, 1, none⟩ = some (.string f.2)) (fun hx => HSK.out _ hx) (fun ⟨v2, hy⟩ => ⟨hy.tab.blk.cell 2, hy.box.cell 0, hy.box.cell 1⟩)
      exact .val _ (by simp [execOp, Act.eval, c2, x0, x1, hw1, go_sem]) (hI.keep hs (by decide) (by decide) id id)
  · intro L w2 hs hC hl hD hI
    refine .inl ⟨by kernel_rfl, ?_⟩
    as_aux_lemma =>
      obtain ⟨c2, x0, x1⟩ : w2.cell? ⟨p, 2, none⟩ = some (.int .i64 lim) ∧ w2.cell? ⟨b, 0, none⟩ = some (.string f.1) ∧ w2.cell? ⟨b, 1, none⟩ = some (.string f.2) := hI.any (z := fun w2 => w2.cell? ⟨p, 2, none⟩ = some (.int .i64 lim) ∧ w2.cell? ⟨b, 0, none⟩ = some (.string f.1) ∧ w2.cell? ⟨b, 1, none⟩ = some (.string f.2)) (fun hx => HSK.out _ hx) (fun ⟨v2, hy⟩ => ⟨hy.tab.blk.cell 2, hy.box.cell 0, hy.box.cell 1⟩)
      exact .val _ (by simp [execOp, Act.eval, c2, x0, x1, hw1, go_sem]) (hI.keep hs (by decide) (by decide) id id)
  · intro L w2 hs hC hl hD hI
    refine .inl ⟨by kernel_rfl, ?_⟩
    as_aux_lemma =>
      obtain ⟨c2, x0, x1⟩ : w2.cell? ⟨p, 2, none⟩ = some (.int .i64 lim) ∧ w2.cell? ⟨b, 0, none⟩ = some (.string f.1) ∧ w2.cell? ⟨b, 1, none⟩ = some (.string f.2) := hI.any (z := fun w2 => w2.cell? ⟨p, 2, none⟩ = some (.int .i64 lim) ∧ w2.cell? ⟨b, 0, none⟩ = some (.string f.1) ∧ w2.cell? ⟨b, 1, none⟩ = some (.string f.2)) (fun hx => HSK.out _ hx) (fun ⟨v2, hy⟩ => ⟨hy.tab.blk.cell 2, hy.box.cell 0, hy.box.cell 1⟩)
      exact .val _ (by simp [execOp, Act.eval, c2, x0, x1, hw1, go_sem]) (hI.keep hs (by decide) (by decide) id id)
  · intro L w2 hs hC hl hD hI
    refine .inl ⟨by kernel_rfl, ?_⟩
    as_aux_lemma =>
      obtain ⟨c2, x0, x1⟩ : w2.cell? ⟨p, 2, none⟩ = some (.int .i64 lim) ∧ w2.cell? ⟨b, 0, none⟩ = some (.string f.1) ∧ w2.cell? ⟨b, 1, none⟩ = some (.string f.2) := hI.any (z := fun w2 => w2.cell? ⟨p, 2, none⟩ = some (.int .i64 lim) ∧ w2.cell? ⟨b, 0, none⟩ = some (.string f.1) ∧ w2.cell? ⟨b, 1, none⟩ = some (.string f.2)) (fun hx => HSK.out _ hx) (fun ⟨v2, hy⟩ => ⟨hy.tab.blk.cell 2, hy.box.cell 0, hy.box.cell 1⟩)
      exact .val _ (by simp [execOp, Act.eval, c2, x0, x1, hw1, go_sem]) (hI.keep hs (by decide) (by decide) id id)
  · intro L w2 hs hC hl hD hI
    refine .inl ⟨by kernel_rfl, ?_⟩
    as_aux_lemma =>
      exact .call _ _ w2 (by simp [execOp, Act.eval, go_sem]) ((dy_size f w2 HSF.out).mono fun e w3 h => ⟨h.1, hI.keep hs (by decide) (by decide) (fun hx => hx.trans h.2) (fun ⟨v2, hy⟩ => ⟨v2, hy.fresh h.2⟩)⟩)
  · intro L w2 hs hC hl hD hI
    refine .inl ⟨by kernel_rfl, ?_⟩
    as_aux_lemma =>
      obtain ⟨c2, x0, x1⟩ : w2.cell? ⟨p, 2, none⟩ = some (.int .i64 lim) ∧ w2.cell? ⟨b, 0, none⟩ = some (.string f.1) ∧ w2.cell? ⟨b, 1, none⟩ = some (.string f.2) := hI.any (z := fun w2 => w2.cell? ⟨p, 2, none⟩ = some (.int .i64 lim) ∧ w2.cell? ⟨b, 0, none⟩ = some (.string f.1) ∧ w2.cell? ⟨b, 1, none⟩ = some (.string f.2)) (fun hx => HSK.out _ hx) (fun ⟨v2, hy⟩ => ⟨hy.tab.blk.cell 2, hy.box.cell 0, hy.box.cell 1⟩)
      exact .val _ (by simp [execOp, Act.eval, c2, x0, x1, hw1, go_sem]) (hI.keep hs (by decide) (by decide) id id)
  · intro L w2 hs hC hl hD hI
    refine .inl ⟨by kernel_rfl, ?_⟩
    as_aux_lemma =>
      exact .call _ _ w2 (by simp [execOp, Act.eval, go_sem]) ((HSH.out w2 (hI.ahead hl)).mono fun e w3 h => ⟨h.1, Once.put hs (by decide) h.2⟩)
  · intro L w2 hs hC hl hD hI
    refine .inl ⟨by kernel_rfl, ?_⟩
    as_aux_lemma =>
      obtain ⟨c2, x0, x1⟩ : w2.cell? ⟨p, 2, none⟩ = some (.int .i64 lim) ∧ w2.cell? ⟨b, 0, none⟩ = some (.string f.1) ∧ w2.cell? ⟨b, 1, none⟩ = some (.string f.2) := hI.any (z := fun w2 => w2.cell? ⟨p, 2, none⟩ = some (.int .i64 lim) ∧ w2.cell? ⟨b, 0, none⟩ = some (.string f.1) ∧ w2.cell? ⟨b, 1, none⟩ = some (.string f.2)) (fun hx => HSK.out _ hx) (fun ⟨v2, hy⟩ => ⟨hy.tab.blk.cell 2, hy.box.cell 0, hy.box.cell 1⟩)
      exact .val _ (by simp [execOp, Act.eval, c2, x0, x1, hw1, go_sem]) (hI.keep hs (by decide) (by decide) id id)
  intro L w5 hl hI
  obtain ⟨v5, ha5⟩ := hI.behind (hl 8 (by decide))
  clear hl hI
  refine wx_gen (fun W5 => AdW w base p b v (fs.drop gn) lim f v5 W5) ha5 ?_
  clear HSK HSH HW ha5 L
  intro W5 ha5
  have HA := Lib.hid ha5
  have HSK5 : Hid (∀ w', Fresh W5 w' → w'.cell? ⟨p, 2, none⟩ = some (.int .i64 lim) ∧ w'.cell? ⟨b, 0, none⟩ = some (.string f.1) ∧ w'.cell? ⟨b, 1, none⟩ = some (.string f.2)) := Lib.hid (fun w' hf => ⟨(ha5.tab.blk.fresh hf).cell 2, (ha5.box.fresh hf).cell 0, (ha5.box.fresh hf).cell 1⟩)
  clear ha5
  go_upto_region 2 with fail
  by_cases hfit : (fz f : Int) ≤ lim
  · have HAD : Hid (addF fs lim f = fs.drop gn ++ [f]) := Lib.hid (by unfold addF; rw [if_pos hfit, HGN.out])
    refine wp_region_vals (by kernel_rfl) (by kernel_rfl) (by kernel_rfl) (by kernel_rfl) (by kernel_rfl) (fun i => ([.agg #[.string f.1, .string f.2], .int .i64 (fz f : Int), .pointer (some ⟨p, 0, none⟩), .pointer (some ⟨p, 0, none⟩), .pointer (some ⟨p, 2, none⟩), .int .i64 lim, .bool true] : List Value).getD i undef) { tmps := #[.pointer (some ⟨p, 0, none⟩), .agg #[.string f.1, .string f.2], undef, .pointer (some ⟨b, 0, none⟩), .int .i64 0, .int .i64 (gn : Int), .pointer (some ⟨p, 0, none⟩), .pointer (some ⟨p, 0, none⟩), .pointer (some ⟨p, 0, none⟩), .pointer (some ⟨p, 2, none⟩), .int .i64 lim, .agg #[.string f.1, .string f.2], .int .i64 (fz f : Int), .int .i64 (lim - (fz f : Int)), .int .i64 (gn : Int), .agg #[.string f.1, .string f.2], .int .i64 (fz f : Int), .pointer (some ⟨p, 0, none⟩), .pointer (some ⟨p, 0, none⟩), .pointer (some ⟨p, 2, none⟩), .int .i64 lim, .bool true, undef, undef, undef, undef, undef, undef, undef, undef, undef, undef, undef, undef, undef, undef, undef, undef, undef, undef, undef, undef], defers := [] } (by kernel_rfl) (fun w2 => Fresh W5 w2) (Fresh.drew W5) ⟨?_, ?_, ?_, ?_, ?_, ?_, ?_, trivial⟩ ?_
    · refine .inl ⟨by kernel_rfl, ?_⟩
      as_aux_lemma =>
        intro w2 hf
        obtain ⟨c2, x0, x1⟩ := HSK5.out _ hf
        exact .val _ (by simp [execOp, Act.eval, c2, x0, x1, hfit, go_sem]) hf
    · refine .inl ⟨by kernel_rfl, ?_⟩
      as_aux_lemma =>
        intro w2 hf
        exact .call _ _ w2 (by simp [execOp, Act.eval, go_sem]) ((dy_size f w2 HSF.out).mono fun e w3 h => ⟨h.1, hf.trans h.2⟩)
    · refine .inl ⟨by kernel_rfl, ?_⟩
      as_aux_lemma =>
        intro w2 hf
        obtain ⟨c2, x0, x1⟩ := HSK5.out _ hf
        exact .val _ (by simp [execOp, Act.eval, c2, x0, x1, hfit, go_sem]) hf
    · refine .inl ⟨by kernel_rfl, ?_⟩
      as_aux_lemma =>
        intro w2 hf
        obtain ⟨c2, x0, x1⟩ := HSK5.out _ hf
        exact .val _ (by simp [execOp, Act.eval, c2, x0, x1, hfit, go_sem]) hf
    · refine .inl ⟨by kernel_rfl, ?_⟩
      as_aux_lemma =>
        intro w2 hf
        obtain ⟨c2, x0, x1⟩ := HSK5.out _ hf
        exact .val _ (by simp [execOp, Act.eval, c2, x0, x1, hfit, go_sem]) hf
    · refine .inl ⟨by kernel_rfl, ?_⟩
      as_aux_lemma =>
        intro w2 hf
        obtain ⟨c2, x0, x1⟩ := HSK5.out _ hf
        exact .val _ (by simp [execOp, Act.eval, c2, x0, x1, hfit, go_sem]) hf
    · refine .inl ⟨by kernel_rfl, ?_⟩
      as_aux_lemma =>
        intro w2 hf
        obtain ⟨c2, x0, x1⟩ := HSK5.out _ hf
        exact .val _ (by simp [execOp, Act.eval, c2, x0, x1, hfit, go_sem]) hf
    intro w6 hf
    refine wx_gen (fun W6 => AdW w base p b v (fs.drop gn) lim f v5 W6) (HA.out.fresh hf) ?_
    clear hf HSK5 HA
    intro W6 ha6
    have HA6 := Lib.hid ha6
    obtain ⟨A5, cc5, rfl, _⟩ := ha6.tab.own.slice
    obtain ⟨A7, c7, w7, hap, hO7, hF7, hat7⟩ := fld_push (w := W6.drew) (ha6.tab.own.fresh (Fresh.drew _)) (by have := ha6.fr.size; have := HBS.out; show base ≤ W6.heap.size; omega) f (by have := HM.out; rw [List.length_drop]; omega) W6.heap.size rfl
    have hne : ∀ q, (Value.slice A5 (fs.drop gn).length cc5).ownBlock = some q → ¬ p = q := fun q hq e => (ha6.tab.ne q hq).1 e.symm
    have hb7 := (ha6.tab.blk.drew).only hF7 (fun e => hne _ e rfl)
    have hown := ha6.own
    have hbx : Blk w7 b 29 #[.string f.1, .string f.2] := (ha6.box.drew).only hF7 (fun e => by
      have e' : (Value.slice A5 (fs.drop gn).length cc5).ownBlock = some b := e
      rw [hown] at e'
      have := (HT.out.ne _ e').2
      have := HB0.out
      omega)
    have hfr : Only (fun k => k = p ∨ v.ownBlock = some k) w w7 := (ha6.fr.drewS).trans' hF7 (fun i hi e => by
      have e' : (Value.slice A5 (fs.drop gn).length cc5).ownBlock = some i := e
      rw [hown] at e'
      exact .inr e')
    have hat : ∀ k, (Value.slice A7 ((fs.drop gn).length + 1) c7).ownBlock = some k → v.ownBlock = some k ∨ w.heap.size ≤ k := fun k hk => by
      rcases hat7 k hk with h | h
      · left; rw [← hown]; exact h
      · right; have h1 := ha6.fr.size; have h2 : W6.heap.size < k := h; omega
    have hap' : (Builtin.append_ #[22, 22] 22 #[.slice A5 (fs.drop gn).length cc5, .slice (some ⟨W6.heap.size, 0, none⟩) 1 1]).run Tryz.prog (W6.alloc (.cells #[.string f.1, .string f.2] 29)).drew = .ok (.slice A7 ((fs.drop gn).length + 1) c7) w7 := hap
    have c0 : W6.cell? ⟨p, 0, none⟩ = some (.slice A5 (fs.drop gn).length cc5) := ha6.tab.blk.cell 0
    have hpl := ha6.tab.blk.lt
    have hbl := ha6.box.lt
    obtain ⟨x0, x1⟩ := ha6.box.c2
    obtain ⟨n2, hn2⟩ : ∃ n2, (fs.drop gn).length = n2 := ⟨_, rfl⟩
    have hn3 : (fs.drop gn ++ [f]).length = n2 + 1 := by rw [List.length_append, hn2]; rfl
    rw [hn2] at hap' c0 hb7 hO7 hat
    rw [hn3] at hO7
    have HN3 := Lib.hid hn3
    have c7_0 : w7.cell? ⟨p, 0, none⟩ = some (.slice A5 n2 cc5) := hb7.cell 0
    have q7_0 := hb7.frozen 0
    have HB7 := Lib.hid hb7
    have HX := Lib.hid (And.intro hO7 (And.intro hbx (And.intro hfr hat)))
    clear ha6 hap hO7 hF7 hat7 hne hb7 hbx hfr hat hown hn3
    obtain ⟨hs6, hhs6⟩ : ∃ z, W6.heap.size = z := ⟨_, rfl⟩
    rw [hhs6] at hap' hpl hbl
    have HFIT := Lib.hid hfit
    clear hn2 hfit
    go_upto_region 3 with fail
    go_region_law (with_reducible refine step_app rfl (.tmp 26) (.tmp 28) _ rfl hap' rfl (by simp [Act.eval, Act.put]) (by simp [Act.eval, Act.put]) ?_)
    all_goals
      refine wx_gen (fun W8 => Blk W8 p 92 #[.slice A7 (n2 + 1) c7, .int .i64 (tz (fs.drop gn) : Int), .int .i64 lim] ∧ Own W8 base 29 2 (.slice A7 (n2 + 1) c7) (n2 + 1) (rowD (fs.drop gn ++ [f])) ∧ Blk W8 b 29 #[.string f.1, .string f.2] ∧ Only (fun k => k = p ∨ v.ownBlock = some k) w W8) ?_ ?_
      focus
        obtain ⟨hO7, hbx, hfr, hat⟩ := HX.out
        have hb7 := HB7.out
        refine ⟨hb7.set 0 _, hO7.only (Only.setCell _ _ _) (fun q hq e => ?_), hbx.far (fun e => hbx.ne hb7 (by decide) e) _, hfr.step ⟨p, 0, none⟩ _ (.inl (.inl rfl))⟩
        obtain ⟨cur, hc⟩ := ownBlkD hO7 hq
        exact hc.ne hb7 (by decide) e
      have HAT := Lib.hid HX.out.2.2.2
      clear hap' c7_0 q7_0 c0 x0 x1 HB7 HX HA6 hpl hbl hhs6
      rintro W8 ⟨p1, p2, p3, p4⟩
      have HP1 := Lib.hid p1
      have HP2 := Lib.hid p2
      have HP3 := Lib.hid p3
      have HP4 := Lib.hid p4
      have HBP : Hid (¬ b = p) := Lib.hid (fun e => p3.ne p1 (by decide) e)
      have hw2 : IntKind.i64.wrap ((tz (fs.drop gn) : Int) + (fz f : Int)) = (tz (fs.drop gn) : Int) + (fz f : Int) := by have := HZ.out; have := tz_drop fs gn; rw [IntKind.wrap_i64]; omega
      clear p1 p2 p3 p4
      go_upto_region 4 with fail
      refine wp_region_valsC (by kernel_rfl) (by kernel_rfl) (by kernel_rfl) (by kernel_rfl) (by kernel_rfl) (fun i => ([.pointer (some ⟨p, 0, none⟩), .pointer (some ⟨p, 0, none⟩), .pointer (some ⟨p, 1, none⟩), .int .i64 (tz (fs.drop gn) : Int), .agg #[.string f.1, .string f.2], .int .i64 (fz f : Int), .int .i64 ((tz (fs.drop gn) : Int) + (fz f : Int)), .pointer (some ⟨p, 0, none⟩), .pointer (some ⟨p, 1, none⟩), undef] : List Value).getD i undef) { tmps := #[.pointer (some ⟨p, 0, none⟩), .agg #[.string f.1, .string f.2], undef, .pointer (some ⟨b, 0, none⟩), .int .i64 0, .int .i64 (gn : Int), .pointer (some ⟨p, 0, none⟩), .pointer (some ⟨p, 0, none⟩), .pointer (some ⟨p, 0, none⟩), .pointer (some ⟨p, 2, none⟩), .int .i64 lim, .agg #[.string f.1, .string f.2], .int .i64 (fz f : Int), .int .i64 (lim - (fz f : Int)), .int .i64 (gn : Int), .agg #[.string f.1, .string f.2], .int .i64 (fz f : Int), .pointer (some ⟨p, 0, none⟩), .pointer (some ⟨p, 0, none⟩), .pointer (some ⟨p, 2, none⟩), .int .i64 lim, .bool true, .pointer (some ⟨p, 0, none⟩), .pointer (some ⟨p, 0, none⟩), .pointer (some ⟨p, 0, none⟩), .pointer (some ⟨p, 0, none⟩), .slice A5 n2 cc5, .agg #[.string f.1, .string f.2], .slice (some ⟨hs6, 0, none⟩) 1 1, .slice A7 (n2 + 1) c7, .pointer (some ⟨p, 0, none⟩), .pointer (some ⟨p, 0, none⟩), .pointer (some ⟨p, 0, none⟩), .pointer (some ⟨p, 0, none⟩), .pointer (some ⟨p, 1, none⟩), .int .i64 (tz (fs.drop gn) : Int), .agg #[.string f.1, .string f.2], .int .i64 (fz f : Int), .int .i64 ((tz (fs.drop gn) : Int) + (fz f : Int)), .pointer (some ⟨p, 0, none⟩), .pointer (some ⟨p, 1, none⟩), undef], defers := [] } (by kernel_rfl) (Once 9 (fun w2 => Fresh W8 w2) (fun w2 => Only (· = p) W8 w2 ∧ Blk w2 p 92 #[.slice A7 (n2 + 1) c7, .int .i64 ((tz (fs.drop gn) : Int) + (fz f : Int)), .int .i64 lim])) (Once.start (Fresh.drew _)) ⟨?_, ?_, ?_, ?_, ?_, ?_, ?_, ?_, ?_, ?_, trivial⟩ ?_
      · intro L w2 hs hC hl hD hI
        refine .inl ⟨by kernel_rfl, ?_⟩
        as_aux_lemma =>
          exact .val _ (by simp [execOp, Act.eval, hw2, go_sem]) (hI.keep hs (by decide) (by decide) id id)
      · intro L w2 hs hC hl hD hI
        refine .inl ⟨by kernel_rfl, ?_⟩
        as_aux_lemma =>
          exact .val _ (by simp [execOp, Act.eval, hw2, go_sem]) (hI.keep hs (by decide) (by decide) id id)
      · intro L w2 hs hC hl hD hI
        refine .inl ⟨by kernel_rfl, ?_⟩
        as_aux_lemma =>
          exact .val _ (by simp [execOp, Act.eval, hw2, go_sem]) (hI.keep hs (by decide) (by decide) id id)
      · intro L w2 hs hC hl hD hI
        refine .inl ⟨by kernel_rfl, ?_⟩
        as_aux_lemma =>
          have h9 : L.getD 9 false = false := by
            cases h : L.getD 9 false with
            | false => rfl
            | true => exact absurd (hC.back (j := 6) (i := 3) (by kernel_rfl) (hC.back (j := 9) (i := 6) (by kernel_rfl) h)) (by rw [hl]; exact Bool.false_ne_true)
          exact .val _ (by simp [execOp, Act.eval, (HP1.out.fresh (hI.ahead h9)).cell 1, go_sem]) (hI.keep hs (by decide) (by decide) id id)
      · intro L w2 hs hC hl hD hI
        refine .inl ⟨by kernel_rfl, ?_⟩
        as_aux_lemma =>
          have hx : Blk w2 b 29 #[.string f.1, .string f.2] := hI.any (z := fun w2 => Blk w2 b 29 #[.string f.1, .string f.2]) (fun hx => HP3.out.fresh hx) (fun hy => HP3.out.only hy.1 HBP.out)
          exact .val _ (by simp [execOp, Act.eval, hx.cell 0, hx.cell 1, go_sem]) (hI.keep hs (by decide) (by decide) id id)
      · intro L w2 hs hC hl hD hI
        refine .inl ⟨by kernel_rfl, ?_⟩
        as_aux_lemma =>
          exact .call _ _ w2 (by simp [execOp, Act.eval, go_sem]) ((dy_size f w2 HSF.out).mono fun e w3 h => ⟨h.1, hI.keep hs (by decide) (by decide) (fun hx => hx.trans h.2) (fun hy => ⟨hy.1.freshS h.2, hy.2.fresh h.2⟩)⟩)
      · intro L w2 hs hC hl hD hI
        refine .inl ⟨by kernel_rfl, ?_⟩
        as_aux_lemma =>
          exact .val _ (by simp [execOp, Act.eval, hw2, go_sem]) (hI.keep hs (by decide) (by decide) id id)
      · intro L w2 hs hC hl hD hI
        refine .inl ⟨by kernel_rfl, ?_⟩
        as_aux_lemma =>
          exact .val _ (by simp [execOp, Act.eval, hw2, go_sem]) (hI.keep hs (by decide) (by decide) id id)
      · intro L w2 hs hC hl hD hI
        refine .inl ⟨by kernel_rfl, ?_⟩
        as_aux_lemma =>
          exact .val _ (by simp [execOp, Act.eval, hw2, go_sem]) (hI.keep hs (by decide) (by decide) id id)
      · intro L w2 hs hC hl hD hI
        refine .inl ⟨by kernel_rfl, ?_⟩
        as_aux_lemma =>
          have hx := hI.ahead hl
          have hb := HP1.out.fresh hx
          exact .skip (w2.setCell ⟨p, 1, none⟩ (.int .i64 ((tz (fs.drop gn) : Int) + (fz f : Int)))) rfl (by simp [execOp, Act.eval, hb.cell 1, hb.frozen 1, go_sem]) (Once.put hs (by decide) ⟨(Only.of_fresh hx : Only (· = p) W8 w2).step ⟨p, 1, none⟩ _ (.inl rfl), hb.set 1 _⟩)
      intro L w9 hl hI
      have HY := Lib.hid (hI.behind (hl 9 (by decide)))
      clear hl hI
      go_wp2
      go_ret
      rw [HAD.out]
      refine ⟨by rw [HGN.out]; rfl, .slice A7 (n2 + 1) c7, ⟨?_, ?_⟩, ?_, HP4.out.trans (HY.out.1.mono (fun i e => .inl e))⟩
      · have h := HY.out.2
        rw [show tz (fs.drop gn ++ [f]) = tz (fs.drop gn) + fz f by rw [tz_append]; simp [tz]]
        simpa using h
      · rw [HN3.out]
        refine HP2.out.only HY.out.1 (fun q hq e => ?_)
        obtain ⟨cur, hc⟩ := ownBlkD HP2.out hq
        exact hc.ne HP1.out (by decide) e
      · intro k hk
        have h := HAT.out k hk
        have := HB0.out
        rcases h with h | h
        · exact .inl h
        · right; omega
  · have hgt : ¬ (fz f : Int) ≤ lim := hfit
    have HAD : Hid (addF fs lim f = fs.drop gn) := Lib.hid (by unfold addF; rw [if_neg hfit, HGN.out])
    refine wp_region_vals (by kernel_rfl) (by kernel_rfl) (by kernel_rfl) (by kernel_rfl) (by kernel_rfl) (fun i => ([.agg #[.string f.1, .string f.2], .int .i64 (fz f : Int), .pointer (some ⟨p, 0, none⟩), .pointer (some ⟨p, 0, none⟩), .pointer (some ⟨p, 2, none⟩), .int .i64 lim, .bool false] : List Value).getD i undef) { tmps := #[.pointer (some ⟨p, 0, none⟩), .agg #[.string f.1, .string f.2], undef, .pointer (some ⟨b, 0, none⟩), .int .i64 0, .int .i64 (gn : Int), .pointer (some ⟨p, 0, none⟩), .pointer (some ⟨p, 0, none⟩), .pointer (some ⟨p, 0, none⟩), .pointer (some ⟨p, 2, none⟩), .int .i64 lim, .agg #[.string f.1, .string f.2], .int .i64 (fz f : Int), .int .i64 (lim - (fz f : Int)), .int .i64 (gn : Int), .agg #[.string f.1, .string f.2], .int .i64 (fz f : Int), .pointer (some ⟨p, 0, none⟩), .pointer (some ⟨p, 0, none⟩), .pointer (some ⟨p, 2, none⟩), .int .i64 lim, .bool false, undef, undef, undef, undef, undef, undef, undef, undef, undef, undef, undef, undef, undef, undef, undef, undef, undef, undef, undef, undef], defers := [] } (by kernel_rfl) (fun w2 => Fresh W5 w2) (Fresh.drew W5) ⟨?_, ?_, ?_, ?_, ?_, ?_, ?_, trivial⟩ ?_
    · refine .inl ⟨by kernel_rfl, ?_⟩
      as_aux_lemma =>
        intro w2 hf
        obtain ⟨c2, x0, x1⟩ := HSK5.out _ hf
        exact .val _ (by simp [execOp, Act.eval, c2, x0, x1, hfit, go_sem]) hf
    · refine .inl ⟨by kernel_rfl, ?_⟩
      as_aux_lemma =>
        intro w2 hf
        exact .call _ _ w2 (by simp [execOp, Act.eval, go_sem]) ((dy_size f w2 HSF.out).mono fun e w3 h => ⟨h.1, hf.trans h.2⟩)
    · refine .inl ⟨by kernel_rfl, ?_⟩
      as_aux_lemma =>
        intro w2 hf
        obtain ⟨c2, x0, x1⟩ := HSK5.out _ hf
        exact .val _ (by simp [execOp, Act.eval, c2, x0, x1, hfit, go_sem]) hf
    · refine .inl ⟨by kernel_rfl, ?_⟩
      as_aux_lemma =>
        intro w2 hf
        obtain ⟨c2, x0, x1⟩ := HSK5.out _ hf
        exact .val _ (by simp [execOp, Act.eval, c2, x0, x1, hfit, go_sem]) hf
    · refine .inl ⟨by kernel_rfl, ?_⟩
      as_aux_lemma =>
        intro w2 hf
        obtain ⟨c2, x0, x1⟩ := HSK5.out _ hf
        exact .val _ (by simp [execOp, Act.eval, c2, x0, x1, hfit, go_sem]) hf
    · refine .inl ⟨by kernel_rfl, ?_⟩
      as_aux_lemma =>
        intro w2 hf
        obtain ⟨c2, x0, x1⟩ := HSK5.out _ hf
        exact .val _ (by simp [execOp, Act.eval, c2, x0, x1, hfit, go_sem]) hf
    · refine .inl ⟨by kernel_rfl, ?_⟩
      as_aux_lemma =>
        intro w2 hf
        obtain ⟨c2, x0, x1⟩ := HSK5.out _ hf
        exact .val _ (by simp [execOp, Act.eval, c2, x0, x1, hfit, go_sem]) hf
    intro w6 hf
    refine wx_gen (fun W6 => AdW w base p b v (fs.drop gn) lim f v5 W6) (HA.out.fresh hf) ?_
    clear hf HSK5 HA
    intro W6 ha6
    have HA6 := Lib.hid ha6
    clear ha6
    go_wp2
    go_ret
    rw [HAD.out]
    exact ⟨by rw [HGN.out]; rfl, v5, HA6.out.tab, fun k hk => .inl (by rw [← HA6.out.own]; exact hk), HA6.out.fr⟩
end
end Go.Proofs.YtapikjhfgcbifaaGreatDoor

