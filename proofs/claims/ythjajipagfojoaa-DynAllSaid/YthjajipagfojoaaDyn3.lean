/-
  Package dyn: shrink.
-/
import Derived.Test.YthjajipagfojoaaDyn2
import Derived.Test.YthjajipagfojoaaVal2
import Derived.Deep.Cut
namespace Go.Proofs.Ythjajipagfojoaa
set_option linter.unusedVariables false
set_option linter.unusedSimpArgs false
open Go.RowKit

theorem dy_size (p : FldT) (w : World) (h : fz p ≤ 4503599627370496) : Calls Try.prog 22 #[.agg #[.string p.1, .string p.2]] w fun e w' => e = .returned (.int .i64 (fz p : Int)) ∧ Fresh w w' := by
  obtain ⟨a, b⟩ := p
  unfold fz at h ⊢
  simp only at h ⊢
  have h1 : IntKind.i64.wrap ((a.size : Int) + (b.size : Int)) = (a.size : Int) + (b.size : Int) := by rw [IntKind.wrap_i64]; omega
  have h2 : IntKind.i64.wrap ((a.size : Int) + (b.size : Int) + 32) = (a.size : Int) + (b.size : Int) + 32 := by rw [IntKind.wrap_i64]; omega
  go_enter Try.func22, Try.ntmps22
  go_wp2
  go_ret
  exact ⟨by simp, by repeat (first | with_reducible exact Fresh.refl _ | with_reducible apply Fresh.drewS | with_reducible apply Fresh.allocS)⟩
theorem ownBlkD {w : World} {base sz n : Nat} {E : TypeId} {v : Value} {xs : List Value} (h : Own w base E sz v n xs) {g : Nat} (hg : v.ownBlock = some g) : ∃ cur, Blk w g E cur := by
  rcases h.2 with ⟨rfl, _⟩ | ⟨g', cap, cur, rfl, _, hh, _⟩
  · cases hg
  · simp [Value.ownBlock] at hg
    subst hg
    exact ⟨cur, hh⟩
theorem goneN_step (fs : List FldT) (room : Int) (k : Nat) (f : FldT) (r : List FldT) (hk : fs.drop k = f :: r) (hr : room < (tz (f :: r) : Int)) (h : goneN fs room = k + goneN (fs.drop k) room) : goneN fs room = (k + 1) + goneN (fs.drop (k + 1)) room ∧ fs.drop (k + 1) = r := by
  have h1 : fs.drop (k + 1) = r := by rw [← List.drop_drop, hk]; rfl
  refine ⟨?_, h1⟩
  rw [h, hk, h1, goneN, if_pos hr]
  omega
theorem goneN_stop (l : List FldT) (room : Int) (h : (tz l : Int) ≤ room) : goneN l room = 0 := by
  cases l with
  | nil => rfl
  | cons f r => rw [goneN, if_neg (by omega)]
set_option maxRecDepth 100000 in
set_option maxHeartbeats 6400000 in
theorem dy_shrink (base p : Nat) (v : Value) (fs : List FldT) (lim room : Int) (w : World) (h : TabAt w base p v fs lim) (hz : tz fs ≤ 4503599627370496) :
    Calls Try.prog 32 #[.pointer (some ⟨p, 0, none⟩), .int .i64 room] w fun e w' => e = .returned (.int .i64 (goneN fs room : Int)) ∧ ∃ v', TabAt w' base p v' (fs.drop (goneN fs room)) lim ∧ v'.ownBlock = v.ownBlock ∧ Only (fun k => k = p ∨ v.ownBlock = some k) w w' := by
  obtain ⟨A, c, rfl, hc1, hc2, _⟩ := h.own.slice
  simp only [maxLen] at hc2
  have HB := Lib.hid h.blk
  have HO := Lib.hid h.own
  have HZ := Lib.hid hz
  obtain ⟨n, hn⟩ : ∃ n, fs.length = n := ⟨_, rfl⟩
  clear h
  rw [hn] at hc1
  go_enter Try.func32, Try.ntmps32
  go_wp2
  go_loopw [5] (fun i wr => ∃ k : Nat, k ≤ n ∧ i = .int .i64 (k : Int) ∧ Blk wr p 60 #[.slice A n c, .int .i64 (tz (fs.drop k) : Int), .int .i64 lim] ∧ Only (· = p) w wr ∧ goneN fs room = k + goneN (fs.drop k) room) (fun i _ => n - (intOf i).toNat)
  case atStart => exact ⟨0, by omega, rfl, by rw [← hn]; exact HB.out, Only.refl _ _, by simp⟩
  case round =>
    obtain ⟨k, hk, rfl, hb, ho, hg⟩ := hrel
    have HBP := Lib.hid hb
    have HOP := Lib.hid ho
    have HG := Lib.hid hg
    obtain ⟨c0, c1, c2⟩ := hb.c3
    clear hb ho hg
    by_cases hlt : k < n
    · have hlt' : (k : Int) < (n : Int) := by omega
      obtain ⟨f, r, hfr⟩ : ∃ f r, fs.drop k = f :: r := by
        cases hd : fs.drop k with
        | nil => have := List.drop_eq_nil_iff.1 hd; omega
        | cons f r => exact ⟨f, r, rfl⟩
      rw [hfr] at c1 HBP
      by_cases hroom : room < (tz (f :: r) : Int)
      · have HR := Lib.hid (goneN_step fs room k f r hfr hroom HG.out)
        go_upto_region 3 with fail
        obtain ⟨g, rfl, hgb, hgl, hgc, _, cur, hcur⟩ := HO.out.pos (by omega)
        have hgp : ¬ g = p := fun e => hcur.ne HB.out (by decide) e
        have hrow : ∀ j, j < n * 2 → wr.cell? ⟨g, j, none⟩ = (rowD fs)[j]? := fun j hj => by
          rcases HO.out.form with ⟨e, _⟩ | ⟨g', cap', e, _, _, _, _, hc⟩
          · cases e
          · injection e with e1 e2 e3
            injection e1 with e1
            injection e1 with e1
            subst e1
            exact (HOP.out.cell (p := ⟨g, j, none⟩) hgl hgp).trans (hc j (by rw [rowD_length, hn]; omega)).1
        have hdr := rowD_drop fs k
        rw [hfr] at hdr
        have hf0 : wr.cell? ⟨g, k * 2, none⟩ = some (.string f.1) := by
          rw [hrow _ (by omega), ← Nat.add_zero (k * 2), ← List.getElem?_drop, hdr]; rfl
        have hf1 : wr.cell? ⟨g, k * 2 + 1, none⟩ = some (.string f.2) := by
          rw [hrow _ (by omega), ← List.getElem?_drop, hdr]; rfl
        have hzr : tz (f :: r) ≤ tz fs := by
          have h1 := tz_append (fs.take k) (fs.drop k)
          rw [List.take_append_drop, hfr] at h1
          omega
        have htc := tz_cons f r
        have HSF : Hid (fz f ≤ 4503599627370496) := Lib.hid (by have := HZ.out; omega)
        have hwr : IntKind.i64.wrap ((tz (f :: r) : Int) - (fz f : Int)) = (tz r : Int) := by have := HZ.out; rw [IntKind.wrap_i64]; omega
        have HGL : Hid (g < wr.heap.size) := Lib.hid (Nat.lt_of_lt_of_le hgl HOP.out.size)
        have HSK : Hid (∀ w3, Fresh wr w3 → Blk w3 p 60 #[.slice (some ⟨g, 0, none⟩) n c, .int .i64 (tz (f :: r) : Int), .int .i64 lim] ∧ w3.cell? ⟨g, k * 2, none⟩ = some (.string f.1) ∧ w3.cell? ⟨g, k * 2 + 1, none⟩ = some (.string f.2)) := Lib.hid (fun w3 hf => ⟨HBP.out.fresh hf, (hf.cell (p := ⟨g, k * 2, none⟩) HGL.out).trans hf0, (hf.cell (p := ⟨g, k * 2 + 1, none⟩) HGL.out).trans hf1⟩)
        have q1 := HBP.out.frozen 1
        clear hrow hdr hzr htc hcur hgb hgc hgl
        go_region_with (go_at_call 22; refine (dy_size f _ HSF.out).mono ?_; rintro e w3 ⟨rfl, hf3⟩; have hf4 : Fresh wr w3 := Fresh.trans (by first | with_reducible exact Fresh.refl _ | with_reducible exact Fresh.drew _) hf3; obtain ⟨b3, hf0, hf1⟩ := HSK.out _ hf4; obtain ⟨c0, c1, c2⟩ := b3.c3; have q1 := b3.frozen 1; clear hf3)
        all_goals
          refine wx_gen (fun W => Blk W p 60 #[.slice (some ⟨g, 0, none⟩) n c, .int .i64 (tz r : Int), .int .i64 lim] ∧ Only (· = p) w W) ⟨b3.set 1 _, (HOP.out.trans (Only.of_fresh hf4)).step ⟨p, 1, none⟩ _ (.inl rfl)⟩ ?_
          clear b3 hf4 c0 c1 c2 q1 hf0 hf1 hwr
          rintro W5 ⟨hb5, ho5⟩
          go_wp2
          go_roundw
          case rel => exact ⟨k + 1, by omega, by go_num, by rw [HR.out.2]; exact hb5, ho5, by rw [HR.out.1]⟩
          case measure => simp [intOf]; omega

      · have HR : Hid (goneN fs room = k) := Lib.hid (by rw [HG.out, hfr, goneN_stop _ _ (by omega)]; rfl)
        rw [← hfr] at HBP
        clear c0 c1 c2
        have hj : k ≤ fs.length := by omega
        have HDEL := Lib.hid (fun W (ho : Only (· = p) w W) => dy_delete base (.slice A fs.length c) fs k W (HO.out.only ho (fun q hq e => by
          rw [e] at hq
          obtain ⟨cur, hc⟩ := ownBlkD HO.out hq
          exact hc.ne HB.out (by decide) rfl)) hj)
        rw [hn] at HDEL
        obtain ⟨c0, c1, c2⟩ := HBP.out.c3
        go_upto_region 5 with fail
        go_wp2_with fail
        with_reducible refine (HDEL.out _ HOP.out).mono ?_
        rintro e w3 ⟨v3, rfl, hov, hbv, ho3⟩
        obtain ⟨A3, c3, rfl, _⟩ := hov.slice
        have hne : ∀ q, (Value.slice A n c).ownBlock = some q → ¬ p = q := fun q hq e => by
          rw [← e, ← hn] at hq
          obtain ⟨cur, hc⟩ := ownBlkD HO.out hq
          exact hc.ne HB.out (by decide) rfl
        have hb3 := HBP.out.only ho3 (fun e => hne _ e rfl)
        obtain ⟨c0, c1, c2⟩ := hb3.c3
        have q0 := hb3.frozen 0
        have HF := Lib.hid (And.intro hov (And.intro hbv (And.intro hb3 ((HOP.out.mono (fun i (e : i = p) => (.inl e : i = p ∨ (Value.slice A n c).ownBlock = some i))).trans (ho3.mono (fun i e => .inr e))))))
        clear hov hbv ho3 hne hb3
        go_wp2
        go_ret
        obtain ⟨h1, h2, h3, h4⟩ := HF.out
        subst hn
        refine ⟨by rw [HR.out]; rfl, .slice A3 (fs.length - k) c3, ⟨?_, ?_⟩, ?_, h4.step ⟨p, 0, none⟩ _ (.inl (.inl rfl))⟩
        · rw [HR.out]
          exact h3.set 0 _
        · rw [HR.out, List.length_drop]
          refine h1.only (Only.setCell _ _ _) (fun q hq e => ?_)
          rw [e] at hq
          obtain ⟨cur, hc⟩ := ownBlkD h1 hq
          exact hc.ne h3 (by decide) rfl
        · exact h2
    · have hlt' : ¬ (k : Int) < (n : Int) := by omega
      have HR : Hid (goneN fs room = k) := Lib.hid (by rw [HG.out, List.drop_of_length_le (by omega)]; rfl)
      clear c0 c1 c2
      have hj : k ≤ fs.length := by omega
      have HDEL := Lib.hid (fun W (ho : Only (· = p) w W) => dy_delete base (.slice A fs.length c) fs k W (HO.out.only ho (fun q hq e => by
        rw [e] at hq
        obtain ⟨cur, hc⟩ := ownBlkD HO.out hq
        exact hc.ne HB.out (by decide) rfl)) hj)
      rw [hn] at HDEL
      obtain ⟨c0, c1, c2⟩ := HBP.out.c3
      go_upto_region 5 with fail
      go_wp2_with fail
      with_reducible refine (HDEL.out _ HOP.out).mono ?_
      rintro e w3 ⟨v3, rfl, hov, hbv, ho3⟩
      obtain ⟨A3, c3, rfl, _⟩ := hov.slice
      have hne : ∀ q, (Value.slice A n c).ownBlock = some q → ¬ p = q := fun q hq e => by
        rw [← e, ← hn] at hq
        obtain ⟨cur, hc⟩ := ownBlkD HO.out hq
        exact hc.ne HB.out (by decide) rfl
      have hb3 := HBP.out.only ho3 (fun e => hne _ e rfl)
      obtain ⟨c0, c1, c2⟩ := hb3.c3
      have q0 := hb3.frozen 0
      have HF := Lib.hid (And.intro hov (And.intro hbv (And.intro hb3 ((HOP.out.mono (fun i (e : i = p) => (.inl e : i = p ∨ (Value.slice A n c).ownBlock = some i))).trans (ho3.mono (fun i e => .inr e))))))
      clear hov hbv ho3 hne hb3
      go_wp2
      go_ret
      obtain ⟨h1, h2, h3, h4⟩ := HF.out
      subst hn
      refine ⟨by rw [HR.out]; rfl, .slice A3 (fs.length - k) c3, ⟨?_, ?_⟩, ?_, h4.step ⟨p, 0, none⟩ _ (.inl (.inl rfl))⟩
      · rw [HR.out]
        exact h3.set 0 _
      · rw [HR.out, List.length_drop]
        refine h1.only (Only.setCell _ _ _) (fun q hq e => ?_)
        rw [e] at hq
        obtain ⟨cur, hc⟩ := ownBlkD h1 hq
        exact hc.ne h3 (by decide) rfl
      · exact h2
end Go.Proofs.Ythjajipagfojoaa
