/-
  Layer 7: blocks one behind the other. No Go in sight.
-/
import Derived.Test.YtdoddpigiencjaaDecG
namespace Go.Proofs.Ytdoddpigiencjaa
set_option maxRecDepth 100000
set_option linter.unusedVariables false
set_option linter.unusedSimpArgs false
open Go.RowKit
theorem decF_app : ∀ (f : Nat) (l more : List UInt8) (i n : Nat) (N u : Int), decF f l i n = (N, u, 0) → decF f (l ++ more) i n = (N, u, 0)
  | 0, l, more, i, n, N, u, h => by simp [decF] at h
  | f + 1, l, more, i, n, N, u, h => by
    unfold decF at h ⊢
    cases hl : l[i]? with
    | none => rw [hl] at h; simp at h
    | some c =>
      have hil := (List.getElem?_eq_some_iff.1 hl).1
      rw [hl] at h
      rw [List.getElem?_append_left hil, hl]
      simp only at h ⊢
      by_cases h1 : 5 < i
      · rw [if_pos h1] at h; simp at h
      · rw [if_neg h1] at h ⊢
        by_cases h2 : 2147483647 < n + c.toNat % 128 * 128 ^ (i - 1)
        · rw [if_pos h2] at h; simp at h
        · rw [if_neg h2] at h ⊢
          by_cases h3 : c.toNat < 128
          · rw [if_pos h3] at h ⊢; exact h
          · rw [if_neg h3] at h ⊢
            exact decF_app f l more _ _ N u h
theorem decL_app {l : List UInt8} {bits : Nat} {N u : Int} (more : List UInt8) (h : decL l bits = (N, u, 0)) : decL (l ++ more) bits = (N, u, 0) := by
  unfold decL at h ⊢
  cases hl : l[0]? with
  | none => rw [hl] at h; simp at h
  | some c =>
    have hil := (List.getElem?_eq_some_iff.1 hl).1
    rw [hl] at h
    rw [List.getElem?_append_left hil, hl]
    simp only at h ⊢
    split at h
    · rename_i h1; rw [if_pos h1]; exact h
    · rename_i h1; rw [if_neg h1]; exact decF_app _ _ _ _ _ _ _ h
theorem litR_app {l : List UInt8} {lim : Int} (more : List UInt8) (h : (litR l lim).2.2 = 0) : litR (l ++ more) lim = litR l lim := by
  rcases decL_casesB 7 (by omega) l with he | he | ⟨N, u, he, hu1, hu2, hN⟩
  · unfold litR at h; rw [he] at h; simp at h
  · unfold litR at h; rw [he] at h; simp at h
  · have ha := decL_app more he
    unfold litR at h ⊢
    rw [he] at h
    rw [he, ha]
    simp only at h ⊢
    rw [if_neg (by simp)] at h
    by_cases hs : (l.length : Int) < (u : Int) + (N : Int)
    · rw [if_pos hs] at h; simp at h
    · have hs2 : ¬ (((l ++ more).length : Nat) : Int) < (u : Int) + (N : Int) := by rw [List.length_append]; omega
      have h1 : ((l ++ more).drop u).take N = (l.drop u).take N := by
        rw [List.drop_append_of_le_length (by omega), List.take_append_of_le_length (by rw [List.length_drop]; omega)]
      have h2 : (l ++ more).headD 0 = l.headD 0 := by
        cases l with
        | nil => simp at hu2; omega
        | cons a r => rfl
      simp only [Int.toNat_natCast, h1, h2, if_neg hs, if_neg hs2]
theorem valR_app {nm : ByteArray} {u : Nat} {l : List UInt8} (more : List UInt8) (hu : u ≤ l.length) (h : (valR nm u l).1 = 0) : valR nm u (l ++ more) = valR nm u l := by
  unfold valR at h ⊢
  by_cases h0 : (litR (l.drop u) 4096).2.2 = 0
  · rw [List.drop_append_of_le_length hu, litR_app more h0]
  · rw [if_neg h0] at h; exact absurd h h0
theorem fieldR_app {fs : List FldT} {n : Nat} {l : List UInt8} (more : List UInt8) (h : (fieldR fs n l).1 = 0) : fieldR fs n (l ++ more) = fieldR fs n l := by
  by_cases hn : n = 0
  · subst hn
    by_cases h0 : (litR l 4096).2.2 = 0
    · have h1 := litR_app more h0
      rw [fieldR_text h0] at h ⊢
      rw [fieldR_text (by rw [h1]; exact h0), h1]
      exact valR_app more (litR_used l 4096 h0).2 h
    · rw [fieldR_text_no h0] at h; exact absurd h h0
  · cases he : entR fs n with
    | none => rw [fieldR_entry_no hn he] at h; simp at h
    | some f =>
      rw [fieldR_entry hn he] at h ⊢
      rw [fieldR_entry hn he]
      exact valR_app more (Nat.zero_le _) h
theorem lineR_app {fs : List FldT} {k n : Nat} {l : List UInt8} (more : List UInt8) (h : (lineR fs k n l).1 = 0) : lineR fs k n (l ++ more) = lineR fs k n l := by
  unfold lineR at h ⊢
  by_cases hk : k = 0
  · rw [if_pos hk, if_pos hk]
  · rw [if_neg hk] at h ⊢
    rw [if_neg hk]
    exact fieldR_app more h
theorem fsL_app {fs : List FldT} {lim : Int} {k n : Nat} {l : List UInt8} (more : List UInt8) (h : (lineR fs k n l).1 = 0) : fsL fs lim k n (l ++ more) = fsL fs lim k n l := by
  unfold fsL
  rw [lineR_app more h]
/-- What follows a block that is all right is read behind it. -/
theorem blockR_app (most bound : Int) (b : List UInt8) {x : List LnD} {fs1 : List FldT} {lim1 : Int} : ∀ (m : Nat) (fs : List FldT) (lim : Int) (size : Nat) (out : List LnD) (a : List UInt8), a.length ≤ m → size = tz (out.map (·.1)) → blockR most bound m fs lim size out a = (0, x, fs1, lim1) →
    blockR most bound (a ++ b).length fs lim size out (a ++ b) = blockR most bound b.length fs1 lim1 (tz (x.map (·.1))) x b
  | m, fs, lim, size, out, [], _, hz, h => by
    rw [blockR_nil] at h
    simp only [Prod.mk.injEq, true_and] at h
    obtain ⟨rfl, rfl, rfl⟩ := h
    rw [List.nil_append, hz]
  | 0, fs, lim, size, out, c :: r, hm, _, _ => by simp at hm
  | m + 1, fs, lim, size, out, c :: r, hm, hz, h => by
    simp only [List.length_cons] at hm
    rcases decL_casesB (bitsR c.toNat) (by have := bitsR_bd c.toNat; omega) (c :: r) with he | he | ⟨N, u, he, hu1, hu2, _⟩
    · rw [blockR_num (e := 22) he (by omega)] at h; simp at h
    · rw [blockR_num (e := 16) he (by omega)] at h; simp at h
    · have ha := decL_app b he
      rw [List.cons_append] at ha ⊢
      simp only [List.length_cons] at hu2 ⊢
      have hd : (c :: (r ++ b)).drop u = (c :: r).drop u ++ b := by rw [← List.cons_append, List.drop_append_of_le_length (by simp; omega)]
      have hdl : ((c :: r).drop u).length ≤ m := by rw [List.length_drop, List.length_cons]; omega
      by_cases hk : kindR c.toNat = 2
      · by_cases hn : 0 < out.length ∨ most < (N : Int)
        · rw [blockR_lim_no he hk hn] at h; simp at h
        · rw [blockR_lim he hk hn] at h
          rw [blockR_lim ha hk hn, hd]
          have := blockR_app most bound b m _ _ size out _ hdl hz h
          rw [← this]
          exact blockR_fuel _ _ _ _ _ _ _ _ _ (by rw [List.length_append, List.length_append, List.length_drop, List.length_cons]; omega) (Nat.le_refl _)
      · rw [blockR_line he _ rfl hk _ rfl] at h
        rw [blockR_line ha _ rfl hk _ hd]
        by_cases h0 : (lineR fs (kindR c.toNat) N ((c :: r).drop u)).1 ≠ 0
        · rw [if_pos h0] at h
          simp only [Prod.mk.injEq] at h
          exact absurd h.1 h0
        · have h00 : (lineR fs (kindR c.toNat) N ((c :: r).drop u)).1 = 0 := by omega
          rw [lineR_app b h00, fsL_app b h00]
          rw [if_neg h0] at h ⊢
          by_cases hb : bound < (size : Int) + fz (lineR fs (kindR c.toNat) N ((c :: r).drop u)).2.1
          · rw [if_pos hb] at h; simp at h
          · rw [if_neg hb] at h ⊢
            have hus := lineR_used fs (kindR c.toNat) N ((c :: r).drop u)
            rw [List.drop_append_of_le_length hus]
            have hsz : size + fz (lineR fs (kindR c.toNat) N ((c :: r).drop u)).2.1 = tz ((out ++ [((lineR fs (kindR c.toNat) N ((c :: r).drop u)).2.1, decide (kindR c.toNat = 3))]).map (·.1)) := by
              rw [List.map_append, tz_append, ← hz]
              simp [tz]
            have := blockR_app most bound b m _ _ _ _ _ (by rw [List.length_drop]; omega) hsz h
            rw [← this]
            exact blockR_fuel _ _ _ _ _ _ _ _ _ (by rw [List.length_append, List.length_append, List.length_drop, List.length_drop, List.length_cons]; omega) (Nat.le_refl _)
theorem tz_pos_append (a b : List LnD) : tz ((a ++ b).map (·.1)) = tz (a.map (·.1)) + tz (b.map (·.1)) := by rw [List.map_append, tz_append]
/-- Lines never become fewer while a block is read. -/
theorem blockR_grows (most bound : Int) {y : List LnD} {fs2 : List FldT} {lim2 : Int} : ∀ (m : Nat) (fs : List FldT) (lim : Int) (size : Nat) (out : List LnD) (b : List UInt8), b.length ≤ m → blockR most bound m fs lim size out b = (0, y, fs2, lim2) → tz (out.map (·.1)) ≤ tz (y.map (·.1))
  | m, fs, lim, size, out, [], _, h => by
    rw [blockR_nil] at h
    simp only [Prod.mk.injEq, true_and] at h
    obtain ⟨rfl, rfl, rfl⟩ := h
    exact Nat.le_refl _
  | 0, fs, lim, size, out, c :: r, hm, _ => by simp at hm
  | m + 1, fs, lim, size, out, c :: r, hm, h => by
    simp only [List.length_cons] at hm
    rcases decL_casesB (bitsR c.toNat) (by have := bitsR_bd c.toNat; omega) (c :: r) with he | he | ⟨N, u, he, hu1, hu2, _⟩
    · rw [blockR_num (e := 22) he (by omega)] at h; simp at h
    · rw [blockR_num (e := 16) he (by omega)] at h; simp at h
    · simp only [List.length_cons] at hu2
      have hdl : ((c :: r).drop u).length ≤ m := by rw [List.length_drop, List.length_cons]; omega
      by_cases hk : kindR c.toNat = 2
      · by_cases hn : 0 < out.length ∨ most < (N : Int)
        · rw [blockR_lim_no he hk hn] at h; simp at h
        · rw [blockR_lim he hk hn] at h
          exact blockR_grows most bound m _ _ _ _ _ hdl h
      · rw [blockR_line he _ rfl hk _ rfl] at h
        split at h
        · rename_i h0
          simp only [Prod.mk.injEq] at h
          exact absurd h.1 h0
        split at h
        · simp at h
        · have := blockR_grows most bound m _ _ _ _ _ (by rw [List.length_drop]; omega) h
          rw [tz_pos_append] at this
          omega
/-- A block read behind other lines: the same lines, as long as the bound allows it. -/
theorem blockR_shift (most bound : Int) (s0 : Nat) (out0 : List LnD) (hs0 : s0 = tz (out0.map (·.1))) {y : List LnD} {fs2 : List FldT} {lim2 : Int} : ∀ (m : Nat) (fs : List FldT) (lim : Int) (out : List LnD) (b : List UInt8), b.length ≤ m → (0 < out.length ∨ ∀ c r, b = c :: r → kindR c.toNat ≠ 2) → blockR most bound m fs lim (tz (out.map (·.1))) out b = (0, y, fs2, lim2) → ((s0 + tz (out.map (·.1)) : Nat) : Int) ≤ bound →
    (((s0 + tz (y.map (·.1)) : Nat) : Int) ≤ bound → blockR most bound m fs lim (s0 + tz (out.map (·.1))) (out0 ++ out) b = (0, out0 ++ y, fs2, lim2)) ∧ (bound < ((s0 + tz (y.map (·.1)) : Nat) : Int) → (blockR most bound m fs lim (s0 + tz (out.map (·.1))) (out0 ++ out) b).1 = 22)
  | m, fs, lim, out, [], _, _, h, hb => by
    rw [blockR_nil] at h
    simp only [Prod.mk.injEq, true_and] at h
    obtain ⟨rfl, rfl, rfl⟩ := h
    refine ⟨fun _ => blockR_nil _ _ _ _ _ _ _, fun h => by omega⟩
  | 0, fs, lim, out, c :: r, hm, _, _, _ => by simp at hm
  | m + 1, fs, lim, out, c :: r, hm, hk2, h, hb => by
    simp only [List.length_cons] at hm
    rcases decL_casesB (bitsR c.toNat) (by have := bitsR_bd c.toNat; omega) (c :: r) with he | he | ⟨N, u, he, hu1, hu2, _⟩
    · rw [blockR_num (e := 22) he (by omega)] at h; simp at h
    · rw [blockR_num (e := 16) he (by omega)] at h; simp at h
    · simp only [List.length_cons] at hu2
      by_cases hk : kindR c.toNat = 2
      · rcases hk2 with ho | ho
        · rw [blockR_lim_no he hk (.inl ho)] at h; simp at h
        · exact absurd hk (ho c r rfl)
      · rw [blockR_line he _ rfl hk _ rfl] at h
        rw [blockR_line he _ rfl hk _ rfl]
        by_cases h0 : (lineR fs (kindR c.toNat) N ((c :: r).drop u)).1 ≠ 0
        · rw [if_pos h0] at h
          simp only [Prod.mk.injEq] at h
          exact absurd h.1 h0
        · rw [if_neg h0] at h ⊢
          generalize hf : (lineR fs (kindR c.toNat) N ((c :: r).drop u)).2.1 = f at *
          by_cases hbb : bound < (tz (out.map (·.1)) : Int) + fz f
          · rw [if_pos hbb] at h; simp at h
          · rw [if_neg hbb] at h
            have hout : tz ((out ++ [(f, decide (kindR c.toNat = 3))]).map (·.1)) = tz (out.map (·.1)) + fz f := by rw [tz_pos_append]; simp [tz]
            rw [← hout] at h
            have hgr := blockR_grows most bound m _ _ _ _ _ (by rw [List.length_drop, List.length_drop, List.length_cons]; omega) h
            rw [hout] at hgr
            by_cases hnow : bound < ((s0 + tz (out.map (·.1)) : Nat) : Int) + fz f
            · rw [if_pos hnow]
              refine ⟨fun hh => by omega, fun _ => rfl⟩
            · rw [if_neg hnow]
              have ih := blockR_shift most bound s0 out0 hs0 m _ lim (out ++ [(f, decide (kindR c.toNat = 3))]) _ (by rw [List.length_drop, List.length_drop, List.length_cons]; omega) (.inl (by simp)) h (by rw [hout]; omega)
              rw [hout, ← List.append_assoc, ← Nat.add_assoc] at ih
              exact ih
end Go.Proofs.Ytdoddpigiencjaa

