/-
  Layer 8: careful forms, and what a block says. No Go in sight.
-/
import Derived.Test.YtdoddpigiencjaaEncP
import Derived.Test.YtdoddpigiencjaaBlkP
namespace Go.Proofs.Ytdoddpigiencjaa
set_option maxRecDepth 100000
set_option linter.unusedVariables false
set_option linter.unusedSimpArgs false
open Go.RowKit
theorem entR_nil_yes {n : Nat} (h : 1 ≤ n ∧ n ≤ 61) : entR [] n = some (fldAt (n - 1)) := entR_static [] h.1 h.2
theorem entR_nil_no {n : Nat} (h : ¬ (1 ≤ n ∧ n ≤ 61)) : entR [] n = none := entR_none [] (by simp; omega)
theorem kind0 {x : Nat} (h8 : x < 256) (h : kindR x = 0) : x / 128 = 1 ∧ bitsR x = 7 := by
  unfold kindR at h
  have : 128 ≤ x := by
    apply Classical.byContradiction
    intro hn
    rw [if_neg hn] at h
    revert h
    (repeat' split) <;> omega
  exact ⟨by omega, by unfold bitsR; rw [if_pos this]⟩
theorem kind34 {x : Nat} (h0 : kindR x ≠ 0) (h1 : kindR x ≠ 1) (h2 : kindR x ≠ 2) : x < 32 ∧ bitsR x = 4 := by
  have : x < 32 := by
    apply Classical.byContradiction
    intro hn
    unfold kindR at h0 h1 h2
    by_cases a : 128 ≤ x
    · rw [if_pos a] at h0; exact h0 rfl
    · rw [if_neg a] at h1 h2
      by_cases b : 64 ≤ x
      · rw [if_pos b] at h1; exact h1 rfl
      · rw [if_neg b, if_pos (by omega)] at h2; exact h2 rfl
  exact ⟨this, by unfold bitsR; rw [if_neg (by omega), if_neg (by omega), if_neg (by omega)]⟩
theorem kind12 {x : Nat} (h : 32 ≤ x ∧ x < 128) : kindR x = 1 ∨ kindR x = 2 := by
  unfold kindR
  rw [if_neg (by omega)]
  by_cases b : 64 ≤ x
  · rw [if_pos b]; exact .inl rfl
  · rw [if_neg b, if_pos (by omega)]; exact .inr rfl
theorem kind12' {x : Nat} (h : ¬ (32 ≤ x ∧ x < 128)) : kindR x ≠ 1 ∧ kindR x ≠ 2 := by
  unfold kindR
  by_cases a : 128 ≤ x
  · rw [if_pos a]; omega
  · rw [if_neg a, if_neg (by omega), if_neg (by omega)]
    by_cases b : 16 ≤ x
    · rw [if_pos b]; omega
    · rw [if_neg b]; omega
theorem pfR_cons (c : UInt8) (r : List UInt8) : pfR (c :: r) = if c.toNat / 128 = 1 then (if (decL (c :: r) 7).2.2 = 0 ∧ 1 ≤ (decL (c :: r) 7).1 ∧ (decL (c :: r) 7).1 ≤ 61 then some (decL (c :: r) 7).2.1.toNat else none)
  else if 1 < c.toNat / 16 then none
  else if (decL (c :: r) 4).2.2 = 0 ∧ (decL (c :: r) 4).1 ≤ 61 then textsR (if (decL (c :: r) 4).1 = 0 then 2 else 1) (c :: r) (decL (c :: r) 4).2.1.toNat else none := rfl
theorem pf_none {c : UInt8} {r : List UInt8} (h : 32 ≤ c.toNat ∧ c.toNat < 128) : pfR (c :: r) = none := by
  rw [pfR_cons]
  rw [if_neg (by omega), if_pos (by omega)]
theorem pf_num {c : UInt8} {r : List UInt8} {e : Nat} (hk1 : kindR c.toNat ≠ 1) (hk2 : kindR c.toNat ≠ 2) (he : decL (c :: r) (bitsR c.toNat) = (0, 0, (e : Int))) (h : e ≠ 0) : pfR (c :: r) = none := by
  have h8 := UInt8.toNat_lt c
  rw [pfR_cons]
  by_cases h0 : kindR c.toNat = 0
  · obtain ⟨ha, hb⟩ := kind0 h8 h0
    rw [hb] at he
    rw [if_pos ha, he]
    simp only
    rw [if_neg (by omega)]
  · obtain ⟨ha, hb⟩ := kind34 h0 hk1 hk2
    rw [hb] at he
    rw [if_neg (by omega), if_neg (by omega), he]
    simp only
    rw [if_neg (by omega)]
theorem pf_form1 {c : UInt8} {r : List UInt8} {N u : Nat} (hk1 : kindR c.toNat ≠ 1) (hk2 : kindR c.toNat ≠ 2) (he : decL (c :: r) (bitsR c.toNat) = ((N : Int), (u : Int), 0)) :
    pfR (c :: r) = if (lineR [] (kindR c.toNat) N ((c :: r).drop u)).1 = 0 then some (u + (lineR [] (kindR c.toNat) N ((c :: r).drop u)).2.2) else none := by
  have h8 := UInt8.toNat_lt c
  rw [pfR_cons]
  by_cases h0 : kindR c.toNat = 0
  · obtain ⟨ha, hb⟩ := kind0 h8 h0
    rw [hb] at he
    rw [if_pos ha, he, h0]
    simp only
    unfold lineR
    rw [if_pos rfl]
    by_cases hN : 1 ≤ N ∧ N ≤ 61
    · rw [if_pos ⟨trivial, by omega, by omega⟩, entR_nil_yes hN]
      simp
    · rw [if_neg (by omega), entR_nil_no hN]
      simp
  · obtain ⟨ha, hb⟩ := kind34 h0 hk1 hk2
    rw [hb] at he
    rw [if_neg (by omega), if_neg (by omega), he]
    simp only
    unfold lineR
    rw [if_neg h0]
    by_cases hN0 : N = 0
    · subst hN0
      rw [if_pos ⟨trivial, by omega⟩, if_pos (by rfl)]
      simp only [Int.toNat_natCast]
      unfold textsR
      by_cases hl : (litR ((c :: r).drop u) 4096).2.2 = 0
      · rw [if_pos hl, fieldR_text hl]
        unfold textsR valR
        rw [List.drop_drop]
        by_cases hl2 : (litR ((c :: r).drop (u + (litR ((c :: r).drop u) 4096).2.1)) 4096).2.2 = 0
        · rw [if_pos hl2, if_pos hl2]
          simp only [textsR, if_true]
          congr 1
          omega
        · rw [if_neg hl2, if_neg hl2]
          simp only
          rw [if_neg hl2]
      · rw [if_neg hl, fieldR_text_no hl]
        simp only
        rw [if_neg hl]
    · by_cases hN : N ≤ 61
      · rw [if_pos ⟨trivial, by omega⟩, if_neg (by omega), fieldR_entry hN0 (entR_nil_yes ⟨by omega, hN⟩)]
        simp only [Int.toNat_natCast]
        unfold textsR valR
        simp only [List.drop_zero, Nat.zero_add]
        by_cases hl : (litR ((c :: r).drop u) 4096).2.2 = 0
        · rw [if_pos hl, if_pos hl]
          simp only [textsR, if_true]
        · rw [if_neg hl, if_neg hl]
          simp only
          rw [if_neg hl]
      · rw [if_neg (by omega), fieldR_entry_no hN0 (entR_nil_no (by omega))]
        simp
theorem lineR_fz0 (k n : Nat) (l : List UInt8) : fz (lineR [] k n l).2.1 ≤ 100000 := lineR_fz [] k n l (by simp [tz])
/-- Careful forms alone are read. -/
theorem bl_plain (most bound lim : Int) : ∀ (m : Nat) (l : List UInt8) (size : Nat) (out : List LnD), l.length ≤ m → plainB l = true → ((size + l.length * 100000 : Nat) : Int) ≤ bound → (blockR most bound m [] lim size out l).1 = 0
  | m, [], size, out, _, _, _ => by rw [blockR_nil]
  | 0, c :: r, size, out, h, _, _ => by simp at h
  | m + 1, c :: r, size, out, hm, hp, hb => by
    simp only [List.length_cons] at hm hb
    rw [plainB_step (by simp)] at hp
    by_cases hx : 32 ≤ c.toNat ∧ c.toNat < 128
    · rw [pf_none hx] at hp; cases hp
    obtain ⟨hk1, hk2⟩ := kind12' hx
    rcases decL_casesB (bitsR c.toNat) (by have := bitsR_bd c.toNat; omega) (c :: r) with he | he | ⟨N, u, he, hu1, hu2, _⟩
    · rw [pf_num (e := 22) hk1 hk2 he (by omega)] at hp; cases hp
    · rw [pf_num (e := 16) hk1 hk2 he (by omega)] at hp; cases hp
    · rw [pf_form1 hk1 hk2 he] at hp
      rw [blockR_line he _ rfl hk2 _ rfl]
      by_cases h0 : (lineR [] (kindR c.toNat) N ((c :: r).drop u)).1 = 0
      · rw [if_pos h0] at hp
        simp only at hp
        rw [if_neg (by omega)]
        have hfz := lineR_fz0 (kindR c.toNat) N ((c :: r).drop u)
        have hlu := lineR_used [] (kindR c.toNat) N ((c :: r).drop u)
        rw [fsL_same _ _ _ _ _ hk1]
        generalize lineR [] (kindR c.toNat) N ((c :: r).drop u) = R at *
        rw [List.length_drop, List.length_cons] at hlu
        simp only [List.length_cons] at hu2
        rw [if_neg (by omega), List.drop_drop]
        refine bl_plain most bound lim m _ _ _ (by rw [List.length_drop, List.length_cons]; omega) hp ?_
        rw [List.length_drop, List.length_cons]
        omega
      · rw [if_neg h0] at hp; cases hp
/-- The first form of a block that is read. -/
theorem bl_ok {bound : Int} {m size : Nat} {out : List LnD} {c : UInt8} {r : List UInt8} (h : (blockR 0 bound (m + 1) [] 0 size out (c :: r)).1 = 0) (hk1 : kindR c.toNat ≠ 1) (hk2 : kindR c.toNat ≠ 2) :
    ∃ v size' x, pfR (c :: r) = some v ∧ (blockR 0 bound m [] 0 size' (out ++ [x]) ((c :: r).drop v)).1 = 0 := by
  rcases decL_casesB (bitsR c.toNat) (by have := bitsR_bd c.toNat; omega) (c :: r) with he | he | ⟨N, u, he, hu1, hu2, _⟩
  · rw [blockR_num (e := 22) he (by omega)] at h; simp at h
  · rw [blockR_num (e := 16) he (by omega)] at h; simp at h
  · rw [blockR_line he _ rfl hk2 _ rfl] at h
    rw [pf_form1 hk1 hk2 he]
    by_cases h0 : (lineR [] (kindR c.toNat) N ((c :: r).drop u)).1 = 0
    · rw [if_neg (by omega), fsL_same _ _ _ _ _ hk1] at h
      rw [if_pos h0]
      by_cases hb : bound < (size : Int) + fz (lineR [] (kindR c.toNat) N ((c :: r).drop u)).2.1
      · rw [if_pos hb] at h; simp at h
      · rw [if_neg hb, List.drop_drop] at h
        exact ⟨_, _, _, rfl, h⟩
    · rw [if_pos h0] at h
      exact absurd h h0
theorem pf_app {l : List UInt8} (more : List UInt8) {v : Nat} (h : pfR l = some v) : pfR (l ++ more) = some v := by
  have hbd := pfR_bd h
  cases l with
  | nil => simp at hbd; omega
  | cons c r =>
    by_cases hx : 32 ≤ c.toNat ∧ c.toNat < 128
    · rw [pf_none hx] at h; cases h
    obtain ⟨hk1, hk2⟩ := kind12' hx
    rcases decL_casesB (bitsR c.toNat) (by have := bitsR_bd c.toNat; omega) (c :: r) with he | he | ⟨N, u, he, hu1, hu2, _⟩
    · rw [pf_num (e := 22) hk1 hk2 he (by omega)] at h; cases h
    · rw [pf_num (e := 16) hk1 hk2 he (by omega)] at h; cases h
    · have ha := decL_app more he
      rw [List.cons_append] at ha ⊢
      rw [pf_form1 hk1 hk2 he] at h
      rw [pf_form1 hk1 hk2 ha]
      have hd : (c :: (r ++ more)).drop u = (c :: r).drop u ++ more := by rw [← List.cons_append, List.drop_append_of_le_length hu2]
      rw [hd]
      by_cases h0 : (lineR [] (kindR c.toNat) N ((c :: r).drop u)).1 = 0
      · rw [lineR_app more h0]; exact h
      · rw [if_neg h0] at h; cases h
theorem decF_take : ∀ (f : Nat) (l : List UInt8) (v i n : Nat) (N u : Int), n ≤ 2147483647 → decF f l i n = (N, u, 0) → u ≤ (v : Int) → decF f (l.take v) i n = (N, u, 0)
  | 0, l, v, i, n, N, u, _, h, _ => by simp [decF] at h
  | f + 1, l, v, i, n, N, u, hn, h, hv => by
    have hiu : (i : Int) < u := by
      rcases decF_cases (f + 1) l i n hn with e | e | ⟨N', u', e, a, _, _⟩
      · rw [e] at h; simp at h
      · rw [e] at h; simp at h
      · rw [e] at h
        simp only [Prod.mk.injEq] at h
        omega
    unfold decF at h ⊢
    cases hl : l[i]? with
    | none => rw [hl] at h; simp at h
    | some c =>
      rw [hl] at h
      rw [List.getElem?_take, if_pos (by omega), hl]
      simp only at h ⊢
      by_cases h1 : 5 < i
      · rw [if_pos h1] at h; simp at h
      · rw [if_neg h1] at h ⊢
        by_cases h2 : 2147483647 < n + c.toNat % 128 * 128 ^ (i - 1)
        · rw [if_pos h2] at h; simp at h
        · rw [if_neg h2] at h ⊢
          by_cases h3 : c.toNat < 128
          · rw [if_pos h3] at h ⊢; exact h
          · rw [if_neg h3] at h ⊢
            exact decF_take f l v _ _ N u (by omega) h hv
theorem decL_take {l : List UInt8} {bits v : Nat} {N u : Int} (h8 : bits ≤ 8) (hv : u ≤ (v : Int)) (h1 : 1 ≤ u) (h : decL l bits = (N, u, 0)) : decL (l.take v) bits = (N, u, 0) := by
  unfold decL at h ⊢
  cases hl : l[0]? with
  | none => rw [hl] at h; simp at h
  | some c =>
    rw [hl] at h
    rw [List.getElem?_take, if_pos (by omega), hl]
    simp only at h ⊢
    have hp : 2 ^ bits ≤ 2 ^ 8 := Nat.pow_le_pow_right (by omega) h8
    have hm : c.toNat % 2 ^ bits ≤ 256 := by
      have := UInt8.toNat_lt c
      have := Nat.mod_le c.toNat (2 ^ bits)
      omega
    split at h
    · rename_i h1; rw [if_pos h1]; exact h
    · rename_i h1; rw [if_neg h1]; exact decF_take _ _ _ _ _ _ _ (by omega) h hv
theorem litR_take {l : List UInt8} {lim : Int} {v : Nat} (h : (litR l lim).2.2 = 0) (hv : (litR l lim).2.1 ≤ v) : litR (l.take v) lim = litR l lim := by
  rcases decL_casesB 7 (by omega) l with he | he | ⟨N, u, he, hu1, hu2, hN⟩
  · unfold litR at h; rw [he] at h; simp at h
  · unfold litR at h; rw [he] at h; simp at h
  · have hp : (litR l lim).2.1 = u + N ∧ u + N ≤ l.length := by
      unfold litR at h ⊢
      rw [he] at h ⊢
      simp only at h ⊢
      rw [if_neg (by simp)] at h ⊢
      by_cases hs : (l.length : Int) < (u : Int) + (N : Int)
      · rw [if_pos hs] at h; simp at h
      · rw [if_neg hs] at h ⊢
        split at h
        · rename_i h0
          rw [if_pos h0]
          simp only
          omega
        · rename_i h0; exact absurd h h0
    rw [hp.1] at hv
    have ha := decL_take (v := v) (by omega) (by omega) (by omega) he
    unfold litR at h ⊢
    rw [he] at h
    rw [he, ha]
    simp only at h ⊢
    rw [if_neg (by simp)] at h
    have hl2 : (l.take v).length = min v l.length := List.length_take
    have hs : ¬ (l.length : Int) < (u : Int) + (N : Int) := by omega
    have hs2 : ¬ (((l.take v).length : Nat) : Int) < (u : Int) + (N : Int) := by rw [hl2]; omega
    have h1 : ((l.take v).drop u).take N = (l.drop u).take N := by
      rw [List.drop_take, List.take_take, Nat.min_eq_left (by omega)]
    have h2 : (l.take v).headD 0 = l.headD 0 := by
      cases l with
      | nil => simp
      | cons a r =>
        obtain ⟨v', rfl⟩ : ∃ v', v = v' + 1 := ⟨v - 1, by omega⟩
        rfl
    simp only [Int.toNat_natCast, h1, h2, if_neg hs, if_neg hs2]
theorem valR_take {nm : ByteArray} {u v : Nat} {l : List UInt8} (h : (valR nm u l).1 = 0) (hv : (valR nm u l).2.2 ≤ v) : valR nm u (l.take v) = valR nm u l := by
  unfold valR at h hv ⊢
  by_cases h0 : (litR (l.drop u) 4096).2.2 = 0
  · rw [if_pos h0] at hv
    simp only at hv
    have := litR_take (v := v - u) h0 (by omega)
    rw [List.drop_take, this]
  · rw [if_neg h0] at h; exact absurd h h0
theorem fieldR_take {fs : List FldT} {n v : Nat} {l : List UInt8} (h : (fieldR fs n l).1 = 0) (hv : (fieldR fs n l).2.2 ≤ v) : fieldR fs n (l.take v) = fieldR fs n l := by
  by_cases hn : n = 0
  · subst hn
    by_cases h0 : (litR l 4096).2.2 = 0
    · rw [fieldR_text h0] at h hv ⊢
      have hge : (litR l 4096).2.1 ≤ (valR (strB (litR l 4096).1) (litR l 4096).2.1 l).2.2 := by
        unfold valR at h ⊢
        by_cases h1 : (litR (l.drop (litR l 4096).2.1) 4096).2.2 = 0
        · rw [if_pos h1]; simp only; omega
        · rw [if_neg h1] at h; exact absurd h h1
      have h1 := litR_take (v := v) h0 (by omega)
      rw [fieldR_text (by rw [h1]; exact h0), h1]
      exact valR_take h hv
    · rw [fieldR_text_no h0] at h; exact absurd h h0
  · cases he : entR fs n with
    | none => rw [fieldR_entry_no hn he] at h; simp at h
    | some f =>
      rw [fieldR_entry hn he] at h hv ⊢
      rw [fieldR_entry hn he]
      exact valR_take h hv
theorem lineR_take {fs : List FldT} {k n v : Nat} {l : List UInt8} (h : (lineR fs k n l).1 = 0) (hv : (lineR fs k n l).2.2 ≤ v) : lineR fs k n (l.take v) = lineR fs k n l := by
  unfold lineR at h hv ⊢
  by_cases hk : k = 0
  · rw [if_pos hk, if_pos hk]
  · rw [if_neg hk] at h hv ⊢
    rw [if_neg hk]
    exact fieldR_take h hv
/-- A careful form alone is one line. -/
theorem bl_one {bound : Int} {l : List UInt8} {v : Nat} (h : pfR l = some v) (hb : 100000 ≤ bound) : ∃ x, blockR 0 bound (l.take v).length [] 0 0 [] (l.take v) = (0, [x], [], 0) := by
  have hbd := pfR_bd h
  have hlen : (l.take v).length = v := by rw [List.length_take]; omega
  rw [hlen]
  cases l with
  | nil => simp at hbd; omega
  | cons c r =>
    by_cases hx : 32 ≤ c.toNat ∧ c.toNat < 128
    · rw [pf_none hx] at h; cases h
    obtain ⟨hk1, hk2⟩ := kind12' hx
    rcases decL_casesB (bitsR c.toNat) (by have := bitsR_bd c.toNat; omega) (c :: r) with he | he | ⟨N, u, he, hu1, hu2, _⟩
    · rw [pf_num (e := 22) hk1 hk2 he (by omega)] at h; cases h
    · rw [pf_num (e := 16) hk1 hk2 he (by omega)] at h; cases h
    · rw [pf_form1 hk1 hk2 he] at h
      by_cases h0 : (lineR [] (kindR c.toNat) N ((c :: r).drop u)).1 = 0
      · rw [if_pos h0] at h
        injection h with h
        obtain ⟨v', rfl⟩ : ∃ v', v = v' + 1 := ⟨v - 1, by omega⟩
        have ht := decL_take (v := v' + 1) (by have := bitsR_bd c.toNat; omega) (by omega) (by omega) he
        have hl2 := lineR_take (v := v' + 1 - u) h0 (by omega)
        rw [List.take_succ_cons] at ht ⊢
        rw [blockR_line ht _ rfl hk2 (((c :: r).drop u).take (v' + 1 - u)) (by rw [← List.take_succ_cons, List.drop_take]), hl2, if_neg (by omega), fsL_same _ _ _ _ _ hk1]
        have hfz := lineR_fz0 (kindR c.toNat) N ((c :: r).drop u)
        rw [if_neg (by omega)]
        rw [List.drop_take, show v' + 1 - u - (lineR [] (kindR c.toNat) N ((c :: r).drop u)).2.2 = 0 by omega, List.take_zero, blockR_nil]
        exact ⟨_, rfl⟩
      · rw [if_neg h0] at h; cases h
/-- Less than it is not read. -/
theorem bl_less {bound : Int} {l : List UInt8} {v n : Nat} (h : pfR l = some v) (hn0 : 0 < n) (hn : n < v) : (blockR 0 bound (l.take n).length [] 0 0 [] (l.take n)).1 ≠ 0 := by
  intro hz
  have hbd := pfR_bd h
  have hlen : (l.take n).length = n := by rw [List.length_take]; omega
  rw [hlen] at hz
  obtain ⟨n', rfl⟩ : ∃ n', n = n' + 1 := ⟨n - 1, by omega⟩
  cases l with
  | nil => simp at hbd; omega
  | cons c r =>
    by_cases hx : 32 ≤ c.toNat ∧ c.toNat < 128
    · rw [pf_none hx] at h; cases h
    obtain ⟨hk1, hk2⟩ := kind12' hx
    rw [List.take_succ_cons] at hz hlen
    obtain ⟨v2, _, _, hp, _⟩ := bl_ok hz hk1 hk2
    have hb2 := pfR_bd hp
    rw [hlen] at hb2
    have ha := pf_app (r.drop n') hp
    rw [List.cons_append, List.take_append_drop, h] at ha
    injection ha with ha
    omega
/-- What a block with careful forms ahead says behind them. -/
def OkS (bound : Int) (l : List UInt8) : Prop := ∃ size out, (blockR 0 bound l.length [] 0 size out l).1 = 0
theorem OkS.step {bound : Int} {l : List UInt8} (h : OkS bound l) (hl : 0 < l.length) (hc : ¬ (32 ≤ (l.headD 0).toNat ∧ (l.headD 0).toNat < 128)) : ∃ v, pfR l = some v ∧ OkS bound (l.drop v) := by
  obtain ⟨size, out, h⟩ := h
  cases l with
  | nil => simp at hl
  | cons c r =>
    simp only [List.headD_cons] at hc
    obtain ⟨hk1, hk2⟩ := kind12' hc
    obtain ⟨v, s2, x, hp, h2⟩ := bl_ok (m := r.length) h hk1 hk2
    have hbd := pfR_bd hp
    simp only [List.length_cons] at hbd
    refine ⟨v, hp, s2, out ++ [x], ?_⟩
    rw [blockR_fuel _ _ _ r.length _ _ _ _ _ (Nat.le_refl _) (by rw [List.length_drop, List.length_cons]; omega)]
    exact h2
end Go.Proofs.Ytdoddpigiencjaa

