/-
  Package decode: what a block says; sizes; the row of lines.
-/
import Derived.Test.YtdoddpigiencjaaDecE
namespace Go.Proofs.Ytdoddpigiencjaa
set_option maxRecDepth 100000
set_option linter.unusedVariables false
set_option linter.unusedSimpArgs false
open Go.RowKit
theorem tz_lenD (fs : List FldT) : fs.length * 32 ≤ tz fs := by
  induction fs with
  | nil => simp [tz]
  | cons f r ih => rw [tz_cons]; simp only [List.length_cons]; unfold fz; omega
theorem tz_goneD (fs : List FldT) (room : Int) (h : 0 ≤ room) : (tz (fs.drop (goneN fs room)) : Int) ≤ room := by
  induction fs with
  | nil => simp [tz]; exact h
  | cons f r ih =>
    rw [goneN]
    split
    · rw [List.drop_succ_cons]; exact ih
    · rw [List.drop_zero]; omega
theorem tz_addD (fs : List FldT) (lim : Int) (f : FldT) (h : 0 ≤ lim) : (tz (addF fs lim f) : Int) ≤ lim := by
  unfold addF
  split
  · rename_i hf
    rw [tz_append]
    have := tz_goneD fs (lim - fz f) (by omega)
    simp [tz] at this ⊢
    omega
  · rename_i hf
    rw [goneN_neg _ _ (by omega), List.drop_length]
    simpa [tz] using h
theorem litR_len (l : List UInt8) : (litR l 4096).1.length ≤ 4096 := by
  unfold litR
  split
  rename_i n u e _
  by_cases h1 : e ≠ 0
  · rw [if_pos h1]; simp
  rw [if_neg h1]
  by_cases h2 : (l.length : Int) < u + n
  · rw [if_pos h2]; simp
  rw [if_neg h2]
  simp only
  by_cases h3 : (textR ((l.drop u.toNat).take n.toNat) (decide (1 ≤ (l.headD 0).toNat / 128)) 4096).1 = 0
  · rw [if_pos h3]
    revert h3
    unfold textR
    simp only
    generalize (if decide (1 ≤ (l.headD 0).toNat / 128) = true then decE (bitsL ((l.drop u.toNat).take n.toNat)) else (0, (l.drop u.toNat).take n.toNat)) = r
    by_cases h4 : r.1 = 0
    · rw [if_pos h4]
      by_cases h5 : (4096 : Int) < (r.2.length : Int)
      · rw [if_pos h5]; simp
      · rw [if_neg h5]; intro _; omega
    · rw [if_neg h4]; simp
  · rw [if_neg h3]; simp
theorem fld_small (k : Nat) : fz (fldAt k) ≤ 1000 := by
  by_cases h : k < 61
  · have : ∀ j : Fin 61, fz (fldAt j.val) ≤ 1000 := by decide
    exact this ⟨k, h⟩
  · have : fldAt k = (⟨#[]⟩, ⟨#[]⟩) := by
      unfold fldAt
      rw [List.getD_eq_getElem?_getD, List.getElem?_eq_none (by
        have : tblF.length = 61 := by decide
        omega)]
      rfl
    rw [this]
    decide
theorem fz_mem {fs : List FldT} {f : FldT} (h : f ∈ fs) : fz f ≤ tz fs := by
  induction fs with
  | nil => cases h
  | cons g r ih =>
    rw [tz_cons]
    rcases List.mem_cons.1 h with rfl | h
    · omega
    · have := ih h; omega
theorem entR_fz {fs : List FldT} {n : Nat} {f : FldT} (h : entR fs n = some f) (ht : tz fs ≤ 65536) : fz f ≤ 70000 := by
  unfold entR at h
  split at h
  · injection h with h
    rw [← h]
    have := fld_small (n - 1)
    omega
  · split at h
    · have := fz_mem (List.mem_of_getElem? h)
      omega
    · cases h
theorem fieldR_fz (fs : List FldT) (n : Nat) (l : List UInt8) (ht : tz fs ≤ 65536) : fz (fieldR fs n l).2.1 ≤ 100000 := by
  have hval : ∀ (nm : ByteArray) (u : Nat), nm.size ≤ 70000 → fz (valR nm u l).2.1 ≤ 100000 := by
    intro nm u hn
    unfold valR
    split
    · have := litR_len (l.drop u)
      unfold fz
      simp only
      rw [strB_size]
      omega
    · simp [fz, strB_size]
  by_cases h0 : n = 0
  · subst h0
    by_cases he : (litR l 4096).2.2 = 0
    · rw [fieldR_text he]
      exact hval _ _ (by rw [strB_size]; have := litR_len l; omega)
    · rw [fieldR_text_no he]
      simp [fz, strB_size]
  · cases hen : entR fs n with
    | some f =>
      rw [fieldR_entry h0 hen]
      exact hval _ _ (by have := entR_fz hen ht; unfold fz at this; omega)
    | none =>
      rw [fieldR_entry_no h0 hen]
      simp [fz, strB_size]
theorem lineR_fz (fs : List FldT) (k n : Nat) (l : List UInt8) (ht : tz fs ≤ 65536) : fz (lineR fs k n l).2.1 ≤ 100000 := by
  unfold lineR
  split
  · cases hen : entR fs n with
    | some f => have := entR_fz hen ht; simp only; omega
    | none => simp [fz, strB_size]
  · exact fieldR_fz fs n l ht
theorem lineR_used (fs : List FldT) (k n : Nat) (l : List UInt8) : (lineR fs k n l).2.2 ≤ l.length := by
  have hval : ∀ (nm : ByteArray) (u : Nat), u ≤ l.length → (valR nm u l).2.2 ≤ l.length := by
    intro nm u hn
    unfold valR
    split
    · rename_i h
      have := (litR_used (l.drop u) 4096 h).2
      rw [List.length_drop] at this
      simp only
      omega
    · simp
  unfold lineR
  split
  · cases entR fs n <;> simp
  · by_cases h0 : n = 0
    · subst h0
      by_cases he : (litR l 4096).2.2 = 0
      · rw [fieldR_text he]
        exact hval _ _ (litR_used l 4096 he).2
      · rw [fieldR_text_no he]
        simp
    · cases hen : entR fs n with
      | some f => rw [fieldR_entry h0 hen]; exact hval _ _ (Nat.zero_le _)
      | none => rw [fieldR_entry_no h0 hen]; simp
/-- What a block says: an error's number, its lines, the table behind it. -/
def blockR (most bound : Int) : Nat → List FldT → Int → Nat → List LnD → List UInt8 → Nat × List LnD × List FldT × Int
  | 0, fs, lim, _, out, _ => (0, out, fs, lim)
  | _ + 1, fs, lim, _, out, [] => (0, out, fs, lim)
  | m + 1, fs, lim, size, out, c :: r =>
    if (decL (c :: r) (bitsR c.toNat)).2.2 ≠ 0 then ((decL (c :: r) (bitsR c.toNat)).2.2.toNat, [], fs, lim)
    else if kindR c.toNat = 2 then
      (if 0 < out.length ∨ most < (decL (c :: r) (bitsR c.toNat)).1 then (24, [], fs, lim)
       else blockR most bound m (fs.drop (goneN fs (decL (c :: r) (bitsR c.toNat)).1)) (decL (c :: r) (bitsR c.toNat)).1 size out ((c :: r).drop (decL (c :: r) (bitsR c.toNat)).2.1.toNat))
    else
      let k := kindR c.toNat
      let n := (decL (c :: r) (bitsR c.toNat)).1.toNat
      let l := (c :: r).drop (decL (c :: r) (bitsR c.toNat)).2.1.toNat
      if (lineR fs k n l).1 ≠ 0 then ((lineR fs k n l).1, [], fsL fs lim k n l, lim)
      else if bound < (size : Int) + fz (lineR fs k n l).2.1 then (22, [], fsL fs lim k n l, lim)
      else blockR most bound m (fsL fs lim k n l) lim (size + fz (lineR fs k n l).2.1) (out ++ [((lineR fs k n l).2.1, decide (k = 3))]) (l.drop (lineR fs k n l).2.2)
theorem blockR_nil (most bound : Int) (m : Nat) (fs : List FldT) (lim : Int) (size : Nat) (out : List LnD) : blockR most bound m fs lim size out [] = (0, out, fs, lim) := by
  cases m <;> rfl
theorem blockR_num {most bound : Int} {m : Nat} {fs : List FldT} {lim : Int} {size : Nat} {out : List LnD} {c : UInt8} {r : List UInt8} {e : Nat} (he : decL (c :: r) (bitsR c.toNat) = (0, 0, (e : Int))) (h : e ≠ 0) : blockR most bound (m + 1) fs lim size out (c :: r) = (e, [], fs, lim) := by
  rw [blockR, he]
  simp [h]
theorem blockR_lim_no {most bound : Int} {m : Nat} {fs : List FldT} {lim : Int} {size : Nat} {out : List LnD} {c : UInt8} {r : List UInt8} {n u : Nat} (he : decL (c :: r) (bitsR c.toNat) = ((n : Int), (u : Int), 0)) (hk : kindR c.toNat = 2) (h : 0 < out.length ∨ most < (n : Int)) : blockR most bound (m + 1) fs lim size out (c :: r) = (24, [], fs, lim) := by
  rw [blockR, he]
  simp only [ne_eq, not_true, if_false, if_pos hk, if_pos h]
theorem blockR_lim {most bound : Int} {m : Nat} {fs : List FldT} {lim : Int} {size : Nat} {out : List LnD} {c : UInt8} {r : List UInt8} {n u : Nat} (he : decL (c :: r) (bitsR c.toNat) = ((n : Int), (u : Int), 0)) (hk : kindR c.toNat = 2) (h : ¬ (0 < out.length ∨ most < (n : Int))) : blockR most bound (m + 1) fs lim size out (c :: r) = blockR most bound m (fs.drop (goneN fs n)) n size out ((c :: r).drop u) := by
  rw [blockR, he]
  simp only [ne_eq, not_true, if_false, if_pos hk, if_neg h, Int.toNat_natCast]
theorem blockR_line {most bound : Int} {m : Nat} {fs : List FldT} {lim : Int} {size : Nat} {out : List LnD} {c : UInt8} {r : List UInt8} {n u : Nat} (he : decL (c :: r) (bitsR c.toNat) = ((n : Int), (u : Int), 0)) (k : Nat) (hk : kindR c.toNat = k) (hk2 : k ≠ 2) (l : List UInt8) (hl : (c :: r).drop u = l) : blockR most bound (m + 1) fs lim size out (c :: r) = if (lineR fs k n l).1 ≠ 0 then ((lineR fs k n l).1, [], fsL fs lim k n l, lim)
      else if bound < (size : Int) + fz (lineR fs k n l).2.1 then (22, [], fsL fs lim k n l, lim)
      else blockR most bound m (fsL fs lim k n l) lim (size + fz (lineR fs k n l).2.1) (out ++ [((lineR fs k n l).2.1, decide (k = 3))]) (l.drop (lineR fs k n l).2.2) := by
  subst hk hl
  rw [blockR, he]
  simp only [ne_eq, not_true, if_false, if_neg hk2, Int.toNat_natCast]
theorem DecAt.only {S : Nat → Prop} {w w' : World} {base d p : Nat} {v : Value} {fs : List FldT} {lim most bound : Int} {dead : Bool} (h : DecAt w base d p v fs lim most bound dead) (ho : Only S w w') (hd : ¬ S d) (hp : ¬ S p) (hv : ∀ k, v.ownBlock = some k → ¬ S k) : DecAt w' base d p v fs lim most bound dead := ⟨h.blk.only ho hd, h.tab.only ho hp hv⟩
end Go.Proofs.Ytdoddpigiencjaa

