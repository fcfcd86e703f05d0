/-
  Layer 8: what is written of lines, read as a block. No Go in sight.
-/
import Derived.Test.YtapikjhfgcbifaaGreatDoorEncM
import Derived.Test.YtapikjhfgcbifaaGreatDoorDecV1
namespace Go.Proofs.YtapikjhfgcbifaaGreatDoor
set_option maxRecDepth 100000
set_option linter.unusedVariables false
set_option linter.unusedSimpArgs false
open Go.RowKit
theorem bytes_inj {a b : ByteArray} (h : (a.toList == b.toList) = true) : a = b := by
  have h := eq_of_beq h
  rw [ByteArray.toList_eq, ByteArray.toList_eq] at h
  obtain ⟨⟨x⟩⟩ := a
  obtain ⟨⟨y⟩⟩ := b
  have h' : x = y := h
  rw [h']
theorem kind_mark {x m : Nat} (hx : x / 16 = m) (hm : m < 2) : kindR x = (if m = 1 then 3 else 4) ∧ bitsR x = 4 := by
  unfold kindR bitsR
  constructor
  · (repeat' split) <;> omega
  · (repeat' split) <;> omega
theorem kind_whole {x : Nat} (hx : x / 128 = 1) : kindR x = 0 ∧ bitsR x = 7 := by
  unfold kindR bitsR
  rw [if_pos (by omega), if_pos (by omega)]
  exact ⟨rfl, rfl⟩
theorem fsL_same (fs : List FldT) (lim : Int) (k n : Nat) (l : List UInt8) (h : k ≠ 1) : fsL fs lim k n l = fs := by
  unfold fsL
  rw [if_neg (fun hh => h hh.1)]
/-- A block whose first form is known. -/
theorem bl_first {most bound : Int} {m : Nat} {fs : List FldT} {lim : Int} {size : Nat} {out : List LnD} {l : List UInt8} {k n u us : Nat} {f : FldT} (hl : 0 < l.length) (hk : kindR (l.headD 0).toNat = k) (hk1 : k ≠ 1) (hk2 : k ≠ 2) (hd : decL l (bitsR (l.headD 0).toNat) = ((n : Int), (u : Int), 0)) (hr : lineR fs k n (l.drop u) = (0, f, us)) :
    blockR most bound (m + 1) fs lim size out l = if bound < (size : Int) + fz f then (22, [], fs, lim) else blockR most bound m fs lim (size + fz f) (out ++ [(f, decide (k = 3))]) ((l.drop u).drop us) := by
  cases l with
  | nil => simp at hl
  | cons c r =>
    simp only [List.headD_cons] at hk hd
    rw [blockR_line hd k hk hk2 _ rfl, hr, fsL_same _ _ _ _ _ hk1]
    simp
def Ln.d (x : Ln) : LnD := ((strB x.n, strB x.v), x.nv)
theorem fz_ln (n v : List UInt8) : fz (strB n, strB v) = n.length + v.length + 32 := by
  unfold fz
  simp only [strB_size]
theorem bl_form {n v : List UInt8} {m : Nat} {P : List UInt8} (h : IsFormF n v m P) (hm : m < 2) (hn : n.length ≤ 4096) (hv : v.length ≤ 4096) (more : List UInt8) (most bound : Int) (g : Nat) (fs : List FldT) (lim : Int) (size : Nat) (out : List LnD) :
    blockR most bound (g + 1) fs lim size out (P ++ more) = if bound < (size : Int) + fz (strB n, strB v) then (22, [], fs, lim) else blockR most bound g fs lim (size + fz (strB n, strB v)) (out ++ [((strB n, strB v), decide (m = 1))]) more := by
  obtain ⟨i, hi, hx, Pn, Pv, h1, h2, rfl⟩ := h
  have h3 := encL_length i 4 m (by omega)
  have hmk := encL_mark4 i m hm (by omega)
  obtain ⟨X, hX⟩ : ∃ X, encL i 4 m = X := ⟨_, rfl⟩
  have hd := decL_encL i 4 m (((if i = 0 then Pn else []) ++ Pv) ++ more) (by omega) (by omega) (by omega) (by omega)
  rw [hX] at h3 hd ⊢
  simp only [hX] at hmk
  have hh := headD_app X (((if i = 0 then Pn else []) ++ Pv) ++ more) (by omega)
  have l1 : ∀ more, litR (Pn ++ more) 4096 = (n, Pn.length, 0) := fun more => by
    have := litR_lit (cd := decide (litN n true < litN n false)) h1 (by omega) more 4096
    rwa [if_neg (by omega)] at this
  have l2 : ∀ more, litR (Pv ++ more) 4096 = (v, Pv.length, 0) := fun more => by
    have := litR_lit (cd := decide (litN v true < litN v false)) h2 (by omega) more 4096
    rwa [if_neg (by omega)] at this
  obtain ⟨hk, hb⟩ := kind_mark hmk hm
  have hx0 : X[0] = (X ++ (((if i = 0 then Pn else []) ++ Pv) ++ more)).headD 0 := hh.symm
  rw [List.append_assoc X]
  have hm3 : decide ((if m = 1 then 3 else 4) = 3) = decide (m = 1) := by
    have : m = 0 ∨ m = 1 := by omega
    rcases this with rfl | rfl <;> rfl
  have hfin : ∀ us, us = (if i = 0 then Pn.length else 0) + Pv.length → (((X ++ (((if i = 0 then Pn else []) ++ Pv) ++ more)).drop X.length).drop us) = more := by
    intro us hus
    subst hus
    rw [List.drop_left]
    by_cases h0 : i = 0
    · rw [if_pos h0, if_pos h0, List.append_assoc, ← List.drop_drop, List.drop_left, List.drop_left]
    · rw [if_neg h0, if_neg h0]
      simp
  have hlr : lineR fs (if m = 1 then 3 else 4) i ((X ++ (((if i = 0 then Pn else []) ++ Pv) ++ more)).drop X.length) = (0, (strB n, strB v), (if i = 0 then Pn.length else 0) + Pv.length) := by
    rw [List.drop_left]
    unfold lineR
    rw [if_neg (by split <;> omega)]
    by_cases h0 : i = 0
    · subst h0
      simp only [if_true]
      rw [List.append_assoc, fieldR_text (by rw [l1]), l1]
      unfold valR
      simp only [List.drop_left]
      rw [l2]
      simp
    · rw [if_neg h0, if_neg h0, List.nil_append]
      have hen : entR fs i = some (fldAt (i - 1)) := entR_static fs (by omega) hi
      have hname : (fldAt (i - 1)).1 = strB n := by
        rcases hx with ⟨e, _⟩ | ⟨k, hk, e, hy, _⟩
        · omega
        · obtain rfl : i = k + 1 := by omega
          exact bytes_inj hy
      rw [fieldR_entry h0 hen, hname]
      unfold valR
      simp only [List.drop_zero, Nat.zero_add]
      rw [l2]
      simp
  rw [bl_first (k := if m = 1 then 3 else 4) (n := i) (u := X.length) (f := (strB n, strB v)) (us := (if i = 0 then Pn.length else 0) + Pv.length) (by rw [List.length_append]; omega) (by rw [← hx0]; exact hk) (by split <;> omega) (by split <;> omega) (by rw [← hx0, hb]; exact hd) hlr, hfin _ rfl, hm3]
theorem bl_line {x : Ln} {P : List UInt8} (h : IsLine x P) (hx : x.fits = true) (more : List UInt8) (most bound : Int) (g : Nat) (fs : List FldT) (lim : Int) (size : Nat) (out : List LnD) :
    blockR most bound (g + 1) fs lim size out (P ++ more) = if bound < (size : Int) + fz x.d.1 then (22, [], fs, lim) else blockR most bound g fs lim (size + fz x.d.1) (out ++ [x.d]) more := by
  obtain ⟨n, v, nv⟩ := x
  simp only [Ln.fits, Bool.and_eq_true, decide_eq_true_eq] at hx
  unfold Ln.d
  simp only
  obtain ⟨z, ex, hz, hix, hl⟩ := h
  cases nv with
  | true => exact bl_form (show IsFormF n v 1 P from hl) (by omega) hx.1 hx.2 more most bound g fs lim size out
  | false =>
    cases ex with
    | false => exact bl_form (show IsFormF n v 0 P from hl) (by omega) hx.1 hx.2 more most bound g fs lim size out
    | true =>
      have h2 : P = encL z 7 1 := hl
      subst h2
      have hz1 : ∃ k, k < 61 ∧ z = k + 1 ∧ fldAt k = (strB n, strB v) := by
        rcases hix with ⟨k, hk, e, _, hy, _⟩ | ⟨e, _⟩
        · refine ⟨k, hk, by omega, ?_⟩
          unfold prF at hy
          simp only [Bool.and_eq_true] at hy
          exact Prod.ext (bytes_inj hy.1) (bytes_inj hy.2)
        · cases e
      obtain ⟨k, hk61, rfl, hfk⟩ := hz1
      have h3 := encL_length (k + 1) 7 1 (by omega)
      have hmk := encL_markL (k + 1) 1 (by omega) (by omega)
      have hd := decL_encL (k + 1) 7 1 more (by omega) (by omega) (by omega) (by omega)
      have hh := headD_app (encL (k + 1) 7 1) more (by omega)
      obtain ⟨hk, hb⟩ := kind_whole hmk
      have hlr : lineR fs 0 (k + 1) ((encL (k + 1) 7 1 ++ more).drop (encL (k + 1) 7 1).length) = (0, (strB n, strB v), 0) := by
        unfold lineR
        rw [if_pos rfl, entR_static fs (by omega) (by omega)]
        simp only [Nat.add_sub_cancel]
        rw [hfk]
      rw [bl_first (k := 0) (n := k + 1) (u := (encL (k + 1) 7 1).length) (f := (strB n, strB v)) (us := 0) (by rw [List.length_append]; omega) (by rw [hh]; exact hk) (by omega) (by omega) (by rw [hh, hb]; exact hd) hlr]
      rw [List.drop_left, List.drop_zero]
      simp
def szE (xs : List Ln) : Nat := (xs.map (fun x => fz x.d.1)).sum
theorem bl_row (most bound : Int) (fs : List FldT) (lim : Int) : ∀ (xs : List Ln) (F : List UInt8) (size : Nat) (out : List LnD) (m : Nat), F.length ≤ m → (∀ x ∈ xs, x.fits = true) → RowE xs F → ((size + szE xs : Nat) : Int) ≤ bound → blockR most bound m fs lim size out F = (0, out ++ xs.map Ln.d, fs, lim)
  | [], F, size, out, m, hm, _, h, hb => by
    have h2 : F = [] := h
    subst h2
    rw [blockR_nil]
    simp
  | x :: r, F, size, out, m, hm, hx, ⟨P, F', h1, h2, h3⟩, hb => by
    subst h3
    have hP := (pfR_bd (pf_line h1 (hx x (by simp)) F')).1
    rw [List.length_append] at hm
    obtain ⟨g, rfl⟩ : ∃ g, m = g + 1 := ⟨m - 1, by omega⟩
    have hsz : szE (x :: r) = fz x.d.1 + szE r := by simp [szE]
    rw [hsz] at hb
    rw [bl_line h1 (hx x (by simp)) F', if_neg (by omega)]
    rw [bl_row most bound fs lim r F' (size + fz x.d.1) (out ++ [x.d]) g (by omega) (fun y hy => hx y (by simp [hy])) h2 (by omega)]
    simp
end Go.Proofs.YtapikjhfgcbifaaGreatDoor

