/-
  Plain arithmetic of whole numbers behind some bits: no Go in sight.
-/
import Derived.Test.YtapikjhfgcbifaaGreatDoorBytes
namespace Go.Proofs.YtapikjhfgcbifaaGreatDoor
set_option linter.unusedVariables false

/-- What follows the first byte: seven bits a byte, the lowest ones first. -/
def tailF : Nat → Nat → List UInt8
  | 0, r => [UInt8.ofNat r]
  | f + 1, r => if 128 ≤ r then UInt8.ofNat (128 + r % 128) :: tailF f (r / 128) else [UInt8.ofNat r]
/-- A number's bytes. -/
def encL (n bits mark : Nat) : List UInt8 :=
  if n < 2 ^ bits - 1 then [UInt8.ofNat (mark * 2 ^ bits + n)] else UInt8.ofNat (mark * 2 ^ bits + (2 ^ bits - 1)) :: tailF 5 (n - (2 ^ bits - 1))

theorem tailF_length (f : Nat) : ∀ r, 1 ≤ (tailF f r).length ∧ (tailF f r).length ≤ f + 1 := by
  induction f with
  | zero => intro r; simp [tailF]
  | succ f ih =>
    intro r
    unfold tailF
    split
    · have := ih (r / 128); simp; omega
    · simp
theorem tailF_mono (f : Nat) : ∀ r s, r ≤ s → (tailF f r).length ≤ (tailF f s).length := by
  induction f with
  | zero => intro r s _; simp [tailF]
  | succ f ih =>
    intro r s h
    unfold tailF
    by_cases h1 : 128 ≤ r
    · rw [if_pos h1, if_pos (by omega)]
      have := ih (r / 128) (s / 128) (by omega)
      simpa using this
    · rw [if_neg h1]
      by_cases h2 : 128 ≤ s
      · rw [if_pos h2]; simp
      · rw [if_neg h2]; simp
theorem tailF_len5 (r : Nat) (h : r < 34359738368) : (tailF 5 r).length ≤ 5 := by
  by_cases h1 : 128 ≤ r
  · by_cases h2 : 128 ≤ r / 128
    · by_cases h3 : 128 ≤ r / 128 / 128
      · by_cases h4 : 128 ≤ r / 128 / 128 / 128
        · have h5 : ¬ 128 ≤ r / 128 / 128 / 128 / 128 := by omega
          simp [tailF, h1, h2, h3, h4, h5]
        · simp [tailF, h1, h2, h3, h4]
      · simp [tailF, h1, h2, h3]
    · simp [tailF, h1, h2]
  · simp [tailF, h1]
theorem encL_length (n bits mark : Nat) (hn : n ≤ 2147483647) : 1 ≤ (encL n bits mark).length ∧ (encL n bits mark).length ≤ 6 := by
  unfold encL
  split
  · simp
  · have h1 := tailF_length 5 (n - (2 ^ bits - 1))
    have h2 := tailF_len5 (n - (2 ^ bits - 1)) (by omega)
    simp
    omega
theorem encL_mono (n m bits mark : Nat) (h : n ≤ m) : (encL n bits mark).length ≤ (encL m bits mark).length := by
  unfold encL
  by_cases h1 : n < 2 ^ bits - 1
  · rw [if_pos h1]
    split
    · simp
    · simp
  · rw [if_neg h1, if_neg (by omega)]
    have := tailF_mono 5 (n - (2 ^ bits - 1)) (m - (2 ^ bits - 1)) (by omega)
    simpa using this
theorem encL_bits (n bits : Nat) : (encL n (bits + 1) 0).length ≤ (encL n bits 0).length := by
  unfold encL
  have hp : 2 ^ bits ≤ 2 ^ (bits + 1) := Nat.pow_le_pow_right (by omega) (by omega)
  by_cases h1 : n < 2 ^ (bits + 1) - 1
  · rw [if_pos h1]
    split
    · simp
    · simp
  · rw [if_neg h1, if_neg (by omega)]
    have := tailF_mono 5 (n - (2 ^ (bits + 1) - 1)) (n - (2 ^ bits - 1)) (by omega)
    simpa using this

/-- Reading on from place i, the number so far n. -/
def decF : Nat → List UInt8 → Nat → Nat → Int × Int × Int
  | 0, _, _, _ => (0, 0, 22)
  | f + 1, l, i, n =>
    match l[i]? with
    | none => (0, 0, 16)
    | some c =>
      if 5 < i then (0, 0, 22)
      else if 2147483647 < n + c.toNat % 128 * 128 ^ (i - 1) then (0, 0, 22)
      else if c.toNat < 128 then (((n + c.toNat % 128 * 128 ^ (i - 1) : Nat) : Int), ((i + 1 : Nat) : Int), 0)
      else decF f l (i + 1) (n + c.toNat % 128 * 128 ^ (i - 1))
def decL (l : List UInt8) (bits : Nat) : Int × Int × Int :=
  match l[0]? with
  | none => (0, 0, 16)
  | some c => if c.toNat % 2 ^ bits < 2 ^ bits - 1 then (((c.toNat % 2 ^ bits : Nat) : Int), 1, 0) else decF 6 l 1 (c.toNat % 2 ^ bits)

/-- Reading a tail: l has the tail of r from place i on. -/
theorem decF_tail (f g : Nat) : ∀ (i n r : Nat) (l : List UInt8), 1 ≤ i → i + f ≤ 6 → f ≤ g → r < 128 ^ f → 0 < f → n + r * 128 ^ (i - 1) ≤ 2147483647 →
    (∀ j, j < (tailF g r).length → l[i + j]? = (tailF g r)[j]?) → decF f l i n = (((n + r * 128 ^ (i - 1) : Nat) : Int), ((i + (tailF g r).length : Nat) : Int), 0) := by
  induction f generalizing g with
  | zero => intro i n r l _ _ _ _ h; omega
  | succ f ih =>
    intro i n r l hi hif hfg hr _ hn hl
    obtain ⟨g, rfl⟩ : ∃ g', g = g' + 1 := ⟨g - 1, by omega⟩
    have hp : 0 < 128 ^ (i - 1) := Nat.pow_pos (by omega)
    by_cases h : 128 ≤ r
    · have ht : tailF (g + 1) r = UInt8.ofNat (128 + r % 128) :: tailF g (r / 128) := by rw [tailF, if_pos h]
      have h0 := hl 0 (by rw [ht]; simp)
      rw [ht] at h0
      simp only [Nat.add_zero, List.getElem?_cons_zero] at h0
      have hc : (UInt8.ofNat (128 + r % 128)).toNat = 128 + r % 128 := by simp; omega
      have hf1 : 0 < f := by
        rcases Nat.eq_zero_or_pos f with e | e
        · subst e; simp at hr; omega
        · exact e
      have hpw : 128 ^ (i + 1 - 1) = 128 * 128 ^ (i - 1) := by
        rw [show i + 1 - 1 = (i - 1) + 1 by omega, Nat.pow_succ, Nat.mul_comm]
      have hm : r * 128 ^ (i - 1) = r % 128 * 128 ^ (i - 1) + r / 128 * 128 ^ (i + 1 - 1) := by
        rw [hpw, ← Nat.mul_assoc, ← Nat.add_mul]
        congr 1
        omega
      rw [decF, h0]
      simp only [hc]
      have e1 : (128 + r % 128) % 128 = r % 128 := by omega
      rw [e1, if_neg (by omega), if_neg (by omega), if_neg (by omega)]
      rw [ih g (i + 1) (n + r % 128 * 128 ^ (i - 1)) (r / 128) l (by omega) (by omega) (by omega) (by rw [Nat.pow_succ] at hr; omega) hf1 (by omega) (fun j hj => by
        have := hl (j + 1) (by rw [ht]; simpa using hj)
        rw [ht] at this
        rw [show i + 1 + j = i + (j + 1) by omega, this]
        simp)]
      rw [ht]
      simp only [List.length_cons]
      refine Prod.ext ?_ (Prod.ext ?_ rfl)
      · simp only []; omega
      · simp only []; omega
    · have ht : tailF (g + 1) r = [UInt8.ofNat r] := by rw [tailF, if_neg h]
      have h0 := hl 0 (by rw [ht]; simp)
      rw [ht] at h0
      simp only [Nat.add_zero, List.getElem?_cons_zero] at h0
      have hc : (UInt8.ofNat r).toNat = r := by simp; omega
      rw [decF, h0]
      simp only [hc]
      have e1 : r % 128 = r := by omega
      rw [e1, if_neg (by omega), if_neg (by omega), if_pos (by omega), ht]
      rfl

/-- What Encode tells is read as the number, whatever stands behind. -/
theorem decL_encL (n bits mark : Nat) (more : List UInt8) (h1 : 1 ≤ bits) (h2 : bits ≤ 8) (hn : n ≤ 2147483647) (hm : mark < 2 ^ (8 - bits)) :
    decL (encL n bits mark ++ more) bits = ((n : Int), ((encL n bits mark).length : Int), 0) := by
  have hp : 2 ^ bits * 2 ^ (8 - bits) = 256 := by rw [← Nat.pow_add, show bits + (8 - bits) = 8 by omega]
  have hp0 : 0 < 2 ^ bits := Nat.pow_pos (by omega)
  have hmb : mark * 2 ^ bits + 2 ^ bits ≤ 256 := by
    have : (mark + 1) * 2 ^ bits ≤ 2 ^ (8 - bits) * 2 ^ bits := Nat.mul_le_mul_right _ hm
    rw [Nat.add_mul, Nat.mul_comm (2 ^ (8 - bits))] at this
    omega
  unfold encL
  by_cases h : n < 2 ^ bits - 1
  · rw [if_pos h]
    unfold decL
    simp only [List.cons_append, List.nil_append, List.getElem?_cons_zero]
    have hc : (UInt8.ofNat (mark * 2 ^ bits + n)).toNat = mark * 2 ^ bits + n := by simp; omega
    have hmod : (mark * 2 ^ bits + n) % 2 ^ bits = n := by
      rw [Nat.add_comm, Nat.add_mul_mod_self_right, Nat.mod_eq_of_lt (by omega)]
    rw [hc, hmod, if_pos h]
    simp
  · rw [if_neg h]
    unfold decL
    simp only [List.cons_append, List.getElem?_cons_zero]
    have hc : (UInt8.ofNat (mark * 2 ^ bits + (2 ^ bits - 1))).toNat = mark * 2 ^ bits + (2 ^ bits - 1) := by simp; omega
    have hmod : (mark * 2 ^ bits + (2 ^ bits - 1)) % 2 ^ bits = 2 ^ bits - 1 := by
      rw [Nat.add_comm, Nat.add_mul_mod_self_right, Nat.mod_eq_of_lt (by omega)]
    rw [hc, hmod, if_neg (by omega)]
    have hl5 := tailF_len5 (n - (2 ^ bits - 1)) (by omega)
    have := decF_tail 5 5 1 (2 ^ bits - 1) (n - (2 ^ bits - 1)) (UInt8.ofNat (mark * 2 ^ bits + (2 ^ bits - 1)) :: (tailF 5 (n - (2 ^ bits - 1)) ++ more)) (by omega) (by omega) (by omega) (by simp; omega) (by omega) (by simp; omega) (fun j hj => by
      rw [Nat.add_comm 1 j, List.getElem?_cons_succ, List.getElem?_append_left hj])
    have step : ∀ f l i n r, decF f l i n = r → r.2.2 = 0 → decF (f + 1) l i n = r := by
      intro f
      induction f with
      | zero => intro l i n r h hr; rw [decF] at h; rw [← h] at hr; simp at hr
      | succ f ih =>
        intro l i n r h hr
        rw [decF] at h ⊢
        cases hc : l[i]? with
        | none => rw [hc] at h; exact h
        | some c =>
          rw [hc] at h
          simp only at h ⊢
          by_cases a1 : 5 < i
          · rw [if_pos a1] at h ⊢; exact h
          · rw [if_neg a1] at h ⊢
            by_cases a2 : 2147483647 < n + c.toNat % 128 * 128 ^ (i - 1)
            · rw [if_pos a2] at h ⊢; exact h
            · rw [if_neg a2] at h ⊢
              by_cases a3 : c.toNat < 128
              · rw [if_pos a3] at h ⊢; exact h
              · rw [if_neg a3] at h ⊢; exact ih _ _ _ _ h hr
    rw [step _ _ _ _ _ this rfl]
    simp only [List.length_cons]
    refine Prod.ext ?_ (Prod.ext ?_ rfl)
    · simp; omega
    · simp; omega
end Go.Proofs.YtapikjhfgcbifaaGreatDoor

