/-
  Package huff: texts as bits.
-/
import Derived.Test.YtapikjhfgcbifaaGreatDoorHufT
namespace Go.Proofs.YtapikjhfgcbifaaGreatDoor
set_option linter.unusedVariables false
/-- The last n bits of a number, the first one first. -/
def bitsOf (v n : Nat) : List Bool := (List.range n).map fun i => v.testBit (n - 1 - i)
theorem bitsOf_length (v n : Nat) : (bitsOf v n).length = n := by simp [bitsOf]
theorem bitsOf_get (v n i : Nat) (h : i < (bitsOf v n).length) : (bitsOf v n)[i] = v.testBit (n - 1 - i) := by simp [bitsOf]
theorem bitsOf_append (v a b : Nat) : bitsOf v (a + b) = bitsOf (v / 2 ^ b) a ++ bitsOf v b := by
  apply List.ext_getElem
  · simp [bitsOf_length]
  · intro i h1 h2
    rw [bitsOf_get]
    rw [bitsOf_length] at h1
    by_cases h : i < a
    · rw [List.getElem_append_left (by rw [bitsOf_length]; exact h), bitsOf_get, Nat.testBit_div_two_pow]
      congr 1
      omega
    · rw [List.getElem_append_right (by rw [bitsOf_length]; omega), bitsOf_get, bitsOf_length]
      congr 1
      omega
theorem bitsOf_mod (v m n : Nat) (h : n ≤ m) : bitsOf (v % 2 ^ m) n = bitsOf v n := by
  apply List.ext_getElem
  · simp [bitsOf_length]
  · intro i h1 h2
    rw [bitsOf_length] at h1
    rw [bitsOf_get, bitsOf_get, Nat.testBit_mod_two_pow]
    have : n - 1 - i < m := by omega
    simp [this]
theorem bitsOf_inj {v u n : Nat} (hv : v < 2 ^ n) (hu : u < 2 ^ n) (h : bitsOf v n = bitsOf u n) : v = u := by
  apply Nat.eq_of_testBit_eq
  intro i
  by_cases hi : i < n
  · have h1 : (bitsOf v n)[n - 1 - i]'(by rw [bitsOf_length]; omega) = (bitsOf u n)[n - 1 - i]'(by rw [bitsOf_length]; omega) := by simp [h]
    rw [bitsOf_get, bitsOf_get, show n - 1 - (n - 1 - i) = i by omega] at h1
    exact h1
  · rw [Nat.testBit_lt_two_pow (Nat.lt_of_lt_of_le hv (Nat.pow_le_pow_right (by omega) (by omega))), Nat.testBit_lt_two_pow (Nat.lt_of_lt_of_le hu (Nat.pow_le_pow_right (by omega) (by omega)))]
theorem bitsOf_cat (v u a b : Nat) (hu : u < 2 ^ b) : bitsOf (v * 2 ^ b + u) (a + b) = bitsOf v a ++ bitsOf u b := by
  rw [bitsOf_append]
  have hp : 0 < 2 ^ b := Nat.pow_pos (by omega)
  rw [show (v * 2 ^ b + u) / 2 ^ b = v by rw [Nat.mul_comm, Nat.mul_add_div hp, Nat.div_eq_of_lt hu, Nat.add_zero], ← bitsOf_mod (v * 2 ^ b + u) b b (Nat.le_refl _), Nat.mul_add_mod', Nat.mod_eq_of_lt hu]
def ones (n : Nat) : List Bool := List.replicate n true
theorem ones_bits (n : Nat) : bitsOf (2 ^ n - 1) n = ones n := by
  apply List.ext_getElem
  · simp [bitsOf_length, ones]
  · intro i h1 h2
    rw [bitsOf_length] at h1
    rw [bitsOf_get, Nat.testBit_two_pow_sub_one]
    simp [ones]
    omega
def bb (c : UInt8) : List Bool := bitsOf c.toNat 8
def bitsL (l : List UInt8) : List Bool := l.flatMap bb
theorem bb_length (c : UInt8) : (bb c).length = 8 := bitsOf_length _ _
theorem bb_inj {c d : UInt8} (h : bb c = bb d) : c = d := by
  have hc := UInt8.toNat_lt c
  have hd := UInt8.toNat_lt d
  exact UInt8.toNat_inj.1 (bitsOf_inj (n := 8) hc hd h)
theorem bitsL_length (l : List UInt8) : (bitsL l).length = 8 * l.length := by
  induction l with
  | nil => rfl
  | cons c r ih =>
    have : bitsL (c :: r) = bb c ++ bitsL r := rfl
    rw [this, List.length_append, bb_length, ih, List.length_cons]
    omega
theorem bitsL_cons (c : UInt8) (r : List UInt8) : bitsL (c :: r) = bb c ++ bitsL r := rfl
theorem bitsL_append (a b : List UInt8) : bitsL (a ++ b) = bitsL a ++ bitsL b := by simp [bitsL]
theorem bitsL_inj : ∀ {a b : List UInt8}, bitsL a = bitsL b → a = b
  | [], [], _ => rfl
  | [], d :: b, h => by
    have := congrArg List.length h
    simp [bitsL_length] at this
  | c :: a, [], h => by
    have := congrArg List.length h
    simp [bitsL_length] at this
  | c :: a, d :: b, h => by
    rw [bitsL_cons, bitsL_cons] at h
    obtain ⟨h1, h2⟩ := List.append_inj h (by rw [bb_length, bb_length])
    rw [bb_inj h1, bitsL_inj h2]
def codeB (s : Nat) : List Bool := bitsOf (numF s) (ln s)
theorem codeB_length (s : Nat) : (codeB s).length = ln s := bitsOf_length _ _
def encB (l : List UInt8) : List Bool := l.flatMap fun c => codeB c.toNat
theorem encB_cons (c : UInt8) (r : List UInt8) : encB (c :: r) = codeB c.toNat ++ encB r := rfl
theorem encB_append (a b : List UInt8) : encB (a ++ b) = encB a ++ encB b := by simp [encB]
/-- How many bits a text has. -/
def szB (l : List UInt8) : Nat := (encB l).length
theorem szB_snoc (l : List UInt8) (c : UInt8) : szB (l ++ [c]) = szB l + ln c.toNat := by
  unfold szB
  rw [encB_append, List.length_append]
  simp [encB, codeB_length]
theorem szB_append (a b : List UInt8) : szB (a ++ b) = szB a + szB b := by simp [szB, encB_append]
theorem szB_le (l : List UInt8) : szB l ≤ l.length * 30 := by
  induction l with
  | nil => simp [szB, encB]
  | cons c r ih =>
    have hc := UInt8.toNat_lt c
    have := (ln_ok (s := c.toNat) (by omega)).2.1
    unfold szB at ih ⊢
    rw [encB_cons, List.length_append, codeB_length, List.length_cons]
    omega
/-! The code's texts. -/
theorem code_pre {s t : Nat} (hs : s < 257) (ht : t < 257) {D : List Bool} (h1 : codeB s <+: D) (h2 : codeB t <+: D) : s = t := by
  have key : ∀ {s t : Nat}, s < 257 → t < 257 → ln s ≤ ln t → codeB s <+: D → codeB t <+: D → s = t := by
    intro s t hs ht hl h1 h2
    have hp : codeB s <+: codeB t := List.prefix_of_prefix_length_le h1 h2 (by rw [codeB_length, codeB_length]; exact hl)
    have he : codeB s = (codeB t).take (ln s) := by
      have := List.prefix_iff_eq_take.1 hp
      rwa [codeB_length] at this
    have hb : codeB t = bitsOf (numF t / 2 ^ (ln t - ln s)) (ln s) ++ bitsOf (numF t) (ln t - ln s) := by
      unfold codeB
      rw [← bitsOf_append, show ln s + (ln t - ln s) = ln t by omega]
    rw [hb, List.take_left' (bitsOf_length _ _)] at he
    refine free hs ht hl (bitsOf_inj ?_ (sym hs).2.2.2.2.1 he.symm)
    rw [Nat.div_lt_iff_lt_mul (Nat.pow_pos (by omega)), ← Nat.pow_add, show ln s + (ln t - ln s) = ln t by omega]
    exact (sym ht).2.2.2.2.1
  rcases Nat.le_total (ln s) (ln t) with h | h
  · exact key hs ht h h1 h2
  · exact (key ht hs h h2 h1).symm
/-- The symbol with whose code bits begin. -/
def nextS (D : List Bool) : Option Nat := (List.range 257).find? fun s => (codeB s).isPrefixOf D
theorem nextS_some {D : List Bool} {s : Nat} : nextS D = some s ↔ s < 257 ∧ codeB s <+: D := by
  constructor
  · intro h
    have h1 := List.find?_some h
    have h2 := List.mem_of_find?_eq_some h
    exact ⟨List.mem_range.1 h2, List.isPrefixOf_iff_prefix.1 h1⟩
  · rintro ⟨hs, hp⟩
    cases h : nextS D with
    | none =>
      have := List.find?_eq_none.1 h s (List.mem_range.2 hs)
      exact absurd (List.isPrefixOf_iff_prefix.2 hp) this
    | some t =>
      have h1 := List.find?_some h
      have h2 := List.mem_of_find?_eq_some h
      rw [code_pre hs (List.mem_range.1 h2) hp (List.isPrefixOf_iff_prefix.1 h1)]
theorem nextS_none {D : List Bool} : nextS D = none ↔ ∀ s, s < 257 → ¬ codeB s <+: D := by
  constructor
  · intro h s hs hp
    have := List.find?_eq_none.1 h s (List.mem_range.2 hs)
    exact this (List.isPrefixOf_iff_prefix.2 hp)
  · intro h
    cases hn : nextS D with
    | none => rfl
    | some t => exact absurd (nextS_some.1 hn).2 (h t (nextS_some.1 hn).1)
theorem nextS_code {s : Nat} (hs : s < 257) (D : List Bool) : nextS (codeB s ++ D) = some s := nextS_some.2 ⟨hs, List.prefix_append _ _⟩
theorem ones_ok : (List.range 257).all (fun s => Nat.blt 7 (ln s) || !Nat.beq (numF s) (2 ^ ln s - 1)) = true := by kernel_rfl
theorem nextS_ones {p : Nat} (hp : p ≤ 7) : nextS (ones p) = none := by
  rw [nextS_none]
  intro s hs h
  have hl := h.length_le
  rw [codeB_length] at hl
  simp only [ones, List.length_replicate] at hl
  have h1 := List.all_eq_true.1 ones_ok s (List.mem_range.2 hs)
  simp only [Bool.or_eq_true, Nat.blt_eq, Bool.not_eq_true', Bool.eq_false_iff, ne_eq, Nat.beq_eq] at h1
  have he : codeB s = ones (ln s) := by
    have := List.prefix_iff_eq_take.1 h
    rw [this, codeB_length]
    simp [ones]
    omega
  rw [← ones_bits] at he
  have := bitsOf_inj (sym hs).2.2.2.2.1 (by have : 0 < 2 ^ ln s := Nat.pow_pos (by omega); omega) he
  rcases h1 with h1 | h1
  · omega
  · exact h1 this
/-! What is decoded: the bytes, and what is left; none: an end stands there. -/
def decS : Nat → List Bool → Option (List UInt8 × List Bool)
  | 0, D => some ([], D)
  | f + 1, D => match nextS D with
    | none => some ([], D)
    | some s => if s = 256 then none else (decS f (D.drop (ln s))).map fun x => (UInt8.ofNat s :: x.1, x.2)
def padOk (r : List Bool) : Bool := decide (r.length ≤ 7) && r.all id
/-- Decoding: an error's number, and the bytes. -/
def decE (D : List Bool) : Nat × List UInt8 := match decS D.length D with
  | none => (21, [])
  | some (l, r) => if padOk r then (0, l) else (20, [])
theorem padOk_ones {r : List Bool} (h : padOk r = true) : r = ones r.length ∧ r.length ≤ 7 := by
  unfold padOk at h
  simp only [Bool.and_eq_true, decide_eq_true_eq] at h
  refine ⟨?_, h.1⟩
  unfold ones
  rw [List.eq_replicate_iff]
  refine ⟨rfl, fun b hb => ?_⟩
  exact List.all_eq_true.1 h.2 b hb
theorem ones_pad {p : Nat} (h : p ≤ 7) : padOk (ones p) = true := by
  unfold padOk ones
  simp [h]
/-- Fuel more than there are bits changes nothing. -/
theorem decS_fuel : ∀ (f g : Nat) (D : List Bool), D.length ≤ f → D.length ≤ g → decS f D = decS g D
  | 0, 0, D, _, _ => rfl
  | 0, g + 1, D, hf, hg => by
    have hD : D = [] := List.length_eq_zero_iff.1 (by omega)
    subst hD
    have : nextS [] = none := nextS_ones (p := 0) (by omega)
    simp [decS, this]
  | f + 1, 0, D, hf, hg => by
    have hD : D = [] := List.length_eq_zero_iff.1 (by omega)
    subst hD
    have : nextS [] = none := nextS_ones (p := 0) (by omega)
    simp [decS, this]
  | f + 1, g + 1, D, hf, hg => by
    simp only [decS]
    cases h : nextS D with
    | none => rfl
    | some s =>
      have h1 := (nextS_some.1 h)
      have h2 := (ln_ok h1.1).1
      have h3 := h1.2.length_le
      rw [codeB_length] at h3
      simp only
      rw [decS_fuel f g (D.drop (ln s)) (by simp; omega) (by simp; omega)]
theorem decS_enc (l : List UInt8) (p : Nat) (hp : p ≤ 7) : ∀ f, (encB l ++ ones p).length ≤ f → decS f (encB l ++ ones p) = some (l, ones p) := by
  induction l with
  | nil =>
    intro f hf
    have : encB [] ++ ones p = ones p := rfl
    rw [this]
    cases f with
    | zero => rfl
    | succ f => simp [decS, nextS_ones hp]
  | cons c r ih =>
    intro f hf
    have hc := UInt8.toNat_lt c
    rw [encB_cons, List.append_assoc] at hf ⊢
    have h2 := (ln_ok (s := c.toNat) (by omega)).1
    rw [List.length_append, codeB_length] at hf
    cases f with
    | zero => omega
    | succ f =>
      simp only [decS]
      rw [nextS_code (by omega)]
      simp only
      rw [if_neg (by omega), List.drop_left' (codeB_length _), ih f (by omega)]
      simp
theorem decE_enc (l : List UInt8) (p : Nat) (hp : p ≤ 7) : decE (encB l ++ ones p) = (0, l) := by
  unfold decE
  rw [decS_enc l p hp _ (Nat.le_refl _)]
  simp [ones_pad hp]
theorem decS_back : ∀ (f : Nat) (D : List Bool) (l : List UInt8) (r : List Bool), decS f D = some (l, r) → D = encB l ++ r
  | 0, D, l, r, h => by
    simp [decS] at h
    obtain ⟨rfl, rfl⟩ := h
    rfl
  | f + 1, D, l, r, h => by
    simp only [decS] at h
    cases hn : nextS D with
    | none =>
      rw [hn] at h
      simp at h
      obtain ⟨rfl, rfl⟩ := h
      rfl
    | some s =>
      rw [hn] at h
      simp only at h
      obtain ⟨hs, hp⟩ := nextS_some.1 hn
      by_cases h6 : s = 256
      · rw [if_pos h6] at h; cases h
      · rw [if_neg h6] at h
        cases hd : decS f (D.drop (ln s)) with
        | none => rw [hd] at h; cases h
        | some x =>
          obtain ⟨l', r'⟩ := x
          rw [hd] at h
          simp at h
          obtain ⟨rfl, rfl⟩ := h
          have := decS_back f _ _ _ hd
          rw [encB_cons, List.append_assoc, ← this]
          have he : (UInt8.ofNat s).toNat = s := by simp; omega
          rw [he]
          have h2 := List.prefix_iff_eq_append.1 hp
          rw [codeB_length] at h2
          exact h2.symm
theorem decE_back {D : List Bool} {l : List UInt8} (h : decE D = (0, l)) : ∃ p, p ≤ 7 ∧ D = encB l ++ ones p := by
  unfold decE at h
  cases hd : decS D.length D with
  | none => rw [hd] at h; simp at h
  | some x =>
    obtain ⟨l', r⟩ := x
    rw [hd] at h
    simp only at h
    by_cases hp : padOk r = true
    · rw [if_pos hp] at h
      simp at h
      subst h
      obtain ⟨h1, h2⟩ := padOk_ones hp
      exact ⟨r.length, h2, by rw [decS_back _ _ _ _ hd]; rw [← h1]⟩
    · rw [if_neg hp] at h
      simp at h
theorem decE_err {D : List Bool} (h : (decE D).1 ≠ 0) : (decE D).2 = [] := by
  unfold decE at h ⊢
  cases hd : decS D.length D with
  | none => rfl
  | some x =>
    rw [hd] at h
    simp only at h ⊢
    by_cases hp : padOk x.2 = true
    · rw [if_pos hp] at h; simp at h
    · rw [if_neg hp]
theorem decE_cases (D : List Bool) : (decE D).1 = 0 ∨ (decE D).1 = 20 ∨ (decE D).1 = 21 := by
  unfold decE
  cases decS D.length D with
  | none => simp
  | some x =>
    simp only
    by_cases hp : padOk x.2 = true
    · simp [hp]
    · simp [hp]
/-! A text of bytes. -/
def IsEnc (l O : List UInt8) : Prop := ∃ p, p ≤ 7 ∧ bitsL O = encB l ++ ones p
theorem IsEnc.uniq {l O1 O2 : List UInt8} (h1 : IsEnc l O1) (h2 : IsEnc l O2) : O1 = O2 := by
  obtain ⟨p, hp, e1⟩ := h1
  obtain ⟨q, hq, e2⟩ := h2
  have k1 := congrArg List.length e1
  have k2 := congrArg List.length e2
  rw [bitsL_length, List.length_append] at k1 k2
  simp only [ones, List.length_replicate] at k1 k2
  have : p = q := by omega
  subst this
  exact bitsL_inj (e1.trans e2.symm)
theorem IsEnc.len {l O : List UInt8} (h : IsEnc l O) : O.length = (szB l + 7) / 8 := by
  obtain ⟨p, hp, e1⟩ := h
  have k1 := congrArg List.length e1
  rw [bitsL_length, List.length_append] at k1
  simp only [ones, List.length_replicate] at k1
  unfold szB
  omega
theorem IsEnc.dec {l O : List UInt8} (h : IsEnc l O) : decE (bitsL O) = (0, l) := by
  obtain ⟨p, hp, e1⟩ := h
  rw [e1, decE_enc l p hp]
theorem IsEnc.back {l O : List UInt8} (h : decE (bitsL O) = (0, l)) : IsEnc l O := by
  obtain ⟨p, hp, e1⟩ := decE_back h
  exact ⟨p, hp, e1⟩
end Go.Proofs.YtapikjhfgcbifaaGreatDoor

