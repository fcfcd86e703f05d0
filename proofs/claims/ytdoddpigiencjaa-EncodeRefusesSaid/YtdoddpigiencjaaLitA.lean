/-
  Layer 4: a text's bytes: what they are, and what they say. No Go in sight.
-/
import Derived.Test.YtdoddpigiencjaaHufO
import Derived.Test.YtdoddpigiencjaaPrefixM
namespace Go.Proofs.Ytdoddpigiencjaa
set_option linter.unusedVariables false
/-- A text's bytes, coded or plain. -/
def IsLit (l : List UInt8) (cd : Bool) (P : List UInt8) : Prop := ∃ O, (if cd then IsEnc l O else O = l) ∧ P = encL O.length 7 (if cd then 1 else 0) ++ O
/-- How many bytes stand behind the length. -/
def payN (l : List UInt8) (cd : Bool) : Nat := if cd then (szB l + 7) / 8 else l.length
/-- How many bytes a text has. -/
def litN (l : List UInt8) (cd : Bool) : Nat := (encL (payN l cd) 7 0).length + payN l cd
theorem encL_markL (n m : Nat) (hm : m < 2) (h : 0 < (encL n 7 m).length) : (encL n 7 m)[0].toNat / 128 = m := by
  have key : ∀ t, t < 128 → (UInt8.ofNat (m * 128 + t)).toNat / 128 = m := fun t ht => by
    have : (UInt8.ofNat (m * 128 + t)).toNat = m * 128 + t := by simp; omega
    rw [this]
    omega
  by_cases h1 : n < 2 ^ 7 - 1
  · have hl : encL n 7 m = [UInt8.ofNat (m * 2 ^ 7 + n)] := by unfold encL; rw [if_pos h1]
    simp only [hl, List.getElem_cons_zero]
    exact key n (by omega)
  · have hl : encL n 7 m = UInt8.ofNat (m * 2 ^ 7 + (2 ^ 7 - 1)) :: tailF 5 (n - (2 ^ 7 - 1)) := by unfold encL; rw [if_neg h1]
    simp only [hl, List.getElem_cons_zero]
    exact key _ (by omega)
theorem encL_len_markL (n m : Nat) : (encL n 7 m).length = (encL n 7 0).length := by
  unfold encL
  split <;> simp
theorem pay_len {l O : List UInt8} {cd : Bool} (h : if cd then IsEnc l O else O = l) : O.length = payN l cd := by
  cases cd with
  | true => exact IsEnc.len h
  | false => 
    have h2 : O = l := h
    rw [h2]; rfl
theorem payN_le (l : List UInt8) (cd : Bool) : payN l cd ≤ l.length * 4 := by
  have := szB_le l
  cases cd
  · show l.length ≤ _; omega
  · show (szB l + 7) / 8 ≤ _
    rcases Nat.eq_zero_or_pos l.length with h | h
    · have : szB l = 0 := by omega
      omega
    · omega
theorem IsLit.len {l P : List UInt8} {cd : Bool} (h : IsLit l cd P) : P.length = litN l cd := by
  obtain ⟨O, ho, rfl⟩ := h
  rw [List.length_append, pay_len ho, encL_len_markL]
  rfl
theorem litN_le (l : List UInt8) (cd : Bool) (h : l.length ≤ 100000000) : 1 ≤ litN l cd ∧ litN l cd ≤ l.length * 4 + 6 := by
  have h1 := payN_le l cd
  have := encL_length (payN l cd) 7 0 (by omega)
  unfold litN
  omega
theorem IsLit.uniq {l P Q : List UInt8} {cd : Bool} (h : IsLit l cd P) (k : IsLit l cd Q) : P = Q := by
  obtain ⟨O, ho, rfl⟩ := h
  obtain ⟨O2, ho2, rfl⟩ := k
  have : O = O2 := by
    cases cd with
    | true => exact IsEnc.uniq ho ho2
    | false => exact Eq.trans (show O = l from ho) (show O2 = l from ho2).symm
  rw [this]
/-! What bytes say. -/
theorem decF_cases : ∀ (f : Nat) (l : List UInt8) (i n : Nat), n ≤ 2147483647 → decF f l i n = (0, 0, 22) ∨ decF f l i n = (0, 0, 16) ∨ ∃ N u : Nat, decF f l i n = ((N : Int), (u : Int), 0) ∧ i < u ∧ u ≤ l.length ∧ N ≤ 2147483647
  | 0, l, i, n, _ => .inl rfl
  | f + 1, l, i, n, hn => by
    unfold decF
    cases hl : l[i]? with
    | none => exact .inr (.inl rfl)
    | some c =>
      simp only
      have hil := (List.getElem?_eq_some_iff.1 hl).1
      by_cases h1 : 5 < i
      · rw [if_pos h1]; exact .inl rfl
      · rw [if_neg h1]
        by_cases h2 : 2147483647 < n + c.toNat % 128 * 128 ^ (i - 1)
        · rw [if_pos h2]; exact .inl rfl
        · rw [if_neg h2]
          by_cases h3 : c.toNat < 128
          · rw [if_pos h3]
            exact .inr (.inr ⟨_, _, rfl, by omega, by omega, by omega⟩)
          · rw [if_neg h3]
            rcases decF_cases f l (i + 1) (n + c.toNat % 128 * 128 ^ (i - 1)) (by omega) with h | h | ⟨N, u, h, a, b, d⟩
            · exact .inl h
            · exact .inr (.inl h)
            · exact .inr (.inr ⟨N, u, h, by omega, b, d⟩)
theorem decL_cases (l : List UInt8) : decL l 7 = (0, 0, 22) ∨ decL l 7 = (0, 0, 16) ∨ ∃ N u : Nat, decL l 7 = ((N : Int), (u : Int), 0) ∧ 1 ≤ u ∧ u ≤ l.length ∧ N ≤ 2147483647 := by
  unfold decL
  cases hl : l[0]? with
  | none => exact .inr (.inl rfl)
  | some c =>
    simp only
    have hil := (List.getElem?_eq_some_iff.1 hl).1
    by_cases h : c.toNat % 2 ^ 7 < 2 ^ 7 - 1
    · rw [if_pos h]
      exact .inr (.inr ⟨_, 1, rfl, by omega, by omega, by omega⟩)
    · rw [if_neg h]
      rcases decF_cases 6 l 1 (c.toNat % 2 ^ 7) (by omega) with h | h | ⟨N, u, h, a, b, d⟩
      · exact .inl h
      · exact .inr (.inl h)
      · exact .inr (.inr ⟨N, u, h, by omega, b, d⟩)
/-- What a text's own bytes say: an error's number, and the text. -/
def textR (b : List UInt8) (cd : Bool) (lim : Int) : Nat × List UInt8 :=
  let r := if cd then decE (bitsL b) else (0, b)
  if r.1 = 0 then (if lim < (r.2.length : Int) then (22, []) else r) else (r.1, [])
/-- What bytes begin with: the text, how many bytes it has, an error's number. -/
def litR (l : List UInt8) (lim : Int) : List UInt8 × Nat × Nat :=
  match decL l 7 with
  | (n, u, e) => if e ≠ 0 then ([], 0, e.toNat) else if (l.length : Int) < u + n then ([], 0, 16) else
    let r := textR ((l.drop u.toNat).take n.toNat) (decide (1 ≤ (l.headD 0).toNat / 128)) lim
    if r.1 = 0 then (r.2, (u + n).toNat, 0) else ([], 0, r.1)
theorem headD_app : ∀ (X Y : List UInt8) (h : 0 < X.length), (X ++ Y).headD 0 = X[0]
  | [], _, h => by simp at h
  | a :: r, _, _ => rfl
theorem textR_ok {b O : List UInt8} {cd : Bool} {lim : Int} (h : if cd then IsEnc O b else b = O) : textR b cd lim = if lim < (O.length : Int) then (22, []) else (0, O) := by
  unfold textR
  cases cd with
  | true =>
    have hd := IsEnc.dec (show IsEnc O b from h)
    simp [hd]
  | false =>
    have hd : b = O := h
    subst hd
    simp
theorem litR_lit {l P : List UInt8} {cd : Bool} (h : IsLit l cd P) (hl : l.length ≤ 100000000) (more : List UInt8) (lim : Int) :
    litR (P ++ more) lim = if lim < (l.length : Int) then ([], 0, 22) else (l, P.length, 0) := by
  obtain ⟨O, ho, rfl⟩ := h
  have hOl := pay_len ho
  have hle := payN_le l cd
  obtain ⟨m, hm⟩ : ∃ m, (if cd then 1 else 0) = m := ⟨_, rfl⟩
  have hm2 : m < 2 := by subst hm; cases cd <;> simp
  have hcd : decide (1 ≤ m) = cd := by subst hm; cases cd <;> rfl
  rw [hm]
  have h1 := encL_length O.length 7 m (by omega)
  have hd := decL_encL O.length 7 m (O ++ more) (by omega) (by omega) (by omega) hm2
  have hmk := encL_markL O.length m hm2 (by omega)
  unfold litR
  rw [List.append_assoc, hd]
  simp only
  rw [if_neg (by simp)]
  rw [if_neg (by simp only [List.length_append]; omega)]
  have hh := headD_app (encL O.length 7 m) (O ++ more) (by omega)
  rw [hh, hmk, hcd]
  have e2 : ((encL O.length 7 m ++ (O ++ more)).drop ((encL O.length 7 m).length : Int).toNat).take (O.length : Int).toNat = O := by
    simp
  rw [e2, textR_ok (O := l) (by cases cd with
    | true => exact ho
    | false => exact ho)]
  by_cases hlim : lim < (l.length : Int)
  · rw [if_pos hlim, if_pos hlim]; simp
  · rw [if_neg hlim, if_neg hlim]
    simp
    omega
theorem decL_casesB (b : Nat) (h8 : b ≤ 8) (l : List UInt8) : decL l b = (0, 0, 22) ∨ decL l b = (0, 0, 16) ∨ ∃ N u : Nat, decL l b = ((N : Int), (u : Int), 0) ∧ 1 ≤ u ∧ u ≤ l.length ∧ N ≤ 2147483647 := by
  unfold decL
  cases hl : l[0]? with
  | none => exact .inr (.inl rfl)
  | some c =>
    simp only
    have hil := (List.getElem?_eq_some_iff.1 hl).1
    have hc := UInt8.toNat_lt c
    have hcm : c.toNat % 2 ^ b ≤ c.toNat := Nat.mod_le _ _
    by_cases h : c.toNat % 2 ^ b < 2 ^ b - 1
    · rw [if_pos h]
      exact .inr (.inr ⟨_, 1, rfl, by omega, by omega, by omega⟩)
    · rw [if_neg h]
      rcases decF_cases 6 l 1 (c.toNat % 2 ^ b) (by omega) with h | h | ⟨N, u, h, a, b, d⟩
      · exact .inl h
      · exact .inr (.inl h)
      · exact .inr (.inr ⟨N, u, h, by omega, b, d⟩)
theorem litR_used (l : List UInt8) (lim : Int) (h : (litR l lim).2.2 = 0) : 1 ≤ (litR l lim).2.1 ∧ (litR l lim).2.1 ≤ l.length := by
  rcases decL_cases l with e | e | ⟨N, u, e, h1, h2, h3⟩
  · unfold litR at h; rw [e] at h; simp at h
  · unfold litR at h; rw [e] at h; simp at h
  · unfold litR at h ⊢
    rw [e] at h ⊢
    simp only at h ⊢
    rw [if_neg (by simp)] at h ⊢
    by_cases hs : (l.length : Int) < (u : Int) + (N : Int)
    · rw [if_pos hs] at h; simp at h
    · rw [if_neg hs] at h ⊢
      by_cases ht : (textR ((l.drop (u : Int).toNat).take (N : Int).toNat) (decide (1 ≤ (l.headD 0).toNat / 128)) lim).1 = 0
      · rw [if_pos ht]; simp only; omega
      · rw [if_neg ht] at h; simp only at h; exact absurd h ht
end Go.Proofs.Ytdoddpigiencjaa

