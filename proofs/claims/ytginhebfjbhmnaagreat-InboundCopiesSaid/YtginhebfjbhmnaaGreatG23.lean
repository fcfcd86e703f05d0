/-
  Texts laid together: LitA Prefix PrefixD.
-/
import Derived.Test.YtginhebfjbhmnaaGreatG22
import Derived.Test.YtginhebfjbhmnaaGreatG01
/-
  Layer 4: a text's bytes: what they are, and what they say. No Go in sight.
-/
namespace Go.Proofs.YtginhebfjbhmnaaGreat
set_option maxRecDepth 100000
set_option linter.unusedVariables false
/-- A text's bytes, coded or plain. -/
def IsLit (l : List UInt8) (cd : Bool) (P : List UInt8) : Prop := ∃ O, (if cd then IsEnc l O else O = l) ∧ P = encL O.length 7 (if cd then 1 else 0) ++ O
/-- How many bytes stand behind the length. -/
def payN (l : List UInt8) (cd : Bool) : Nat := if cd then (hszB l + 7) / 8 else l.length
/-- How many bytes a text has. -/
def litN (l : List UInt8) (cd : Bool) : Nat := (encL (payN l cd) 7 0).length + payN l cd
theorem encL_markL (n m : Nat) (hm : m < 2) (h : 0 < (encL n 7 m).length) : (encL n 7 m)[0].toNat / 128 = m := by
  have key : ∀ t, t < 128 → (UInt8.ofNat (m * 128 + t)).toNat / 128 = m := fun t ht => by
    have : (UInt8.ofNat (m * 128 + t)).toNat = m * 128 + t := by simp; omega
    rw [this]
    omega
  by_cases h1 : n < 2 ^ 7 - 1
  · have hl : encL n 7 m = [UInt8.ofNat (m * 2 ^ 7 + n)] := by unfold encL; rw [if_pos h1]
    simp only [hl, List.getElem_cons_zero]
    exact key n (by omega)
  · have hl : encL n 7 m = UInt8.ofNat (m * 2 ^ 7 + (2 ^ 7 - 1)) :: tailF 5 (n - (2 ^ 7 - 1)) := by unfold encL; rw [if_neg h1]
    simp only [hl, List.getElem_cons_zero]
    exact key _ (by omega)
theorem encL_len_markL (n m : Nat) : (encL n 7 m).length = (encL n 7 0).length := by
  unfold encL
  split <;> simp
theorem pay_len {l O : List UInt8} {cd : Bool} (h : if cd then IsEnc l O else O = l) : O.length = payN l cd := by
  cases cd with
  | true => exact IsEnc.len h
  | false => 
    have h2 : O = l := h
    rw [h2]; rfl
theorem payN_le (l : List UInt8) (cd : Bool) : payN l cd ≤ l.length * 4 := by
  have := szB_le l
  cases cd
  · show l.length ≤ _; omega
  · show (hszB l + 7) / 8 ≤ _
    rcases Nat.eq_zero_or_pos l.length with h | h
    · have : hszB l = 0 := by omega
      omega
    · omega
theorem IsLit.len {l P : List UInt8} {cd : Bool} (h : IsLit l cd P) : P.length = litN l cd := by
  obtain ⟨O, ho, rfl⟩ := h
  rw [List.length_append, pay_len ho, encL_len_markL]
  rfl
theorem litN_le (l : List UInt8) (cd : Bool) (h : l.length ≤ 100000000) : 1 ≤ litN l cd ∧ litN l cd ≤ l.length * 4 + 6 := by
  have h1 := payN_le l cd
  have := encL_length (payN l cd) 7 0 (by omega)
  unfold litN
  omega
theorem IsLit.uniq {l P Q : List UInt8} {cd : Bool} (h : IsLit l cd P) (k : IsLit l cd Q) : P = Q := by
  obtain ⟨O, ho, rfl⟩ := h
  obtain ⟨O2, ho2, rfl⟩ := k
  have : O = O2 := by
    cases cd with
    | true => exact IsEnc.uniq ho ho2
    | false => exact Eq.trans (show O = l from ho) (show O2 = l from ho2).symm
  rw [this]
/-! What bytes say. -/
theorem decF_cases : ∀ (f : Nat) (l : List UInt8) (i n : Nat), n ≤ 2147483647 → decF f l i n = (0, 0, 22) ∨ decF f l i n = (0, 0, 16) ∨ ∃ N u : Nat, decF f l i n = ((N : Int), (u : Int), 0) ∧ i < u ∧ u ≤ l.length ∧ N ≤ 2147483647
  | 0, l, i, n, _ => .inl rfl
  | f + 1, l, i, n, hn => by
    unfold decF
    cases hl : l[i]? with
    | none => exact .inr (.inl rfl)
    | some c =>
      simp only
      have hil := (List.getElem?_eq_some_iff.1 hl).1
      by_cases h1 : 5 < i
      · rw [if_pos h1]; exact .inl rfl
      · rw [if_neg h1]
        by_cases h2 : 2147483647 < n + c.toNat % 128 * 128 ^ (i - 1)
        · rw [if_pos h2]; exact .inl rfl
        · rw [if_neg h2]
          by_cases h3 : c.toNat < 128
          · rw [if_pos h3]
            exact .inr (.inr ⟨_, _, rfl, by omega, by omega, by omega⟩)
          · rw [if_neg h3]
            rcases decF_cases f l (i + 1) (n + c.toNat % 128 * 128 ^ (i - 1)) (by omega) with h | h | ⟨N, u, h, a, b, d⟩
            · exact .inl h
            · exact .inr (.inl h)
            · exact .inr (.inr ⟨N, u, h, by omega, b, d⟩)
theorem decL_cases (l : List UInt8) : decL l 7 = (0, 0, 22) ∨ decL l 7 = (0, 0, 16) ∨ ∃ N u : Nat, decL l 7 = ((N : Int), (u : Int), 0) ∧ 1 ≤ u ∧ u ≤ l.length ∧ N ≤ 2147483647 := by
  unfold decL
  cases hl : l[0]? with
  | none => exact .inr (.inl rfl)
  | some c =>
    simp only
    have hil := (List.getElem?_eq_some_iff.1 hl).1
    by_cases h : c.toNat % 2 ^ 7 < 2 ^ 7 - 1
    · rw [if_pos h]
      exact .inr (.inr ⟨_, 1, rfl, by omega, by omega, by omega⟩)
    · rw [if_neg h]
      rcases decF_cases 6 l 1 (c.toNat % 2 ^ 7) (by omega) with h | h | ⟨N, u, h, a, b, d⟩
      · exact .inl h
      · exact .inr (.inl h)
      · exact .inr (.inr ⟨N, u, h, by omega, b, d⟩)
/-- What a text's own bytes say: an error's number, and the text. -/
def textR (b : List UInt8) (cd : Bool) (lim : Int) : Nat × List UInt8 :=
  let r := if cd then decE (bitsL b) else (0, b)
  if r.1 = 0 then (if lim < (r.2.length : Int) then (22, []) else r) else (r.1, [])
/-- What bytes begin with: the text, how many bytes it has, an error's number. -/
def litR (l : List UInt8) (lim : Int) : List UInt8 × Nat × Nat :=
  match decL l 7 with
  | (n, u, e) => if e ≠ 0 then ([], 0, e.toNat) else if (l.length : Int) < u + n then ([], 0, 16) else
    let r := textR ((l.drop u.toNat).take n.toNat) (decide (1 ≤ (l.headD 0).toNat / 128)) lim
    if r.1 = 0 then (r.2, (u + n).toNat, 0) else ([], 0, r.1)
theorem headD_app : ∀ (X Y : List UInt8) (h : 0 < X.length), (X ++ Y).headD 0 = X[0]
  | [], _, h => by simp at h
  | a :: r, _, _ => rfl
theorem textR_ok {b O : List UInt8} {cd : Bool} {lim : Int} (h : if cd then IsEnc O b else b = O) : textR b cd lim = if lim < (O.length : Int) then (22, []) else (0, O) := by
  unfold textR
  cases cd with
  | true =>
    have hd := IsEnc.dec (show IsEnc O b from h)
    simp [hd]
  | false =>
    have hd : b = O := h
    subst hd
    simp
theorem litR_lit {l P : List UInt8} {cd : Bool} (h : IsLit l cd P) (hl : l.length ≤ 100000000) (more : List UInt8) (lim : Int) :
    litR (P ++ more) lim = if lim < (l.length : Int) then ([], 0, 22) else (l, P.length, 0) := by
  obtain ⟨O, ho, rfl⟩ := h
  have hOl := pay_len ho
  have hle := payN_le l cd
  obtain ⟨m, hm⟩ : ∃ m, (if cd then 1 else 0) = m := ⟨_, rfl⟩
  have hm2 : m < 2 := by subst hm; cases cd <;> simp
  have hcd : decide (1 ≤ m) = cd := by subst hm; cases cd <;> rfl
  rw [hm]
  have h1 := encL_length O.length 7 m (by omega)
  have hd := decL_encL O.length 7 m (O ++ more) (by omega) (by omega) (by omega) hm2
  have hmk := encL_markL O.length m hm2 (by omega)
  unfold litR
  rw [List.append_assoc, hd]
  simp only
  rw [if_neg (by simp)]
  rw [if_neg (by simp only [List.length_append]; omega)]
  have hh := headD_app (encL O.length 7 m) (O ++ more) (by omega)
  rw [hh, hmk, hcd]
  have e2 : ((encL O.length 7 m ++ (O ++ more)).drop ((encL O.length 7 m).length : Int).toNat).take (O.length : Int).toNat = O := by
    simp
  rw [e2, textR_ok (O := l) (by cases cd with
    | true => exact ho
    | false => exact ho)]
  by_cases hlim : lim < (l.length : Int)
  · rw [if_pos hlim, if_pos hlim]; simp
  · rw [if_neg hlim, if_neg hlim]
    simp
    omega
theorem decL_casesB (b : Nat) (h8 : b ≤ 8) (l : List UInt8) : decL l b = (0, 0, 22) ∨ decL l b = (0, 0, 16) ∨ ∃ N u : Nat, decL l b = ((N : Int), (u : Int), 0) ∧ 1 ≤ u ∧ u ≤ l.length ∧ N ≤ 2147483647 := by
  unfold decL
  cases hl : l[0]? with
  | none => exact .inr (.inl rfl)
  | some c =>
    simp only
    have hil := (List.getElem?_eq_some_iff.1 hl).1
    have hc := UInt8.toNat_lt c
    have hcm : c.toNat % 2 ^ b ≤ c.toNat := Nat.mod_le _ _
    by_cases h : c.toNat % 2 ^ b < 2 ^ b - 1
    · rw [if_pos h]
      exact .inr (.inr ⟨_, 1, rfl, by omega, by omega, by omega⟩)
    · rw [if_neg h]
      rcases decF_cases 6 l 1 (c.toNat % 2 ^ b) (by omega) with h | h | ⟨N, u, h, a, b, d⟩
      · exact .inl h
      · exact .inr (.inl h)
      · exact .inr (.inr ⟨N, u, h, by omega, b, d⟩)
theorem litR_used (l : List UInt8) (lim : Int) (h : (litR l lim).2.2 = 0) : 1 ≤ (litR l lim).2.1 ∧ (litR l lim).2.1 ≤ l.length := by
  rcases decL_cases l with e | e | ⟨N, u, e, h1, h2, h3⟩
  · unfold litR at h; rw [e] at h; simp at h
  · unfold litR at h; rw [e] at h; simp at h
  · unfold litR at h ⊢
    rw [e] at h ⊢
    simp only at h ⊢
    rw [if_neg (by simp)] at h ⊢
    by_cases hs : (l.length : Int) < (u : Int) + (N : Int)
    · rw [if_pos hs] at h; simp at h
    · rw [if_neg hs] at h ⊢
      by_cases ht : (textR ((l.drop (u : Int).toNat).take (N : Int).toNat) (decide (1 ≤ (l.headD 0).toNat / 128)) lim).1 = 0
      · rw [if_pos ht]; simp only; omega
      · rw [if_neg ht] at h; simp only at h; exact absurd h ht
end Go.Proofs.YtginhebfjbhmnaaGreat

/-
  Contracts of package prefix: Encode, Len.
-/
namespace Go.Proofs.YtginhebfjbhmnaaGreat
set_option maxRecDepth 100000
set_option linter.unusedVariables false
open Go.RowKit

theorem pu8_info : (Tryz.prog.info? 5).map (fun i => (i.zero, i.size, i.bytes)) = some (some (.int .u8 0), 1, 1) := by kernel_rfl

theorem or_i64 (a b p : Nat) (hb : b < 2 ^ p) (hp : p ≤ 8) (ha : a < 1048576) : bits .or .i64 ((a : Int) * ((2 ^ p : Nat) : Int)) (b : Int) = ((a * 2 ^ p + b : Nat) : Int) := by
  have h256 : 2 ^ p ≤ 256 := by have : 2 ^ p ≤ 2 ^ 8 := Nat.pow_le_pow_right (by omega) hp; omega
  have hm : a * 2 ^ p < 1048576 * 256 := Nat.lt_of_lt_of_le (Nat.mul_lt_mul_of_pos_right ha (Nat.pow_pos (by omega))) (Nat.mul_le_mul_left _ h256)
  show IntKind.i64.wrap ((BitVec.ofInt 64 ((a : Int) * ((2 ^ p : Nat) : Int)) ||| BitVec.ofInt 64 (b : Int)).toNat : Int) = _
  rw [← Int.natCast_mul, BitVec.ofInt_natCast, BitVec.ofInt_natCast, BitVec.toNat_or, BitVec.toNat_ofNat, BitVec.toNat_ofNat, Nat.mod_eq_of_lt (by omega), Nat.mod_eq_of_lt (by omega)]
  have e3 : a * 2 ^ p ||| b = a * 2 ^ p + b := by
    have := Nat.shiftLeft_add_eq_or_of_lt hb a
    rw [Nat.shiftLeft_eq] at this
    exact this.symm
  rw [e3]
  exact IntWalk.i64_in _ (by omega)
theorem and127 (r : Nat) (hr : r < 9223372036854775808) : bits .and .i64 (r : Int) 127 = ((r % 128 : Nat) : Int) := by
  show IntKind.i64.wrap ((BitVec.ofInt 64 (r : Int) &&& BitVec.ofInt 64 ((127 : Nat) : Int)).toNat : Int) = _
  rw [BitVec.ofInt_natCast, BitVec.ofInt_natCast, BitVec.toNat_and, BitVec.toNat_ofNat, BitVec.toNat_ofNat, Nat.mod_eq_of_lt (by omega), Nat.mod_eq_of_lt (by omega)]
  rw [show (127 : Nat) = 2 ^ 7 - 1 from rfl, Nat.and_two_pow_sub_one_eq_mod]
  exact IntWalk.i64_in _ (by omega)
theorem or128 (r : Nat) (hr : r < 128) : bits .or .i64 128 (r : Int) = ((128 + r : Nat) : Int) := by
  have := or_i64 1 r 7 hr (by omega) (by omega)
  rw [show ((1 : Nat) : Int) * ((2 ^ 7 : Nat) : Int) = 128 from rfl] at this
  rw [this]

def EncPost (l : List UInt8) (w : World) (e : Ending) (w' : World) : Prop :=
  ∃ A c, e = .returned (.tuple #[.slice A l.length c, .int .i64 0]) ∧ Own w' w.heap.size 5 1 (.slice A l.length c) l.length (l.map byteV) ∧ Fresh w w'

def EncRel (w : World) (l : List UInt8) (y v : Value) (wr : World) : Prop :=
  ∃ (r f : Nat) (xs : List UInt8), y = .int .i64 r ∧ f ≤ 5 ∧ xs.length + f = 6 ∧ r < 128 ^ f ∧ xs ++ tailF f r = l ∧ Own wr w.heap.size 5 1 v xs.length (xs.map byteV) ∧ Below w.heap.size w wr

end Go.Proofs.YtginhebfjbhmnaaGreat

/-
  Contracts of package prefix: ones, Encode for all, Len, Decode, Mark.
-/
namespace Go.Proofs.YtginhebfjbhmnaaGreat
set_option maxRecDepth 100000
set_option linter.unusedVariables false
open Go.RowKit

theorem ones_c (b : Nat) (hb : b ≤ 8) (w : World) :
    Calls Tryz.prog 85 #[.int .i64 b] w fun e w' => e = .returned (.int .i64 ((2 ^ b - 1 : Nat) : Int)) ∧ w = w' := by
  have h : b = 0 ∨ b = 1 ∨ b = 2 ∨ b = 3 ∨ b = 4 ∨ b = 5 ∨ b = 6 ∨ b = 7 ∨ b = 8 := by omega
  rcases h with rfl | rfl | rfl | rfl | rfl | rfl | rfl | rfl | rfl <;>
  · go_enter Tryz.func85, Tryz.ntmps85
    go_wp2
    go_ret
    exact ⟨rfl, rfl⟩

theorem rb_c (b : Nat) (hb1 : 1 ≤ b) (hb : b ≤ 8) (w : World) :
    Calls Tryz.prog 84 #[.int .i64 b] w fun e w' => e = .returned (.bool true) ∧ w = w' := by
  have h1 : (1 : Int) ≤ b := by omega
  have h2 : (b : Int) ≤ 8 := by omega
  go_enter Tryz.func84, Tryz.ntmps84
  go_wp2
  go_ret
  exact ⟨rfl, rfl⟩
theorem rb_no (b : Int) (hb : ¬ (1 ≤ b ∧ b ≤ 8)) (w : World) :
    Calls Tryz.prog 84 #[.int .i64 b] w fun e w' => e = .returned (.bool false) ∧ w = w' := by
  by_cases h1 : b < 1
  · clear hb
    go_enter Tryz.func84, Tryz.ntmps84
    go_wp2
    go_ret
    exact ⟨rfl, rfl⟩
  · have h2 : 8 < b := by omega
    clear hb
    go_enter Tryz.func84, Tryz.ntmps84
    go_wp2
    go_ret
    exact ⟨ret_bool (decide_eq_false (by omega)), rfl⟩

theorem and_ones (c b : Nat) (hc : c < 256) (hb : b ≤ 8) : bits .and .i64 (c : Int) ((2 ^ b - 1 : Nat) : Int) = ((c % 2 ^ b : Nat) : Int) := by
  have h256 : 2 ^ b ≤ 256 := by have : 2 ^ b ≤ 2 ^ 8 := Nat.pow_le_pow_right (by omega) hb; omega
  show IntKind.i64.wrap ((BitVec.ofInt 64 (c : Int) &&& BitVec.ofInt 64 ((2 ^ b - 1 : Nat) : Int)).toNat : Int) = _
  rw [BitVec.ofInt_natCast, BitVec.ofInt_natCast, BitVec.toNat_and, BitVec.toNat_ofNat, BitVec.toNat_ofNat, Nat.mod_eq_of_lt (by omega), Nat.mod_eq_of_lt (by omega), Nat.and_two_pow_sub_one_eq_mod]
  have := Nat.mod_le c (2 ^ b)
  exact IntWalk.i64_in _ (by omega)

theorem and127u (c : Nat) (hc : c < 256) : bits .and .u8 (c : Int) 127 = ((c % 128 : Nat) : Int) := by
  show IntKind.u8.wrap ((BitVec.ofInt 8 (c : Int) &&& BitVec.ofInt 8 ((127 : Nat) : Int)).toNat : Int) = _
  rw [BitVec.ofInt_natCast, BitVec.ofInt_natCast, BitVec.toNat_and, BitVec.toNat_ofNat, BitVec.toNat_ofNat, Nat.mod_eq_of_lt (by omega), Nat.mod_eq_of_lt (by omega)]
  rw [show (127 : Nat) = 2 ^ 7 - 1 from rfl, Nat.and_two_pow_sub_one_eq_mod]
  rw [IntKind.wrap_u8]
  omega

/-- May these be? -/
def okP (n b m : Int) : Prop := 1 ≤ b ∧ b ≤ 8 ∧ 0 ≤ n ∧ n ≤ 2147483647 ∧ 0 ≤ m ∧ m < 2 ^ (8 - b.toNat)

def decV (r : Int × Int × Int) : Value := .tuple #[.int .i64 r.1, .int .i64 r.2.1, .int .i64 r.2.2]

theorem dec_bits (A : Option Addr) (c n : Nat) (b : Int) (w : World) (h : ¬ (1 ≤ b ∧ b ≤ 8)) :
    Calls Tryz.prog 80 #[.slice A n c, .int .i64 b] w fun e w' => e = .returned (decV (0, 0, 11)) ∧ Fresh w w' := by
  have HB := Lib.hid (rb_no b h w)
  clear h
  go_enter Tryz.func80, Tryz.ntmps80
  go_wp2_with fail
  refine HB.out.mono ?_
  rintro e w1 ⟨rfl, rfl⟩
  go_wp2
  go_ret3
  exact ⟨rfl, Fresh.refl _⟩

set_option maxRecDepth 100000 in
set_option maxHeartbeats 1600000 in
theorem dec_any (A : Option Addr) (c b : Nat) (l : List UInt8) (w : World) (hb1 : 1 ≤ b) (hb8 : b ≤ 8) (hmx : l.length ≤ 9223372036854775807) (h : BS w A l) :
    Calls Tryz.prog 80 #[.slice A l.length c, .int .i64 b] w fun e w' => e = .returned (decV (decL l b)) ∧ Fresh w w' := by
  by_cases h0 : l.length = 0
  · have hl : decL l b = (0, 0, 16) := by unfold decL; rw [List.getElem?_eq_none (by omega)]
    rw [hl, h0]
    clear hl h
    have HB := Lib.hid (rb_c b hb1 hb8 w)
    go_enter Tryz.func80, Tryz.ntmps80
    go_wp2_with fail
    refine HB.out.mono ?_
    rintro e w1 ⟨rfl, rfl⟩
    go_wp2
    go_ret3
    exact ⟨rfl, Fresh.refl _⟩
  · obtain ⟨blk, o, rfl, _, hcs⟩ := h.addr (by omega)
    have hc0 := hcs 0 (by omega)
    simp only [byteV, Nat.add_zero] at hc0
    have HB := Lib.hid (rb_c b hb1 hb8 w)
    have HCS := Lib.hid hcs
    clear hcs h
    have HO := Lib.hid (ones_c b hb8)
    have hand := and_ones l[0].toNat b (UInt8.toNat_lt _) hb8
    have hlt0 := UInt8.toNat_lt l[0]
    have hwc : IntKind.i64.wrap (l[0].toNat : Int) = (l[0].toNat : Int) := IntWalk.i64_in _ (by omega)
    have hl0 : 0 < l.length := by omega
    by_cases h1 : l[0].toNat % 2 ^ b < 2 ^ b - 1
    · have HL : Hid (decL l b = (((l[0].toNat % 2 ^ b : Nat) : Int), 1, 0)) := by
        show _ = _
        unfold decL; rw [List.getElem?_eq_getElem hl0]; simp only []; rw [if_pos h1]
      generalize l[0].toNat % 2 ^ b = q at *
      generalize 2 ^ b - 1 = t at *
      have h1' : (q : Int) < (t : Int) := by omega
      go_enter Tryz.func80, Tryz.ntmps80
      go_wp2_with fail
      refine HB.out.mono ?_
      rintro e w1 ⟨rfl, rfl⟩
      go_wp2
      go_quiet ((go_at_call 85; exact Calls.quiet_of_same ((HO.out _).mono fun _ _ ⟨a, b⟩ => ⟨a, b.symm⟩)))
      go_wp2_with (go_at_call 85; refine (HO.out _).mono ?_; rintro e w2 ⟨rfl, rfl⟩)
      go_ret3
      exact ⟨by rw [HL.out]; rfl, Fresh.drewN _ _⟩
    · have HL : Hid (decL l b = decF 6 l 1 (l[0].toNat % 2 ^ b)) := by
        show _ = _
        unfold decL; rw [List.getElem?_eq_getElem hl0]; simp only []; rw [if_neg h1]
      have hq9 : l[0].toNat % 2 ^ b ≤ 255 := by have := Nat.mod_le l[0].toNat (2 ^ b); omega
      generalize l[0].toNat % 2 ^ b = q at *
      generalize 2 ^ b - 1 = t at *
      have h1' : ¬ (q : Int) < (t : Int) := by omega
      go_enter Tryz.func80, Tryz.ntmps80
      go_wp2_with fail
      refine HB.out.mono ?_
      rintro e w1 ⟨rfl, rfl⟩
      go_wp2
      go_quiet ((go_at_call 85; exact Calls.quiet_of_same ((HO.out _).mono fun _ _ ⟨a, b⟩ => ⟨a, b.symm⟩)))
      go_wp2_with (go_at_call 85; refine (HO.out _).mono ?_; rintro e w2 ⟨rfl, rfl⟩)
      clear hwc hc0 hand hlt0 h1' h1
      go_loop [4, 7] (fun y i => ∃ (k m : Nat), k ≤ l.length ∧ 1 ≤ k ∧ k ≤ 6 ∧ m ≤ 2147483647 ∧ i = .int .i64 k ∧ y = .int .i64 m ∧ decF (7 - k) l k m = decL l b) (fun _ i => 7 - (intOf i).toNat)
      case atStart => exact ⟨1, q, by omega, by omega, by omega, by omega, rfl, rfl, HL.out.symm⟩
      case round =>
        obtain ⟨k, m, hkl, hk1, hk6, hm, rfl, rfl, hd⟩ := hrel
        have HD := Lib.hid hd
        clear hd
        by_cases hlt : k < l.length
        · by_cases hk : k = 6
          · subst hk
            have HE : Hid (decL l b = (0, 0, 22)) := by
              show _ = _
              rw [← HD.out, decF, List.getElem?_eq_getElem hlt]; simp only []; rw [if_pos (by omega)]
            have hne : ((6 : Int) == (l.length : Int)) = false := by simp; omega
            go_wp2
            go_ret3
            exact ⟨by rw [HE.out]; rfl, Fresh.drewN _ _⟩
          · have hck := HCS.out k hlt
            unfold byteV at hck
            have hltk := UInt8.toNat_lt l[k]
            have hkk : k = 1 ∨ k = 2 ∨ k = 3 ∨ k = 4 ∨ k = 5 := by omega
            have hand := and127u l[k].toNat hltk
            have hy : l[k].toNat % 128 < 128 := Nat.mod_lt _ (by omega)
            have HD2 : Hid (decL l b = if 2147483647 < m + l[k].toNat % 128 * 128 ^ (k - 1) then (0, 0, 22)
                else if l[k].toNat < 128 then (((m + l[k].toNat % 128 * 128 ^ (k - 1) : Nat) : Int), ((k + 1 : Nat) : Int), 0)
                else decF (6 - k) l (k + 1) (m + l[k].toNat % 128 * 128 ^ (k - 1))) := by
              show _ = _
              rw [← HD.out, show 7 - k = (6 - k) + 1 by omega, decF, List.getElem?_eq_getElem hlt]; simp only []; rw [if_neg (by omega)]
            clear HD HL
            generalize l[k].toNat % 128 = y at *
            generalize l[k].toNat = z at *
            rcases hkk with rfl | rfl | rfl | rfl | rfl
            · have hne : ((1 : Int) == (l.length : Int)) = false := by simp; omega
              by_cases hbig : 2147483647 < m + y
              · have HE : Hid (decL l b = (0, 0, 22)) := by
                  show _ = _
                  rw [HD2.out]; exact if_pos (by simpa using hbig)
                have hbig' : (2147483647 : Int) < (m : Int) + (y : Int) := by omega
                clear hbig HD2
                go_wp2
                go_ret3
                exact ⟨by rw [HE.out]; rfl, Fresh.drewN _ _⟩
              · have HE : Hid (decL l b = if z < 128 then (((m + y : Nat) : Int), ((1 + 1 : Nat) : Int), 0) else decF 5 l (1 + 1) (m + y)) := by
                  show _ = _
                  rw [HD2.out]
                  rw [if_neg (show ¬ 2147483647 < m + y * 128 ^ (1 - 1) from by simpa using hbig)]
                  simp
                have hbig' : (m : Int) + (y : Int) ≤ 2147483647 := by omega
                have hN : ((m + y : Nat) : Int) = (m : Int) + (y : Int) := by omega
                have HN := Lib.hid hN
                clear hbig HD2 hN
                by_cases h128 : z < 128
                · have h128' : (z : Int) < 128 := by omega
                  go_wp2
                  go_ret3
                  exact ⟨by rw [HE.out, if_pos h128, HN.out]; rfl, Fresh.drewN _ _⟩
                · have h128' : ¬ (z : Int) < 128 := by omega
                  go_wp2
                  go_round
                  case rel => exact ⟨2, m + y, by omega, by omega, by omega, by have := HN.out; omega, by go_num, by rw [HN.out], by rw [HE.out, if_neg h128]⟩
                  case measure => simp [intOf]
            · have hne : ((2 : Int) == (l.length : Int)) = false := by simp; omega
              by_cases hbig : 2147483647 < m + y * 128
              · have HE : Hid (decL l b = (0, 0, 22)) := by
                  show _ = _
                  rw [HD2.out]; exact if_pos (by simpa using hbig)
                have hbig' : (2147483647 : Int) < (m : Int) + (y : Int) * 128 := by omega
                clear hbig HD2
                go_wp2
                go_ret3
                exact ⟨by rw [HE.out]; rfl, Fresh.drewN _ _⟩
              · have HE : Hid (decL l b = if z < 128 then (((m + y * 128 : Nat) : Int), ((2 + 1 : Nat) : Int), 0) else decF 4 l (2 + 1) (m + y * 128)) := by
                  show _ = _
                  rw [HD2.out]
                  rw [if_neg (show ¬ 2147483647 < m + y * 128 ^ (2 - 1) from by simpa using hbig)]
                have hbig' : (m : Int) + (y : Int) * 128 ≤ 2147483647 := by omega
                have hN : ((m + y * 128 : Nat) : Int) = (m : Int) + (y : Int) * 128 := by omega
                have HN := Lib.hid hN
                clear hbig HD2 hN
                by_cases h128 : z < 128
                · have h128' : (z : Int) < 128 := by omega
                  go_wp2
                  go_ret3
                  exact ⟨by rw [HE.out, if_pos h128, HN.out]; rfl, Fresh.drewN _ _⟩
                · have h128' : ¬ (z : Int) < 128 := by omega
                  go_wp2
                  go_round
                  case rel => exact ⟨3, m + y * 128, by omega, by omega, by omega, by have := HN.out; omega, by go_num, by rw [HN.out], by rw [HE.out, if_neg h128]⟩
                  case measure => simp [intOf]
            · have hne : ((3 : Int) == (l.length : Int)) = false := by simp; omega
              by_cases hbig : 2147483647 < m + y * 16384
              · have HE : Hid (decL l b = (0, 0, 22)) := by
                  show _ = _
                  rw [HD2.out]; exact if_pos (by simpa using hbig)
                have hbig' : (2147483647 : Int) < (m : Int) + (y : Int) * 16384 := by omega
                clear hbig HD2
                go_wp2
                go_ret3
                exact ⟨by rw [HE.out]; rfl, Fresh.drewN _ _⟩
              · have HE : Hid (decL l b = if z < 128 then (((m + y * 16384 : Nat) : Int), ((3 + 1 : Nat) : Int), 0) else decF 3 l (3 + 1) (m + y * 16384)) := by
                  show _ = _
                  rw [HD2.out]
                  rw [if_neg (show ¬ 2147483647 < m + y * 128 ^ (3 - 1) from by simpa using hbig)]
                have hbig' : (m : Int) + (y : Int) * 16384 ≤ 2147483647 := by omega
                have hN : ((m + y * 16384 : Nat) : Int) = (m : Int) + (y : Int) * 16384 := by omega
                have HN := Lib.hid hN
                clear hbig HD2 hN
                by_cases h128 : z < 128
                · have h128' : (z : Int) < 128 := by omega
                  go_wp2
                  go_ret3
                  exact ⟨by rw [HE.out, if_pos h128, HN.out]; rfl, Fresh.drewN _ _⟩
                · have h128' : ¬ (z : Int) < 128 := by omega
                  go_wp2
                  go_round
                  case rel => exact ⟨4, m + y * 16384, by omega, by omega, by omega, by have := HN.out; omega, by go_num, by rw [HN.out], by rw [HE.out, if_neg h128]⟩
                  case measure => simp [intOf]
            · have hne : ((4 : Int) == (l.length : Int)) = false := by simp; omega
              by_cases hbig : 2147483647 < m + y * 2097152
              · have HE : Hid (decL l b = (0, 0, 22)) := by
                  show _ = _
                  rw [HD2.out]; exact if_pos (by simpa using hbig)
                have hbig' : (2147483647 : Int) < (m : Int) + (y : Int) * 2097152 := by omega
                clear hbig HD2
                go_wp2
                go_ret3
                exact ⟨by rw [HE.out]; rfl, Fresh.drewN _ _⟩
              · have HE : Hid (decL l b = if z < 128 then (((m + y * 2097152 : Nat) : Int), ((4 + 1 : Nat) : Int), 0) else decF 2 l (4 + 1) (m + y * 2097152)) := by
                  show _ = _
                  rw [HD2.out]
                  rw [if_neg (show ¬ 2147483647 < m + y * 128 ^ (4 - 1) from by simpa using hbig)]
                have hbig' : (m : Int) + (y : Int) * 2097152 ≤ 2147483647 := by omega
                have hN : ((m + y * 2097152 : Nat) : Int) = (m : Int) + (y : Int) * 2097152 := by omega
                have HN := Lib.hid hN
                clear hbig HD2 hN
                by_cases h128 : z < 128
                · have h128' : (z : Int) < 128 := by omega
                  go_wp2
                  go_ret3
                  exact ⟨by rw [HE.out, if_pos h128, HN.out]; rfl, Fresh.drewN _ _⟩
                · have h128' : ¬ (z : Int) < 128 := by omega
                  go_wp2
                  go_round
                  case rel => exact ⟨5, m + y * 2097152, by omega, by omega, by omega, by have := HN.out; omega, by go_num, by rw [HN.out], by rw [HE.out, if_neg h128]⟩
                  case measure => simp [intOf]
            · have hne : ((5 : Int) == (l.length : Int)) = false := by simp; omega
              by_cases hbig : 2147483647 < m + y * 268435456
              · have HE : Hid (decL l b = (0, 0, 22)) := by
                  show _ = _
                  rw [HD2.out]; exact if_pos (by simpa using hbig)
                have hbig' : (2147483647 : Int) < (m : Int) + (y : Int) * 268435456 := by omega
                clear hbig HD2
                go_wp2
                go_ret3
                exact ⟨by rw [HE.out]; rfl, Fresh.drewN _ _⟩
              · have HE : Hid (decL l b = if z < 128 then (((m + y * 268435456 : Nat) : Int), ((5 + 1 : Nat) : Int), 0) else decF 1 l (5 + 1) (m + y * 268435456)) := by
                  show _ = _
                  rw [HD2.out]
                  rw [if_neg (show ¬ 2147483647 < m + y * 128 ^ (5 - 1) from by simpa using hbig)]
                have hbig' : (m : Int) + (y : Int) * 268435456 ≤ 2147483647 := by omega
                have hN : ((m + y * 268435456 : Nat) : Int) = (m : Int) + (y : Int) * 268435456 := by omega
                have HN := Lib.hid hN
                clear hbig HD2 hN
                by_cases h128 : z < 128
                · have h128' : (z : Int) < 128 := by omega
                  go_wp2
                  go_ret3
                  exact ⟨by rw [HE.out, if_pos h128, HN.out]; rfl, Fresh.drewN _ _⟩
                · have h128' : ¬ (z : Int) < 128 := by omega
                  go_wp2
                  go_round
                  case rel => exact ⟨6, m + y * 268435456, by omega, by omega, by omega, by have := HN.out; omega, by go_num, by rw [HN.out], by rw [HE.out, if_neg h128]⟩
                  case measure => simp [intOf]
        · have hkl' : k = l.length := by omega
          have HE : Hid (decL l b = (0, 0, 16)) := by
            show _ = _
            rw [← HD.out, show 7 - k = (6 - k) + 1 by omega, decF, List.getElem?_eq_none (by omega)]
          have hne : ((k : Int) == (l.length : Int)) = true := by simp; omega
          go_wp2
          go_ret3
          exact ⟨by rw [HE.out]; rfl, Fresh.drewN _ _⟩


theorem mark_no (A : Option Addr) (c n : Nat) (b : Int) (w : World) (h : n = 0 ∨ ¬ (1 ≤ b ∧ b ≤ 8)) :
    Calls Tryz.prog 96 #[.slice A n c, .int .i64 b] w fun e w' => e = .returned (.tuple #[.int .i64 0, .bool false]) ∧ w = w' := by
  by_cases h0 : n = 0
  · subst h0
    clear h
    go_enter Tryz.func96, Tryz.ntmps96
    go_wp2
    go_ret2
    exact ⟨rfl, rfl⟩
  · have h1 : ¬ (1 ≤ b ∧ b ≤ 8) := h.resolve_left h0
    have HB := Lib.hid (rb_no b h1 w)
    clear h h1
    have h0' : ((n : Int) == 0) = false := by simp; omega
    go_enter Tryz.func96, Tryz.ntmps96
    go_wp2_with fail
    refine HB.out.mono ?_
    rintro e w1 ⟨rfl, rfl⟩
    go_wp2
    go_ret2
    exact ⟨rfl, rfl⟩
theorem mark_yes (A : Option Addr) (c b : Nat) (l : List UInt8) (w : World) (hb1 : 1 ≤ b) (hb8 : b ≤ 8) (hl : 0 < l.length) (h : BS w A l) :
    Calls Tryz.prog 96 #[.slice A l.length c, .int .i64 b] w fun e w' => e = .returned (.tuple #[.int .i64 ((l[0].toNat / 2 ^ b : Nat) : Int), .bool true]) ∧ Fresh w w' := by
  obtain ⟨blk, o, rfl, _, hcs⟩ := h.addr hl
  have hc0 := hcs 0 hl
  simp only [byteV, Nat.add_zero] at hc0
  have h0' : ((l.length : Int) == 0) = false := by rw [beq_eq_false_iff_ne]; omega
  have hlt0 := UInt8.toNat_lt l[0]
  clear hcs h
  generalize l[0].toNat = x at *
  have hh : b = 1 ∨ b = 2 ∨ b = 3 ∨ b = 4 ∨ b = 5 ∨ b = 6 ∨ b = 7 ∨ b = 8 := by omega
  rcases hh with rfl | rfl | rfl | rfl | rfl | rfl | rfl | rfl <;>
  · go_enter Tryz.func96, Tryz.ntmps96
    go_wp2
    go_ret2
    exact ⟨rfl, Fresh.refl _⟩
end Go.Proofs.YtginhebfjbhmnaaGreat

