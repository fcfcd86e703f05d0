/-
  Texts laid together: LitA LitB LitC LitD LitE LitF.
-/
import Derived.Test.YtapikjhfgcbifaaGreatDoorHufP4
import Derived.Test.YtapikjhfgcbifaaGreatDoorPrefixM
import Derived.Test.YtapikjhfgcbifaaGreatDoorPrefP
import Derived.Test.YtapikjhfgcbifaaGreatDoorMake
import Derived.Test.YtapikjhfgcbifaaGreatDoorOwn
import Derived.Test.YtapikjhfgcbifaaGreatDoorMore
/-
  Layer 4: a text's bytes: what they are, and what they say. No Go in sight.
-/
namespace Go.Proofs.YtapikjhfgcbifaaGreatDoor
set_option linter.unusedVariables false
/-- A text's bytes, coded or plain. -/
def IsLit (l : List UInt8) (cd : Bool) (P : List UInt8) : Prop := ∃ O, (if cd then IsEnc l O else O = l) ∧ P = encL O.length 7 (if cd then 1 else 0) ++ O
/-- How many bytes stand behind the length. -/
def payN (l : List UInt8) (cd : Bool) : Nat := if cd then (szB l + 7) / 8 else l.length
/-- How many bytes a text has. -/
def litN (l : List UInt8) (cd : Bool) : Nat := (encL (payN l cd) 7 0).length + payN l cd
theorem encL_markL (n m : Nat) (hm : m < 2) (h : 0 < (encL n 7 m).length) : (encL n 7 m)[0].toNat / 128 = m := by
  have key : ∀ t, t < 128 → (UInt8.ofNat (m * 128 + t)).toNat / 128 = m := fun t ht => by
    have : (UInt8.ofNat (m * 128 + t)).toNat = m * 128 + t := by simp; omega
    rw [this]
    omega
  by_cases h1 : n < 2 ^ 7 - 1
  · have hl : encL n 7 m = [UInt8.ofNat (m * 2 ^ 7 + n)] := by unfold encL; rw [if_pos h1]
    simp only [hl, List.getElem_cons_zero]
    exact key n (by omega)
  · have hl : encL n 7 m = UInt8.ofNat (m * 2 ^ 7 + (2 ^ 7 - 1)) :: tailF 5 (n - (2 ^ 7 - 1)) := by unfold encL; rw [if_neg h1]
    simp only [hl, List.getElem_cons_zero]
    exact key _ (by omega)
theorem encL_len_markL (n m : Nat) : (encL n 7 m).length = (encL n 7 0).length := by
  unfold encL
  split <;> simp
theorem pay_len {l O : List UInt8} {cd : Bool} (h : if cd then IsEnc l O else O = l) : O.length = payN l cd := by
  cases cd with
  | true => exact IsEnc.len h
  | false => 
    have h2 : O = l := h
    rw [h2]; rfl
theorem payN_le (l : List UInt8) (cd : Bool) : payN l cd ≤ l.length * 4 := by
  have := szB_le l
  cases cd
  · show l.length ≤ _; omega
  · show (szB l + 7) / 8 ≤ _
    rcases Nat.eq_zero_or_pos l.length with h | h
    · have : szB l = 0 := by omega
      omega
    · omega
theorem IsLit.len {l P : List UInt8} {cd : Bool} (h : IsLit l cd P) : P.length = litN l cd := by
  obtain ⟨O, ho, rfl⟩ := h
  rw [List.length_append, pay_len ho, encL_len_markL]
  rfl
theorem litN_le (l : List UInt8) (cd : Bool) (h : l.length ≤ 100000000) : 1 ≤ litN l cd ∧ litN l cd ≤ l.length * 4 + 6 := by
  have h1 := payN_le l cd
  have := encL_length (payN l cd) 7 0 (by omega)
  unfold litN
  omega
theorem IsLit.uniq {l P Q : List UInt8} {cd : Bool} (h : IsLit l cd P) (k : IsLit l cd Q) : P = Q := by
  obtain ⟨O, ho, rfl⟩ := h
  obtain ⟨O2, ho2, rfl⟩ := k
  have : O = O2 := by
    cases cd with
    | true => exact IsEnc.uniq ho ho2
    | false => exact Eq.trans (show O = l from ho) (show O2 = l from ho2).symm
  rw [this]
/-! What bytes say. -/
theorem decF_cases : ∀ (f : Nat) (l : List UInt8) (i n : Nat), n ≤ 2147483647 → decF f l i n = (0, 0, 22) ∨ decF f l i n = (0, 0, 16) ∨ ∃ N u : Nat, decF f l i n = ((N : Int), (u : Int), 0) ∧ i < u ∧ u ≤ l.length ∧ N ≤ 2147483647
  | 0, l, i, n, _ => .inl rfl
  | f + 1, l, i, n, hn => by
    unfold decF
    cases hl : l[i]? with
    | none => exact .inr (.inl rfl)
    | some c =>
      simp only
      have hil := (List.getElem?_eq_some_iff.1 hl).1
      by_cases h1 : 5 < i
      · rw [if_pos h1]; exact .inl rfl
      · rw [if_neg h1]
        by_cases h2 : 2147483647 < n + c.toNat % 128 * 128 ^ (i - 1)
        · rw [if_pos h2]; exact .inl rfl
        · rw [if_neg h2]
          by_cases h3 : c.toNat < 128
          · rw [if_pos h3]
            exact .inr (.inr ⟨_, _, rfl, by omega, by omega, by omega⟩)
          · rw [if_neg h3]
            rcases decF_cases f l (i + 1) (n + c.toNat % 128 * 128 ^ (i - 1)) (by omega) with h | h | ⟨N, u, h, a, b, d⟩
            · exact .inl h
            · exact .inr (.inl h)
            · exact .inr (.inr ⟨N, u, h, by omega, b, d⟩)
theorem decL_cases (l : List UInt8) : decL l 7 = (0, 0, 22) ∨ decL l 7 = (0, 0, 16) ∨ ∃ N u : Nat, decL l 7 = ((N : Int), (u : Int), 0) ∧ 1 ≤ u ∧ u ≤ l.length ∧ N ≤ 2147483647 := by
  unfold decL
  cases hl : l[0]? with
  | none => exact .inr (.inl rfl)
  | some c =>
    simp only
    have hil := (List.getElem?_eq_some_iff.1 hl).1
    by_cases h : c.toNat % 2 ^ 7 < 2 ^ 7 - 1
    · rw [if_pos h]
      exact .inr (.inr ⟨_, 1, rfl, by omega, by omega, by omega⟩)
    · rw [if_neg h]
      rcases decF_cases 6 l 1 (c.toNat % 2 ^ 7) (by omega) with h | h | ⟨N, u, h, a, b, d⟩
      · exact .inl h
      · exact .inr (.inl h)
      · exact .inr (.inr ⟨N, u, h, by omega, b, d⟩)
/-- What a text's own bytes say: an error's number, and the text. -/
def textR (b : List UInt8) (cd : Bool) (lim : Int) : Nat × List UInt8 :=
  let r := if cd then decE (bitsL b) else (0, b)
  if r.1 = 0 then (if lim < (r.2.length : Int) then (22, []) else r) else (r.1, [])
/-- What bytes begin with: the text, how many bytes it has, an error's number. -/
def litR (l : List UInt8) (lim : Int) : List UInt8 × Nat × Nat :=
  match decL l 7 with
  | (n, u, e) => if e ≠ 0 then ([], 0, e.toNat) else if (l.length : Int) < u + n then ([], 0, 16) else
    let r := textR ((l.drop u.toNat).take n.toNat) (decide (1 ≤ (l.headD 0).toNat / 128)) lim
    if r.1 = 0 then (r.2, (u + n).toNat, 0) else ([], 0, r.1)
theorem headD_app : ∀ (X Y : List UInt8) (h : 0 < X.length), (X ++ Y).headD 0 = X[0]
  | [], _, h => by simp at h
  | a :: r, _, _ => rfl
theorem textR_ok {b O : List UInt8} {cd : Bool} {lim : Int} (h : if cd then IsEnc O b else b = O) : textR b cd lim = if lim < (O.length : Int) then (22, []) else (0, O) := by
  unfold textR
  cases cd with
  | true =>
    have hd := IsEnc.dec (show IsEnc O b from h)
    simp [hd]
  | false =>
    have hd : b = O := h
    subst hd
    simp
theorem litR_lit {l P : List UInt8} {cd : Bool} (h : IsLit l cd P) (hl : l.length ≤ 100000000) (more : List UInt8) (lim : Int) :
    litR (P ++ more) lim = if lim < (l.length : Int) then ([], 0, 22) else (l, P.length, 0) := by
  obtain ⟨O, ho, rfl⟩ := h
  have hOl := pay_len ho
  have hle := payN_le l cd
  obtain ⟨m, hm⟩ : ∃ m, (if cd then 1 else 0) = m := ⟨_, rfl⟩
  have hm2 : m < 2 := by subst hm; cases cd <;> simp
  have hcd : decide (1 ≤ m) = cd := by subst hm; cases cd <;> rfl
  rw [hm]
  have h1 := encL_length O.length 7 m (by omega)
  have hd := decL_encL O.length 7 m (O ++ more) (by omega) (by omega) (by omega) hm2
  have hmk := encL_markL O.length m hm2 (by omega)
  unfold litR
  rw [List.append_assoc, hd]
  simp only
  rw [if_neg (by simp)]
  rw [if_neg (by simp only [List.length_append]; omega)]
  have hh := headD_app (encL O.length 7 m) (O ++ more) (by omega)
  rw [hh, hmk, hcd]
  have e2 : ((encL O.length 7 m ++ (O ++ more)).drop ((encL O.length 7 m).length : Int).toNat).take (O.length : Int).toNat = O := by
    simp
  rw [e2, textR_ok (O := l) (by cases cd with
    | true => exact ho
    | false => exact ho)]
  by_cases hlim : lim < (l.length : Int)
  · rw [if_pos hlim, if_pos hlim]; simp
  · rw [if_neg hlim, if_neg hlim]
    simp
    omega
theorem decL_casesB (b : Nat) (h8 : b ≤ 8) (l : List UInt8) : decL l b = (0, 0, 22) ∨ decL l b = (0, 0, 16) ∨ ∃ N u : Nat, decL l b = ((N : Int), (u : Int), 0) ∧ 1 ≤ u ∧ u ≤ l.length ∧ N ≤ 2147483647 := by
  unfold decL
  cases hl : l[0]? with
  | none => exact .inr (.inl rfl)
  | some c =>
    simp only
    have hil := (List.getElem?_eq_some_iff.1 hl).1
    have hc := UInt8.toNat_lt c
    have hcm : c.toNat % 2 ^ b ≤ c.toNat := Nat.mod_le _ _
    by_cases h : c.toNat % 2 ^ b < 2 ^ b - 1
    · rw [if_pos h]
      exact .inr (.inr ⟨_, 1, rfl, by omega, by omega, by omega⟩)
    · rw [if_neg h]
      rcases decF_cases 6 l 1 (c.toNat % 2 ^ b) (by omega) with h | h | ⟨N, u, h, a, b, d⟩
      · exact .inl h
      · exact .inr (.inl h)
      · exact .inr (.inr ⟨N, u, h, by omega, b, d⟩)
theorem litR_used (l : List UInt8) (lim : Int) (h : (litR l lim).2.2 = 0) : 1 ≤ (litR l lim).2.1 ∧ (litR l lim).2.1 ≤ l.length := by
  rcases decL_cases l with e | e | ⟨N, u, e, h1, h2, h3⟩
  · unfold litR at h; rw [e] at h; simp at h
  · unfold litR at h; rw [e] at h; simp at h
  · unfold litR at h ⊢
    rw [e] at h ⊢
    simp only at h ⊢
    rw [if_neg (by simp)] at h ⊢
    by_cases hs : (l.length : Int) < (u : Int) + (N : Int)
    · rw [if_pos hs] at h; simp at h
    · rw [if_neg hs] at h ⊢
      by_cases ht : (textR ((l.drop (u : Int).toNat).take (N : Int).toNat) (decide (1 ≤ (l.headD 0).toNat / 128)) lim).1 = 0
      · rw [if_pos ht]; simp only; omega
      · rw [if_neg ht] at h; simp only at h; exact absurd h ht
end Go.Proofs.YtapikjhfgcbifaaGreatDoor

/-
  Package lit: lay, Encode, Len, Short.
-/
namespace Go.Proofs.YtapikjhfgcbifaaGreatDoor
set_option linter.unusedVariables false
set_option linter.unusedSimpArgs false
open Go.RowKit
theorem u8_sizeL : ∀ W : World, (Go.sizeOf 5).run Tryz.prog W = .ok 1 W := fun W => by kernel_rfl
theorem over_twoL (z : Nat) (l m : List UInt8) (h : l.length + m.length = z) : over (over (bytesA (List.replicate z 0)) 0 (l.map byteV)) l.length (m.map byteV) = bytesA (l ++ m) := by
  apply Array.toList_inj.1
  unfold over bytesA
  simp only [List.take_zero, List.nil_append, Nat.zero_add, List.length_map, List.map_append]
  rw [List.take_left' (by simp)]
  rw [List.drop_eq_nil_of_le (by simp; omega), List.append_nil]
theorem Own.full {w : World} {base g : Nat} {P : List UInt8} (h : Blk w g 5 (bytesA P)) (hb : base ≤ g) (hm : P.length ≤ maxLen) : Own w base 5 1 (.slice (some ⟨g, 0, none⟩) P.length P.length) P.length (P.map byteV) :=
  ⟨by simp, .inr ⟨g, P.length, bytesA P, rfl, hb, h, Nat.le_refl _, hm, by simp [bytesA_size], by simp only [bytesA, List.toList_toArray]; exact List.take_of_length_le (by simp)⟩⟩
/-- Bytes told in new memory. -/
def OwnP (P : List UInt8) (w : World) (e : Ending) (w' : World) : Prop := ∃ (A : Option Addr) (c : Nat), e = .returned (.slice A P.length c) ∧ Own w' w.heap.size 5 1 (.slice A P.length c) P.length (P.map byteV) ∧ Fresh w w'
set_option maxRecDepth 100000 in
set_option maxHeartbeats 1600000 in
theorem lit_lay (A : Option Addr) (c m : Nat) (O : List UInt8) (w : World) (hm : m < 2) (hl : O.length ≤ 100000000) (hB : BS w A O) :
    Calls Tryz.prog 111 #[.slice A O.length c, .int .i64 (m : Int)] w (OwnP (encL O.length 7 m ++ O) w) := by
  have HE := Lib.hid (enc_any O.length 7 m w (by omega) (by omega) (by omega) hm)
  have hlen := encL_length O.length 7 m (by omega)
  obtain ⟨n, hn⟩ : ∃ n, O.length = n := ⟨_, rfl⟩
  obtain ⟨X, hX⟩ : ∃ X, encL O.length 7 m = X := ⟨_, rfl⟩
  rw [hX] at HE hlen ⊢
  have HN := Lib.hid hn
  have HB := Lib.hid hB
  clear hX hB
  rw [hn] at hl HE ⊢
  obtain ⟨x, hx⟩ : ∃ x, X.length = x := ⟨_, rfl⟩
  rw [hx] at hlen
  obtain ⟨hx1, hx6⟩ := hlen
  have HX := Lib.hid hx
  have hPl : (X ++ O).length = x + n := by rw [List.length_append, hx, hn]
  have hmk := run_makeZ (P := Tryz.prog) Tryz.underlying23 u8_infoH rfl (x + n) ((x : Int) + (n : Int)) (by omega) (by omega) (by omega)
  clear hn hx
  have HPL := Lib.hid hPl
  clear hPl
  go_enter Tryz.func111, Tryz.ntmps111
  go_wp2_with fail
  refine HE.out.mono ?_
  rintro e w1 ⟨A1, c1, rfl, ho1, hf1⟩
  have HB1 := Lib.hid ho1.bytes.1
  have HF1 := Lib.hid hf1
  clear ho1 hf1 HE
  rw [HX.out]
  obtain ⟨W3, hcp3, hb3, ho3, hs3⟩ := run_copy_bs (P := Tryz.prog) (HB1.out.fresh (Fresh.alloc w1 (.cells (madeCells #[.int .u8 0] (x + n)) 5))) 23 5 3 Tryz.underlying23 (by kernel_rfl) w1.heap.size 0 (x + n) (x + n) c1 _ _ (Blk.new _ _ _) (by rw [HX.out]; omega) (by rw [size_madeCells, HX.out]; omega) (some ⟨w1.heap.size, 0, none⟩) (fun _ => rfl)
  have hct := run_cut_from (P := Tryz.prog) Tryz.underlying23 u8_sizeL (some ⟨w1.heap.size, 0, none⟩) (x + n) (x + n) x (by omega)
  rw [show x + n - x = n by omega] at hct
  have hcut : 0 < n → cutA (some ⟨w1.heap.size, 0, none⟩) x (x + n) = some ⟨w1.heap.size, x, none⟩ := fun h => by rw [cutA_some _ _ _ _ (by omega), Nat.zero_add]
  rw [madeCells_zero] at hb3
  have hB3 : BS W3 A O := fun hn0 => (((HB.out.fresh HF1.out).fresh (Fresh.alloc w1 _)).only ho3 (fun b o e hh => by
    obtain ⟨b', o', e', hb', _⟩ := HB.out hn0
    rw [e] at e'; simp at e'
    have := HF1.out.size
    omega)) hn0
  obtain ⟨W4, hcp4, hb4, ho4, hs4⟩ := run_copy_bs (P := Tryz.prog) hB3 23 5 3 Tryz.underlying23 (by kernel_rfl) w1.heap.size x n n c _ _ hb3 (by rw [HN.out]; exact Nat.le_refl _) (by rw [over_size _ _ _ (by simp [bytesA_size, HX.out]), bytesA_size, HN.out]; simp) (cutA (some ⟨w1.heap.size, 0, none⟩) x (x + n)) (fun h => hcut (by rw [← HN.out]; exact h))
  rw [← HX.out, over_twoL _ _ _ (by rw [HX.out, HN.out])] at hb4
  rw [HN.out] at hcp4
  rw [HX.out] at hcp3
  have HFIN : Hid (OwnP (X ++ O) w (.returned (.slice (some ⟨w1.heap.size, 0, none⟩) (x + n) (x + n))) W4) := Lib.hid ⟨some ⟨w1.heap.size, 0, none⟩, x + n, by rw [HPL.out], by
    have := Own.full (base := w.heap.size) hb4 HF1.out.size (by unfold maxLen; rw [HPL.out]; omega)
    rwa [HPL.out] at this ⊢, Only.fresh (S := fun i => i = w1.heap.size) ((((Only.of_fresh HF1.out).allocS _).trans ho3).trans ho4) (fun i hi e => by have := HF1.out.size; omega)⟩
  clear hb3 ho3 hs3 hB3 hb4 ho4 hs4 hcut
  generalize cutA (some ⟨w1.heap.size, 0, none⟩) x (x + n) = D at *
  go_wp2
  go_ret
  exact HFIN.out
end Go.Proofs.YtapikjhfgcbifaaGreatDoor

/-
  Package lit: Encode, Len, Short.
-/
namespace Go.Proofs.YtapikjhfgcbifaaGreatDoor
set_option linter.unusedVariables false
set_option linter.unusedSimpArgs false
open Go.RowKit
def LitP (l : List UInt8) (cd : Bool) (w : World) (e : Ending) (w' : World) : Prop := ∃ (P : List UInt8) (A : Option Addr) (c : Nat), e = .returned (.tuple #[.slice A P.length c, .int .i64 0]) ∧ IsLit l cd P ∧ Own w' w.heap.size 5 1 (.slice A P.length c) P.length (P.map byteV) ∧ Fresh w w'
set_option maxRecDepth 100000 in
set_option maxHeartbeats 1600000 in
theorem lit_encode (A : Option Addr) (c : Nat) (l : List UInt8) (cd : Bool) (w : World) (hl : l.length ≤ 4096) (hB : BS w A l) :
    Calls Tryz.prog 98 #[.slice A l.length c, .bool cd] w (LitP l cd w) := by
  have HE := Lib.hid (huff_encode A c l w hB (by omega))
  have HL0 : Hid (Calls Tryz.prog 111 #[.slice A l.length c, .int .i64 0] w (OwnP (encL l.length 7 0 ++ l) w)) := Lib.hid (lit_lay A c 0 l w (by omega) (by omega) hB)
  have hsz := szB_le l
  have HL1 : Hid (∀ (O : List UInt8) (A1 : Option Addr) (c1 : Nat) (W : World), IsEnc l O → BS W A1 O → Calls Tryz.prog 111 #[.slice A1 O.length c1, .int .i64 1] W (OwnP (encL O.length 7 1 ++ O) W)) := Lib.hid (fun O A1 c1 W h hb => lit_lay A1 c1 1 O W (by omega) (by have := h.len; omega) hb)
  have hl' : ¬ (4096 : Int) < (l.length : Int) := by omega
  have HP0 : Hid (∀ e W, OwnP (encL l.length 7 0 ++ l) w e W → ∃ (P : List UInt8) (A : Option Addr) (c : Nat), e = .returned (.slice A P.length c) ∧ IsLit l false P ∧ Own W w.heap.size 5 1 (.slice A P.length c) P.length (P.map byteV) ∧ Fresh w W) := Lib.hid (fun e W h => by
    obtain ⟨A1, c1, he, ho, hf⟩ := h
    exact ⟨_, A1, c1, he, ⟨l, rfl, rfl⟩, ho, hf⟩)
  clear hB hsz
  generalize l.length = n at *
  cases cd with
  | true =>
    go_enter Tryz.func98, Tryz.ntmps98
    go_wp2_with fail
    with_reducible refine HE.out.mono ?_
    rintro e w1 ⟨O, A1, c1, rfl, henc, ho1, hf1⟩
    have HEN := Lib.hid henc
    have HB1 := Lib.hid ho1.bytes.1
    have HF1 := Lib.hid hf1
    clear henc ho1 hf1 HE HL0 HP0
    go_wp2_with fail
    with_reducible refine (HL1.out O A1 c1 w1 HEN.out HB1.out).mono ?_
    rintro e w2 ⟨A2, c2, rfl, ho2, hf2⟩
    have HFIN : Hid (LitP l true w (.returned (.tuple #[.slice A2 (encL O.length 7 1 ++ O).length c2, .int .i64 0])) w2) := Lib.hid ⟨_, A2, c2, rfl, ⟨O, HEN.out, rfl⟩, ho2.base_le HF1.out.size, HF1.out.trans hf2⟩
    clear ho2 hf2
    generalize (encL O.length 7 1 ++ O).length = m at *
    go_wp2
    go_ret2
    exact HFIN.out
  | false =>
    go_enter Tryz.func98, Tryz.ntmps98
    go_wp2_with fail
    with_reducible refine HL0.out.mono ?_
    rintro e w2 he
    obtain ⟨P, A2, c2, rfl, hP, ho2, hf2⟩ := HP0.out _ _ he
    have HFIN : Hid (LitP l false w (.returned (.tuple #[.slice A2 P.length c2, .int .i64 0])) w2) := Lib.hid ⟨_, A2, c2, rfl, hP, ho2, hf2⟩
    clear ho2 hf2 hP he HP0 HL0 HE HL1
    generalize P.length = m at *
    go_wp2
    go_ret2
    exact HFIN.out
set_option maxRecDepth 100000 in
set_option maxHeartbeats 1600000 in
theorem lit_encode_no (A : Option Addr) (n c : Nat) (cd : Bool) (w : World) (hl : 4096 < n) (hn : n ≤ 9223372036854775807) :
    Calls Tryz.prog 98 #[.slice A n c, .bool cd] w fun e w' => e = .returned (.tuple #[.slice none 0 0, .int .i64 11]) ∧ w = w' := by
  have hl' : (4096 : Int) < (n : Int) := by omega
  go_enter Tryz.func98, Tryz.ntmps98
  go_wp2
  go_ret2
  exact ⟨rfl, rfl⟩
set_option maxRecDepth 100000 in
set_option maxHeartbeats 1600000 in
theorem lit_len (A : Option Addr) (c : Nat) (l : List UInt8) (cd : Bool) (w : World) (hl : l.length ≤ 4096) (hB : BS w A l) :
    Calls Tryz.prog 99 #[.slice A l.length c, .bool cd] w fun e w' => e = .returned (.int .i64 (litN l cd : Int)) ∧ Fresh w w' := by
  have HS := Lib.hid (hf_size A c l w hB (by omega))
  have hpn := payN_le l cd
  have hln := (litN_le l cd (by omega)).2
  have HL : Hid (∀ W, Calls Tryz.prog 114 #[.int .i64 (payN l cd : Int), .int .i64 7] W fun e w' => e = .returned (.int .i64 (encL (payN l cd) 7 0).length) ∧ Fresh W w') := Lib.hid (fun W => len_yes (payN l cd) 7 W (by omega) (by omega) (by omega))
  have hl' : ¬ (4096 : Int) < (l.length : Int) := by omega
  have hsum : (((encL (payN l cd) 7 0).length : Int) + (payN l cd : Int)) = (litN l cd : Int) := by unfold litN; simp
  have HSUM := Lib.hid hsum
  have hwr : IntKind.i64.wrap (((encL (payN l cd) 7 0).length : Int) + (payN l cd : Int)) = ((encL (payN l cd) 7 0).length : Int) + (payN l cd : Int) := IntWalk.i64_in _ (by rw [hsum]; omega)
  have HR : Hid ((if cd then (((szB l + 7) / 8 : Nat) : Int) else (l.length : Int)) = (payN l cd : Int)) := Lib.hid (by cases cd <;> rfl)
  clear hsum hB
  generalize litN l cd = r at *
  generalize (encL (payN l cd) 7 0).length = x at *
  generalize payN l cd = p at *
  generalize (szB l + 7) / 8 = z at *
  generalize l.length = n at *
  cases cd with
  | true =>
    have e : (z : Int) = (p : Int) := HR.out
    have e2 : z = p := by omega
    subst e2
    clear e HR
    go_enter Tryz.func99, Tryz.ntmps99
    go_wp2_with first | (go_at_call 113; with_reducible refine HS.out.mono ?_; rintro e w1 ⟨rfl, rfl⟩) | (go_at_call 114; with_reducible refine (HL.out _).mono ?_; rintro e w2 ⟨rfl, hf2⟩)
    go_ret
    exact ⟨ret_int HSUM.out, hf2⟩
  | false =>
    have e : (n : Int) = (p : Int) := HR.out
    have e2 : n = p := by omega
    subst e2
    clear e HR
    go_enter Tryz.func99, Tryz.ntmps99
    go_wp2_with (go_at_call 114; with_reducible refine (HL.out _).mono ?_; rintro e w2 ⟨rfl, hf2⟩)
    go_ret
    exact ⟨ret_int HSUM.out, hf2⟩
set_option maxRecDepth 100000 in
theorem lit_len_no (A : Option Addr) (n c : Nat) (cd : Bool) (w : World) (hl : 4096 < n) (hn : n ≤ 9223372036854775807) :
    Calls Tryz.prog 99 #[.slice A n c, .bool cd] w fun e w' => e = .returned (.int .i64 0) ∧ w = w' := by
  have hl' : (4096 : Int) < (n : Int) := by omega
  go_enter Tryz.func99, Tryz.ntmps99
  go_wp2
  go_ret
  exact ⟨rfl, rfl⟩
/-- The shorter bytes of a text. -/
def ShortP (l : List UInt8) (w : World) (e : Ending) (w' : World) : Prop := ∃ (P : List UInt8) (A : Option Addr) (c : Nat), e = .returned (.slice A P.length c) ∧ IsLit l (decide (litN l true < litN l false)) P ∧ Own w' w.heap.size 5 1 (.slice A P.length c) P.length (P.map byteV) ∧ Fresh w w'
set_option maxRecDepth 100000 in
set_option maxHeartbeats 1600000 in
theorem lit_short (A : Option Addr) (c : Nat) (l : List UInt8) (w : World) (hl : l.length ≤ 4096) (hB : BS w A l) :
    Calls Tryz.prog 79 #[.slice A l.length c] w (ShortP l w) := by
  have HL1 := Lib.hid (lit_len A c l true w hl hB)
  have HL0 : Hid (∀ W, Fresh w W → Calls Tryz.prog 99 #[.slice A l.length c, .bool false] W fun e w' => e = .returned (.int .i64 (litN l false : Int)) ∧ Fresh W w') := Lib.hid (fun W hf => lit_len A c l false W hl (hB.fresh hf))
  have HE : Hid (∀ W cd, Fresh w W → Calls Tryz.prog 98 #[.slice A l.length c, .bool cd] W (LitP l cd W)) := Lib.hid (fun W cd hf => lit_encode A c l cd W hl (hB.fresh hf))
  have HFN : Hid (∀ cd, cd = decide (litN l true < litN l false) → ∀ W e W', Fresh w W → LitP l cd W e W' → ∃ (P : List UInt8) (A : Option Addr) (c : Nat), e = .returned (.tuple #[.slice A P.length c, .int .i64 0]) ∧ ShortP l w (.returned (.slice A P.length c)) W') := Lib.hid (fun cd hcd W e W' hf h => by
    subst hcd
    obtain ⟨P, A1, c1, he, hP, ho, hf2⟩ := h
    exact ⟨P, A1, c1, he, P, A1, c1, rfl, hP, ho.base_le hf.size, hf.trans hf2⟩)
  have hd : decide ((litN l true : Int) < (litN l false : Int)) = decide (litN l true < litN l false) := by simp
  generalize litN l true = x at *
  generalize litN l false = y at *
  clear hB
  obtain ⟨b, hb⟩ : ∃ b, decide (x < y) = b := ⟨_, rfl⟩
  rw [hb] at hd
  have HFB := Lib.hid (HFN.out b hb.symm)
  clear HFN
  generalize l.length = n at *
  go_enter Tryz.func79, Tryz.ntmps79
  go_wp2_with fail
  with_reducible refine HL1.out.mono ?_
  rintro e w1 ⟨rfl, hf1⟩
  have HF1 := Lib.hid hf1
  clear hf1
  go_wp2_with fail
  with_reducible refine (HL0.out _ HF1.out).mono ?_
  rintro e w2 ⟨rfl, hf2⟩
  have HF2 := Lib.hid (HF1.out.trans hf2)
  clear hf2
  go_wp2_with fail
  with_reducible refine (HE.out _ b HF2.out).mono ?_
  rintro e w3 he
  obtain ⟨P, A1, c1, rfl, hs⟩ := HFB.out _ _ _ HF2.out he
  have HS := Lib.hid hs
  clear hs he HFB HE HL0 HL1
  generalize P.length = m at *
  go_wp2
  go_ret
  exact HS.out
end Go.Proofs.YtapikjhfgcbifaaGreatDoor

/-
  Package lit: text, Decode.
-/
namespace Go.Proofs.YtapikjhfgcbifaaGreatDoor
set_option linter.unusedVariables false
set_option linter.unusedSimpArgs false
open Go.RowKit
def TextP (b : List UInt8) (cd : Bool) (lim : Int) (w : World) (e : Ending) (w' : World) : Prop := ∃ (A : Option Addr) (c n : Nat), e = .returned (.tuple #[.slice A n c, .int .i64 ((textR b cd lim).1 : Int)]) ∧
  ((textR b cd lim).1 = 0 → n = (textR b cd lim).2.length ∧ Own w' w.heap.size 5 1 (.slice A n c) n ((textR b cd lim).2.map byteV)) ∧ Fresh w w'
theorem TextP.no {b : List UInt8} {cd : Bool} {lim : Int} {w w' : World} {A : Option Addr} {c n er : Nat} {O : List UInt8} (h : textR b cd lim = (er, O)) (he : er ≠ 0) (hf : Fresh w w') : TextP b cd lim w (.returned (.tuple #[.slice A n c, .int .i64 (er : Int)])) w' :=
  ⟨A, c, n, by rw [h], fun h2 => by rw [h] at h2; exact absurd h2 he, hf⟩
theorem TextP.yes {b : List UInt8} {cd : Bool} {lim : Int} {w w' : World} {A : Option Addr} {c n : Nat} {O : List UInt8} (h : textR b cd lim = (0, O)) (hn : n = O.length) (ho : Own w' w.heap.size 5 1 (.slice A n c) n (O.map byteV)) (hf : Fresh w w') : TextP b cd lim w (.returned (.tuple #[.slice A n c, .int .i64 0])) w' :=
  ⟨A, c, n, by rw [h]; rfl, fun h2 => by rw [h]; exact ⟨hn, ho⟩, hf⟩
set_option maxRecDepth 100000 in
set_option maxHeartbeats 1600000 in
theorem lit_text (A : Option Addr) (c : Nat) (b : List UInt8) (cd : Bool) (lim : Int) (w : World) (hl : b.length ≤ 100000000) (hB : BS w A b) :
    Calls Tryz.prog 82 #[.slice A b.length c, .bool cd, .int .i64 lim] w (TextP b cd lim w) := by
  cases cd with
  | true =>
    have HD := Lib.hid (huff_decode A c b w hB hl)
    have hcs := decE_cases (bitsL b)
    obtain ⟨er, O, hde⟩ : ∃ er O, decE (bitsL b) = (er, O) := ⟨_, _, rfl⟩
    have HDF : Hid (∀ e W, DecF (bitsL b) w e W → ∃ (A : Option Addr) (c : Nat), e = .returned (.tuple #[.slice A O.length c, .int .i64 (er : Int)]) ∧ Own W w.heap.size 5 1 (.slice A O.length c) O.length (O.map byteV) ∧ Fresh w W) := Lib.hid (fun e W h => by
      obtain ⟨A1, c1, he, ho, hf⟩ := h
      rw [hde] at he ho
      exact ⟨A1, c1, he, ho, hf⟩)
    have hR : textR b true lim = if er = 0 then (if lim < (O.length : Int) then (22, []) else (0, O)) else (er, []) := by
      unfold textR
      simp only [if_true, hde]
      by_cases h : er = 0
      · subst h; simp
      · simp [h]
    rw [hde] at hcs
    have HR := Lib.hid hR
    have HO : Hid (∀ (w' : World) (A : Option Addr) (c n er : Nat) (O : List UInt8), textR b true lim = (er, O) → er ≠ 0 → Fresh w w' → TextP b true lim w (.returned (.tuple #[.slice A n c, .int .i64 (er : Int)])) w') := Lib.hid (fun _ _ _ _ _ _ h1 h2 h3 => TextP.no h1 h2 h3)
    have HY : Hid (∀ (w' : World) (A : Option Addr) (c n : Nat) (O : List UInt8), textR b true lim = (0, O) → n = O.length → Own w' w.heap.size 5 1 (.slice A n c) n (O.map byteV) → Fresh w w' → TextP b true lim w (.returned (.tuple #[.slice A n c, .int .i64 0])) w') := Lib.hid (fun _ _ _ _ _ h1 h2 h3 h4 => TextP.yes h1 h2 h3 h4)
    clear hR hde hB
    generalize TextP b true lim w = TP at *
    generalize b.length = n at *
    go_enter Tryz.func82, Tryz.ntmps82
    go_wp2_with fail
    with_reducible refine HD.out.mono ?_
    rintro e w1 hd
    obtain ⟨A1, c1, rfl, ho1, hf1⟩ := HDF.out _ _ hd
    have HO1 := Lib.hid ho1
    have HF1 := Lib.hid hf1
    clear hd ho1 hf1 HD HDF
    obtain ⟨m, hm⟩ : ∃ m, O.length = m := ⟨_, rfl⟩
    rw [hm] at HO1 HR ⊢
    by_cases h0 : er = 0
    · subst h0
      rw [show ((0 : Nat) : Int) = 0 from rfl]
      rw [if_pos rfl] at HR
      by_cases hlim : lim < (m : Int)
      · have HR2 := Lib.hid (HR.out.trans (if_pos hlim))
        have hlimd : decide (lim < (m : Int)) = true := by simpa using hlim
        clear hcs HR
        go_wp2
        exact HO.out _ _ _ _ 22 _ HR2.out (by omega) HF1.out
      · have HR2 := Lib.hid (HR.out.trans (if_neg hlim))
        have hlimd : decide (lim < (m : Int)) = false := by simpa using hlim
        clear hcs HR
        go_wp2
        exact HY.out _ _ _ _ _ HR2.out hm.symm HO1.out HF1.out
    · have HR2 := Lib.hid (HR.out.trans (if_neg h0))
      clear HR
      have hcase2 : er = 20 ∨ er = 21 := by rcases hcs with h | h | h <;> simp_all
      clear hcs
      rcases hcase2 with rfl | rfl
      · rw [show ((20 : Nat) : Int) = 20 from rfl]
        go_wp2
        exact HO.out _ _ _ _ _ _ HR2.out (by omega) HF1.out
      · rw [show ((21 : Nat) : Int) = 21 from rfl]
        go_wp2
        exact HO.out _ _ _ _ _ _ HR2.out (by omega) HF1.out
  | false =>
    have hR : textR b false lim = if lim < (b.length : Int) then (22, []) else (0, b) := textR_ok (O := b) (cd := false) rfl
    by_cases hlim : lim < (b.length : Int)
    · rw [if_pos hlim] at hR
      have HFIN := Lib.hid (TextP.no (A := none) (c := 0) (n := 0) hR (by omega) (Fresh.refl w))
      clear hR
      generalize b.length = n at *
      generalize TextP b false lim w = TP at *
      go_enter Tryz.func82, Tryz.ntmps82
      go_wp2
      exact HFIN.out
    · rw [if_neg hlim] at hR
      have hmk := run_makeZ (P := Tryz.prog) Tryz.underlying23 u8_infoH rfl b.length (b.length : Int) rfl (by omega) (by omega)
      have hb0 : BS (w.alloc (.cells (madeCells #[.int .u8 0] b.length) 5)) A b := hB.fresh (Fresh.alloc _ _)
      have hn0 : Blk (w.alloc (.cells (madeCells #[.int .u8 0] b.length) 5)) w.heap.size 5 (madeCells #[.int .u8 0] b.length) := Blk.new _ _ _
      obtain ⟨W2, hcp, hb2, ho2, hsz⟩ := run_copy_bs (P := Tryz.prog) hb0 23 5 3 Tryz.underlying23 (by kernel_rfl) w.heap.size 0 b.length b.length c _ _ hn0 (Nat.le_refl _) (by rw [size_madeCells]; omega) (some ⟨w.heap.size, 0, none⟩) (fun _ => rfl)
      rw [over_all _ _ (by rw [size_madeCells]; simp)] at hb2
      have hF2 : Fresh w W2 := ((Only.of_fresh (Fresh.alloc _ _)).trans ho2).fresh (fun k hk e => by omega)
      have HFIN := Lib.hid (TextP.yes hR rfl (Own.full (base := w.heap.size) hb2 (Nat.le_refl _) (by unfold maxLen; omega)) hF2)
      clear hb0 hn0 hb2 ho2 hsz hB hR hF2
      generalize madeCells #[.int .u8 0] b.length = Z at *
      generalize b.length = n at *
      generalize TextP b false lim w = TP at *
      go_enter Tryz.func82, Tryz.ntmps82
      go_wp2
      exact HFIN.out
def LitDP (l : List UInt8) (lim : Int) (w : World) (e : Ending) (w' : World) : Prop := ∃ (A : Option Addr) (c : Nat), e = .returned (.tuple #[.slice A (litR l lim).1.length c, .int .i64 ((litR l lim).2.1 : Int), .int .i64 ((litR l lim).2.2 : Int)]) ∧
  Own w' w.heap.size 5 1 (.slice A (litR l lim).1.length c) (litR l lim).1.length ((litR l lim).1.map byteV) ∧ Fresh w w'
theorem LitDP.no {l : List UInt8} {lim : Int} {w w' : World} {er : Nat} (h : litR l lim = ([], 0, er)) (hf : Fresh w w') : LitDP l lim w (.returned (.tuple #[.slice none 0 0, .int .i64 0, .int .i64 (er : Int)])) w' :=
  ⟨none, 0, by rw [h]; rfl, by rw [h]; exact Own.nil _ _ _ _, hf⟩
theorem LitDP.yes {l : List UInt8} {lim : Int} {w w' : World} {O : List UInt8} {A : Option Addr} {c u : Nat} (h : litR l lim = (O, u, 0)) (ho : Own w' w.heap.size 5 1 (.slice A O.length c) O.length (O.map byteV)) (hf : Fresh w w') : LitDP l lim w (.returned (.tuple #[.slice A O.length c, .int .i64 (u : Int), .int .i64 0])) w' :=
  ⟨A, c, by rw [h]; rfl, by rw [h]; exact ho, hf⟩
set_option maxRecDepth 100000 in
set_option maxHeartbeats 1600000 in
theorem lit_decode (A : Option Addr) (c : Nat) (l : List UInt8) (lim : Int) (w : World) (hl : l.length ≤ 100000000) (hlc : l.length ≤ c) (hcm : c ≤ maxLen) (hB : BS w A l) :
    Calls Tryz.prog 60 #[.slice A l.length c, .int .i64 lim] w (LitDP l lim w) := by
  unfold maxLen at hcm
  have HPD := Lib.hid (dec_any A c 7 l w (by omega) (by omega) (by omega) hB)
  rcases decL_cases l with h | h | ⟨N, u, h, hu1, hul, hN⟩
  · have HFIN : Hid (∀ W, Fresh w W → LitDP l lim w (.returned (.tuple #[.slice none 0 0, .int .i64 0, .int .i64 22])) W) := Lib.hid (fun W hf => LitDP.no (er := 22) (by unfold litR; rw [h]; rfl) hf)
    rw [h] at HPD
    clear h hB
    generalize l.length = n at *
    go_enter Tryz.func60, Tryz.ntmps60
    go_wp2_with fail
    refine HPD.out.mono ?_
    rintro e w1 ⟨rfl, hf1⟩
    unfold decV
    go_wp2
    go_ret3
    exact HFIN.out _ hf1
  · have HFIN : Hid (∀ W, Fresh w W → LitDP l lim w (.returned (.tuple #[.slice none 0 0, .int .i64 0, .int .i64 16])) W) := Lib.hid (fun W hf => LitDP.no (er := 16) (by unfold litR; rw [h]; rfl) hf)
    rw [h] at HPD
    clear h hB
    generalize l.length = n at *
    go_enter Tryz.func60, Tryz.ntmps60
    go_wp2_with fail
    refine HPD.out.mono ?_
    rintro e w1 ⟨rfl, hf1⟩
    unfold decV
    go_wp2
    go_ret3
    exact HFIN.out _ hf1
  · by_cases hsh : l.length < u + N
    · have HFIN : Hid (∀ W, Fresh w W → LitDP l lim w (.returned (.tuple #[.slice none 0 0, .int .i64 0, .int .i64 16])) W) := Lib.hid (fun W hf => LitDP.no (er := 16) (by
        unfold litR
        rw [h]
        simp only
        rw [if_neg (by simp), if_pos (by omega)]) hf)
      rw [h] at HPD
      clear h hB
      generalize l.length = n at *
      have h1 : (n : Int) - (u : Int) < (N : Int) := by omega
      go_enter Tryz.func60, Tryz.ntmps60
      go_wp2_with fail
      refine HPD.out.mono ?_
      rintro e w1 ⟨rfl, hf1⟩
      unfold decV
      go_wp2
      go_ret3
      exact HFIN.out _ hf1
    · have hl0 : 0 < l.length := by omega
      obtain ⟨M, hM⟩ : ∃ M, l[0].toNat / 128 = M := ⟨_, rfl⟩
      have hh : l.headD 0 = l[0] := by
        have := headD_app l [] hl0
        rwa [List.append_nil] at this
      obtain ⟨cd, hcd⟩ : ∃ cd, decide (1 ≤ M) = cd := ⟨_, rfl⟩
      have hM1 : M ≤ 1 := by have := UInt8.toNat_lt l[0]; omega
      have hMd : ((M : Int) == 1) = cd := by
        rw [← hcd, Bool.eq_iff_iff]
        simp
        omega
      have HMK : Hid (∀ W, Fresh w W → Calls Tryz.prog 58 #[.slice A l.length c, .int .i64 7] W fun e w' => e = .returned (.tuple #[.int .i64 (M : Int), .bool true]) ∧ Fresh W w') := Lib.hid (fun W hf => by
        have := mark_yes A c 7 l W (by omega) (by omega) hl0 (hB.fresh hf)
        rw [show 2 ^ 7 = 128 from rfl, hM] at this
        exact this)
      have hBc : BS w (cutA A u c) ((l.drop u).take N) := (hB.cut u c hlc).take N
      obtain ⟨b, hb⟩ : ∃ b, (l.drop u).take N = b := ⟨_, rfl⟩
      have hbl : b.length = N := by rw [← hb, List.length_take, List.length_drop]; omega
      rw [hb] at hBc
      have HT : Hid (∀ W, Fresh w W → Calls Tryz.prog 82 #[.slice (cutA A u c) N (c - u), .bool cd, .int .i64 lim] W (TextP b cd lim W)) := Lib.hid (fun W hf => by
        have := lit_text (cutA A u c) (c - u) b cd lim W (by omega) (hBc.fresh hf)
        rwa [hbl] at this)
      have hct := run_cut_mid (P := Tryz.prog) Tryz.underlying23 u8_sizeL A l.length c u (u + N) (by omega) (by omega)
      rw [show u + N - u = N by omega] at hct
      have hLR : litR l lim = if (textR b cd lim).1 = 0 then ((textR b cd lim).2, u + N, 0) else ([], 0, (textR b cd lim).1) := by
        unfold litR
        rw [h]
        simp only
        rw [if_neg (by simp), if_neg (by omega), hh, hM, hcd]
        simp only [Int.toNat_natCast]
        rw [hb]
        rfl
      have HLR := Lib.hid hLR
      rw [h] at HPD
      clear h hB hBc hM hh hcd hb hbl hLR
      generalize l.length = n at *
      have h1 : ¬ (n : Int) - (u : Int) < (N : Int) := by omega
      have h2 : (u : Int) ≤ (u : Int) + (N : Int) := by omega
      have h3 : (u : Int) + (N : Int) ≤ (c : Int) := by omega
      have e2 : ((u + N : Nat) : Int) = (u : Int) + (N : Int) := by omega
      rw [e2] at hct
      have HY : Hid (∀ (w' : World) (A : Option Addr) (c : Nat), (textR b cd lim).1 = 0 → Own w' w.heap.size 5 1 (.slice A (textR b cd lim).2.length c) (textR b cd lim).2.length ((textR b cd lim).2.map byteV) → Fresh w w' → LitDP l lim w (.returned (.tuple #[.slice A (textR b cd lim).2.length c, .int .i64 ((u : Int) + (N : Int)), .int .i64 0])) w') := Lib.hid (fun w' A c h1 h2 h3 => by
        have := LitDP.yes (HLR.out.trans (if_pos h1)) h2 h3
        rwa [e2] at this)
      have HNO : Hid (∀ (w' : World), (textR b cd lim).1 ≠ 0 → Fresh w w' → LitDP l lim w (.returned (.tuple #[.slice none 0 0, .int .i64 0, .int .i64 ((textR b cd lim).1 : Int)])) w') := Lib.hid (fun w' h1 h3 => LitDP.no (HLR.out.trans (if_neg h1)) h3)
      clear HLR
      generalize LitDP l lim w = LP at *
      go_enter Tryz.func60, Tryz.ntmps60
      go_wp2_with fail
      refine HPD.out.mono ?_
      rintro e w1 ⟨rfl, hf1⟩
      have HF1 := Lib.hid hf1
      clear hf1
      unfold decV
      go_wp2_with fail
      with_reducible refine (HMK.out _ HF1.out).mono ?_
      rintro e w2 ⟨rfl, hf2⟩
      have HF2 := Lib.hid (HF1.out.trans hf2)
      clear hf2
      go_wp2_with fail
      with_reducible refine (HT.out _ HF2.out).mono ?_
      rintro e w3 ⟨A3, c3, n3, rfl, hyes, hf3⟩
      have HF3 := Lib.hid (HF2.out.trans hf3)
      by_cases h0 : (textR b cd lim).1 = 0
      · obtain ⟨rfl, ho3⟩ := hyes h0
        have HFIN := Lib.hid (HY.out _ _ _ h0 (ho3.base_le HF2.out.size) HF3.out)
        rw [h0, show ((0 : Nat) : Int) = 0 from rfl]
        clear hyes ho3 h0 hf3 HY HNO
        generalize (textR b cd lim).2.length = m at *
        go_wp2
        exact HFIN.out
      · have HFIN := Lib.hid (HNO.out _ h0 HF3.out)
        clear hyes hf3 HY HNO
        obtain ⟨er, her⟩ : ∃ er, (textR b cd lim).1 = er := ⟨_, rfl⟩
        rw [her] at HFIN h0 ⊢
        clear her
        have h0' : ¬ (er : Int) = 0 := by omega
        have h0d : ((er : Int) != 0) = true := by simpa using h0'
        go_wp2
        exact HFIN.out
end Go.Proofs.YtapikjhfgcbifaaGreatDoor

/-
  The document's answers for layer 4: bytes; that every text has a code.
-/
namespace Go.Proofs.YtapikjhfgcbifaaGreatDoor
set_option linter.unusedVariables false
set_option linter.unusedSimpArgs false
open Go.RowKit
theorem bits_ex : ∀ D : List Bool, ∃ v, v < 2 ^ D.length ∧ bitsOf v D.length = D
  | [] => ⟨0, by simp, rfl⟩
  | x :: r => by
    obtain ⟨u, hu, he⟩ := bits_ex r
    have hc := bitsOf_cat x.toNat u 1 r.length hu
    refine ⟨x.toNat * 2 ^ r.length + u, ?_, ?_⟩
    · rw [List.length_cons, Nat.pow_succ]
      cases x
      · simp; omega
      · simp; omega
    · rw [List.length_cons, Nat.add_comm r.length 1, hc, he]
      cases x <;> rfl
theorem byte_ex {D : List Bool} (h : D.length = 8) : ∃ c : UInt8, bb c = D := by
  obtain ⟨v, hv, he⟩ := bits_ex D
  rw [h] at hv he
  refine ⟨UInt8.ofNat v, ?_⟩
  unfold bb
  rw [show (UInt8.ofNat v).toNat = v by simp; omega]
  exact he
theorem bits_pack : ∀ (k : Nat) (D : List Bool), D.length = 8 * k → ∃ O, bitsL O = D
  | 0, D, h => ⟨[], by rw [List.length_eq_zero_iff.1 (by omega : D.length = 0)]; rfl⟩
  | k + 1, D, h => by
    obtain ⟨c, hc⟩ := byte_ex (D := D.take 8) (by rw [List.length_take]; omega)
    obtain ⟨O, hO⟩ := bits_pack k (D.drop 8) (by rw [List.length_drop]; omega)
    exact ⟨c :: O, by rw [bitsL_cons, hc, hO, List.take_append_drop]⟩
theorem enc_ex (l : List UInt8) : ∃ O, IsEnc l O := by
  obtain ⟨p, hp, h8, _⟩ := pads (szB l)
  obtain ⟨O, hO⟩ := bits_pack ((szB l + p) / 8) (encB l ++ ones p) (by rw [List.length_append, ones, List.length_replicate]; unfold szB at *; omega)
  exact ⟨O, p, hp, hO⟩
theorem lit_ex (l : List UInt8) (cd : Bool) : ∃ P, IsLit l cd P := by
  cases cd with
  | true =>
    obtain ⟨O, hO⟩ := enc_ex l
    exact ⟨_, O, hO, rfl⟩
  | false => exact ⟨_, l, rfl, rfl⟩
theorem bitsL_at {O : List UInt8} {k j : Nat} (hk : k < O.length) (hj : j < 8) (h : 8 * k + j < (bitsL O).length) : (bitsL O)[8 * k + j] = O[k].toNat.testBit (7 - j) := by
  have e : bitsL O = bitsL (O.take k) ++ (bb O[k] ++ bitsL (O.drop (k + 1))) := by
    rw [← bitsL_cons, ← bitsL_append, ← List.drop_eq_getElem_cons hk, List.take_append_drop]
  have hl : (bitsL (O.take k)).length = 8 * k := by rw [bitsL_length, List.length_take]; omega
  have hb := bb_length O[k]
  have h2 : 8 * k + j < (bitsL (O.take k) ++ (bb O[k] ++ bitsL (O.drop (k + 1)))).length := by rw [← e]; exact h
  have e2 : (bitsL O)[8 * k + j] = (bitsL (O.take k) ++ (bb O[k] ++ bitsL (O.drop (k + 1))))[8 * k + j] := by congr 1
  rw [e2, List.getElem_append_right (by omega), List.getElem_append_left (by omega)]
  rw [bb_get]
  congr 1
  omega
end Go.Proofs.YtapikjhfgcbifaaGreatDoor

/-
  The document's answers for layer 4: Encode, Decode.
-/
namespace Go.Proofs.YtapikjhfgcbifaaGreatDoor
set_option linter.unusedVariables false
set_option linter.unusedSimpArgs false
open Go.RowKit
theorem mark_cast (cd : Bool) : (if cd then (1 : Int) else 0) = ((if cd then 1 else 0 : Nat) : Int) := by cases cd <;> rfl
theorem strB_cut (l : List UInt8) (a m : Nat) (h : a + m ≤ l.length) : (strB l).extract a (a + m) = strB ((l.drop a).take m) := by
  apply ByteArray.ext
  apply Array.ext'
  simp only [ByteArray.data_extract, Array.toList_extract, strB_data, List.extract_eq_take_drop]
  congr 1
  omega
theorem textR_coded {b O : List UInt8} {er : Nat} (lim : Int) (hde : decE (bitsL b) = (er, O)) : textR b true lim = if er = 0 then (if lim < (O.length : Int) then (22, []) else (0, O)) else (er, []) := by
  unfold textR
  simp only [if_true, hde]
  by_cases h : er = 0
  · subst h; simp
  · simp [h]
def Lit4P (l : List UInt8) (lim : Int) (w : World) (e : Ending) (w' : World) : Prop := e = .returned (.tuple #[.string (strB (litR l lim).1), .int .i64 ((litR l lim).2.1 : Int), .int .i64 ((litR l lim).2.2 : Int)]) ∧ Fresh w w'
theorem Lit4P.mk {l : List UInt8} {lim : Int} {w w' : World} {O : List UInt8} {u er : Nat} (h : litR l lim = (O, u, er)) (hf : Fresh w w') : Lit4P l lim w (.returned (.tuple #[.string (strB O), .int .i64 (u : Int), .int .i64 (er : Int)])) w' := ⟨by rw [h], hf⟩
end Go.Proofs.YtapikjhfgcbifaaGreatDoor

