/-
  The document's code: the next code's text.
-/
import Derived.Test.YtdoddpigiencjaaHufC
import Derived.Test.YtdoddpigiencjaaBytes
namespace Go.Proofs.Ytdoddpigiencjaa
set_option linter.unusedVariables false
open Go.RowKit
def chB (b : Bool) : UInt8 := if b then 49 else 48
theorem chB_inj {a b : Bool} (h : chB a = chB b) : a = b := by revert h; cases a <;> cases b <;> decide
/-- Bits as a text of noughts and ones. -/
def txB (D : List Bool) : ByteArray := strB (D.map chB)
theorem txB_size (D : List Bool) : (txB D).size = D.length := by simp [txB, strB_size]
theorem txB_inj {a b : List Bool} (h : txB a = txB b) : a = b := (List.map_inj_right (fun _ _ => chB_inj)).1 (strB_inj h)
theorem txB_append (a b : List Bool) : txB a ++ txB b = txB (a ++ b) := by
  unfold txB
  rw [strB_append, List.map_append]
theorem txB_get {D : List Bool} {k : Nat} (h : k < (txB D).size) : (txB D)[k] = chB (D[k]'(by rw [txB_size] at h; exact h)) := by
  have h2 : k < (txB D).data.toList.length := h
  have : (txB D).data.toList[k] = chB (D[k]'(by rw [txB_size] at h; exact h)) := by
    simp [txB, strB]
  exact this
/-- A block of one byte, made last, as a text. -/
theorem one_str (w : World) (c : UInt8) (v : Int) (hv : v = (c.toNat : Int)) (t : TypeId) : (convert 29 9 (.slice (some ⟨w.heap.size, 0, none⟩) 1 1)).run Try.prog (w.alloc (.cells #[.int .u8 v] t)) = .ok (.string (strB [c])) (w.alloc (.cells #[.int .u8 v] t)) := by
  subst hv
  exact run_str (l := [c]) (BS.row (g := w.heap.size) (t := t) (Blk.new w t #[.int .u8 (c.toNat : Int)])) 29 9 5 Try.underlying29 Try.underlying5 Try.underlying9 1
/-- A number's bits, and one: what is carried, and the bits. -/
def nxt : List Bool → Bool × List Bool
  | [] => (true, [])
  | b :: r => (b && (nxt r).1, (b != (nxt r).1) :: (nxt r).2)
theorem nxt_length : ∀ D, (nxt D).2.length = D.length
  | [] => rfl
  | b :: r => by simp [nxt, nxt_length r]
theorem bitsOf_succ (v n : Nat) : bitsOf v (n + 1) = v.testBit n :: bitsOf v n := by
  apply List.ext_getElem
  · simp [bitsOf_length]
  · intro i h1 h2
    rw [bitsOf_get]
    cases i with
    | zero => simp
    | succ j => 
      rw [List.getElem_cons_succ, bitsOf_get]
      congr 1
      omega
theorem nxt_bits (v : Nat) : ∀ n, nxt (bitsOf v n) = (decide ((v + 1) % 2 ^ n = 0), bitsOf (v + 1) n)
  | 0 => by simp [bitsOf, nxt, Nat.mod_one]
  | n + 1 => by
    rw [bitsOf_succ, bitsOf_succ, nxt, nxt_bits v n]
    have hp : 0 < 2 ^ n := Nat.pow_pos (by omega)
    have e1 : v.testBit n = decide (v / 2 ^ n % 2 = 1) := Nat.testBit_eq_decide_div_mod_eq
    have e2 : (v + 1).testBit n = decide ((v + 1) / 2 ^ n % 2 = 1) := Nat.testBit_eq_decide_div_mod_eq
    have h3 : (v + 1) / 2 ^ n = v / 2 ^ n + if (v + 1) % 2 ^ n = 0 then 1 else 0 := by
      rw [Nat.succ_div]
      congr 1
      simp only [Nat.dvd_iff_mod_eq_zero]
    have h4 : (v + 1) % 2 ^ (n + 1) = (v + 1) % 2 ^ n + 2 ^ n * ((v + 1) / 2 ^ n % 2) := by
      rw [Nat.pow_succ, Nat.mod_mul]
    rw [e1, e2]
    simp only [Prod.mk.injEq, List.cons.injEq, and_true]
    generalize hq : v / 2 ^ n = q at *
    rw [h4, h3]
    by_cases h : (v + 1) % 2 ^ n = 0
    · rw [h]
      simp only [if_pos]
      constructor
      · rcases Nat.mod_two_eq_zero_or_one q with e | e
        · have : (q + 1) % 2 = 1 := by omega
          simp [e, this]
        · have : (q + 1) % 2 = 0 := by omega
          simp [e, this]
      · rcases Nat.mod_two_eq_zero_or_one q with e | e
        · have : (q + 1) % 2 = 1 := by omega
          simp [e, this]
        · have : (q + 1) % 2 = 0 := by omega
          simp [e, this]
    · rw [if_neg h]
      simp [h]
theorem chB_flip (b : Bool) : (if chB b = 48 then (49 : UInt8) else 48) = chB (!b) := by cases b <;> rfl
set_option maxRecDepth 100000 in
set_option maxHeartbeats 6400000 in
theorem rf_next (w : World) (D : List Bool) (hD : D.length ≤ 100) : Calls Try.prog 85 #[.string (txB D)] w fun e w' => e = .returned (.string (txB (nxt D).2)) ∧ Fresh w w' := by
  obtain ⟨S, hS⟩ : ∃ S, txB D = S := ⟨_, rfl⟩
  have HS := Lib.hid hS
  have hl : S.size = D.length := by rw [← hS, txB_size]
  rw [hS]
  clear hS
  go_enter Try.func85, Try.ntmps85
  go_wp2
  go_loopw [3, 4, 5] (fun o c i wr => ∃ k : Nat, k ≤ D.length ∧ i = .int .i64 ((k : Int) - 1) ∧ c = .bool (nxt (D.drop k)).1 ∧ o = .string (txB (nxt (D.drop k)).2) ∧ Fresh w wr) (fun _ _ i _ => (intOf i + 1).toNat)
  case atStart => exact ⟨D.length, Nat.le_refl _, rfl, by simp [nxt], by simp [nxt]; rfl, Fresh.refl _⟩
  case round =>
    obtain ⟨k, hk, rfl, rfl, rfl, hf⟩ := hrel
    rcases k with _ | k
    · go_wp2
      exact bodyPost_ret (v := .string (txB (nxt (List.drop 0 D)).2)) (by simp [results, Try.f85, go_sem]) rfl ⟨by rw [List.drop_zero], hf⟩
    · have h0 : (0 : Int) ≤ ((k + 1 : Nat) : Int) - 1 := by omega
      have e1 : ((k + 1 : Nat) : Int) - 1 = (k : Int) := by omega
      rw [e1] at h0 ⊢
      have hlt : (k : Int) < (S.size : Int) := by omega
      have hlt2 : k < S.size := by omega
      have hkD : k < D.length := by omega
      have hd : D.drop k = D[k] :: D.drop (k + 1) := List.drop_eq_getElem_cons hkD
      obtain ⟨x, hx⟩ : ∃ x, D[k] = x := ⟨_, rfl⟩
      have hg : S[k] = chB x := by
        have := HS.out
        subst this
        rw [txB_get, hx]
      have h8 := one_str wr 48 48 rfl 5
      have h9 := one_str wr 49 49 rfl 5
      rw [hx] at hd
      obtain ⟨cr, hcr⟩ : ∃ cr, (nxt (D.drop (k + 1))).1 = cr := ⟨_, rfl⟩
      obtain ⟨O, hO⟩ : ∃ O, txB (nxt (D.drop (k + 1))).2 = O := ⟨_, rfl⟩
      rw [hcr, hO]
      have hO2 : O.size = D.length - (k + 1) := by rw [← hO, txB_size, nxt_length, List.length_drop]
      have h88 : ¬ 9223372036854775807 < (strB [48]).size + O.size := by rw [strB_size, hO2]; simp only [List.length_cons, List.length_nil]; omega
      have h99 : ¬ 9223372036854775807 < (strB [49]).size + O.size := by rw [strB_size, hO2]; simp only [List.length_cons, List.length_nil]; omega
      have hx0 : nxt (D.drop k) = (x && cr, (x != cr) :: (nxt (D.drop (k + 1))).2) := by rw [hd, nxt, hcr]
      have hx1 : (nxt (D.drop k)).1 = (x && cr) := by rw [hx0]
      have hx2 : ByteArray.append (strB [chB (x != cr)]) O = txB (nxt (D.drop k)).2 := by
        rw [hx0, ← hO]
        exact txB_append [x != cr] _
      have HX1 := Lib.hid hx1
      have HX2 := Lib.hid hx2
      clear hx0 hx1 hx2 hcr hO hd hx
      cases x
      · rw [show chB false = 48 from rfl] at hg
        cases cr
        · go_wp2
          exact ⟨⟨k, by omega, rfl, by rw [HX1.out]; rfl, by rw [← HX2.out]; rfl, hf.trans (Fresh.alloc _ _)⟩, by simp [intOf]⟩
        · go_wp2
          exact ⟨⟨k, by omega, rfl, by rw [HX1.out]; rfl, by rw [← HX2.out]; rfl, hf.trans (Fresh.alloc _ _)⟩, by simp [intOf]⟩
      · rw [show chB true = 49 from rfl] at hg
        cases cr
        · go_wp2
          exact ⟨⟨k, by omega, rfl, by rw [HX1.out]; rfl, by rw [← HX2.out]; rfl, hf.trans (Fresh.alloc _ _)⟩, by simp [intOf]⟩
        · go_wp2
          exact ⟨⟨k, by omega, rfl, by rw [HX1.out]; rfl, by rw [← HX2.out]; rfl, hf.trans (Fresh.alloc _ _)⟩, by simp [intOf]⟩
end Go.Proofs.Ytdoddpigiencjaa

