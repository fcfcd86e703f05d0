/-
  Plain arithmetic of turns: no Go in sight.
-/
import Derived.KernelRfl
namespace Go.Proofs.Ytalojmebbccdnaa.SM
set_option linter.unusedVariables false

def nextOf (a f n : Int) : Int := f + (a - f) % n
theorem next_old (a f n : Int) : (a - f) % n = (a - f % n + n) % n := by simp
def ahead (x a n : Int) : Int := x / n + if x % n > a then 1 else 0

theorem next_eq (a f n : Int) (h1 : 1 ≤ n) (ha : 0 ≤ a) (hb : a < n) :
    nextOf a f n = if f % n ≤ a then f + (a - f % n) else f + (a - f % n + n) := by
  unfold nextOf
  rw [next_old]
  have r0 := Int.emod_nonneg f (show n ≠ 0 by omega)
  have r1 := Int.emod_lt_of_pos f (show 0 < n by omega)
  split
  · rw [Int.add_emod_right, Int.emod_eq_of_lt (by omega) (by omega)]
  · rw [Int.emod_eq_of_lt (by omega) (by omega)]

theorem next_mod (a f n : Int) (h1 : 1 ≤ n) (ha : 0 ≤ a) (hb : a < n) : nextOf a f n % n = a := by
  rw [next_eq a f n h1 ha hb]
  have e := Int.mul_ediv_add_emod f n
  split
  · rw [show f + (a - f % n) = a + n * (f / n) by omega, Int.add_mul_emod_self_left, Int.emod_eq_of_lt ha hb]
  · rw [show f + (a - f % n + n) = (a + n) + n * (f / n) by omega, Int.add_mul_emod_self_left, Int.add_emod_right, Int.emod_eq_of_lt ha hb]

theorem next_bd (a f n : Int) (h1 : 1 ≤ n) (ha : 0 ≤ a) (hb : a < n) : f ≤ nextOf a f n ∧ nextOf a f n < f + n := by
  unfold nextOf
  rw [next_old]
  have r0 := Int.emod_nonneg (a - f % n + n) (show n ≠ 0 by omega)
  have r1 := Int.emod_lt_of_pos (a - f % n + n) (show 0 < n by omega)
  omega

theorem next_first (a f n t : Int) (h1 : 1 ≤ n) (ha : 0 ≤ a) (hb : a < n) (ht : f ≤ t) (hl : t < nextOf a f n) : t % n ≠ a := by
  intro h
  have hb' := next_bd a f n h1 ha hb
  have e := next_mod a f n h1 ha hb
  have e1 := Int.mul_ediv_add_emod t n
  have e2 := Int.mul_ediv_add_emod (nextOf a f n) n
  have hd : n * (nextOf a f n / n - t / n) = nextOf a f n - t := by rw [Int.mul_sub]; omega
  generalize nextOf a f n / n - t / n = k at hd
  have : 0 < n * k := by omega
  have hk : 0 < k := Int.pos_of_mul_pos_right (by omega : 0 < n * k) (by omega : 0 < n) |> fun h => h
  have : n * 1 ≤ n * k := Int.mul_le_mul_of_nonneg_left (by omega) (by omega)
  omega

theorem div_succ (t n : Int) (h1 : 1 ≤ n) : (t % n = n - 1 ∧ (t + 1) / n = t / n + 1 ∧ (t + 1) % n = 0) ∨ (t % n < n - 1 ∧ (t + 1) / n = t / n ∧ (t + 1) % n = t % n + 1) := by
  have r0 := Int.emod_nonneg t (show n ≠ 0 by omega)
  have r1 := Int.emod_lt_of_pos t (show 0 < n by omega)
  have e1 := Int.mul_ediv_add_emod t n
  by_cases h : t % n = n - 1
  · left
    have : t + 1 = n * (t / n + 1) := by rw [Int.mul_add]; omega
    refine ⟨h, ?_, ?_⟩
    · conv => lhs; rw [this]
      exact Int.mul_ediv_cancel_left _ (by omega)
    · conv => lhs; rw [this]
      exact Int.mul_emod_right _ _
  · right
    have : t + 1 = (t % n + 1) + n * (t / n) := by omega
    refine ⟨by omega, ?_, ?_⟩
    · conv => lhs; rw [this]
      rw [Int.add_mul_ediv_left _ _ (by omega), Int.ediv_eq_zero_of_lt (by omega) (by omega)]; omega
    · conv => lhs; rw [this]
      rw [Int.add_mul_emod_self_left, Int.emod_eq_of_lt (by omega) (by omega)]

theorem ahead_succ (t a n : Int) (h1 : 1 ≤ n) (ha : 0 ≤ a) (hb : a < n) : ahead (t + 1) a n = ahead t a n + if t % n = a then 1 else 0 := by
  unfold ahead
  have r0 := Int.emod_nonneg t (show n ≠ 0 by omega)
  have r1 := Int.emod_lt_of_pos t (show 0 < n by omega)
  rcases div_succ t n h1 with ⟨a1, a2, a3⟩ | ⟨a1, a2, a3⟩
  · rw [a2, a3]; repeat' split <;> omega
  · rw [a2, a3]; repeat' split <;> omega

theorem ahead_add (x a n m : Int) (h1 : 1 ≤ n) : ahead (x + m * n) a n = ahead x a n + m := by
  unfold ahead
  rw [Int.add_mul_ediv_right _ _ (by omega), Int.add_mul_emod_self_right]
  split <;> omega

/-- The sum over the first k tenants of what each has ahead of x. -/
def sumTo (k x n : Int) : Int := k * (x / n) + min k (x % n)
theorem sum_zero (x n : Int) (h1 : 1 ≤ n) : sumTo 0 x n = 0 := by
  have r0 := Int.emod_nonneg x (show n ≠ 0 by omega)
  unfold sumTo; omega
theorem sum_succ (k x n : Int) : sumTo (k + 1) x n = sumTo k x n + ahead x k n := by
  unfold sumTo ahead
  rw [Int.add_mul]
  split <;> omega
theorem sum_all (x n : Int) (h1 : 1 ≤ n) : sumTo n x n = x := by
  have r1 := Int.emod_lt_of_pos x (show 0 < n by omega)
  have e1 := Int.mul_ediv_add_emod x n
  unfold sumTo
  omega
theorem ahead_bd (x a n : Int) (h1 : 1 ≤ n) (h0 : 0 ≤ x) (hx : x ≤ 1073741823) : 0 ≤ ahead x a n ∧ ahead x a n ≤ 1073741824 := by
  unfold ahead
  have := Int.ediv_nonneg h0 (show 0 ≤ n by omega)
  have := Int.ediv_le_self n h0
  split <;> omega
theorem ahead_mono (x y a n : Int) (h1 : 1 ≤ n) (ha : 0 ≤ a) (hb : a < n) (h : x ≤ y) : ahead x a n ≤ ahead y a n := by
  obtain ⟨d, rfl⟩ : ∃ d : Nat, y = x + d := ⟨(y - x).toNat, by omega⟩
  induction d with
  | zero => simp
  | succ d ih =>
    have := ih (by omega)
    have e := ahead_succ (x + d) a n h1 ha hb
    rw [show x + ((d + 1 : Nat) : Int) = x + (d : Int) + 1 by omega, e]
    split <;> omega
theorem ahead_diff (x y a n : Int) (h1 : 1 ≤ n) (ha : 0 ≤ a) (hb : a < n) (h : x ≤ y) : ahead y a n - ahead x a n ≤ y - x := by
  obtain ⟨d, rfl⟩ : ∃ d : Nat, y = x + d := ⟨(y - x).toNat, by omega⟩
  induction d with
  | zero => simp
  | succ d ih =>
    have := ih (by omega)
    have e := ahead_succ (x + d) a n h1 ha hb
    rw [show x + ((d + 1 : Nat) : Int) = x + (d : Int) + 1 by omega, e]
    split <;> omega
end Go.Proofs.Ytalojmebbccdnaa.SM
