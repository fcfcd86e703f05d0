/-
  Credits: plain words on parts and sums.
-/
import Derived.Test.YtnnciekbmapilaaParts
namespace Go.Proofs.Ytnnciekbmapilaa
set_option linter.unusedVariables false
open Go.RowKit

def sumN (f : Nat → Int) : Nat → Int
  | 0 => 0
  | n + 1 => sumN f n + f n
theorem sumN_succ (f : Nat → Int) (n : Nat) : sumN f (n + 1) = sumN f n + f n := rfl
theorem sumN_congr {f g : Nat → Int} : ∀ {n : Nat}, (∀ j, j < n → f j = g j) → sumN f n = sumN g n
  | 0, _ => rfl
  | n + 1, h => by rw [sumN_succ, sumN_succ, sumN_congr (fun j hj => h j (by omega)), h n (by omega)]
def updN (f : Nat → Int) (j : Nat) (v : Int) : Nat → Int := fun i => if i = j then v else f i
theorem updN_same (f : Nat → Int) (j : Nat) (v : Int) : updN f j v j = v := by simp [updN]
theorem updN_ne {f : Nat → Int} {i j : Nat} {v : Int} (h : i ≠ j) : updN f j v i = f i := by simp [updN, h]
theorem sumN_upd (f : Nat → Int) (j : Nat) (v : Int) : ∀ {n : Nat}, j < n → sumN (updN f j v) n = sumN f n - f j + v
  | 0, h => by omega
  | n + 1, h => by
    rw [sumN_succ, sumN_succ]
    by_cases e : j = n
    · subst e
      rw [updN_same, sumN_congr (g := f) (fun i hi => updN_ne (by omega))]
      omega
    · rw [sumN_upd f j v (by omega), updN_ne (by omega)]
      omega
theorem sumN_nonneg {f : Nat → Int} : ∀ {n : Nat}, (∀ j, j < n → 0 ≤ f j) → 0 ≤ sumN f n
  | 0, _ => by simp [sumN]
  | n + 1, h => by have := sumN_nonneg (f := f) (n := n) (fun j hj => h j (by omega)); have := h n (by omega); rw [sumN_succ]; omega
theorem sumN_ge {f : Nat → Int} {i : Nat} : ∀ {n : Nat}, (∀ j, j < n → 0 ≤ f j) → i < n → f i ≤ sumN f n
  | 0, _, h => by omega
  | n + 1, hp, h => by
    have h0 := sumN_nonneg (f := f) (n := n) (fun j hj => hp j (by omega))
    have h1 := hp n (by omega)
    rw [sumN_succ]
    by_cases e : i = n
    · subst e; omega
    · have := sumN_ge (f := f) (i := i) (n := n) (fun j hj => hp j (by omega)) (by omega); omega
theorem sumN_le {f : Nat → Int} {i : Nat} : ∀ {n : Nat}, (∀ j, j < n → 0 ≤ f j) → i ≤ n → sumN f i ≤ sumN f n
  | 0, _, h => by have : i = 0 := by omega
                  subst this; omega
  | n + 1, hp, h => by
    have h1 := hp n (by omega)
    by_cases e : i = n + 1
    · subst e; omega
    · have := sumN_le (f := f) (i := i) (n := n) (fun j hj => hp j (by omega)) (by omega); rw [sumN_succ]; omega

/-! Which part a tenant gets. -/
def fwdN (n t k : Nat) : Nat := if t + k < n then t + k else t + k - n
def bckN (n t j : Nat) : Nat := if t ≤ j then j - t else j + n - t
theorem fwdN_lt {n t k : Nat} (ht : t < n) (hk : k < n) : fwdN n t k < n := by unfold fwdN; split <;> omega
theorem bckN_lt {n t j : Nat} (ht : t < n) (hj : j < n) : bckN n t j < n := by unfold bckN; split <;> omega
theorem bck_fwd {n t k : Nat} (ht : t < n) (hk : k < n) : bckN n t (fwdN n t k) = k := by unfold bckN fwdN; repeat (split <;> try omega)
theorem fwd_of {n t k j : Nat} (ht : t < n) (hj : j < n) (h : bckN n t j = k) : j = fwdN n t k := by subst h; unfold bckN fwdN; repeat (split <;> try omega)
theorem fwd_mod {n t k : Nat} (ht : t < n) (hk : k < n) : ((t : Int) + (k : Int)) % (n : Int) = (fwdN n t k : Nat) := by
  have : (t + k) % n = fwdN n t k := by
    unfold fwdN
    split
    · exact Nat.mod_eq_of_lt (by assumption)
    · rw [Nat.mod_eq_sub_mod (by omega), Nat.mod_eq_of_lt (by omega)]
  rw [← this]; simp
theorem bck_mod {n t j : Nat} (ht : t < n) (hj : j < n) : ((j : Int) - (t : Int) + (n : Int)) % (n : Int) = (bckN n t j : Nat) := by
  have e : ((j : Int) - (t : Int) + (n : Int)) = ((j + n - t : Nat) : Int) := by omega
  have : (j + n - t) % n = bckN n t j := by
    unfold bckN
    split
    · rw [Nat.mod_eq_sub_mod (by omega), Nat.mod_eq_of_lt (by omega)]; omega
    · exact Nat.mod_eq_of_lt (by omega)
  rw [e, ← this]; simp
theorem nxt_mod {n t : Nat} (hn : 0 < n) (ht : t < n) : ((t : Int) + 1) % (n : Int) = ((t + 1) % n : Nat) := by simp

/-- The parts when k shares of x were given, from tenant t on. -/
def grantK (n : Nat) (f : Nat → Int) (t : Nat) (x : Int) (k : Nat) : Nat → Int := fun j => f j + if bckN n t j < k then part x n (bckN n t j) else 0
def grantF (n : Nat) (f : Nat → Int) (t : Nat) (x : Int) : Nat → Int := fun j => f j + part x n (bckN n t j)
theorem grantK_zero (n : Nat) (f : Nat → Int) (t : Nat) (x : Int) : grantK n f t x 0 = f := by funext j; simp [grantK]
theorem grantK_all {n t : Nat} (f : Nat → Int) (x : Int) (ht : t < n) (j : Nat) (hj : j < n) : grantK n f t x n j = grantF n f t x j := by
  have := bckN_lt ht hj
  simp [grantK, grantF, this]
theorem grantK_other {n t k : Nat} (f : Nat → Int) (x : Int) (ht : t < n) {j : Nat} (hj : j < n) (hne : j ≠ fwdN n t k) : grantK n f t x (k + 1) j = grantK n f t x k j := by
  have : bckN n t j ≠ k := fun e => hne (fwd_of ht hj e)
  unfold grantK
  by_cases h : bckN n t j < k
  · rw [if_pos h, if_pos (by omega)]
  · rw [if_neg h, if_neg (by omega)]
theorem grantK_at {n t k : Nat} (f : Nat → Int) (x : Int) (ht : t < n) (hk : k < n) : grantK n f t x (k + 1) (fwdN n t k) = grantK n f t x k (fwdN n t k) + part x n k := by
  unfold grantK
  rw [bck_fwd ht hk, if_pos (by omega), if_neg (by omega)]; omega
theorem grantK_at0 {n t k : Nat} (f : Nat → Int) (x : Int) (ht : t < n) (hk : k < n) : grantK n f t x k (fwdN n t k) = f (fwdN n t k) := by
  unfold grantK
  rw [bck_fwd ht hk, if_neg (by omega)]; omega
theorem psumC (t : Int) (n : Nat) : ∀ k, sumN (part t n) k = (k : Int) * (t / n) + min (k : Int) (t % n) → True := fun _ _ => trivial
def psumK (t : Int) (n : Nat) (k : Nat) : Int := (k : Int) * (t / n) + min (k : Int) (t % n)
theorem psumK_succ (t : Int) (n k : Nat) : psumK t n (k + 1) = psumK t n k + part t n k := by
  unfold psumK part
  rw [show (((k + 1 : Nat) : Int)) = (k : Int) + 1 by omega, Int.add_mul]
  split <;> omega
theorem sum_parts (t : Int) (n : Nat) (hn : 0 < n) : sumN (part t n) n = t := by
  have key : ∀ k, sumN (part t n) k = psumK t n k := by
    intro k
    induction k with
    | zero =>
      have := Int.emod_nonneg t (show (n : Int) ≠ 0 by omega)
      simp [sumN, psumK]; omega
    | succ k ih => rw [sumN_succ, ih, psumK_succ]
  rw [key]
  unfold psumK
  have h := Int.mul_ediv_add_emod t n
  have := Int.emod_lt_of_pos t (show (0 : Int) < n by omega)
  omega
theorem sum_grantK {n t : Nat} (f : Nat → Int) (x : Int) (ht : t < n) : ∀ {k : Nat}, k ≤ n → sumN (grantK n f t x k) n = sumN f n + sumN (part x n) k
  | 0, _ => by rw [grantK_zero]; simp [sumN]
  | k + 1, hk => by
    have h1 : sumN (grantK n f t x (k + 1)) n = sumN (updN (grantK n f t x k) (fwdN n t k) (grantK n f t x k (fwdN n t k) + part x n k)) n := by
      apply sumN_congr
      intro j hj
      by_cases e : j = fwdN n t k
      · subst e; rw [updN_same, grantK_at f x ht (by omega)]
      · rw [updN_ne e, grantK_other f x ht hj e]
    rw [h1, sumN_upd _ _ _ (fwdN_lt ht (by omega)), sum_grantK f x ht (by omega), sumN_succ]
    omega
theorem sum_grantF {n t : Nat} (f : Nat → Int) (x : Int) (ht : t < n) : sumN (grantF n f t x) n = sumN f n + x := by
  rw [← sumN_congr (grantK_all f x ht), sum_grantK f x ht (Nat.le_refl _), sum_parts x n (by omega)]
theorem part_bd (x : Int) (n i : Nat) (h0 : 0 ≤ x) (hn : 1 ≤ n) (hi : i < n) : 0 ≤ part x n i ∧ part x n i ≤ x := by
  have h1 := Int.ediv_nonneg h0 (show (0 : Int) ≤ n by omega)
  have hp : ∀ j, j < n → 0 ≤ part x n j := fun j _ => by unfold part; split <;> omega
  exact ⟨hp i hi, by have := sumN_ge hp hi; rwa [sum_parts x n (by omega)] at this⟩
theorem grantF_pos {n t : Nat} {f : Nat → Int} {x : Int} (ht : t < n) (hp : ∀ j, j < n → 0 ≤ f j) (hx : 0 ≤ x) : ∀ j, j < n → 0 ≤ grantF n f t x j := fun j hj => by
  have := part_bd x n _ hx (by omega) (bckN_lt ht hj)
  have := hp j hj
  unfold grantF; omega
theorem part_near (t : Int) (n i j : Nat) : part t n i ≤ part t n j + 1 := by unfold part; split <;> split <;> omega
end Go.Proofs.Ytnnciekbmapilaa
