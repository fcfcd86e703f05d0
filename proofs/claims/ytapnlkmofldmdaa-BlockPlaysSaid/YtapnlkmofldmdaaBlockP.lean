/-
  Layer 12: the document's answer by contract.
-/
import Derived.Test.YtapnlkmofldmdaaBlock9
import Derived.Handy
namespace Go.Proofs.Ytapnlkmofldmdaa
set_option linter.unusedVariables false
open Go.RowKit Go.ChangeShapes Go.WideShapes Go.Deep
def bi (b : Bool) : Int := if b then 1 else 0
/-- A part as the document's state. -/
def refV (s : Option Part) : Value := match s with
  | none => .agg #[.int .i64 0, .string ByteArray.empty, .int .i64 0]
  | some (a, l, b) => .agg #[.int .i64 a, .string (strB l), .int .i64 (bi b)]
def whatI (r : Option Part × Option Part × Bool) : Int := if r.2.2 then 2 else if r.2.1.isSome then 1 else 0
set_option maxRecDepth 100000 in
set_option maxHeartbeats 3200000 in
theorem refOn (lim : Int) (s : Option Part) (ty st : Int) (t : List UInt8) (e h : Bool) (w : World) (r : Option Part × Option Part × Bool) (ha : ∀ a l b, s = some (a, l, b) → 1 ≤ a ∧ l.length ≤ 1048576) (ht : t.length ≤ 1048576) (h0 : 0 ≤ lim) (h1 : lim ≤ 1048576) (hr : onS lim s ty st t e h = r) :
    Calls Try.prog 19 #[refV s, .int .i64 lim, .int .i64 ty, .int .i64 st, .string (strB t), .int .i64 (bi e), .int .i64 (bi h)] w fun en w' => en = .returned (.tuple #[refV r.1, refV r.2.1, .int .i64 (whatI r)]) ∧ Fresh w w' := by
  have hsz : (strB t).size = t.length := strB_size t
  have he0 : ByteArray.empty ++ strB t = strB t := strB_append [] t
  have hemp : (⟨#[]⟩ : ByteArray) = ByteArray.empty := rfl
  generalize hE : bi e = ei at *
  cases s with
  | none =>
    unfold onS at hr
    unfold refV
    clear ha
    by_cases h9 : ty = 9
    · subst h9
      simp at hr
      subst hr
      go_enter Try.func19, Try.ntmps19
      go_wp2
      go_returns
      exact ⟨by simp [whatI, refV, hE], by repeat (first | with_reducible exact Fresh.refl _ | with_reducible apply Fresh.drewS | with_reducible apply Fresh.allocS | (with_reducible refine Fresh.step2 ?_ ?_; focus (simp only []; omega)))⟩
    · have h9' : (ty == 9) = false := by simpa using h9
      have h9n : (ty != 9) = true := by simpa using h9
      rw [if_neg h9] at hr
      by_cases h1 : ty = 1
      · subst h1
        rw [if_neg (by simp)] at hr
        by_cases hl : lim < (t.length : Int)
        · rw [if_pos hl] at hr
          subst hr
          have hszI : ((strB t).size : Int) = (t.length : Int) := by rw [hsz]
          go_enter Try.func19, Try.ntmps19
          go_wp2
          go_returns
          exact ⟨by simp [whatI, refV, hE], by repeat (first | with_reducible exact Fresh.refl _ | with_reducible apply Fresh.drewS | with_reducible apply Fresh.allocS | (with_reducible refine Fresh.step2 ?_ ?_; focus (simp only []; omega)))⟩
        · rw [if_neg hl] at hr
          cases h with
          | true =>
            simp at hr
            subst hr
            have hb : bi true = 1 := rfl
            rw [hb]
            go_enter Try.func19, Try.ntmps19
            go_wp2
            go_region
            go_wp2
            go_returns
            exact ⟨by simp [whatI, refV, hE], by repeat (first | with_reducible exact Fresh.refl _ | with_reducible apply Fresh.drewS | with_reducible apply Fresh.allocS | (with_reducible refine Fresh.step2 ?_ ?_; focus (simp only []; omega)))⟩
          | false =>
            simp at hr
            subst hr
            have hb : bi false = 0 := rfl
            rw [hb]
            go_enter Try.func19, Try.ntmps19
            go_wp2
            go_returns
            exact ⟨by simp [whatI, refV, hE], by repeat (first | with_reducible exact Fresh.refl _ | with_reducible apply Fresh.drewS | with_reducible apply Fresh.allocS | (with_reducible refine Fresh.step2 ?_ ?_; focus (simp only []; omega)))⟩
      · have h1' : (ty != 1) = true := by simpa using h1
        rw [if_pos h1] at hr
        subst hr
        go_enter Try.func19, Try.ntmps19
        go_wp2
        go_returns
        exact ⟨by simp [whatI, refV, hE], by repeat (first | with_reducible exact Fresh.refl _ | with_reducible apply Fresh.drewS | with_reducible apply Fresh.allocS | (with_reducible refine Fresh.step2 ?_ ?_; focus (simp only []; omega)))⟩
  | some y =>
    obtain ⟨a, l, b⟩ := y
    obtain ⟨ha1, hal⟩ := ha a l b rfl
    have ha0 : (a != 0) = true := by simpa using (show a ≠ 0 by omega)
    have ha0' : (a == 0) = false := by simpa using (show a ≠ 0 by omega)
    clear ha
    dsimp only [onS] at hr
    dsimp only [refV]
    by_cases h9 : ty = 9
    · subst h9
      rw [if_neg (by simp)] at hr
      by_cases hst : st = a
      · subst hst
        rw [if_neg (by simp)] at hr
        have hss : (st != st) = false := by simp
        have hcat : strB l ++ strB t = strB (l ++ t) := strB_append l t
        have hszl : (strB l).size = l.length := strB_size l
        have hszc : (strB (l ++ t)).size = l.length + t.length := by rw [strB_size]; simp
        have hsum : (strB l).size + (strB t).size ≤ 9223372036854775807 := by omega
        by_cases hl : lim - (l.length : Int) < (t.length : Int)
        · rw [if_pos hl] at hr
          subst hr
          have hszI : lim < ((l.length + t.length : Nat) : Int) := by omega
          go_enter Try.func19, Try.ntmps19
          go_wp2
          go_returns
          exact ⟨by simp [whatI, refV], by repeat (first | with_reducible exact Fresh.refl _ | with_reducible apply Fresh.drewS | with_reducible apply Fresh.allocS | (with_reducible refine Fresh.step2 ?_ ?_; focus (simp only []; omega)))⟩
        · rw [if_neg hl] at hr
          have hszI : ¬ lim < ((l.length + t.length : Nat) : Int) := by omega
          cases h with
          | true =>
            simp at hr
            subst hr
            have hb : bi true = 1 := rfl
            rw [hb]
            go_enter Try.func19, Try.ntmps19
            go_wp2
            go_region
            go_wp2
            go_returns
            exact ⟨by simp [whatI, refV], by repeat (first | with_reducible exact Fresh.refl _ | with_reducible apply Fresh.drewS | with_reducible apply Fresh.allocS | (with_reducible refine Fresh.step2 ?_ ?_; focus (simp only []; omega)))⟩
          | false =>
            simp at hr
            subst hr
            have hb : bi false = 0 := rfl
            rw [hb]
            go_enter Try.func19, Try.ntmps19
            go_wp2
            go_returns
            exact ⟨by simp [whatI, refV], by repeat (first | with_reducible exact Fresh.refl _ | with_reducible apply Fresh.drewS | with_reducible apply Fresh.allocS | (with_reducible refine Fresh.step2 ?_ ?_; focus (simp only []; omega)))⟩
      · have hst' : (st != a) = true := by simpa using hst
        rw [if_pos hst] at hr
        subst hr
        go_enter Try.func19, Try.ntmps19
        go_wp2
        go_returns
        exact ⟨by simp [whatI, refV], by repeat (first | with_reducible exact Fresh.refl _ | with_reducible apply Fresh.drewS | with_reducible apply Fresh.allocS | (with_reducible refine Fresh.step2 ?_ ?_; focus (simp only []; omega)))⟩
    · have h9' : (ty == 9) = false := by simpa using h9
      have h9n : (ty != 9) = true := by simpa using h9
      rw [if_pos h9] at hr
      subst hr
      go_enter Try.func19, Try.ntmps19
      go_wp2
      go_returns
      exact ⟨by simp [whatI, refV], by repeat (first | with_reducible exact Fresh.refl _ | with_reducible apply Fresh.drewS | with_reducible apply Fresh.allocS | (with_reducible refine Fresh.step2 ?_ ?_; focus (simp only []; omega)))⟩
end Go.Proofs.Ytapnlkmofldmdaa
