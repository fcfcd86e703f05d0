/-
  Contracts of package payload: what a frame is like.
-/
import Derived.Test.YtcdghmidpaeloaaFrame
import Derived.Test.YtcdghmidpaeloaaRdr
import Derived.Test.YtcdghmidpaeloaaMake
import Derived.Test.YtcdghmidpaeloaaGen
import Derived.Handy
import Derived.IntWalk
namespace Go.Proofs.Ytcdghmidpaeloaa
set_option linter.unusedVariables false
open Go.RowKit

def hasB (fl k : Int) : Bool := !(bits .and .i64 fl k == 0)
theorem phas (ty fl st : Int) (v : Option Addr) (n c : Nat) (k : Int) (b : Bool) (w : World) (hk : oneP k = true) (hb : hasB fl k = b) :
    Calls Try.prog 39 #[.agg #[.int .i64 ty, .int .i64 fl, .int .i64 st, .slice v n c], .int .i64 k] w fun e w' => e = .returned (.bool b) ∧ Fresh w w' := by
  have := fhas ty fl st v n c k w
  rw [hk, Bool.true_and, show (!(bits .and .i64 fl k == 0)) = b from hb] at this
  exact this
def pdB (ty fl : Int) : Bool := (decide (ty = 0) || decide (ty = 1)) && hasB fl 8
def wgB (ty fl : Int) : Bool := decide (ty = 2) || (decide (ty = 1) && hasB fl 32)
theorem ppadded (ty fl st : Int) (A : Option Addr) (n c : Nat) (b : Bool) (w : World) (hb : pdB ty fl = b) :
    Calls Try.prog 46 #[.agg #[.int .i64 ty, .int .i64 fl, .int .i64 st, .slice A n c]] w fun e w' => e = .returned (.bool b) ∧ Fresh w w' := by
  by_cases h0 : ty = 0
  · have H := Lib.hid (fun w => phas ty fl st A n c 8 b w rfl (by rw [← hb]; simp [pdB, h0]))
    subst h0
    clear hb
    go_enter Try.func46, Try.ntmps46
    go_wp2_with fail
    with_reducible refine (H.out _).mono ?_
    rintro e w1 ⟨rfl, hf⟩
    go_wp2_with fail
    go_ret
    exact ⟨rfl, hf.tA⟩
  · by_cases h1 : ty = 1
    · have H := Lib.hid (fun w => phas ty fl st A n c 8 b w rfl (by rw [← hb]; simp [pdB, h1]))
      subst h1
      clear hb h0
      go_enter Try.func46, Try.ntmps46
      go_wp2_with fail
      with_reducible refine (H.out _).mono ?_
      rintro e w1 ⟨rfl, hf⟩
      go_wp2_with fail
      go_ret
      exact ⟨rfl, hf.tA⟩
    · have a0 : (ty == 0) = false := by simpa using h0
      have a1 : (ty == 1) = false := by simpa using h1
      have e : b = false := by rw [← hb]; simp [pdB, h0, h1]
      subst e
      clear hb h0 h1
      go_enter Try.func46, Try.ntmps46
      go_wp2_with fail
      go_ret
      exact ⟨rfl, Fresh.alloc _ _⟩
theorem pweighed (ty fl st : Int) (A : Option Addr) (n c : Nat) (b : Bool) (w : World) (hb : wgB ty fl = b) :
    Calls Try.prog 34 #[.agg #[.int .i64 ty, .int .i64 fl, .int .i64 st, .slice A n c]] w fun e w' => e = .returned (.bool b) ∧ Fresh w w' := by
  by_cases h0 : ty = 2
  · have e : b = true := by rw [← hb]; simp [wgB, h0]
    subst h0 e
    clear hb
    go_enter Try.func34, Try.ntmps34
    go_wp2_with fail
    go_ret
    exact ⟨rfl, Fresh.alloc _ _⟩
  · by_cases h1 : ty = 1
    · have H := Lib.hid (fun w => phas ty fl st A n c 32 b w rfl (by rw [← hb]; simp [wgB, h1]))
      subst h1
      clear hb h0
      go_enter Try.func34, Try.ntmps34
      go_wp2_with fail
      with_reducible refine (H.out _).mono ?_
      rintro e w1 ⟨rfl, hf⟩
      go_wp2_with fail
      go_ret
      exact ⟨rfl, hf.tA⟩
    · have a0 : (ty == 2) = false := by simpa using h0
      have a1 : (ty == 1) = false := by simpa using h1
      have e : b = false := by rw [← hb]; simp [wgB, h0, h1]
      subst e
      clear hb h0 h1
      go_enter Try.func34, Try.ntmps34
      go_wp2_with fail
      go_ret
      exact ⟨rfl, Fresh.alloc _ _⟩
def aheadN (ty fl : Int) : Nat := (if pdB ty fl then 1 else 0) + (if wgB ty fl && decide (ty = 1) then 5 else 0)
theorem pahead (ty fl st : Int) (A : Option Addr) (n c : Nat) (w : World) :
    Calls Try.prog 29 #[.agg #[.int .i64 ty, .int .i64 fl, .int .i64 st, .slice A n c]] w fun e w' => e = .returned (.int .i64 (aheadN ty fl : Int)) ∧ Fresh w w' := by
  obtain ⟨p, hp⟩ : ∃ p, pdB ty fl = p := ⟨_, rfl⟩
  obtain ⟨g, hg⟩ : ∃ g, wgB ty fl = g := ⟨_, rfl⟩
  have HP := Lib.hid (fun w => ppadded ty fl st A n c p w hp)
  have HG := Lib.hid (fun w => pweighed ty fl st A n c g w hg)
  have HE : Hid ((aheadN ty fl : Int) = (if p then 1 else 0) + (if g && decide (ty = 1) then 5 else 0)) := Lib.hid (by
    unfold aheadN; rw [hp, hg]; cases p <;> cases g <;> by_cases h : ty = 1 <;> simp [h])
  clear hp hg
  generalize (aheadN ty fl : Int) = z at *
  by_cases h1 : ty = 1
  · have a1 : (ty == 1) = true := by simpa using h1
    have HE2 : Hid (z = (if p then 1 else 0) + (if g then 5 else 0)) := Lib.hid (by rw [HE.out]; simp [h1])
    clear h1 HE
    cases p <;> cases g
    all_goals
      have hz := HE2.out
      simp at hz
      have HZ := Lib.hid hz
      clear hz
      go_enter Try.func29, Try.ntmps29
      go_wp2_with fail
      with_reducible refine (HP.out _).mono ?_
      rintro e w1 ⟨rfl, hf⟩
      have q0 := ((Blk.new w 24 #[.int .i64 ty, .int .i64 fl, .int .i64 st, .slice A n c]).fresh hf)
      obtain ⟨c0, c1, c2, c3⟩ := q0.c4
      have HF := Lib.hid hf
      have HB := Lib.hid q0
      clear hf q0
      go_wp2_with fail
      with_reducible refine (HG.out _).mono ?_
      rintro e w2 ⟨rfl, hf2⟩
      have q0 := HB.out.fresh hf2
      obtain ⟨c0, c1, c2, c3⟩ := q0.c4
      have HF2 := Lib.hid hf2
      clear hf2 q0
      go_wp2_with fail
      go_ret
      exact ⟨ret_int (by rw [HZ.out]), (HF.out.trans HF2.out).tA⟩
  · have a1 : (ty == 1) = false := by simpa using h1
    have HE2 : Hid (z = (if p then 1 else 0)) := Lib.hid (by rw [HE.out]; simp [h1])
    clear h1 HE
    cases p <;> cases g
    all_goals
      have hz := HE2.out
      simp at hz
      have HZ := Lib.hid hz
      clear hz
      go_enter Try.func29, Try.ntmps29
      go_wp2_with fail
      with_reducible refine (HP.out _).mono ?_
      rintro e w1 ⟨rfl, hf⟩
      have q0 := ((Blk.new w 24 #[.int .i64 ty, .int .i64 fl, .int .i64 st, .slice A n c]).fresh hf)
      obtain ⟨c0, c1, c2, c3⟩ := q0.c4
      have HF := Lib.hid hf
      have HB := Lib.hid q0
      clear hf q0
      go_wp2_with fail
      with_reducible refine (HG.out _).mono ?_
      rintro e w2 ⟨rfl, hf2⟩
      have q0 := HB.out.fresh hf2
      obtain ⟨c0, c1, c2, c3⟩ := q0.c4
      have HF2 := Lib.hid hf2
      clear hf2 q0
      go_wp2_with fail
      go_ret
      exact ⟨ret_int (by rw [HZ.out]), (HF.out.trans HF2.out).tA⟩
end Go.Proofs.Ytcdghmidpaeloaa

