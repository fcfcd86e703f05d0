/-
  Texts laid together: Pay3 Chain Pay4.
-/
import Derived.Test.YtginhebfjbhmnaaGreatG04
import Derived.Deep.RegionHeld3
import Derived.Test.YtginhebfjbhmnaaGreatG03
/-
  Contracts of package payload: the looks.
-/
namespace Go.Proofs.YtginhebfjbhmnaaGreat
set_option maxRecDepth 100000
set_option linter.unusedVariables false
open Go.RowKit

def szB (ty fl : Int) (n : Nat) : Bool :=
  if ty = 3 then ((n : Int) == 4) else if ty = 4 then ((n : Int) == 0 || ((n : Int) % 6 == 0 && !hasB fl 1)) else if ty = 6 then ((n : Int) == 8) else if ty = 7 then decide (8 ≤ (n : Int)) else if ty = 8 then ((n : Int) == 4) else true
theorem psize (ty fl st : Int) (A : Option Addr) (n c : Nat) (b : Bool) (w : World) (hb : szB ty fl n = b) (hn : (n : Int) ≤ 9223372036854775807) :
    Calls Tryz.prog 60 #[.agg #[.int .i64 ty, .int .i64 fl, .int .i64 st, .slice A n c]] w fun e w' => e = .returned (.bool b) ∧ Fresh w w' := by
  have H := Lib.hid hb
  clear hb
  by_cases h3 : ty = 3
  · have e : szB ty fl n = ((n : Int) == 4) := by unfold szB; rw [if_pos (by omega)]
    rw [← H.out, e]
    subst h3
    clear e H
    go_enter Tryz.func60, Tryz.ntmps60
    go_wp2_with fail
    go_ret
    exact ⟨rfl, Fresh.alloc _ _⟩
  · have a3 : (ty == 3) = false := by simpa using h3
    by_cases h4 : ty = 4
    · have e : szB ty fl n = ((n : Int) == 0 || ((n : Int) % 6 == 0 && !hasB fl 1)) := by unfold szB; rw [if_neg (by omega), if_pos (by omega)]
      rw [e] at H
      obtain ⟨f1, hf1⟩ : ∃ f1, hasB fl 1 = f1 := ⟨_, rfl⟩
      have HA := Lib.hid (fun w => phas 4 fl st A n c 1 f1 w rfl hf1)
      rw [hf1] at H
      clear hf1
      subst h4
      clear e h3
      have hm0 := Int.emod_nonneg (n : Int) (show (6 : Int) ≠ 0 by omega)
      by_cases n0 : (n : Int) = 0
      · have hr : b = true := by rw [← H.out]; simp [n0]
        subst hr
        have n0' : ((n : Int) == 0) = true := by simpa using n0
        have n1' : n = 0 := by omega
        clear H n0
        subst n1'
        go_enter Tryz.func60, Tryz.ntmps60
        go_wp2_with fail
        go_ret
        exact ⟨rfl, Fresh.alloc _ _⟩
      · have n0' : ((n : Int) == 0) = false := by simpa using n0
        have n0'' : (n == 0) = false := by simp; omega
        by_cases n6 : (n : Int) % 6 = 0
        · have hr : b = !f1 := by rw [← H.out, n0', n6]; simp
          subst hr
          have n6' : ((n : Int) % 6 == 0) = true := by simpa using n6
          clear H n0
          go_enter Tryz.func60, Tryz.ntmps60
          go_wp2_with fail
          with_reducible refine (HA.out _).mono ?_
          rintro e w1 ⟨rfl, hf⟩
          have HF := Lib.hid hf.tA
          clear hf
          go_wp2_with fail
          go_ret
          exact ⟨rfl, HF.out⟩
        · have hr : b = false := by rw [← H.out, n0']; simp [n6]
          subst hr
          have n6' : ((n : Int) % 6 == 0) = false := by simpa using n6
          clear H n0 n6
          go_enter Tryz.func60, Tryz.ntmps60
          go_wp2_with fail
          go_ret
          exact ⟨rfl, Fresh.alloc _ _⟩
    · have a4 : (ty == 4) = false := by simpa using h4
      by_cases h6 : ty = 6
      · have e : szB ty fl n = ((n : Int) == 8) := by unfold szB; rw [if_neg (by omega), if_neg (by omega), if_pos (by omega)]
        rw [← H.out, e]
        subst h6
        clear e H h3 h4
        go_enter Tryz.func60, Tryz.ntmps60
        go_wp2_with fail
        go_ret
        exact ⟨rfl, Fresh.alloc _ _⟩
      · have a6 : (ty == 6) = false := by simpa using h6
        by_cases h7 : ty = 7
        · have e : szB ty fl n = decide (8 ≤ (n : Int)) := by unfold szB; rw [if_neg (by omega), if_neg (by omega), if_neg (by omega), if_pos (by omega)]
          rw [← H.out, e]
          subst h7
          clear e H h3 h4 h6
          go_enter Tryz.func60, Tryz.ntmps60
          go_wp2_with fail
          go_ret
          exact ⟨rfl, Fresh.alloc _ _⟩
        · have a7 : (ty == 7) = false := by simpa using h7
          by_cases h8 : ty = 8
          · have e : szB ty fl n = ((n : Int) == 4) := by unfold szB; rw [if_neg (by omega), if_neg (by omega), if_neg (by omega), if_neg (by omega), if_pos (by omega)]
            rw [← H.out, e]
            subst h8
            clear e H h3 h4 h6 h7
            go_enter Tryz.func60, Tryz.ntmps60
            go_wp2_with fail
            go_ret
            exact ⟨rfl, Fresh.alloc _ _⟩
          · have a8 : (ty == 8) = false := by simpa using h8
            have e : szB ty fl n = true := by unfold szB; rw [if_neg h3, if_neg h4, if_neg h6, if_neg h7, if_neg h8]
            rw [← H.out, e]
            clear e H h3 h4 h6 h7 h8
            go_enter Tryz.func60, Tryz.ntmps60
            go_wp2_with fail
            go_ret
            exact ⟨rfl, Fresh.alloc _ _⟩
/-- A frame in a box. -/
structure FB (w : World) (b : Nat) (ty fl st : Int) (A : Option Addr) (c : Nat) (l : List UInt8) : Prop where
  blk : Blk w b 34 #[.int .i64 ty, .int .i64 fl, .int .i64 st, .slice A l.length c]
  bs : BS w A l
  le : l.length ≤ c
  mx : l.length ≤ 140737488355328
theorem FB.fresh {w w' : World} {b c : Nat} {ty fl st : Int} {A : Option Addr} {l : List UInt8} (h : FB w b ty fl st A c l) (hf : Fresh w w') : FB w' b ty fl st A c l := ⟨h.blk.fresh hf, h.bs.fresh hf, h.le, h.mx⟩
section
variable {b c : Nat} {ty fl st : Int} {A : Option Addr} {l : List UInt8} {w : World}
theorem look1 (h : FB w b ty fl st A c l) : Calls Tryz.prog 57 #[.pointer (some ⟨b, 0, none⟩)] w fun e w' => e = .returned (.bool (!srB ty st || ty == 5)) ∧ Fresh w w' := by
  obtain ⟨r, hr⟩ : ∃ r, srB ty st = r := ⟨_, rfl⟩
  have H := Lib.hid (fun w => pstream ty fl st A l.length c r w hr)
  have HB := Lib.hid h.blk
  obtain ⟨c0, c1, c2, c3⟩ := h.blk.c4
  rw [hr]
  clear hr h
  cases r with
  | false =>
    go_enter Tryz.func57, Tryz.ntmps57
    go_wp2_with fail
    with_reducible refine (H.out _).mono ?_
    rintro e w1 ⟨rfl, hf⟩
    go_wp2_with fail
    go_ret
    exact ⟨rfl, hf⟩
  | true =>
    go_enter Tryz.func57, Tryz.ntmps57
    go_wp2_with fail
    with_reducible refine (H.out _).mono ?_
    rintro e w1 ⟨rfl, hf⟩
    have HF := Lib.hid hf
    obtain ⟨c0, c1, c2, c3⟩ := (HB.out.fresh hf).c4
    clear hf
    go_wp2_with fail
    go_ret
    exact ⟨rfl, HF.out⟩
theorem look2 (h : FB w b ty fl st A c l) : Calls Tryz.prog 59 #[.pointer (some ⟨b, 0, none⟩)] w fun e w' => e = .returned (.bool (!szB ty fl l.length || decide ((l.length : Int) < (aheadN ty fl : Int)))) ∧ Fresh w w' := by
  obtain ⟨r, hr⟩ : ∃ r, szB ty fl l.length = r := ⟨_, rfl⟩
  have hmx := h.mx
  have H := Lib.hid (fun w => psize ty fl st A l.length c r w hr (by omega))
  have HH := Lib.hid (fun w => pahead ty fl st A l.length c w)
  have HSK : Hid (∀ w', Fresh w w' → w'.cell? ⟨b, 0, none⟩ = some (.int .i64 ty) ∧ w'.cell? ⟨b, 1, none⟩ = some (.int .i64 fl) ∧ w'.cell? ⟨b, 2, none⟩ = some (.int .i64 st) ∧ w'.cell? ⟨b, 3, none⟩ = some (.slice A l.length c) ∧ Fresh w w') := Lib.hid (fun w' hw => by
    obtain ⟨c0, c1, c2, c3⟩ := (h.blk.fresh hw).c4
    exact ⟨c0, c1, c2, c3, hw⟩)
  obtain ⟨g0, g1, g2, g3, g4⟩ := HSK.out w (Fresh.refl _)
  rw [hr]
  generalize (aheadN ty fl : Int) = a at *
  clear hr h
  cases r with
  | false =>
    have hor : ∀ x : Bool, (!false || x) = true := fun x => rfl
    rw [hor]
    go_enter Tryz.func59, Tryz.ntmps59
    go_wp2_with fail
    first
    | go_region_with ((go_at_call 60; (with_reducible refine (H.out _).mono ?_); rintro e w3 ⟨rfl, hf3⟩; have hg3 : Fresh w w3 := Fresh.trans (by first | assumption | exact Fresh.drew _) hf3))
    | fail
    all_goals
      go_wp2
      go_ret
      exact ⟨rfl, by assumption⟩
  | true =>
    go_enter Tryz.func59, Tryz.ntmps59
    go_wp2_with fail
    go_region_held3 (fun w' => w'.cell? ⟨b, 0, none⟩ = some (.int .i64 ty) ∧ w'.cell? ⟨b, 1, none⟩ = some (.int .i64 fl) ∧ w'.cell? ⟨b, 2, none⟩ = some (.int .i64 st) ∧ w'.cell? ⟨b, 3, none⟩ = some (.slice A l.length c) ∧ Fresh w w')
      ((refine HSK.out _ ?_; first | with_reducible assumption | with_reducible exact Fresh.drew _ | (with_reducible apply Fresh.drewS; with_reducible assumption)))
      (first
        | (go_at_call 60; (with_reducible refine (H.out _).mono ?_); rintro e w3 ⟨rfl, hf3⟩; have hg3 : Fresh w w3 := Fresh.trans (by first | assumption | exact Fresh.drew _) hf3)
        | (go_at_call 61; (with_reducible refine (HH.out _).mono ?_); rintro e w4 ⟨rfl, hf4⟩; have hg4 : Fresh w w4 := Fresh.trans (by first | assumption | exact Fresh.drew _) hf4))
    go_wp2
    go_ret
    exact ⟨rfl, by assumption⟩
theorem look3 (h : FB w b ty fl st A c l) (hp : pdB ty fl = true → 0 < l.length) (ha : aheadN ty fl ≤ l.length) : Calls Tryz.prog 62 #[.pointer (some ⟨b, 0, none⟩)] w fun e w' => e = .returned (.bool (decide ((l.length : Int) - (aheadN ty fl : Int) < (padN ty fl l : Int)))) ∧ Fresh w w' := by
  have hmx := h.mx
  have H := Lib.hid (fun w' (hw : Fresh w w') => ppadding ty fl st A c l w' (h.bs.fresh hw) hp)
  have HH := Lib.hid (fun w => pahead ty fl st A l.length c w)
  have HSK : Hid (∀ w', Fresh w w' → w'.cell? ⟨b, 0, none⟩ = some (.int .i64 ty) ∧ w'.cell? ⟨b, 1, none⟩ = some (.int .i64 fl) ∧ w'.cell? ⟨b, 2, none⟩ = some (.int .i64 st) ∧ w'.cell? ⟨b, 3, none⟩ = some (.slice A l.length c) ∧ Fresh w w') := Lib.hid (fun w' hw => by
    obtain ⟨c0, c1, c2, c3⟩ := (h.blk.fresh hw).c4
    exact ⟨c0, c1, c2, c3, hw⟩)
  obtain ⟨g0, g1, g2, g3, g4⟩ := HSK.out w (Fresh.refl _)
  have hab : (aheadN ty fl : Int) ≤ (l.length : Int) := by omega
  have ha0 : (0 : Int) ≤ (aheadN ty fl : Int) := by omega
  generalize (aheadN ty fl : Int) = a at *
  generalize (padN ty fl l : Int) = pd at *
  have hw1 : IntKind.i64.wrap ((l.length : Int) - a) = (l.length : Int) - a := IntWalk.i64_in _ (by omega)
  clear ha h hp
  go_enter Tryz.func62, Tryz.ntmps62
  go_wp2_with fail
  go_region_held3 (fun w' => w'.cell? ⟨b, 0, none⟩ = some (.int .i64 ty) ∧ w'.cell? ⟨b, 1, none⟩ = some (.int .i64 fl) ∧ w'.cell? ⟨b, 2, none⟩ = some (.int .i64 st) ∧ w'.cell? ⟨b, 3, none⟩ = some (.slice A l.length c) ∧ Fresh w w')
    ((refine HSK.out _ ?_; first | with_reducible assumption | with_reducible exact Fresh.drew _ | (with_reducible apply Fresh.drewS; with_reducible assumption)))
    (first
      | (go_at_call 63; (with_reducible refine (H.out _ (by first | assumption | exact Fresh.drew _)).mono ?_); rintro e w3 ⟨rfl, hf3⟩; have hg3 : Fresh w w3 := Fresh.trans (by first | assumption | exact Fresh.drew _) hf3)
      | (go_at_call 61; (with_reducible refine (HH.out _).mono ?_); rintro e w4 ⟨rfl, hf4⟩; have hg4 : Fresh w w4 := Fresh.trans (by first | assumption | exact Fresh.drew _) hf4))
  go_wp2
  go_ret
  exact ⟨rfl, by assumption⟩
theorem look4 (h : FB w b ty fl st A c l) : Calls Tryz.prog 64 #[.pointer (some ⟨b, 0, none⟩)] w fun e w' => e = .returned (.bool (ty == 2 && ((l.length : Int) != 5))) ∧ w = w' := by
  obtain ⟨c0, c1, c2, c3⟩ := h.blk.c4
  clear h
  by_cases h2 : ty = 2
  · subst h2
    go_enter Tryz.func64, Tryz.ntmps64
    go_wp2_with fail
    go_ret
    exact ⟨rfl, rfl⟩
  · have a2 : (ty == 2) = false := by simpa using h2
    rw [a2]
    clear h2
    go_enter Tryz.func64, Tryz.ntmps64
    go_wp2_with fail
    go_ret
    exact ⟨rfl, rfl⟩
theorem look5 (h : FB w b ty fl st A c l) (hg : wgB ty fl = true → fromN ty fl + 5 ≤ l.length) : Calls Tryz.prog 65 #[.pointer (some ⟨b, 0, none⟩)] w fun e w' => e = .returned (.bool (wgB ty fl && ((depN ty fl l : Int) == st))) ∧ Fresh w w' := by
  obtain ⟨r, hr⟩ : ∃ r, wgB ty fl = r := ⟨_, rfl⟩
  have H := Lib.hid (fun w => pweighed ty fl st A l.length c r w hr)
  have HSK : Hid (∀ w', Fresh w w' → w'.cell? ⟨b, 0, none⟩ = some (.int .i64 ty) ∧ w'.cell? ⟨b, 1, none⟩ = some (.int .i64 fl) ∧ w'.cell? ⟨b, 2, none⟩ = some (.int .i64 st) ∧ w'.cell? ⟨b, 3, none⟩ = some (.slice A l.length c) ∧ Fresh w w') := Lib.hid (fun w' hw => by
    obtain ⟨c0, c1, c2, c3⟩ := (h.blk.fresh hw).c4
    exact ⟨c0, c1, c2, c3, hw⟩)
  obtain ⟨g0, g1, g2, g3, g4⟩ := HSK.out w (Fresh.refl _)
  cases r with
  | false =>
    rw [hr]
    have hor : ∀ x : Bool, (false && x) = false := fun x => rfl
    rw [hor]
    clear hr hg h
    go_enter Tryz.func65, Tryz.ntmps65
    go_wp2_with fail
    first
    | go_region_with ((go_at_call 66; (with_reducible refine (H.out _).mono ?_); rintro e w3 ⟨rfl, hf3⟩; have hg3 : Fresh w w3 := Fresh.trans (by first | assumption | exact Fresh.drew _) hf3))
    | fail
    all_goals
      go_wp2
      go_ret
      exact ⟨rfl, by assumption⟩
  | true =>
    rw [hr]
    have HD := Lib.hid (fun w' (hw : Fresh w w') => pdepends ty fl st A c l w' (h.bs.fresh hw) h.le (hg hr))
    generalize (depN ty fl l : Int) = d at *
    clear hr hg h
    go_enter Tryz.func65, Tryz.ntmps65
    go_wp2_with fail
    go_region_held3 (fun w' => w'.cell? ⟨b, 0, none⟩ = some (.int .i64 ty) ∧ w'.cell? ⟨b, 1, none⟩ = some (.int .i64 fl) ∧ w'.cell? ⟨b, 2, none⟩ = some (.int .i64 st) ∧ w'.cell? ⟨b, 3, none⟩ = some (.slice A l.length c) ∧ Fresh w w')
      ((refine HSK.out _ ?_; first | with_reducible assumption | with_reducible exact Fresh.drew _ | (with_reducible apply Fresh.drewS; with_reducible assumption)))
      (first
        | (go_at_call 66; (with_reducible refine (H.out _).mono ?_); rintro e w3 ⟨rfl, hf3⟩; have hg3 : Fresh w w3 := Fresh.trans (by first | assumption | exact Fresh.drew _) hf3)
        | (go_at_call 67; (with_reducible refine (HD.out _ (by first | assumption | exact Fresh.drew _)).mono ?_); rintro e w4 ⟨rfl, hf4⟩; have hg4 : Fresh w w4 := Fresh.trans (by first | assumption | exact Fresh.drew _) hf4))
    go_wp2
    go_ret
    exact ⟨rfl, by assumption⟩
theorem look6 (h : FB w b ty fl st A c l) (hg : ty = 8 → 4 ≤ l.length) : Calls Tryz.prog 68 #[.pointer (some ⟨b, 0, none⟩)] w fun e w' => e = .returned (.bool (ty == 8 && ((incN l : Int) == 0))) ∧ Fresh w w' := by
  obtain ⟨c0, c1, c2, c3⟩ := h.blk.c4
  by_cases h8 : ty = 8
  · have HI := Lib.hid (pincrement ty fl st A c l w h.bs (hg h8) h.mx)
    generalize (incN l : Int) = d at *
    subst h8
    clear h hg
    go_enter Tryz.func68, Tryz.ntmps68
    go_wp2_with fail
    with_reducible refine HI.out.mono ?_
    rintro e w1 ⟨rfl, hf⟩
    go_wp2_with fail
    go_ret
    exact ⟨rfl, hf⟩
  · have a8 : (ty == 8) = false := by simpa using h8
    rw [a8]
    clear h8 h hg
    go_enter Tryz.func68, Tryz.ntmps68
    go_wp2_with fail
    go_ret
    exact ⟨rfl, Fresh.refl _⟩
end
end Go.Proofs.YtginhebfjbhmnaaGreat

/-
  Blocks of a row of allocations.
-/
namespace Go.Proofs.YtginhebfjbhmnaaGreat
set_option maxRecDepth 100000
set_option linter.unusedVariables false
open Go.RowKit
theorem Blk.mkAt {w : World} {g : Nat} {t : TypeId} {cs : Array Value} (h : w.heap.size = g) : Blk (w.alloc (.cells cs t)) g t cs := by
  subst h
  exact Blk.new w t cs
theorem Blk.set2 {w : World} {g i : Nat} {t : TypeId} {cs ds : Array Value} {u : Value} (h : Blk w g t cs) (hd : cs.setIfInBounds i u = ds) : Blk (w.setCell ⟨g, i, none⟩ u) g t ds := by
  subst hd
  exact h.set i u
end Go.Proofs.YtginhebfjbhmnaaGreat

/-
  Contracts of package payload: the row of looks.
-/
namespace Go.Proofs.YtginhebfjbhmnaaGreat
set_option maxRecDepth 100000
set_option linter.unusedVariables false
open Go.RowKit

def fnV (k b : Nat) : Value := .func (Fn.func k) #[] #[.pointer (some ⟨b, 0, none⟩)]
def lkA (b : Nat) (s0 : Bool) : Array Value := #[.int .i64 101, .bool true, .func (Fn.func 57) #[] #[.pointer (some ⟨b, 0, none⟩)], .int .i64 106, .bool true, .func (Fn.func 59) #[] #[.pointer (some ⟨b, 0, none⟩)],
  .int .i64 101, .bool true, .func (Fn.func 62) #[] #[.pointer (some ⟨b, 0, none⟩)], .int .i64 106, .bool false, .func (Fn.func 64) #[] #[.pointer (some ⟨b, 0, none⟩)],
  .int .i64 101, .bool false, .func (Fn.func 65) #[] #[.pointer (some ⟨b, 0, none⟩)], .int .i64 101, .bool s0, .func (Fn.func 68) #[] #[.pointer (some ⟨b, 0, none⟩)]]
def LooksP (ty fl st : Int) (A : Option Addr) (n c : Nat) (w : World) (e : Ending) (w' : World) : Prop :=
  ∃ g b, e = .returned (.slice (some ⟨g, 0, none⟩) 6 6) ∧ w.heap.size ≤ g ∧ w.heap.size ≤ b ∧ Blk w' g 119 (lkA b (st == 0)) ∧ Blk w' b 34 #[.int .i64 ty, .int .i64 fl, .int .i64 st, .slice A n c] ∧ Fresh w w'
theorem plooks (ty fl st : Int) (A : Option Addr) (n c : Nat) (w : World) :
    Calls Tryz.prog 50 #[.agg #[.int .i64 ty, .int .i64 fl, .int .i64 st, .slice A n c]] w (LooksP ty fl st A n c w) := by
  go_enter Tryz.func50, Tryz.ntmps50
  go_wp2_with fail
  go_ret
  refine ⟨w.heap.size + 1, w.heap.size, rfl, by omega, Nat.le_refl _, ?_, (Blk.new w _ _).alloc _, (Fresh.alloc _ _).allocS _⟩
  exact Blk.mkAt (by simp)
/-- The first fault's number, from 1 on; 0: none. -/
def lookB (ty fl st : Int) (l : List UInt8) (k : Nat) : Bool :=
  match k with
  | 0 => !srB ty st || ty == 5
  | 1 => !szB ty fl l.length || decide ((l.length : Int) < (aheadN ty fl : Int))
  | 2 => decide ((l.length : Int) - (aheadN ty fl : Int) < (padN ty fl l : Int))
  | 3 => ty == 2 && ((l.length : Int) != 5)
  | 4 => wgB ty fl && ((depN ty fl l : Int) == st)
  | _ => ty == 8 && ((incN l : Int) == 0)
theorem pd_ahead {ty fl : Int} {l : List UInt8} (h : ¬ (l.length : Int) < (aheadN ty fl : Int)) (hp : pdB ty fl = true) : 0 < l.length := by
  unfold aheadN at h
  rw [hp] at h
  simp at h
  omega
theorem wg_ahead {ty fl : Int} {l : List UInt8} (h : ¬ (l.length : Int) < (aheadN ty fl : Int)) (h3 : ty = 2 → l.length = 5) (hg : wgB ty fl = true) : fromN ty fl + 5 ≤ l.length := by
  by_cases h2 : ty = 2
  · have hp : pdB ty fl = false := by simp [pdB, h2]
    unfold fromN
    rw [hp]
    have := h3 h2
    simp; omega
  · have h1 : ty = 1 := by
      unfold wgB at hg
      simp [h2] at hg
      exact hg.1
    unfold aheadN at h
    unfold fromN
    rw [hg] at h
    simp [h1] at h ⊢
    omega
/-- Look k of a row answers, if none ahead of it said yes. -/
theorem look_at {w : World} {b c : Nat} {ty fl st : Int} {A : Option Addr} {l : List UInt8} (h : FB w b ty fl st A c l) (k : Nat) (hk : k < 6) (hn : ∀ j, j < k → lookB ty fl st l j = false) :
    ∃ f, (lkA b (st == 0))[k * 3 + 2]? = some (.func (Fn.func f) #[] #[.pointer (some ⟨b, 0, none⟩)]) ∧ Calls Tryz.prog f #[.pointer (some ⟨b, 0, none⟩)] w fun e w' => e = .returned (.bool (lookB ty fl st l k)) ∧ Fresh w w' := by
  have n1 : 1 < k → ¬ (l.length : Int) < (aheadN ty fl : Int) := fun h => by
    have := hn 1 h
    simp [lookB] at this
    omega
  have n3 : 3 < k → ty = 2 → l.length = 5 := fun h e => by
    have := hn 3 h
    simp [lookB, e] at this
    omega
  have n8 : 1 < k → ty = 8 → 4 ≤ l.length := fun h e => by
    have := hn 1 h
    simp [lookB, szB, e] at this
    omega
  match k, hk with
  | 0, _ => exact ⟨_, rfl, look1 h⟩
  | 1, _ => exact ⟨_, rfl, look2 h⟩
  | 2, _ => exact ⟨_, rfl, look3 h (pd_ahead (n1 (by omega))) (by have := n1 (by omega); omega)⟩
  | 3, _ => exact ⟨_, rfl, (look4 h).mono fun e w' ⟨a, b⟩ => ⟨a, by rw [← b]; exact Fresh.refl _⟩⟩
  | 4, _ => exact ⟨_, rfl, look5 h (wg_ahead (n1 (by omega)) (n3 (by omega)))⟩
  | 5, _ => exact ⟨_, rfl, look6 h (n8 (by omega))⟩
end Go.Proofs.YtginhebfjbhmnaaGreat

