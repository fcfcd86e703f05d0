/-
  Contracts of package frame: its methods.
-/
import Derived.Test.YtfnggbnacdbcpaaDoorFrameM
import Derived.Test.YtfnggbnacdbcpaaDoorOctet
import Derived.Test.YtfnggbnacdbcpaaDoorMore
import Derived.Test.YtfnggbnacdbcpaaDoorEq
import Derived.Lib.SmallJoins
import Derived.Deep.RegionHeld3
namespace Go.Proofs.YtfnggbnacdbcpaaDoor
set_option linter.unusedVariables false
open Go.RowKit

set_option maxHeartbeats 400000 in
theorem fhas (ty fl st : Int) (A : Option Addr) (n c : Nat) (flag : Int) (w : World) :
    Calls Tryd.prog 43 #[.agg #[.int .i64 ty, .int .i64 fl, .int .i64 st, .slice A n c], .int .i64 flag] w fun e w' => e = .returned (.bool (oneP flag && !(bits .and .i64 fl flag == 0))) ∧ Fresh w w' := by
  by_cases h0 : flag < 1
  · have ho := Lib.hid (oneP_out (z := flag) (.inl h0))
    go_enter Tryd.func43, Tryd.ntmps43
    go_wp2
    go_ret
    exact ⟨by rw [ho.out]; rfl, Fresh.alloc _ _⟩
  · by_cases h1 : 255 < flag
    · have ho := Lib.hid (oneP_out (z := flag) (.inr h1))
      go_enter Tryd.func43, Tryd.ntmps43
      go_wp2
      go_ret
      exact ⟨by rw [ho.out]; rfl, Fresh.alloc _ _⟩
    · obtain ⟨k, rfl⟩ : ∃ k : Nat, flag = k := ⟨flag.toNat, by omega⟩
      have hk := one_nat k (by omega) (by omega)
      have ha : bits .and .i64 (k : Int) ((k : Int) - 1) = ((k &&& (k - 1) : Nat) : Int) := by
        have := i64_and_nat k (k - 1) (by omega) (by omega)
        rwa [show ((k - 1 : Nat) : Int) = (k : Int) - 1 by omega] at this
      have hb : (((k &&& (k - 1) : Nat) : Int) == 0) = oneP (k : Int) := by
        rw [← hk, Bool.eq_iff_iff]
        simp
      rw [← ha] at hb
      clear ha hk
      cases ho : oneP (k : Int) with
      | false =>
        rw [ho] at hb
        have HO := Lib.hid ho
        clear ho
        go_enter Tryd.func43, Tryd.ntmps43
        go_wp2
        all_goals (go_ret; exact ⟨rfl, Fresh.alloc _ _⟩)
      | true =>
        rw [ho] at hb
        have HO := Lib.hid ho
        clear ho
        go_enter Tryd.func43, Tryd.ntmps43
        go_wp2
        go_ret
        exact ⟨by simp [bne], Fresh.alloc _ _⟩
set_option maxHeartbeats 400000 in
theorem fnumbers (ty fl st : Int) (A : Option Addr) (n c : Nat) (w : World) :
    Calls Tryd.prog 25 #[.agg #[.int .i64 ty, .int .i64 fl, .int .i64 st, .slice A n c]] w fun e w' => e = .returned (.agg #[.int .i64 ty, .int .i64 fl, .int .i64 st]) ∧ Fresh w w' := by
  go_enter Tryd.func25, Tryd.ntmps25
  go_wp2
  exact bodyPost_ret (v := .agg #[.int .i64 ty, .int .i64 fl, .int .i64 st]) (by simp [results, Tryd.results25, go_sem]) rfl ⟨rfl, (Fresh.alloc _ _).trans (Fresh.alloc _ _)⟩
theorem bequal (A B : Option Addr) (l m : List UInt8) (c d : Nat) (w : World) (hA : BS w A l) (hB : BS w B m) :
    Calls Tryd.prog 26 #[.slice A l.length c, .slice B m.length d] w fun e w' => e = .returned (.bool (l == m)) ∧ w = w' := by
  have h1 := run_str (P := Tryd.prog) hA 42 9 5 Tryd.underlying42 Tryd.underlying5 Tryd.underlying9 c
  have h2 := run_str (P := Tryd.prog) hB 42 9 5 Tryd.underlying42 Tryd.underlying5 Tryd.underlying9 d
  go_enter Tryd.func26, Tryd.ntmps26
  go_wp2
  go_ret
  exact ⟨by simp [strB], rfl⟩
def frEq (ty fl st ty' fl' st' : Int) (l m : List UInt8) : Bool := decide (ty = ty' ∧ fl = fl' ∧ st = st' ∧ l = m)
/-- Two boxed frames, as they stand. -/
abbrev TwoFr (w : World) (ty fl st : Int) (s : Value) (ty' fl' st' : Int) (s' : Value) (w' : World) : Prop :=
  w'.cell? ⟨w.heap.size, 0, none⟩ = some (.int .i64 ty) ∧ w'.cell? ⟨w.heap.size, 1, none⟩ = some (.int .i64 fl) ∧ w'.cell? ⟨w.heap.size, 2, none⟩ = some (.int .i64 st) ∧ w'.cell? ⟨w.heap.size, 3, none⟩ = some s ∧
  w'.cell? ⟨w.heap.size + 1, 0, none⟩ = some (.int .i64 ty') ∧ w'.cell? ⟨w.heap.size + 1, 1, none⟩ = some (.int .i64 fl') ∧ w'.cell? ⟨w.heap.size + 1, 2, none⟩ = some (.int .i64 st') ∧ w'.cell? ⟨w.heap.size + 1, 3, none⟩ = some s' ∧
  w.heap.size + 1 < w'.heap.size ∧ Fresh w w'
theorem TwoFr.start (w : World) (ty fl st : Int) (s : Value) (ty' fl' st' : Int) (s' : Value) (t : TypeId) :
    TwoFr w ty fl st s ty' fl' st' s' ((w.alloc (.cells #[.int .i64 ty, .int .i64 fl, .int .i64 st, s] t)).alloc (.cells #[.int .i64 ty', .int .i64 fl', .int .i64 st', s'] t)) := by
  have hb := (Blk.new w t #[.int .i64 ty, .int .i64 fl, .int .i64 st, s]).alloc (.cells #[.int .i64 ty', .int .i64 fl', .int .i64 st', s'] t)
  have hb' := Blk.new (w.alloc (.cells #[.int .i64 ty, .int .i64 fl, .int .i64 st, s] t)) t #[.int .i64 ty', .int .i64 fl', .int .i64 st', s']
  have e : (w.alloc (.cells #[.int .i64 ty, .int .i64 fl, .int .i64 st, s] t)).heap.size = w.heap.size + 1 := by simp
  rw [e] at hb'
  exact ⟨hb.cell 0, hb.cell 1, hb.cell 2, hb.cell 3, hb'.cell 0, hb'.cell 1, hb'.cell 2, hb'.cell 3, by simp, (Fresh.alloc _ _).trans (Fresh.alloc _ _)⟩
theorem TwoFr.fresh {w : World} {ty fl st : Int} {s : Value} {ty' fl' st' : Int} {s' : Value} {W W' : World} (h : TwoFr w ty fl st s ty' fl' st' s' W) (hf : Fresh W W') : TwoFr w ty fl st s ty' fl' st' s' W' := by
  obtain ⟨h0, h1, h2, h3, h4, h5, h6, h7, h8, h9⟩ := h
  have k0 : ∀ o, W'.cell? ⟨w.heap.size, o, none⟩ = W.cell? ⟨w.heap.size, o, none⟩ := fun o => hf.cell (p := ⟨w.heap.size, o, none⟩) (by show w.heap.size < _; omega)
  have k1 : ∀ o, W'.cell? ⟨w.heap.size + 1, o, none⟩ = W.cell? ⟨w.heap.size + 1, o, none⟩ := fun o => hf.cell (p := ⟨w.heap.size + 1, o, none⟩) h8
  exact ⟨(k0 _).trans h0, (k0 _).trans h1, (k0 _).trans h2, (k0 _).trans h3, (k1 _).trans h4, (k1 _).trans h5, (k1 _).trans h6, (k1 _).trans h7, by have := hf.size; omega, h9.trans hf⟩
theorem TwoFr.fr {w : World} {ty fl st : Int} {s : Value} {ty' fl' st' : Int} {s' : Value} {W : World} (h : TwoFr w ty fl st s ty' fl' st' s' W) : Fresh w W := h.2.2.2.2.2.2.2.2.2
set_option maxHeartbeats 800000 in
theorem fequal (ty fl st : Int) (A : Option Addr) (l : List UInt8) (c : Nat) (ty' fl' st' : Int) (A' : Option Addr) (l' : List UInt8) (c' : Nat) (w : World) (hA : BS w A l) (hA' : BS w A' l') :
    Calls Tryd.prog 15 #[.agg #[.int .i64 ty, .int .i64 fl, .int .i64 st, .slice A l.length c], .agg #[.int .i64 ty', .int .i64 fl', .int .i64 st', .slice A' l'.length c']] w fun e w' => e = .returned (.bool (frEq ty fl st ty' fl' st' l l')) ∧ Fresh w w' := by
  have HB := Lib.hid (fun W (hf : Fresh w W) => bequal A A' l l' c c' W (hA.fresh hf) (hA'.fresh hf))
  have HS := Lib.hid ((TwoFr.start w ty fl st (.slice A l.length c) ty' fl' st' (.slice A' l'.length c') 44).fresh (Fresh.drew _))
  have hE : ∀ W, (Op.equalIn 10000 64 (.agg #[.int .i64 ty, .int .i64 fl, .int .i64 st]) (.agg #[.int .i64 ty', .int .i64 fl', .int .i64 st'])).run Tryd.prog W = .ok (decide ([ty, fl, st] = [ty', fl', st'])) W := fun W =>
    run_equalIn_ints (P := Tryd.prog) Tryd.underlying64 Tryd.underlying3 (by kernel_rfl) 9998 [ty, fl, st] [ty', fl', st'] rfl rfl W
  clear hA hA'
  by_cases hq : ty = ty' ∧ fl = fl' ∧ st = st'
  · have e1 : decide ([ty, fl, st] = [ty', fl', st']) = true := decide_eq_true (by simp [hq])
    have HP : Hid (frEq ty fl st ty' fl' st' l l' = (l == l')) := by
      show _ = _
      obtain ⟨rfl, rfl, rfl⟩ := hq
      unfold frEq
      rw [Bool.eq_iff_iff]
      simp
    rw [e1] at hE
    clear hq e1
    go_enter Tryd.func15, Tryd.ntmps15
    go_wp2
    go_region_held3 (fun w' => w'.cell? ⟨w.heap.size, 0, none⟩ = some (.int .i64 ty) ∧ w'.cell? ⟨w.heap.size, 1, none⟩ = some (.int .i64 fl) ∧ w'.cell? ⟨w.heap.size, 2, none⟩ = some (.int .i64 st) ∧ w'.cell? ⟨w.heap.size, 3, none⟩ = some (.slice A l.length c) ∧
        w'.cell? ⟨w.heap.size + 1, 0, none⟩ = some (.int .i64 ty') ∧ w'.cell? ⟨w.heap.size + 1, 1, none⟩ = some (.int .i64 fl') ∧ w'.cell? ⟨w.heap.size + 1, 2, none⟩ = some (.int .i64 st') ∧ w'.cell? ⟨w.heap.size + 1, 3, none⟩ = some (.slice A' l'.length c') ∧
        w.heap.size + 1 < w'.heap.size ∧ Fresh w w') (first | assumption | exact HS.out | exact TwoFr.fresh (by assumption) hf2)
      (first | (go_at_call 25; with_reducible refine (fnumbers _ _ _ _ _ _ _).mono ?_; rintro e w2 ⟨rfl, hf2⟩) | (go_at_call 26; have hFr := TwoFr.fr (by assumption : TwoFr w ty fl st (.slice A l.length c) ty' fl' st' (.slice A' l'.length c') _); with_reducible refine (HB.out _ hFr).mono ?_; rintro e w3 ⟨rfl, rfl⟩))
    go_wp2
    go_ret
    exact ⟨by rw [HP.out]; rfl, hFr⟩
  · have e1 : decide ([ty, fl, st] = [ty', fl', st']) = false := decide_eq_false (by simp; omega)
    have HP : Hid (frEq ty fl st ty' fl' st' l l' = false) := by
      show _ = _
      unfold frEq
      exact decide_eq_false (by rintro ⟨a, b, c, _⟩; exact hq ⟨a, b, c⟩)
    rw [e1] at hE
    clear hq e1
    go_enter Tryd.func15, Tryd.ntmps15
    go_wp2
    first
    | go_region_with ((go_at_call 25; with_reducible refine (fnumbers _ _ _ _ _ _ _).mono ?_; rintro e w2 ⟨rfl, hf2⟩; have HT := Lib.hid (TwoFr.fresh (by first | exact HT.out | exact HS.out) hf2); obtain ⟨q0, q1, q2, q3, q4, q5, q6, q7, q8, q9⟩ := HT.out; clear hf2))
    | fail
    all_goals
      go_wp2
      go_ret
      exact ⟨by rw [HP.out]; rfl, by assumption⟩
theorem fequal_at (ty fl st : Int) (A : Option Addr) (n : Nat) (l : List UInt8) (c : Nat) (ty' fl' st' : Int) (A' : Option Addr) (n' : Nat) (l' : List UInt8) (c' : Nat) (w : World) (b : Bool) (hn : l.length = n) (hn' : l'.length = n') (hA : BS w A l) (hA' : BS w A' l') (hb : frEq ty fl st ty' fl' st' l l' = b) :
    Calls Tryd.prog 15 #[.agg #[.int .i64 ty, .int .i64 fl, .int .i64 st, .slice A n c], .agg #[.int .i64 ty', .int .i64 fl', .int .i64 st', .slice A' n' c']] w fun e w' => e = .returned (.bool b) ∧ Fresh w w' := by
  subst hn hn' hb
  exact fequal ty fl st A l c ty' fl' st' A' l' c' w hA hA'
end Go.Proofs.YtfnggbnacdbcpaaDoor
