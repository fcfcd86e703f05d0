/-
  Contracts of package payload: text, weigh.
-/
import Derived.Test.YtcdghmidpaeloaaPay4
import Derived.StillTailTactics
namespace Go.Proofs.Ytcdghmidpaeloaa
set_option linter.unusedVariables false
open Go.RowKit

def TextP (L : List UInt8) (m : Nat) (w : World) (e : Ending) (w' : World) : Prop := ∃ g, e = .returned (.slice (some ⟨g, 0, none⟩) m m) ∧ w.heap.size ≤ g ∧ Blk w' g 5 (bytesA L) ∧ Fresh w w'
def textL (ty fl : Int) (l : List UInt8) : List UInt8 := (l.drop (aheadN ty fl)).take (l.length - padN ty fl l - aheadN ty fl)
set_option maxHeartbeats 1600000 in
/-- The walk, by how the cut slice is spelled. -/
theorem ptext_core (ty fl st : Int) (A : Option Addr) (c : Nat) (l L : List UInt8) (w : World) (a pd m2 n : Nat) (A' : Option Addr) (c' : Nat) (hA : BS w A l) (hln : l.length = n) (hmx : n ≤ 140737488355328)
    (H1 : ∀ w', Fresh w w' → Calls Try.prog 31 #[.agg #[.int .i64 ty, .int .i64 fl, .int .i64 st, .slice A n c]] w' fun e w'' => e = .returned (.int .i64 (pd : Int)) ∧ Fresh w' w'')
    (H2 : ∀ w', Calls Try.prog 29 #[.agg #[.int .i64 ty, .int .i64 fl, .int .i64 st, .slice A n c]] w' fun e w'' => e = .returned (.int .i64 (a : Int)) ∧ Fresh w' w'')
    (hL : L.length = m2 - a) (HB : ∀ w', Fresh w w' → BS w' A' L) (hm2 : m2 + pd = n) (ham : a ≤ m2) (hmc : m2 ≤ c)
    (hcase : (a = 0 ∧ A' = A ∧ c' = c) ∨ (¬ c = a ∧ ∃ b o, A = some ⟨b, o, none⟩ ∧ A' = some ⟨b, o + a, none⟩ ∧ c' = c - a) ∨ (c = a ∧ A' = A ∧ c' = c - a)) :
    Calls Try.prog 38 #[.agg #[.int .i64 ty, .int .i64 fl, .int .i64 st, .slice A n c]] w (TextP L (m2 - a) w) := by
  have HH1 := Lib.hid H1
  have HH2 := Lib.hid H2
  have HLen := Lib.hid hL
  have hw1 : IntKind.i64.wrap ((n : Int) - (pd : Int)) = (m2 : Int) := by rw [show (n : Int) - (pd : Int) = (m2 : Int) by omega]; exact IntWalk.i64_in _ (by omega)
  have hw2 : (n : Int) - (pd : Int) = (m2 : Int) := by omega
  have hw3 : IntKind.i64.wrap (m2 : Int) = (m2 : Int) := IntWalk.i64_in _ (by omega)
  have i1 : (0 : Int) ≤ (a : Int) := by omega
  have i2 : (a : Int) ≤ (m2 : Int) := by omega
  have i3 : (m2 : Int) ≤ (c : Int) := by omega
  have i4 : a ≤ m2 := ham
  have i5 : m2 ≤ c := hmc
  have HN := Lib.hid (fun w' hw => onewR A' (m2 - a) c' L w' HLen.out (HB w' hw) (by omega))
  have HSK : Hid (∀ w', Fresh (w.alloc (.cells #[.int .i64 ty, .int .i64 fl, .int .i64 st, .slice A n c] 24)) w' → w'.cell? ⟨w.heap.size, 0, none⟩ = some (.int .i64 ty) ∧ w'.cell? ⟨w.heap.size, 1, none⟩ = some (.int .i64 fl) ∧ w'.cell? ⟨w.heap.size, 2, none⟩ = some (.int .i64 st) ∧ w'.cell? ⟨w.heap.size, 3, none⟩ = some (.slice A n c) ∧ Fresh (w.alloc (.cells #[.int .i64 ty, .int .i64 fl, .int .i64 st, .slice A n c] 24)) w') := Lib.hid (fun w' hw => by
    obtain ⟨c0, c1, c2, c3⟩ := ((Blk.new w 24 #[.int .i64 ty, .int .i64 fl, .int .i64 st, .slice A n c]).fresh hw).c4
    exact ⟨c0, c1, c2, c3, hw⟩)
  clear hA hL HB hm2 ham hmc H1 H2 hln
  rcases hcase with ⟨rfl, rfl, rfl⟩ | ⟨hca, b0, o0, rfl, rfl, rfl⟩ | ⟨rfl, rfl, rfl⟩
  · (try simp only [Nat.sub_zero] at HN)
    (try simp only [Nat.sub_self] at HN)
    go_enter Try.func38, Try.ntmps38
    go_wp2_with fail
    obtain ⟨W1, hW1⟩ : ∃ W1, W1 = w.alloc (.cells #[.int .i64 ty, .int .i64 fl, .int .i64 st, .slice A' n c'] 24) := ⟨_, rfl⟩
    have HFA : Hid (Fresh w W1) := Lib.hid (by rw [hW1]; exact Fresh.alloc _ _)
    rw [← hW1] at HSK ⊢
    clear hW1
    obtain ⟨b, hb⟩ : ∃ b, w.heap.size = b := ⟨_, rfl⟩
    have HBb := Lib.hid hb
    rw [hb] at HSK ⊢
    clear hb
    obtain ⟨g0, g1, g2, g3, g4⟩ := HSK.out W1 (Fresh.refl _)
    go_region_held3 (fun w' => w'.cell? ⟨b, 0, none⟩ = some (.int .i64 ty) ∧ w'.cell? ⟨b, 1, none⟩ = some (.int .i64 fl) ∧ w'.cell? ⟨b, 2, none⟩ = some (.int .i64 st) ∧ w'.cell? ⟨b, 3, none⟩ = some (.slice A' n c') ∧ Fresh W1 w')
      ((refine HSK.out _ ?_; first | with_reducible assumption | with_reducible exact Fresh.drew _ | (with_reducible apply Fresh.drewS; with_reducible assumption)))
      (first
        | (go_at_call 31; (with_reducible refine (HH1.out _ (HFA.out.trans (by first | assumption | exact Fresh.drew _))).mono ?_); rintro e w3 ⟨rfl, hf3⟩; have hg3 : Fresh W1 w3 := Fresh.trans (by first | assumption | exact Fresh.drew _) hf3)
        | (go_at_call 29; (with_reducible refine (HH2.out _).mono ?_); rintro e w4 ⟨rfl, hf4⟩; have hg4 : Fresh W1 w4 := Fresh.trans (by first | assumption | exact Fresh.drew _) hf4)
        | (go_at_call 42; (with_reducible refine (HN.out _ (HFA.out.trans (by first | assumption | exact Fresh.drew _))).mono ?_); rintro e w5 ⟨p, g, rfl, hpp, hgg, hrd, hf5⟩; have hg5 : Fresh W1 w5 := Fresh.trans (by first | assumption | exact Fresh.drew _) hf5; have hpW : W1.heap.size ≤ p := (by refine Nat.le_trans (Fresh.size ?_) hpp; first | assumption | exact Fresh.drew _); have HRD := Lib.hid (And.intro hpp (And.intro hgg hrd)); clear hpp hgg hrd)
        | (go_at_call 44; (with_reducible refine (orest_new p g L _ _ HRD.out.2.2 HLen.out).mono ?_); rintro e w6 ⟨rfl, hb6, _, ho6⟩; have hg6 : Fresh W1 w6 := Only.fresh ((Only.of_fresh hg5).trans ho6) (fun i hi e => by omega); have HB6 := Lib.hid hb6; clear hb6))
    go_wp2
    go_ret
    exact ⟨g, rfl, by have := HFA.out.size; have := HRD.out.2.1; have := hg3.size; omega, HB6.out, HFA.out.trans hg6⟩
  · (try simp only [Nat.sub_zero] at HN)
    (try simp only [Nat.sub_self] at HN)
    go_enter Try.func38, Try.ntmps38
    go_wp2_with fail
    obtain ⟨W1, hW1⟩ : ∃ W1, W1 = w.alloc (.cells #[.int .i64 ty, .int .i64 fl, .int .i64 st, .slice (some ⟨b0, o0, none⟩) n c] 24) := ⟨_, rfl⟩
    have HFA : Hid (Fresh w W1) := Lib.hid (by rw [hW1]; exact Fresh.alloc _ _)
    rw [← hW1] at HSK ⊢
    clear hW1
    obtain ⟨b, hb⟩ : ∃ b, w.heap.size = b := ⟨_, rfl⟩
    have HBb := Lib.hid hb
    rw [hb] at HSK ⊢
    clear hb
    obtain ⟨g0, g1, g2, g3, g4⟩ := HSK.out W1 (Fresh.refl _)
    go_region_held3 (fun w' => w'.cell? ⟨b, 0, none⟩ = some (.int .i64 ty) ∧ w'.cell? ⟨b, 1, none⟩ = some (.int .i64 fl) ∧ w'.cell? ⟨b, 2, none⟩ = some (.int .i64 st) ∧ w'.cell? ⟨b, 3, none⟩ = some (.slice (some ⟨b0, o0, none⟩) n c) ∧ Fresh W1 w')
      ((refine HSK.out _ ?_; first | with_reducible assumption | with_reducible exact Fresh.drew _ | (with_reducible apply Fresh.drewS; with_reducible assumption)))
      (first
        | (go_at_call 31; (with_reducible refine (HH1.out _ (HFA.out.trans (by first | assumption | exact Fresh.drew _))).mono ?_); rintro e w3 ⟨rfl, hf3⟩; have hg3 : Fresh W1 w3 := Fresh.trans (by first | assumption | exact Fresh.drew _) hf3)
        | (go_at_call 29; (with_reducible refine (HH2.out _).mono ?_); rintro e w4 ⟨rfl, hf4⟩; have hg4 : Fresh W1 w4 := Fresh.trans (by first | assumption | exact Fresh.drew _) hf4)
        | (go_at_call 42; (with_reducible refine (HN.out _ (HFA.out.trans (by first | assumption | exact Fresh.drew _))).mono ?_); rintro e w5 ⟨p, g, rfl, hpp, hgg, hrd, hf5⟩; have hg5 : Fresh W1 w5 := Fresh.trans (by first | assumption | exact Fresh.drew _) hf5; have hpW : W1.heap.size ≤ p := (by refine Nat.le_trans (Fresh.size ?_) hpp; first | assumption | exact Fresh.drew _); have HRD := Lib.hid (And.intro hpp (And.intro hgg hrd)); clear hpp hgg hrd)
        | (go_at_call 44; (with_reducible refine (orest_new p g L _ _ HRD.out.2.2 HLen.out).mono ?_); rintro e w6 ⟨rfl, hb6, _, ho6⟩; have hg6 : Fresh W1 w6 := Only.fresh ((Only.of_fresh hg5).trans ho6) (fun i hi e => by omega); have HB6 := Lib.hid hb6; clear hb6))
    go_wp2
    go_ret
    exact ⟨g, rfl, by have := HFA.out.size; have := HRD.out.2.1; have := hg3.size; omega, HB6.out, HFA.out.trans hg6⟩
  · obtain rfl : m2 = c := by omega
    simp only [Nat.sub_self] at HN HLen ⊢
    go_enter Try.func38, Try.ntmps38
    go_wp2_with fail
    obtain ⟨W1, hW1⟩ : ∃ W1, W1 = w.alloc (.cells #[.int .i64 ty, .int .i64 fl, .int .i64 st, .slice A' n m2] 24) := ⟨_, rfl⟩
    have HFA : Hid (Fresh w W1) := Lib.hid (by rw [hW1]; exact Fresh.alloc _ _)
    rw [← hW1] at HSK ⊢
    clear hW1
    obtain ⟨b, hb⟩ : ∃ b, w.heap.size = b := ⟨_, rfl⟩
    have HBb := Lib.hid hb
    rw [hb] at HSK ⊢
    clear hb
    obtain ⟨g0, g1, g2, g3, g4⟩ := HSK.out W1 (Fresh.refl _)
    go_region_held3 (fun w' => w'.cell? ⟨b, 0, none⟩ = some (.int .i64 ty) ∧ w'.cell? ⟨b, 1, none⟩ = some (.int .i64 fl) ∧ w'.cell? ⟨b, 2, none⟩ = some (.int .i64 st) ∧ w'.cell? ⟨b, 3, none⟩ = some (.slice A' n m2) ∧ Fresh W1 w')
      ((refine HSK.out _ ?_; first | with_reducible assumption | with_reducible exact Fresh.drew _ | (with_reducible apply Fresh.drewS; with_reducible assumption)))
      (first
        | (go_at_call 31; (with_reducible refine (HH1.out _ (HFA.out.trans (by first | assumption | exact Fresh.drew _))).mono ?_); rintro e w3 ⟨rfl, hf3⟩; have hg3 : Fresh W1 w3 := Fresh.trans (by first | assumption | exact Fresh.drew _) hf3)
        | (go_at_call 29; (with_reducible refine (HH2.out _).mono ?_); rintro e w4 ⟨rfl, hf4⟩; have hg4 : Fresh W1 w4 := Fresh.trans (by first | assumption | exact Fresh.drew _) hf4)
        | (go_at_call 42; (with_reducible refine (HN.out _ (HFA.out.trans (by first | assumption | exact Fresh.drew _))).mono ?_); rintro e w5 ⟨p, g, rfl, hpp, hgg, hrd, hf5⟩; have hg5 : Fresh W1 w5 := Fresh.trans (by first | assumption | exact Fresh.drew _) hf5; have hpW : W1.heap.size ≤ p := (by refine Nat.le_trans (Fresh.size ?_) hpp; first | assumption | exact Fresh.drew _); have HRD := Lib.hid (And.intro hpp (And.intro hgg hrd)); clear hpp hgg hrd)
        | (go_at_call 44; (with_reducible refine (orest_new p g L _ _ HRD.out.2.2 HLen.out).mono ?_); rintro e w6 ⟨rfl, hb6, _, ho6⟩; have hg6 : Fresh W1 w6 := Only.fresh ((Only.of_fresh hg5).trans ho6) (fun i hi e => by omega); have HB6 := Lib.hid hb6; clear hb6))
    go_wp2
    go_ret
    exact ⟨g, rfl, by have := HFA.out.size; have := HRD.out.2.1; have := hg3.size; omega, HB6.out, HFA.out.trans hg6⟩
theorem ptext (ty fl st : Int) (A : Option Addr) (c : Nat) (l : List UInt8) (w : World) (hA : BS w A l) (hlc : l.length ≤ c) (hmx : l.length ≤ 140737488355328) (hp : pdB ty fl = true → 0 < l.length) (ha : aheadN ty fl + padN ty fl l ≤ l.length) :
    Calls Try.prog 38 #[.agg #[.int .i64 ty, .int .i64 fl, .int .i64 st, .slice A l.length c]] w (TextP (textL ty fl l) (l.length - padN ty fl l - aheadN ty fl) w) := by
  have hL : (textL ty fl l).length = l.length - padN ty fl l - aheadN ty fl := by unfold textL; simp; omega
  refine ptext_core ty fl st A c l (textL ty fl l) w (aheadN ty fl) (padN ty fl l) (l.length - padN ty fl l) l.length (cutA A (aheadN ty fl) c) (c - aheadN ty fl) hA rfl hmx (fun w' hw => ppadding ty fl st A c l w' (hA.fresh hw) hp) (fun w' => pahead ty fl st A l.length c w') hL (fun w' hw => BS.take (BS.cut (hA.fresh hw) _ c hlc) _) (by omega) (by omega) (by omega) ?_
  by_cases h0 : aheadN ty fl = 0
  · left; rw [h0, cutA_zero]; exact ⟨rfl, rfl, rfl⟩
  · by_cases h1 : c = aheadN ty fl
    · right; right; unfold cutA; rw [if_pos h1]; exact ⟨h1, rfl, rfl⟩
    · right; left
      obtain ⟨b, o, e, _⟩ := hA (by omega)
      refine ⟨h1, b, o, e, ?_, rfl⟩
      rw [e, cutA_some _ _ _ _ (by omega)]
end Go.Proofs.Ytcdghmidpaeloaa

