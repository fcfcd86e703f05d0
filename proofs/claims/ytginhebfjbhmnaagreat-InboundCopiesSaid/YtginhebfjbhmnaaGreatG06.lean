/-
  Texts laid together: Pay5 Item Pay6.
-/
import Derived.Test.YtginhebfjbhmnaaGreatG05
import Derived.StillTailTactics
import Derived.Test.YtginhebfjbhmnaaGreatG01
import Derived.Test.YtginhebfjbhmnaaGreatG03
/-
  Contracts of package payload: text, weigh.
-/
namespace Go.Proofs.YtginhebfjbhmnaaGreat
set_option maxRecDepth 100000
set_option linter.unusedVariables false
open Go.RowKit

def TextP (L : List UInt8) (m : Nat) (w : World) (e : Ending) (w' : World) : Prop := ∃ g, e = .returned (.slice (some ⟨g, 0, none⟩) m m) ∧ w.heap.size ≤ g ∧ Blk w' g 5 (bytesA L) ∧ Fresh w w'
def textL (ty fl : Int) (l : List UInt8) : List UInt8 := (l.drop (aheadN ty fl)).take (l.length - padN ty fl l - aheadN ty fl)
set_option maxHeartbeats 1600000 in
/-- The walk, by how the cut slice is spelled. -/
theorem ptext_core (ty fl st : Int) (A : Option Addr) (c : Nat) (l L : List UInt8) (w : World) (a pd m2 n : Nat) (A' : Option Addr) (c' : Nat) (hA : BS w A l) (hln : l.length = n) (hmx : n ≤ 140737488355328)
    (H1 : ∀ w', Fresh w w' → Calls Tryz.prog 63 #[.agg #[.int .i64 ty, .int .i64 fl, .int .i64 st, .slice A n c]] w' fun e w'' => e = .returned (.int .i64 (pd : Int)) ∧ Fresh w' w'')
    (H2 : ∀ w', Calls Tryz.prog 61 #[.agg #[.int .i64 ty, .int .i64 fl, .int .i64 st, .slice A n c]] w' fun e w'' => e = .returned (.int .i64 (a : Int)) ∧ Fresh w' w'')
    (hL : L.length = m2 - a) (HB : ∀ w', Fresh w w' → BS w' A' L) (hm2 : m2 + pd = n) (ham : a ≤ m2) (hmc : m2 ≤ c)
    (hcase : (a = 0 ∧ A' = A ∧ c' = c) ∨ (¬ c = a ∧ ∃ b o, A = some ⟨b, o, none⟩ ∧ A' = some ⟨b, o + a, none⟩ ∧ c' = c - a) ∨ (c = a ∧ A' = A ∧ c' = c - a)) :
    Calls Tryz.prog 70 #[.agg #[.int .i64 ty, .int .i64 fl, .int .i64 st, .slice A n c]] w (TextP L (m2 - a) w) := by
  have HH1 := Lib.hid H1
  have HH2 := Lib.hid H2
  have HLen := Lib.hid hL
  have hw1 : IntKind.i64.wrap ((n : Int) - (pd : Int)) = (m2 : Int) := by rw [show (n : Int) - (pd : Int) = (m2 : Int) by omega]; exact IntWalk.i64_in _ (by omega)
  have hw2 : (n : Int) - (pd : Int) = (m2 : Int) := by omega
  have hw3 : IntKind.i64.wrap (m2 : Int) = (m2 : Int) := IntWalk.i64_in _ (by omega)
  have i1 : (0 : Int) ≤ (a : Int) := by omega
  have i2 : (a : Int) ≤ (m2 : Int) := by omega
  have i3 : (m2 : Int) ≤ (c : Int) := by omega
  have i4 : a ≤ m2 := ham
  have i5 : m2 ≤ c := hmc
  have HN := Lib.hid (fun w' hw => onewR A' (m2 - a) c' L w' HLen.out (HB w' hw) (by omega))
  have HSK : Hid (∀ w', Fresh (w.alloc (.cells #[.int .i64 ty, .int .i64 fl, .int .i64 st, .slice A n c] 34)) w' → w'.cell? ⟨w.heap.size, 0, none⟩ = some (.int .i64 ty) ∧ w'.cell? ⟨w.heap.size, 1, none⟩ = some (.int .i64 fl) ∧ w'.cell? ⟨w.heap.size, 2, none⟩ = some (.int .i64 st) ∧ w'.cell? ⟨w.heap.size, 3, none⟩ = some (.slice A n c) ∧ Fresh (w.alloc (.cells #[.int .i64 ty, .int .i64 fl, .int .i64 st, .slice A n c] 34)) w') := Lib.hid (fun w' hw => by
    obtain ⟨c0, c1, c2, c3⟩ := ((Blk.new w 34 #[.int .i64 ty, .int .i64 fl, .int .i64 st, .slice A n c]).fresh hw).c4
    exact ⟨c0, c1, c2, c3, hw⟩)
  clear hA hL HB hm2 ham hmc H1 H2 hln
  rcases hcase with ⟨rfl, rfl, rfl⟩ | ⟨hca, b0, o0, rfl, rfl, rfl⟩ | ⟨rfl, rfl, rfl⟩
  · (try simp only [Nat.sub_zero] at HN)
    (try simp only [Nat.sub_self] at HN)
    go_enter Tryz.func70, Tryz.ntmps70
    go_wp2_with fail
    obtain ⟨W1, hW1⟩ : ∃ W1, W1 = w.alloc (.cells #[.int .i64 ty, .int .i64 fl, .int .i64 st, .slice A' n c'] 34) := ⟨_, rfl⟩
    have HFA : Hid (Fresh w W1) := Lib.hid (by rw [hW1]; exact Fresh.alloc _ _)
    rw [← hW1] at HSK ⊢
    clear hW1
    obtain ⟨b, hb⟩ : ∃ b, w.heap.size = b := ⟨_, rfl⟩
    have HBb := Lib.hid hb
    rw [hb] at HSK ⊢
    clear hb
    obtain ⟨g0, g1, g2, g3, g4⟩ := HSK.out W1 (Fresh.refl _)
    go_region_held3 (fun w' => w'.cell? ⟨b, 0, none⟩ = some (.int .i64 ty) ∧ w'.cell? ⟨b, 1, none⟩ = some (.int .i64 fl) ∧ w'.cell? ⟨b, 2, none⟩ = some (.int .i64 st) ∧ w'.cell? ⟨b, 3, none⟩ = some (.slice A' n c') ∧ Fresh W1 w')
      ((refine HSK.out _ ?_; first | with_reducible assumption | with_reducible exact Fresh.drew _ | (with_reducible apply Fresh.drewS; with_reducible assumption)))
      (first
        | (go_at_call 63; (with_reducible refine (HH1.out _ (HFA.out.trans (by first | assumption | exact Fresh.drew _))).mono ?_); rintro e w3 ⟨rfl, hf3⟩; have hg3 : Fresh W1 w3 := Fresh.trans (by first | assumption | exact Fresh.drew _) hf3)
        | (go_at_call 61; (with_reducible refine (HH2.out _).mono ?_); rintro e w4 ⟨rfl, hf4⟩; have hg4 : Fresh W1 w4 := Fresh.trans (by first | assumption | exact Fresh.drew _) hf4)
        | (go_at_call 44; (with_reducible refine (HN.out _ (HFA.out.trans (by first | assumption | exact Fresh.drew _))).mono ?_); rintro e w5 ⟨p, g, rfl, hpp, hgg, hrd, hf5⟩; have hg5 : Fresh W1 w5 := Fresh.trans (by first | assumption | exact Fresh.drew _) hf5; have hpW : W1.heap.size ≤ p := (by refine Nat.le_trans (Fresh.size ?_) hpp; first | assumption | exact Fresh.drew _); have HRD := Lib.hid (And.intro hpp (And.intro hgg hrd)); clear hpp hgg hrd)
        | (go_at_call 45; (with_reducible refine (orest_new p g L _ _ HRD.out.2.2 HLen.out).mono ?_); rintro e w6 ⟨rfl, hb6, _, ho6⟩; have hg6 : Fresh W1 w6 := Only.fresh ((Only.of_fresh hg5).trans ho6) (fun i hi e => by omega); have HB6 := Lib.hid hb6; clear hb6))
    go_wp2
    go_ret
    exact ⟨g, rfl, by have := HFA.out.size; have := HRD.out.2.1; have := hg3.size; omega, HB6.out, HFA.out.trans hg6⟩
  · (try simp only [Nat.sub_zero] at HN)
    (try simp only [Nat.sub_self] at HN)
    go_enter Tryz.func70, Tryz.ntmps70
    go_wp2_with fail
    obtain ⟨W1, hW1⟩ : ∃ W1, W1 = w.alloc (.cells #[.int .i64 ty, .int .i64 fl, .int .i64 st, .slice (some ⟨b0, o0, none⟩) n c] 34) := ⟨_, rfl⟩
    have HFA : Hid (Fresh w W1) := Lib.hid (by rw [hW1]; exact Fresh.alloc _ _)
    rw [← hW1] at HSK ⊢
    clear hW1
    obtain ⟨b, hb⟩ : ∃ b, w.heap.size = b := ⟨_, rfl⟩
    have HBb := Lib.hid hb
    rw [hb] at HSK ⊢
    clear hb
    obtain ⟨g0, g1, g2, g3, g4⟩ := HSK.out W1 (Fresh.refl _)
    go_region_held3 (fun w' => w'.cell? ⟨b, 0, none⟩ = some (.int .i64 ty) ∧ w'.cell? ⟨b, 1, none⟩ = some (.int .i64 fl) ∧ w'.cell? ⟨b, 2, none⟩ = some (.int .i64 st) ∧ w'.cell? ⟨b, 3, none⟩ = some (.slice (some ⟨b0, o0, none⟩) n c) ∧ Fresh W1 w')
      ((refine HSK.out _ ?_; first | with_reducible assumption | with_reducible exact Fresh.drew _ | (with_reducible apply Fresh.drewS; with_reducible assumption)))
      (first
        | (go_at_call 63; (with_reducible refine (HH1.out _ (HFA.out.trans (by first | assumption | exact Fresh.drew _))).mono ?_); rintro e w3 ⟨rfl, hf3⟩; have hg3 : Fresh W1 w3 := Fresh.trans (by first | assumption | exact Fresh.drew _) hf3)
        | (go_at_call 61; (with_reducible refine (HH2.out _).mono ?_); rintro e w4 ⟨rfl, hf4⟩; have hg4 : Fresh W1 w4 := Fresh.trans (by first | assumption | exact Fresh.drew _) hf4)
        | (go_at_call 44; (with_reducible refine (HN.out _ (HFA.out.trans (by first | assumption | exact Fresh.drew _))).mono ?_); rintro e w5 ⟨p, g, rfl, hpp, hgg, hrd, hf5⟩; have hg5 : Fresh W1 w5 := Fresh.trans (by first | assumption | exact Fresh.drew _) hf5; have hpW : W1.heap.size ≤ p := (by refine Nat.le_trans (Fresh.size ?_) hpp; first | assumption | exact Fresh.drew _); have HRD := Lib.hid (And.intro hpp (And.intro hgg hrd)); clear hpp hgg hrd)
        | (go_at_call 45; (with_reducible refine (orest_new p g L _ _ HRD.out.2.2 HLen.out).mono ?_); rintro e w6 ⟨rfl, hb6, _, ho6⟩; have hg6 : Fresh W1 w6 := Only.fresh ((Only.of_fresh hg5).trans ho6) (fun i hi e => by omega); have HB6 := Lib.hid hb6; clear hb6))
    go_wp2
    go_ret
    exact ⟨g, rfl, by have := HFA.out.size; have := HRD.out.2.1; have := hg3.size; omega, HB6.out, HFA.out.trans hg6⟩
  · obtain rfl : m2 = c := by omega
    simp only [Nat.sub_self] at HN HLen ⊢
    go_enter Tryz.func70, Tryz.ntmps70
    go_wp2_with fail
    obtain ⟨W1, hW1⟩ : ∃ W1, W1 = w.alloc (.cells #[.int .i64 ty, .int .i64 fl, .int .i64 st, .slice A' n m2] 34) := ⟨_, rfl⟩
    have HFA : Hid (Fresh w W1) := Lib.hid (by rw [hW1]; exact Fresh.alloc _ _)
    rw [← hW1] at HSK ⊢
    clear hW1
    obtain ⟨b, hb⟩ : ∃ b, w.heap.size = b := ⟨_, rfl⟩
    have HBb := Lib.hid hb
    rw [hb] at HSK ⊢
    clear hb
    obtain ⟨g0, g1, g2, g3, g4⟩ := HSK.out W1 (Fresh.refl _)
    go_region_held3 (fun w' => w'.cell? ⟨b, 0, none⟩ = some (.int .i64 ty) ∧ w'.cell? ⟨b, 1, none⟩ = some (.int .i64 fl) ∧ w'.cell? ⟨b, 2, none⟩ = some (.int .i64 st) ∧ w'.cell? ⟨b, 3, none⟩ = some (.slice A' n m2) ∧ Fresh W1 w')
      ((refine HSK.out _ ?_; first | with_reducible assumption | with_reducible exact Fresh.drew _ | (with_reducible apply Fresh.drewS; with_reducible assumption)))
      (first
        | (go_at_call 63; (with_reducible refine (HH1.out _ (HFA.out.trans (by first | assumption | exact Fresh.drew _))).mono ?_); rintro e w3 ⟨rfl, hf3⟩; have hg3 : Fresh W1 w3 := Fresh.trans (by first | assumption | exact Fresh.drew _) hf3)
        | (go_at_call 61; (with_reducible refine (HH2.out _).mono ?_); rintro e w4 ⟨rfl, hf4⟩; have hg4 : Fresh W1 w4 := Fresh.trans (by first | assumption | exact Fresh.drew _) hf4)
        | (go_at_call 44; (with_reducible refine (HN.out _ (HFA.out.trans (by first | assumption | exact Fresh.drew _))).mono ?_); rintro e w5 ⟨p, g, rfl, hpp, hgg, hrd, hf5⟩; have hg5 : Fresh W1 w5 := Fresh.trans (by first | assumption | exact Fresh.drew _) hf5; have hpW : W1.heap.size ≤ p := (by refine Nat.le_trans (Fresh.size ?_) hpp; first | assumption | exact Fresh.drew _); have HRD := Lib.hid (And.intro hpp (And.intro hgg hrd)); clear hpp hgg hrd)
        | (go_at_call 45; (with_reducible refine (orest_new p g L _ _ HRD.out.2.2 HLen.out).mono ?_); rintro e w6 ⟨rfl, hb6, _, ho6⟩; have hg6 : Fresh W1 w6 := Only.fresh ((Only.of_fresh hg5).trans ho6) (fun i hi e => by omega); have HB6 := Lib.hid hb6; clear hb6))
    go_wp2
    go_ret
    exact ⟨g, rfl, by have := HFA.out.size; have := HRD.out.2.1; have := hg3.size; omega, HB6.out, HFA.out.trans hg6⟩
theorem ptext (ty fl st : Int) (A : Option Addr) (c : Nat) (l : List UInt8) (w : World) (hA : BS w A l) (hlc : l.length ≤ c) (hmx : l.length ≤ 140737488355328) (hp : pdB ty fl = true → 0 < l.length) (ha : aheadN ty fl + padN ty fl l ≤ l.length) :
    Calls Tryz.prog 70 #[.agg #[.int .i64 ty, .int .i64 fl, .int .i64 st, .slice A l.length c]] w (TextP (textL ty fl l) (l.length - padN ty fl l - aheadN ty fl) w) := by
  have hL : (textL ty fl l).length = l.length - padN ty fl l - aheadN ty fl := by unfold textL; simp; omega
  refine ptext_core ty fl st A c l (textL ty fl l) w (aheadN ty fl) (padN ty fl l) (l.length - padN ty fl l) l.length (cutA A (aheadN ty fl) c) (c - aheadN ty fl) hA rfl hmx (fun w' hw => ppadding ty fl st A c l w' (hA.fresh hw) hp) (fun w' => pahead ty fl st A l.length c w') hL (fun w' hw => BS.take (BS.cut (hA.fresh hw) _ c hlc) _) (by omega) (by omega) (by omega) ?_
  by_cases h0 : aheadN ty fl = 0
  · left; rw [h0, cutA_zero]; exact ⟨rfl, rfl, rfl⟩
  · by_cases h1 : c = aheadN ty fl
    · right; right; unfold cutA; rw [if_pos h1]; exact ⟨h1, rfl, rfl⟩
    · right; left
      obtain ⟨b, o, e, _⟩ := hA (by omega)
      refine ⟨h1, b, o, e, ?_, rfl⟩
      rw [e, cutA_some _ _ _ _ (by omega)]
end Go.Proofs.YtginhebfjbhmnaaGreat

/-
  Items as values; faults.
-/
namespace Go.Proofs.YtginhebfjbhmnaaGreat
set_option maxRecDepth 100000
set_option linter.unusedVariables false
open Go.RowKit Go.ChangeShapes Go.WideShapes Go.Deep

/-- What a frame says: its text is l, in the slice at A of capacity c; its pairs are ps. -/
structure ItV where
  (ty st : Int) (A : Option Addr) (c : Nat) (l : List UInt8) (en eh ak : Bool) (fl co la inc de we : Int) (wd ex : Bool) (PA : Option Addr) (pc : Nat) (ps : List (Int × Int))
def ItV.cells (x : ItV) : List Value :=
  [.int .i64 x.ty, .int .i64 x.st, .slice x.A x.l.length x.c, .bool x.en, .bool x.eh, .bool x.ak, .int .i64 x.fl, .int .i64 x.co, .int .i64 x.la, .int .i64 x.inc, .int .i64 x.de, .int .i64 x.we, .bool x.wd, .bool x.ex, .slice x.PA x.ps.length x.pc]
def pairC (p : Int × Int) : List Value := [.int .i64 p.1, .int .i64 p.2]
structure ItV.Ok (w : World) (x : ItV) : Prop where
  le : x.l.length ≤ x.c
  max : x.c ≤ maxLen
  bs : BS w x.A x.l
  ple : x.ps.length ≤ x.pc
  pmax : x.pc ≤ maxLen
  prs : Many pairC 2 w x.PA x.ps
theorem ItV.Ok.fresh {w w' : World} {x : ItV} (h : x.Ok w) (hf : Fresh w w') : x.Ok w' := ⟨h.le, h.max, h.bs.fresh hf, h.ple, h.pmax, h.prs.fresh hf⟩
theorem ItV.Ok.only {S : Nat → Prop} {w w' : World} {x : ItV} (h : x.Ok w) (hf : Only S w w') (h1 : ∀ b o, x.A = some ⟨b, o, none⟩ → ¬ S b) (h2 : ∀ b o, x.PA = some ⟨b, o, none⟩ → ¬ S b) : x.Ok w' := ⟨h.le, h.max, h.bs.only hf h1, h.ple, h.pmax, h.prs.only hf h2⟩
theorem opens_item : Opens Tryz.prog 98 (fun w cs => ∃ x : ItV, cs = x.cells ∧ x.Ok w) :=
  (opens_struct (sz := 15) [(0, 1, QInt .i64), (1, 1, QInt .i64), (2, 1, QBytes), (3, 1, QBool), (4, 1, QBool), (5, 1, QBool), (6, 1, QInt .i64), (7, 1, QInt .i64), (8, 1, QInt .i64), (9, 1, QInt .i64), (10, 1, QInt .i64), (11, 1, QInt .i64), (12, 1, QBool), (13, 1, QBool),
      (14, 1, QSl 2 (fun w cs => cs.length = 2 * 1 ∧ ∀ i, i < 2 → QInt .i64 w ((cs.drop (i * 1)).take 1)))] Tryz.underlying98 (by kernel_rfl) (by
    intro p hp
    simp only [List.mem_cons, List.not_mem_nil, or_false] at hp
    rcases hp with rfl | rfl | rfl | rfl | rfl | rfl | rfl | rfl | rfl | rfl | rfl | rfl | rfl | rfl | rfl
    · exact ⟨0, _, rfl, rfl, by kernel_rfl, opens_int Tryz.underlying3⟩
    · exact ⟨1, _, rfl, rfl, by kernel_rfl, opens_int Tryz.underlying3⟩
    · exact ⟨2, _, rfl, rfl, by kernel_rfl, opens_bytes Tryz.underlying28 Tryz.underlying5 (by kernel_rfl)⟩
    · exact ⟨3, _, rfl, rfl, by kernel_rfl, opens_bool Tryz.underlying4⟩
    · exact ⟨4, _, rfl, rfl, by kernel_rfl, opens_bool Tryz.underlying4⟩
    · exact ⟨5, _, rfl, rfl, by kernel_rfl, opens_bool Tryz.underlying4⟩
    · exact ⟨6, _, rfl, rfl, by kernel_rfl, opens_int Tryz.underlying3⟩
    · exact ⟨7, _, rfl, rfl, by kernel_rfl, opens_int Tryz.underlying3⟩
    · exact ⟨8, _, rfl, rfl, by kernel_rfl, opens_int Tryz.underlying3⟩
    · exact ⟨9, _, rfl, rfl, by kernel_rfl, opens_int Tryz.underlying3⟩
    · exact ⟨10, _, rfl, rfl, by kernel_rfl, opens_int Tryz.underlying3⟩
    · exact ⟨11, _, rfl, rfl, by kernel_rfl, opens_int Tryz.underlying3⟩
    · exact ⟨12, _, rfl, rfl, by kernel_rfl, opens_bool Tryz.underlying4⟩
    · exact ⟨13, _, rfl, rfl, by kernel_rfl, opens_bool Tryz.underlying4⟩
    · exact ⟨14, _, rfl, rfl, by kernel_rfl, opens_slice Tryz.underlying40 (opens_array Tryz.underlying76 (by kernel_rfl) (by kernel_rfl) (opens_int Tryz.underlying3)) (by kernel_rfl) (by omega)⟩)).mono (by
    intro w cs ⟨hl, h⟩
    match cs, hl with
    | [c0, c1, c2, c3, c4, c5, c6, c7, c8, c9, c10, c11, c12, c13, c14], _ =>
      simp only [List.forall_mem_cons, List.drop_zero, List.drop_succ_cons, List.take_succ_cons, List.take_zero] at h
      obtain ⟨⟨z0, e0, _⟩, ⟨z1, e1, _⟩, ⟨A, l, c, e2, h1, h2, h3⟩, ⟨b3, e3⟩, ⟨b4, e4⟩, ⟨b5, e5⟩, ⟨z6, e6, _⟩, ⟨z7, e7, _⟩, ⟨z8, e8, _⟩, ⟨z9, e9, _⟩, ⟨z10, e10, _⟩, ⟨z11, e11, _⟩, ⟨b12, e12⟩, ⟨b13, e13⟩, h14, _⟩ := h
      obtain ⟨PA, ps, pc, e14, p1, p2, p3, _⟩ := h14.rows (R := fun _ (_ : Int × Int) => True) (f := pairC) (fun cs ⟨hl, hq⟩ => by
        match cs, hl with
        | [a, b], _ =>
          obtain ⟨x, ex, _⟩ := hq 0 (by omega)
          obtain ⟨y, ey, _⟩ := hq 1 (by omega)
          simp at ex ey
          subst ex ey
          exact ⟨(x, y), rfl, trivial⟩)
      simp only [List.cons.injEq, and_true] at e0 e1 e2 e3 e4 e5 e6 e7 e8 e9 e10 e11 e12 e13 e14
      subst e0 e1 e2 e3 e4 e5 e6 e7 e8 e9 e10 e11 e12 e13 e14
      exact ⟨⟨z0, z1, A, c, l, b3, b4, b5, z6, z7, z8, z9, z10, z11, b12, b13, PA, pc, ps⟩, rfl, h1, h2, h3, p1, p2, p3⟩)
section
variable {H : Type} {enc : TypeId × Value → H} {w : World} {base : Nat} {spare : Nat → Bool} {held : Bool} {v : Value} {d : DataW H} {p : List MemPlace} {r : Reach} {b0 : Nat}
theorem open_item (hv : Value.okWide Tryz.prog w r b0 98 v) (hd : DataW.Trod enc Tryz.prog w base spare held 98 v d p) :
    ∃ x : ItV, v = .agg x.cells.toArray ∧ x.Ok w := by
  obtain ⟨cs, rfl, x, hc, hx⟩ := opens_item.agg Tryz.underlying98 hv hd
  refine ⟨x, ?_, hx⟩
  congr 1
  apply Array.toList_inj.1
  rw [hc]
end
/-- A slice of items that came in. -/
structure ItsV where
  (A : Option Addr) (c : Nat) (xs : List ItV)
structure ItsV.Ok (w : World) (s : ItsV) : Prop where
  le : s.xs.length ≤ s.c
  max : s.c ≤ maxLen
  rows : Many ItV.cells 15 w s.A s.xs
  ok : ∀ x ∈ s.xs, x.Ok w
/-- The cells of one of many. -/
theorem Many.at {α : Type} {f : α → List Value} {sz : Nat} {w : World} {A : Option Addr} {xs : List α} (h : Many f sz w A xs) (k : Nat) (x : α) (hx : xs[k]? = some x) :
    ∃ b o, A = some ⟨b, o, none⟩ ∧ b < w.heap.size ∧ ∀ j, j < sz → w.cell? ⟨b, o + k * sz + j, none⟩ = (f x)[j]? := by
  obtain ⟨hk, rfl⟩ := List.getElem?_eq_some_iff.1 hx
  obtain ⟨b, o, e, hb, hc⟩ := h (by omega)
  exact ⟨b, o, e, hb, fun j hj => hc k hk j hj⟩
end Go.Proofs.YtginhebfjbhmnaaGreat

/-
  Contracts of package payload: weigh, pairs.
-/
namespace Go.Proofs.YtginhebfjbhmnaaGreat
set_option maxRecDepth 100000
set_option linter.unusedVariables false
open Go.RowKit

theorem top31 (x : Nat) (h : x < 4294967296) : (bits .and .i64 (x : Int) 2147483648 != 0) = decide (2147483648 ≤ x) := by
  have h1 := i64_and_nat x 2147483648 (by omega) (by omega)
  rw [show ((2147483648 : Nat) : Int) = 2147483648 from rfl] at h1
  rw [h1]
  have h3 : x.testBit 31 = decide (2147483648 ≤ x) := by
    rw [Nat.testBit_eq_decide_div_mod_eq]
    rw [decide_eq_decide]
    constructor
    · intro h; omega
    · intro h; omega
  have h2 : x &&& 2147483648 = if 2147483648 ≤ x then 2147483648 else 0 := by
    apply Nat.eq_of_testBit_eq
    intro i
    rw [Nat.testBit_and, show (2147483648 : Nat) = 2 ^ 31 from rfl, Nat.testBit_two_pow]
    by_cases hi : 31 = i
    · subst hi
      rw [h3]
      by_cases h4 : 2147483648 ≤ x
      · simp [h4, show (2 : Nat) ^ 31 = 2147483648 from rfl]
        rfl
      · simp [h4, show (2 : Nat) ^ 31 = 2147483648 from rfl]
    · by_cases h4 : 2147483648 ≤ x
      · rw [if_pos (show 2 ^ 31 ≤ x from h4), Nat.testBit_two_pow]; simp [hi]
      · rw [if_neg (show ¬ 2 ^ 31 ≤ x from h4)]; simp [hi]
  rw [h2]
  by_cases h4 : 2147483648 ≤ x <;> simp [h4]
def weL (ty fl : Int) (l : List UInt8) : Int := (((wtL ty fl l).getD 4 0).toNat : Int) + 1
def exB (ty fl : Int) (l : List UInt8) : Bool := decide (2147483648 ≤ numL ((wtL ty fl l).take 4))
def wgI (ty fl : Int) (l : List UInt8) (x : ItV) : ItV := { x with wd := true, ex := exB ty fl l, de := (depN ty fl l : Int), we := weL ty fl l }
def WgP (p : Nat) (x : ItV) (w : World) (e : Ending) (w' : World) : Prop := e = .returned (.tuple #[]) ∧ Blk w' p 98 x.cells.toArray ∧ Only (· = p) w w'
set_option maxHeartbeats 1600000 in
theorem pweigh (p : Nat) (x : ItV) (ty fl st : Int) (A : Option Addr) (c : Nat) (l : List UInt8) (w : World) (hb : Blk w p 98 x.cells.toArray) (hA : BS w A l) (hlc : l.length ≤ c) (h : fromN ty fl + 5 ≤ l.length) :
    Calls Tryz.prog 71 #[.pointer (some ⟨p, 0, none⟩), .agg #[.int .i64 ty, .int .i64 fl, .int .i64 st, .slice A l.length c]] w (WgP p (wgI ty fl l x) w) := by
  have HW := Lib.hid (fun w' (hw : Fresh w w') => pweight ty fl st A c l w' (hA.fresh hw) hlc h)
  have hL : (wtL ty fl l).length = 5 := by unfold wtL; simp; omega
  obtain ⟨y, hy⟩ : ∃ y, (wtL ty fl l)[4]? = some y := ⟨_, List.getElem?_eq_getElem (by omega)⟩
  have hx := num4_lt (wtL ty fl l)
  have hlow := low31 _ hx
  have htop := top31 _ hx
  have hyb := UInt8.toNat_lt y
  have HI : Hid (wgI ty fl l x = { x with wd := true, ex := decide (2147483648 ≤ numL ((wtL ty fl l).take 4)), de := ((numL ((wtL ty fl l).take 4) % 2147483648 : Nat) : Int), we := (y.toNat : Int) + 1 }) := Lib.hid (by
    unfold wgI exB depN weL
    rw [List.getD_eq_getElem?_getD, hy]; rfl)
  have HF4 := Lib.hid (fun q g w' (hr : Rdr w' q g (wtL ty fl l) 0) => pfour q g (wtL ty fl l) 0 _ w' hr (by rw [hL]; omega) rfl)
  simp only [List.drop_zero] at HF4
  have HBY := Lib.hid (fun q g w' (hr : Rdr w' q g (wtL ty fl l) 4) => obyte_at q g (wtL ty fl l) 4 y w' hr hy)
  have HB := Lib.hid hb
  have hpl := hb.lt
  rw [HI.out]
  generalize wtL ty fl l = WT at *
  generalize numL (WT.take 4) = on at *
  clear hA hb hL hy HI h
  go_enter Tryz.func71, Tryz.ntmps71
  go_wp2_with fail
  with_reducible refine (HW.out _ (Fresh.alloc _ _)).mono ?_
  rintro e w1 ⟨q, g, rfl, hq, hg, hr, hf⟩
  have H1 := Lib.hid (And.intro hq (And.intro hg (And.intro hr hf)))
  clear hq hg hr hf
  go_wp2_with fail
  with_reducible refine (HF4.out q g _ H1.out.2.2.1.rdr).mono ?_
  rintro e w2 ⟨rfl, hr2, ho2⟩
  have H2 := Lib.hid (And.intro hr2 ho2)
  clear hr2 ho2
  go_wp2_with fail
  with_reducible refine (HBY.out q g _ H2.out.1).mono ?_
  rintro e w3 ⟨rfl, hr3, ho3⟩
  have hF3 : Fresh w w3 := Only.fresh (((Only.of_fresh H1.out.2.2.2.tA).trans H2.out.2).trans ho3) (fun i hi e => by have := H1.out.1; simp at this; omega)
  have hb3 := HB.out.fresh hF3
  have c10 := hb3.cell 10
  have c11 := hb3.cell 11
  have c12 := hb3.cell 12
  have c13 := hb3.cell 13
  have z10 := hb3.frozen 10
  have z11 := hb3.frozen 11
  have z12 := hb3.frozen 12
  have z13 := hb3.frozen 13
  simp only [ItV.cells, List.getElem?_toArray, List.getElem?_cons_zero, List.getElem?_cons_succ] at c10 c11 c12 c13
  have HF3 := Lib.hid hF3
  have HB3 := Lib.hid hb3
  clear hr3 ho3 hF3 hb3
  go_wp2_with fail
  go_returns
  refine ⟨rfl, ?_, ?hO⟩
  case hO =>
    refine Only.step2 (.inl rfl) (Only.step2 (.inl rfl) (Only.step2 (.inl rfl) (Only.step2 (.inl rfl) ?_)))
    exact Only.of_fresh HF3.out
  have := (((HB3.out.set 12 (.bool true)).set 13 (.bool (decide (2147483648 ≤ on)))).set 10 (.int .i64 ((on : Int) % 2147483648))).set 11 (.int .i64 ((y.toNat : Int) + 1))
  simpa [ItV.cells] using this
def prsL (k : Nat) (l : List UInt8) : List (Int × Int) := (List.range k).map fun i => ((numL ((l.drop (6 * i)).take 2) : Int), (numL ((l.drop (6 * i + 2)).take 4) : Int))
theorem prsL_len (k : Nat) (l : List UInt8) : (prsL k l).length = k := by simp [prsL]
theorem prsL_succ (k : Nat) (l : List UInt8) : prsL (k + 1) l = prsL k l ++ [((numL ((l.drop (6 * k)).take 2) : Int), (numL ((l.drop (6 * k + 2)).take 4) : Int))] := by simp [prsL, List.range_succ]
theorem pr_info : (Tryz.prog.info? 76).map (fun i => (i.zero, i.size, i.bytes)) = some (some (.agg #[.int .i64 0, .int .i64 0]), 2, 16) := by kernel_rfl
def PairsP (l : List UInt8) (n : Nat) (w : World) (e : Ending) (w' : World) : Prop := ∃ A c, e = .returned (.slice A n c) ∧ n ≤ c ∧ c ≤ maxLen ∧ Own w' w.heap.size 76 2 (.slice A n c) n ((prsL n l).flatMap pairC) ∧ Fresh w w'
set_option maxHeartbeats 1600000 in
theorem ppairs (ty fl st : Int) (A : Option Addr) (c : Nat) (l : List UInt8) (n : Nat) (w : World) (hA : BS w A l) (hmx : l.length ≤ 1000000) (h6 : l.length = 6 * n) :
    Calls Tryz.prog 73 #[.agg #[.int .i64 ty, .int .i64 fl, .int .i64 st, .slice A l.length c]] w (PairsP l n w) := by
  have HN := Lib.hid (fun w' (hw : Fresh w w') => onewR A l.length c l w' rfl (hA.fresh hw) (by omega))
  have H6 := Lib.hid h6
  have hn : n ≤ 200000 := by omega
  clear hA h6
  go_enter Tryz.func73, Tryz.ntmps73
  go_wp2_with fail
  with_reducible refine (HN.out _ (Fresh.alloc _ _)).mono ?_
  rintro e w1 ⟨p, g, rfl, hp, hg, hr, hf⟩
  have HP := Lib.hid (And.intro hp hg)
  have HR := Lib.hid hr.rdr
  have HF := Lib.hid hf.tA
  clear hp hg hr hf HN
  go_wp2_with fail
  go_loopw [3] (fun v wr => ∃ k, k ≤ n ∧ Own wr w.heap.size 76 2 v k ((prsL k l).flatMap pairC) ∧ Rdr wr p g l (6 * k) ∧ Fresh w wr) (fun v _ => match v with | .slice _ k _ => n - k | _ => 0)
  case atStart => exact ⟨0, by omega, Own.nil _ _ _ _, HR.out, HF.out⟩
  case round =>
    obtain ⟨k, hk, ho, hrd, hfr⟩ := hrel
    obtain ⟨Av, cv, rfl, _⟩ := Own.slice ho
    have HO := Lib.hid ho
    have HRD := Lib.hid hrd
    have HFR := Lib.hid hfr
    clear HR ho hrd hfr
    by_cases hlt : k < n
    · have h6 := H6.out
      have HL := Lib.hid (oleft_at p g l (6 * k) (l.length - 6 * k) wr HRD.out (by omega))
      have HN2 := Lib.hid (onum_at p g l (6 * k) 2 _ 2 wr rfl HRD.out (by omega) (by omega) rfl)
      have HF4 := Lib.hid (fun w' (h : Rdr w' p g l (6 * k + 2)) => pfour p g l (6 * k + 2) _ w' h (by omega) rfl)
      have HS := Lib.hid (prsL_succ k l)
      have hx2 : numL ((l.drop (6 * k)).take 2) < 65536 := numL_take_lt (l.drop (6 * k)) 2 2 (Nat.le_refl _)
      have hx4 := num4_lt (l.drop (6 * k + 2))
      have hpos : 0 < l.length - 6 * k := by omega
      generalize l.length - 6 * k = lf at *
      generalize numL ((l.drop (6 * k)).take 2) = a at *
      generalize numL ((l.drop (6 * k + 2)).take 4) = b at *
      have hw1 : IntKind.i64.wrap (a : Int) = (a : Int) := IntWalk.i64_in _ (by omega)
      clear h6
      go_wp2_with fail
      with_reducible refine HL.out.mono ?_
      rintro e w2 ⟨rfl, rfl⟩
      go_wp2_with fail
      with_reducible refine HN2.out.mono ?_
      rintro e w2 ⟨rfl, hr2, ho2⟩
      have HR2 := Lib.hid hr2
      have HO2 := Lib.hid ho2
      clear hr2 ho2
      go_wp2_with fail
      with_reducible refine (HF4.out _ HR2.out).mono ?_
      rintro e w3 ⟨rfl, hr3, ho3⟩
      have hpn : ∀ q, (Value.slice Av k cv).ownBlock = some q → ¬ q = p := fun q hq e => by
        subst e
        rcases HO.out.2 with ⟨e, _⟩ | ⟨g', cap, cur, e, _, hh, _⟩
        · rw [e] at hq; cases hq
        · rw [e] at hq; simp [Value.ownBlock] at hq; subst hq
          obtain ⟨A9, c9, hin, _⟩ := HRD.out
          exact (show Blk wr g' _ cur from hh).ne hin.blk (by decide) rfl
      have HO3 := Lib.hid (HO.out.only (HO2.out.trans ho3) hpn)
      have HF3 : Hid (Fresh w w3) := Lib.hid (Only.fresh (((Only.of_fresh HFR.out).trans HO2.out).trans ho3) (fun i hi e => by have := HP.out.1; have := HF.out.size; simp at *; omega))
      have HR3 := Lib.hid hr3
      clear hr3 ho3 hpn
      obtain ⟨v', w', hap, ho', hbl, _, hgr⟩ := Own.push (P := Tryz.prog) (w0 := w) Tryz.underlying40 pr_info rfl (by omega) 40 HO3.out HF3.out (Nat.le_refl _) #[.int .i64 (a : Int), .int .i64 (b : Int)] rfl (by
        intro u hu
        simp only [List.mem_cons, List.not_mem_nil, or_false] at hu
        rcases hu with rfl | rfl <;> rfl) (by unfold maxLen; omega) (by omega)
      obtain ⟨A', c', rfl, _⟩ := Own.slice ho'
      have HR4 : Hid (Rdr w' p g l (6 * (k + 1))) := Lib.hid (by
        have hon : Only (fun q => (Value.slice Av k cv).ownBlock = some q) w3 w' := (Only.of_fresh (Fresh.alloc _ _)).trans ⟨hgr.os, hgr.tape, hgr.output, hgr.size, fun k hk hne => hgr.block k hk (fun e => hne e.symm)⟩
        have hne : ∀ q t cs, Blk w3 q t cs → t ≠ 76 → ¬ (Value.slice Av k cv).ownBlock = some q := fun q t cs hb ht hq => by
          rcases HO3.out.2 with ⟨e, _⟩ | ⟨g', cap, cur, e, _, hh, _⟩
          · rw [e] at hq; cases hq
          · rw [e] at hq; simp [Value.ownBlock] at hq; subst hq
            exact (show Blk w3 g' _ cur from hh).ne hb (fun e => ht e.symm) rfl
        have hR := HR3.out
        obtain ⟨A9, c9, hin, _⟩ := HR3.out
        have := hR.only hon (hne p _ _ hin.blk (by decide)) (hne g _ _ hR.blk (by decide))
        rwa [show 6 * k + 2 + 4 = 6 * (k + 1) by omega] at this)
      have HO4 := Lib.hid ho'
      have HF4' := Lib.hid hbl
      clear ho' hbl hgr
      go_wp2_with (at_builtin; with_reducible refine wp_app rfl (.tmp 18) (.tmp 24) _ rfl hap rfl (by simp [Act.eval, Act.put]) (by simp [Act.eval, Act.put]) ?_)
      go_roundw
      case rel => exact ⟨k + 1, by omega, by rw [HS.out]; simpa [pairC] using HO4.out, HR4.out, HF4'.out⟩
      case measure => simp; omega
    · obtain rfl : k = n := by omega
      have h6 := H6.out
      have HL := Lib.hid (oleft_at p g l (6 * k) 0 wr HRD.out (by omega))
      clear h6
      go_wp2_with fail
      with_reducible refine HL.out.mono ?_
      rintro e w2 ⟨rfl, rfl⟩
      go_wp2_with fail
      go_ret
      obtain ⟨A8, c8, e8, h1, h2, _⟩ := HO.out.slice
      cases e8
      exact ⟨Av, cv, rfl, h1, h2, HO.out, HFR.out⟩
end Go.Proofs.YtginhebfjbhmnaaGreat

