/-
  Package queue: items; cloned, Size, clone.
-/
import Derived.Test.YthfifeclmikbgaaOwn
import Derived.Test.YthfifeclmikbgaaMore
import Derived.Test.YthfifeclmikbgaaMake
import Derived.Test.YthfifeclmikbgaaRet
import Derived.Test.YthfifeclmikbgaaGen
import Derived.Test.YthfifeclmikbgaaChain
import Derived.Test.YthfifeclmikbgaaVal3
import Derived.Deep.RegionHeld3
import Derived.Deep.RegionLaw
import Derived.Handy
import Derived.Deep.Cut
namespace Go.Proofs.Ythfifeclmikbgaa
set_option linter.unusedVariables false
set_option linter.unusedSimpArgs false
open Go.RowKit
theorem u8_infoQ : (Try.prog.info? 5).map (fun i => (i.zero, i.size, i.bytes)) = some (some (.int .u8 0), 1, 1) := by kernel_rfl
/-- Bytes that lie in a block of bytes. -/
structure ByS (w : World) (A : Option Addr) (c : Nat) (l : List UInt8) : Prop where
  le : l.length ≤ c
  max : c ≤ maxLen
  bs : BS w A l
  ty : 0 < l.length → ∃ b o cs, A = some ⟨b, o, none⟩ ∧ Blk w b 5 cs
theorem ByS.fresh {w w' : World} {A : Option Addr} {c : Nat} {l : List UInt8} (h : ByS w A c l) (hf : Fresh w w') : ByS w' A c l := ⟨h.le, h.max, h.bs.fresh hf, fun hn => by
  obtain ⟨b, o, cs, e, hb⟩ := h.ty hn
  exact ⟨b, o, cs, e, hb.fresh hf⟩⟩
theorem ByS.only {S : Nat → Prop} {w w' : World} {A : Option Addr} {c : Nat} {l : List UInt8} (h : ByS w A c l) (ho : Only S w w') (hs : ∀ g cs, Blk w g 5 cs → ¬ S g) : ByS w' A c l := by
  by_cases hn : 0 < l.length
  · obtain ⟨b, o, cs, rfl, hb⟩ := h.ty hn
    exact ⟨h.le, h.max, h.bs.only ho (fun b' o' e => by simp at e; rw [← e.1]; exact hs b cs hb), fun _ => ⟨b, o, cs, rfl, hb.only ho (hs b cs hb)⟩⟩
  · have hl : l = [] := List.length_eq_zero_iff.1 (by omega)
    subst hl
    exact ⟨h.le, h.max, BS.nil _ _, fun h => absurd h hn⟩
theorem ByS.row {w : World} {g n : Nat} {l : List UInt8} (h : Blk w g 5 (bytesA l)) (hn : l.length = n) (hm : n ≤ maxLen) : ByS w (some ⟨g, 0, none⟩) n l := ⟨by omega, hm, BS.row h, fun _ => ⟨g, 0, _, rfl, h⟩⟩
/-- An item. -/
structure QI where
  (num : Int) (HA : Option Addr) (hc : Nat) (h : List UInt8) (BA : Option Addr) (bc : Nat) (b : List UInt8)
def QI.cells (x : QI) : List Value := [.int .i64 x.num, .slice x.HA x.h.length x.hc, .slice x.BA x.b.length x.bc]
def QI.agg (x : QI) : Value := .agg #[.int .i64 x.num, .slice x.HA x.h.length x.hc, .slice x.BA x.b.length x.bc]
def QI.z (x : QI) : Nat := x.h.length + x.b.length
/-- What an item says. -/
def QI.said (x : QI) : Int × List UInt8 × List UInt8 := (x.num, x.h, x.b)
structure QI.Ok (w : World) (x : QI) : Prop where
  hd : ByS w x.HA x.hc x.h
  bd : ByS w x.BA x.bc x.b
theorem QI.Ok.fresh {w w' : World} {x : QI} (h : x.Ok w) (hf : Fresh w w') : x.Ok w' := ⟨h.hd.fresh hf, h.bd.fresh hf⟩
theorem QI.Ok.only {S : Nat → Prop} {w w' : World} {x : QI} (h : x.Ok w) (ho : Only S w w') (hs : ∀ g cs, Blk w g 5 cs → ¬ S g) : x.Ok w' := ⟨h.hd.only ho hs, h.bd.only ho hs⟩
def ClP (l : List UInt8) (w : World) (e : Ending) (w' : World) : Prop := ∃ g, e = .returned (.slice (some ⟨g, 0, none⟩) l.length l.length) ∧ Blk w' g 5 (bytesA l) ∧ w.heap.size ≤ g ∧ Fresh w w'
set_option maxHeartbeats 400000 in
theorem qu_cloned (A : Option Addr) (c : Nat) (l : List UInt8) (w : World) (h : BS w A l) (hm : l.length ≤ 140737488355328) :
    Calls Try.prog 30 #[.slice A l.length c] w (ClP l w) := by
  have hmk := run_makeZ (P := Try.prog) Try.underlying32 u8_infoQ rfl l.length (l.length : Int) rfl (by omega) (by omega)
  have hb0 : BS (w.alloc (.cells (madeCells #[.int .u8 0] l.length) 5)) A l := h.fresh (Fresh.alloc _ _)
  have hn0 : Blk (w.alloc (.cells (madeCells #[.int .u8 0] l.length) 5)) w.heap.size 5 (madeCells #[.int .u8 0] l.length) := Blk.new _ _ _
  obtain ⟨W2, hcp, hb2, ho2, hsz⟩ := run_copy_bs (P := Try.prog) hb0 32 5 3 Try.underlying32 (by kernel_rfl) w.heap.size 0 l.length l.length c _ _ hn0 (Nat.le_refl _) (by rw [size_madeCells]; omega) (some ⟨w.heap.size, 0, none⟩) (fun _ => rfl)
  rw [over_all _ _ (by rw [size_madeCells]; simp)] at hb2
  have HB2 : Hid (Blk W2 w.heap.size 5 (bytesA l)) := hb2
  have HO2 : Hid (Fresh w W2) := ((Only.of_fresh (Fresh.alloc _ _)).trans ho2).fresh (fun k hk e => by omega)
  clear hb0 hn0 hb2 ho2 h hsz
  generalize madeCells #[.int .u8 0] l.length = Z at *
  go_enter Try.func30, Try.ntmps30
  go_wp2
  go_ret
  exact ⟨_, rfl, HB2.out, Nat.le_refl _, HO2.out⟩
theorem qu_size (x : QI) (w : World) (h : x.z ≤ 4503599627370496) : Calls Try.prog 18 #[x.agg] w fun e w' => e = .returned (.int .i64 (x.z : Int)) ∧ Fresh w w' := by
  obtain ⟨nu, HA, hc, hl, BA, bc, bl⟩ := x
  unfold QI.z at h ⊢
  simp only [QI.agg] at h ⊢
  have hw : IntKind.i64.wrap ((hl.length : Int) + (bl.length : Int)) = (hl.length : Int) + (bl.length : Int) := by rw [IntKind.wrap_i64]; omega
  go_enter Try.func18, Try.ntmps18
  go_wp2
  go_ret
  exact ⟨by simp, by repeat (first | with_reducible exact Fresh.refl _ | with_reducible apply Fresh.drewS | with_reducible apply Fresh.allocS)⟩
def clI (x : QI) (g1 g2 : Nat) : QI := ⟨x.num, some ⟨g1, 0, none⟩, x.h.length, x.h, some ⟨g2, 0, none⟩, x.b.length, x.b⟩
/-- A clone: its bytes lie in new blocks. -/
def CloneP (x : QI) (w : World) (e : Ending) (w' : World) : Prop := ∃ g1 g2, e = .returned (clI x g1 g2).agg ∧ Blk w' g1 5 (bytesA x.h) ∧ Blk w' g2 5 (bytesA x.b) ∧ g1 ≠ g2 ∧ w.heap.size ≤ g1 ∧ w.heap.size ≤ g2 ∧ Fresh w w'
set_option maxHeartbeats 1600000 in
theorem qu_clone (x : QI) (w : World) (h1 : BS w x.HA x.h) (h2 : BS w x.BA x.b) (hz : x.z ≤ 100000000) : Calls Try.prog 27 #[x.agg] w (CloneP x w) := by
  obtain ⟨nu, HA, hc, hl, BA, bc, bl⟩ := x
  unfold QI.z at hz
  simp only [QI.agg] at h1 h2 hz ⊢
  have HC1 := Lib.hid (fun W (hw : Fresh w W) => qu_cloned HA hc hl W (h1.fresh hw) (by omega))
  have HC2 := Lib.hid (fun W (hw : Fresh w W) => qu_cloned BA bc bl W (h2.fresh hw) (by omega))
  obtain ⟨n1, hn1⟩ : ∃ n, hl.length = n := ⟨_, rfl⟩
  obtain ⟨n2, hn2⟩ : ∃ n, bl.length = n := ⟨_, rfl⟩
  have HN1 := Lib.hid hn1
  have HN2 := Lib.hid hn2
  rw [hn1] at HC1 ⊢
  rw [hn2] at HC2 ⊢
  clear h1 h2 hz hn1 hn2
  go_enter Try.func27, Try.ntmps27
  go_upto_region 1 with fail
  refine wp_gen (fun W => Fresh w W ∧ Blk W w.heap.size 34 #[.int .i64 nu, .slice HA n1 hc, .slice BA n2 bc] ∧ Blk W (w.heap.size + 1) 34 #[.int .i64 0, .slice none 0 0, .slice none 0 0]) ⟨(Fresh.alloc _ _).allocS _, (Blk.new _ _ _).alloc _, Blk.mkAt (by simp)⟩ ?_
  rintro W ⟨hf0, hb0, hb1⟩
  have HF0 := Lib.hid hf0
  obtain ⟨b0, hb00⟩ : ∃ b, w.heap.size = b := ⟨_, rfl⟩
  obtain ⟨b1, hb11⟩ : ∃ b, b0 + 1 = b := ⟨_, rfl⟩
  rw [hb00] at hb0 hb1 ⊢
  rw [hb11] at hb1 ⊢
  have hne : b0 ≠ b1 := by omega
  have hlt01 : b0 < b1 := by omega
  have HSK : Hid (∀ w', Only (· = b1) W w' → w'.cell? ⟨b0, 0, none⟩ = some (.int .i64 nu) ∧ w'.cell? ⟨b0, 1, none⟩ = some (.slice HA n1 hc) ∧ w'.cell? ⟨b0, 2, none⟩ = some (.slice BA n2 bc) ∧ Only (· = b1) W w') := Lib.hid (fun w' hw => ⟨(hb0.only hw hne).cell 0, (hb0.only hw hne).cell 1, (hb0.only hw hne).cell 2, hw⟩)
  have HB1 := Lib.hid hb1
  have hb1l := hb1.lt
  have HF1 := Lib.hid hf0
  have HB00 := Lib.hid hb00
  have HC1' := Lib.hid (fun W2 (hw : Fresh W W2) => HC1.out W2 (hf0.trans hw))
  have HC2' := Lib.hid (fun W2 (hw : Fresh W W2) => HC2.out W2 (hf0.trans hw))
  clear hf0 hb0 hb1 hb11 hb00
  go_region_held3 (fun w' => w'.cell? ⟨b0, 0, none⟩ = some (.int .i64 nu) ∧ w'.cell? ⟨b0, 1, none⟩ = some (.slice HA n1 hc) ∧ w'.cell? ⟨b0, 2, none⟩ = some (.slice BA n2 bc) ∧ Only (· = b1) W w')
    ((refine HSK.out _ ?_; repeat (first | with_reducible assumption | with_reducible exact Only.refl _ _ | with_reducible apply Only.drewS | with_reducible apply Only.allocS | (with_reducible refine Only.step2 ?_ ?_; focus exact .inl rfl))))
    (first | (go_at_call 30; (with_reducible refine (HC1'.out _ (Fresh.drew _)).mono ?_); rintro e w2 ⟨g1, rfl, hx1, hg1, hf1⟩; have HX1 := Lib.hid (And.intro hx1 (And.intro hg1 hf1)); have hW2 : Fresh W w2 := Fresh.trans (Fresh.drew _) hf1; have hO2 : Only (· = b1) W w2 := Only.of_fresh hW2; clear hx1 hg1 hf1) | (go_at_call 30; (with_reducible refine (HC2'.out _ (by with_reducible assumption)).mono ?_); rintro e w3 ⟨g2, rfl, hx2, hg2, hf2⟩; have HX2 := Lib.hid (And.intro hx2 (And.intro hg2 hf2)); have hW3 : Fresh W w3 := Fresh.trans (by with_reducible assumption) hf2; have hO3 : Only (· = b1) W w3 := Only.of_fresh hW3; have d0 := (HB1.out.fresh hW3).cell 0; have d1 := (HB1.out.fresh hW3).cell 1; have d2 := (HB1.out.fresh hW3).cell 2; have z0 := (HB1.out.fresh hW3).frozen 0; have z1 := (HB1.out.fresh hW3).frozen 1; have z2 := (HB1.out.fresh hW3).frozen 2; simp at d0 d1 d2; clear hx2 hg2 hf2))
  all_goals
    clear HSK d0 d1 d2 z0 z1 z2
    obtain ⟨y1, y2, y3⟩ := HX1.out
    obtain ⟨y4, y5, y6⟩ := HX2.out
    have hg1l := y1.lt
    have hWs : W.heap.size ≤ g1 := y2
    have hws : w.heap.size ≤ W.heap.size := HF1.out.size
    have hw2s : w2.heap.size ≤ g2 := y5
    have hB := HB1.out.fresh hW3
    have hb0' := HB00.out
    have hbl : b1 < W.heap.size := hb1l
    have hw22 : W.heap.size ≤ w2.heap.size := hW2.size
    refine wx_gen (fun W5 => Blk W5 b1 34 #[.int .i64 nu, .slice (some ⟨g1, 0, none⟩) hl.length hl.length, .slice (some ⟨g2, 0, none⟩) bl.length bl.length] ∧ Blk W5 g1 5 (bytesA hl) ∧ Blk W5 g2 5 (bytesA bl) ∧ Fresh w W5) ⟨((hB.set 0 _).set 1 _).set 2 _, (((y1.fresh y6).far (by simp; omega) _).far (by simp; omega) _).far (by simp; omega) _, ((y4.far (by simp; omega) _).far (by simp; omega) _).far (by simp; omega) _, (((HF1.out.trans hW3).step _ _ (by simp; omega)).step _ _ (by simp; omega)).step _ _ (by simp; omega)⟩ ?_
    clear y1 y2 y3 y4 y5 y6 hB hW2 hW3 hO2 hO3
    rintro W5 ⟨x1, x2, x3, x4⟩
    obtain ⟨c0, c1, c2⟩ := x1.c3
    have HX := Lib.hid (And.intro x2 (And.intro x3 x4))
    have HNE : Hid (g1 ≠ g2) := Lib.hid (by omega)
    clear x1 x2 x3 x4
    go_wp2
    refine bodyPost_ret (v := .agg #[.int .i64 nu, .slice (some ⟨g1, 0, none⟩) hl.length hl.length, .slice (some ⟨g2, 0, none⟩) bl.length bl.length]) (by simp [results, Try.results27, go_sem, c0, c1, c2]) rfl ?_
    exact ⟨g1, g2, rfl, HX.out.1, HX.out.2.1, HNE.out, by omega, by omega, HX.out.2.2⟩
end Go.Proofs.Ythfifeclmikbgaa
