/-
  Package queue: QueueOwn.
-/
import Derived.Test.YthfifeclmikbgaaQueT
import Derived.Test.YthfifeclmikbgaaOnto
import Derived.Deep.CutRange
namespace Go.Proofs.Ythfifeclmikbgaa
set_option linter.unusedVariables false
set_option linter.unusedSimpArgs false
open Go.RowKit
/-- Bytes of one's own, behind world w. -/
structure OwnB (w : World) (A : Option Addr) (c : Nat) (l : List UInt8) (W : World) : Prop where
  le : l.length ≤ c
  max : c ≤ maxLen
  d : 0 < l.length → ∃ g zs, A = some ⟨g, 0, none⟩ ∧ w.heap.size ≤ g ∧ Blk W g 5 (bytesA (l ++ zs))
theorem OwnB.fresh {w W W' : World} {A : Option Addr} {c : Nat} {l : List UInt8} (h : OwnB w A c l W) (hf : Fresh W W') : OwnB w A c l W' := ⟨h.le, h.max, fun hn => by
  obtain ⟨g, zs, e, h1, h2⟩ := h.d hn
  exact ⟨g, zs, e, h1, h2.fresh hf⟩⟩
def CutY (W4 : World) (num : Int) (m1 m2 : Nat) (hh bb : List UInt8) (x6 : Value) (wx : World) : Prop :=
  ∃ (b6 : Nat) (A1 : Option Addr) (c1 : Nat) (A2 : Option Addr) (c2 : Nat), x6 = .pointer (some ⟨b6, 0, none⟩) ∧ Fresh W4 wx ∧ W4.heap.size ≤ b6 ∧ Blk wx b6 34 #[.int .i64 num, .slice A1 m1 c1, .slice A2 m2 c2] ∧ OwnB W4 A1 c1 hh wx ∧ OwnB W4 A2 c2 bb wx
theorem ownB_mk {W4 Wp W' : World} {A : Option Addr} {c m : Nat} {l : List UInt8} (hf : Fresh W4 Wp) (hm : l.length = m) (h1 : m ≤ c) (h2 : c ≤ maxLen) (h3 : 0 < m → ∃ zs, A = some ⟨Wp.heap.size, 0, none⟩ ∧ Blk W' Wp.heap.size 5 (bytesA (l ++ zs))) : OwnB W4 A c l W' :=
  ⟨by omega, h2, fun hn => by
    obtain ⟨zs, e, hb⟩ := h3 (by omega)
    exact ⟨_, zs, e, hf.size, hb⟩⟩
theorem cutY_mk {W4 Wx : World} {num : Int} {m1 m2 : Nat} {hh bb : List UInt8} {b6 : Nat} {A1 : Option Addr} {c1 : Nat} {A2 : Option Addr} {c2 : Nat} {cs : Array Value} (hcs : cs.size = 3) (hf : Fresh W4 Wx) (hb6 : W4.heap.size ≤ b6) (hb : Blk Wx b6 34 cs) (h1 : OwnB W4 A1 c1 hh Wx) (h2 : OwnB W4 A2 c2 bb Wx) :
    CutY W4 num m1 m2 hh bb (.pointer (some ⟨b6, 0, none⟩)) (((Wx.setCell ⟨b6, 0, none⟩ (.int .i64 num)).setCell ⟨b6, 1, none⟩ (.slice A1 m1 c1)).setCell ⟨b6, 2, none⟩ (.slice A2 m2 c2)) := by
  have hbb := ((hb.set 0 (.int .i64 num)).set 1 (.slice A1 m1 c1)).set 2 (.slice A2 m2 c2)
  refine ⟨b6, A1, c1, A2, c2, rfl, ((hf.step ⟨b6, 0, none⟩ _ hb6).step ⟨b6, 1, none⟩ _ hb6).step ⟨b6, 2, none⟩ _ hb6, hb6, ?_, ⟨h1.le, h1.max, fun hn => ?_⟩, ⟨h2.le, h2.max, fun hn => ?_⟩⟩
  · have : ((cs.setIfInBounds 0 (.int .i64 num)).setIfInBounds 1 (.slice A1 m1 c1)).setIfInBounds 2 (.slice A2 m2 c2) = #[.int .i64 num, .slice A1 m1 c1, .slice A2 m2 c2] := by
      match cs, hcs with
      | ⟨[a, b, c]⟩, _ => rfl
    rw [← this]
    exact hbb
  · obtain ⟨g, zs, e, k1, k2⟩ := h1.d hn
    have hne := k2.ne hb (by decide)
    exact ⟨g, zs, e, k1, ((k2.far hne _).far hne _).far hne _⟩
  · obtain ⟨g, zs, e, k1, k2⟩ := h2.d hn
    have hne := k2.ne hb (by decide)
    exact ⟨g, zs, e, k1, ((k2.far hne _).far hne _).far hne _⟩
theorem cutY_mk2 {W4 Wx : World} {num : Int} {m1 m2 : Nat} {hh bb : List UInt8} {b6 : Nat} {A1 : Option Addr} {c1 : Nat} {A2 : Option Addr} {c2 : Nat} (hf : Fresh W4 Wx) (hb6 : W4.heap.size ≤ b6) (hb : Blk Wx b6 34 #[.int .i64 num, .slice A1 m1 c1, .slice A2 m2 c2]) (h1 : OwnB W4 A1 c1 hh Wx) (h2 : OwnB W4 A2 c2 bb Wx) :
    CutY W4 num m1 m2 hh bb (.pointer (some ⟨b6, 0, none⟩)) Wx := ⟨b6, A1, c1, A2, c2, rfl, hf, hb6, hb, h1, h2⟩
theorem BS.pre {w : World} {A : Option Addr} {l : List UInt8} (h : 0 < l.length → ∃ g zs, A = some ⟨g, 0, none⟩ ∧ Blk w g 5 (bytesA (l ++ zs))) : BS w A l := fun hn => by
  obtain ⟨g, zs, rfl, hb⟩ := h hn
  refine ⟨g, 0, rfl, hb.lt, fun j hj => ?_⟩
  rw [Nat.zero_add, hb.cell, bytesA_get, List.getElem?_append_left hj, List.getElem?_eq_getElem hj]
  rfl
theorem avO' {base q R n : Nat} {by_ it : Int} {ro : Rows} {w : World} {t g : Nat} {T : TypeId} {cs : Array Value} {w' : World} (h : QAt w base q R n by_ it ro) (ht : t < n) (ho : Only (fun k => k = R ∨ (ro t).1.ownBlock = some k) w w') (hg : Blk w g T cs) (h1 : T ≠ 63) (h2 : T ≠ 34) : Blk w' g T cs := by
  refine hg.only ho ?_
  rintro (e | e)
  · obtain ⟨cs', h3, _⟩ := h.rows
    exact hg.ne h3 h1 e
  · obtain ⟨cur, h3⟩ := ownQ (h.own t ht) e
    exact hg.ne h3 h2 rfl
/-- What may be changed is bytes' alone, and none of the one item's. -/
theorem QAt.keepOne {S : Nat → Prop} {w w' : World} {base q R g1 g2 : Nat} {b1 b2 : Int} {v' : Value} {x : QI} (h : QAt w base q R 1 b1 b2 (updR nilR 0 (v', [clI x g1 g2]))) (ho : Only S w w') (hS : ∀ k, S k → ∃ cs, Blk w k 5 cs) (h1 : 0 < x.h.length → ¬ S g1) (h2 : 0 < x.b.length → ¬ S g2) : QAt w' base q R 1 b1 b2 (updR nilR 0 (v', [clI x g1 g2])) := by
  obtain ⟨cs', k1, k2, k3⟩ := h.rows
  have hav : ∀ {g : Nat} {T : TypeId} {cs : Array Value}, Blk w g T cs → T ≠ 5 → ¬ S g := fun hg hT e => by
    obtain ⟨cs, hb⟩ := hS _ e
    exact hg.ne hb hT rfl
  refine ⟨h.blk.only ho (hav h.blk (by decide)), ⟨cs', k1.only ho (hav k1 (by decide)), k2, k3⟩, fun t ht => (h.own t ht).only ho (fun k hk => ?_), fun t ht y hy => ?_, h.sep, h.quota, h.n1, h.n64, h.y0, h.y1, h.i0, h.i1⟩
  · obtain ⟨cur, hc⟩ := ownQ (h.own t ht) hk
    exact hav hc (by decide)
  · have hok := h.ok t ht y hy
    obtain rfl : t = 0 := by omega
    rw [updR_same] at hy
    rw [List.mem_singleton.1 hy] at hok ⊢
    have hbs : ∀ {g : Nat} {l : List UInt8}, BS w (some ⟨g, 0, none⟩) l → (0 < l.length → ¬ S g) → BS w' (some ⟨g, 0, none⟩) l := fun hb hn hl => (hb.only ho (fun b o e => by simp at e; rw [← e.1]; exact hn hl)) hl
    refine ⟨⟨hok.hd.le, hok.hd.max, hbs hok.hd.bs h1, fun hn => ?_⟩, ⟨hok.bd.le, hok.bd.max, hbs hok.bd.bs h2, fun hn => ?_⟩⟩
    · obtain ⟨b, o, cs, e, hb⟩ := hok.hd.ty hn
      refine ⟨b, o, cs, e, hb.only ho (fun hs => ?_)⟩
      simp [clI] at e
      rw [← e.1] at hs
      exact h1 hn hs
    · obtain ⟨b, o, cs, e, hb⟩ := hok.bd.ty hn
      refine ⟨b, o, cs, e, hb.only ho (fun hs => ?_)⟩
      simp [clI] at e
      rw [← e.1] at hs
      exact h2 hn hs
theorem OwnB.inc {w W : World} {A : Option Addr} {c m : Nat} {l : List UInt8} (h : OwnB w A c l W) (hm : l.length = m) : 0 < m → ∃ g l, A = some ⟨g, 0, none⟩ ∧ m ≤ l.length ∧ Blk W g 5 (bytesA l) := fun hn => by
  obtain ⟨g, zs, e, _, hb⟩ := h.d (by omega)
  exact ⟨g, l ++ zs, e, by simp; omega, hb⟩
theorem OwnB.type {w W : World} {A : Option Addr} {c m : Nat} {l : List UInt8} (h : OwnB w A c l W) (hm : l.length = m) : ∀ k, (0 < m ∧ A = some ⟨k, 0, none⟩) → ∃ cs, Blk W k 5 cs := by
  rintro k ⟨hn, rfl⟩
  obtain ⟨g, zs, e, _, hb⟩ := h.d (by omega)
  simp at e
  subst e
  exact ⟨_, hb⟩
theorem OwnB.lt {w W : World} {A : Option Addr} {c m : Nat} {l : List UInt8} (h : OwnB w A c l W) (hm : l.length = m) : ∀ k, (0 < m ∧ A = some ⟨k, 0, none⟩) → w.heap.size ≤ k ∧ k < W.heap.size := by
  rintro k ⟨hn, rfl⟩
  obtain ⟨g, zs, e, h1, hb⟩ := h.d (by omega)
  simp at e
  subst e
  exact ⟨h1, hb.lt⟩
section
variable {w : World}
set_option maxRecDepth 100000 in
set_option maxHeartbeats 6400000 in
theorem QueueOwn_any (x : QI) (w : World) (h : x.In w) : Calls Try.prog 5 #[x.agg] w fun e w' => e = .returned (.bool true) ∧ Below w.heap.size w w' := by
  show Calls _ _ _ _ (LwP w)
  obtain ⟨num, HA, hc, hh, BA, bc, bb⟩ := x
  have H := Lib.hid h
  obtain ⟨p1, p2, p3, p4, p5, p6⟩ := h
  simp only at p1 p2 p3 p4 p5 p6
  have HAW := Lib.hid (fun W => qu_awake W)
  have HREF := Lib.hid (fun W (h1 : BS W HA hh) (h2 : BS W BA bb) => qu_ref ⟨num, HA, hc, hh, BA, bc, bb⟩ W h1 h2)
  simp only [QI.agg] at HREF ⊢
  obtain ⟨m1, hm1⟩ : ∃ n, hh.length = n := ⟨_, rfl⟩
  obtain ⟨m2, hm2⟩ : ∃ n, bb.length = n := ⟨_, rfl⟩
  rw [hm1] at HREF p1 ⊢
  rw [hm2] at HREF p4 ⊢
  have HM1 := Lib.hid hm1
  have HM2 := Lib.hid hm2
  have HP3 := Lib.hid p3
  have HP6 := Lib.hid p6
  have hb1 : m1 ≤ 140737488351232 := by omega
  have hb2 : m2 ≤ 140737488351232 := by omega
  clear hm1 hm2 p1 p2 p3 p4 p5 p6
  go_enter Try.func5, Try.ntmps5
  go_upto_region 1 with fail
  obtain ⟨b0, hb0⟩ : ∃ b0, w.heap.size = b0 := ⟨_, rfl⟩
  have HB0 := Lib.hid hb0
  rw [hb0]
  refine wp_gen (fun W => Fresh w W ∧ Blk W b0 34 #[.int .i64 num, .slice HA m1 hc, .slice BA m2 bc]) ⟨Fresh.alloc _ _, Blk.mkAt hb0⟩ ?_
  clear hb0
  rintro W ⟨hf0, hz0⟩
  have HF0 := Lib.hid hf0
  have HZ0 := Lib.hid hz0
  obtain ⟨z0, z1, z2⟩ := hz0.c3
  clear hf0 hz0
  have HEND : Hid (∀ w2, Fresh w w2 → LwP w (.returned (.bool true)) w2) := Lib.hid (fun w2 h => ⟨rfl, h⟩)
  have HAWF : Hid (∀ W, Fresh w W → Calls Try.prog 8 #[] W fun e w' => e = .returned (.bool true) ∧ Fresh w w') := Lib.hid (fun W hW => (HAW.out W).mono (fun e w' h => ⟨h.1, hW.trans h.2⟩))
  by_cases g1 : 300 < m1
  · go_wp2_with fail
    with_reducible refine (HAWF.out _ HF0.out).mono ?_
    rintro e w2 ⟨rfl, hf2⟩
    have HF2 := Lib.hid hf2
    clear hf2
    go_wp2
    go_ret
    exact HEND.out _ HF2.out
  by_cases g2 : 300 < m2
  · have g1' : decide ((300 : Int) < (m1 : Int)) = false := by simp; omega
    have g1'' : decide (300 < m1) = false := by simp; omega
    go_wp2_with fail
    with_reducible refine (HAWF.out _ HF0.out).mono ?_
    rintro e w2 ⟨rfl, hf2⟩
    have HF2 := Lib.hid hf2
    clear hf2
    go_wp2
    go_ret
    exact HEND.out _ HF2.out
  have g1' : decide (300 < m1) = false := by simp; omega
  have g2' : decide (300 < m2) = false := by simp; omega
  have HN : Hid (∀ W, Calls Try.prog 9 #[.int .i64 1, .int .i64 1000, .int .i64 5] W (QNewP 1 1000 5 W)) := Lib.hid (fun W => qu_new 1 1000 5 W (by decide) (by decide) (by decide) (by decide) (by decide) (by decide))
  go_wp2_with fail
  with_reducible refine (HN.out _).mono ?_
  rintro e w2 ⟨q, R, rfl, hq2, hqq, hqR, hf2⟩
  have HF2 := Lib.hid (HF0.out.trans hf2)
  have HQ2 := Lib.hid (hq2 w.heap.size)
  have HZ2 := Lib.hid (HZ0.out.fresh hf2)
  have HRR : Hid (w.heap.size ≤ R) := Lib.hid (Nat.le_trans HF0.out.size hqR)
  clear hq2 hqq hqR hf2 z0 z1 z2 HN
  obtain ⟨z0, z1, z2⟩ := HZ2.out.c3
  go_wp2_with fail
  with_reducible refine (HREF.out _ (HP3.out.fresh HF2.out) (HP6.out.fresh HF2.out)).mono ?_
  rintro e w3 ⟨rfl, hf3⟩
  unfold saidV QI.said
  simp only
  have HF3 := Lib.hid (HF2.out.trans hf3)
  have HZ3 := Lib.hid (HZ2.out.fresh hf3)
  have HQ3 := Lib.hid (HQ2.out.fresh hf3)
  clear hf3 z0 z1 z2
  go_upto_region 5 with fail
  obtain ⟨b5, hb5⟩ : ∃ b5, w3.heap.size = b5 := ⟨_, rfl⟩
  have HB5 : Hid (w.heap.size ≤ b5) := Lib.hid (by rw [← hb5]; exact HF3.out.size)
  rw [hb5]
  obtain ⟨S1, hS1⟩ : ∃ S, strB hh = S := ⟨_, rfl⟩
  obtain ⟨S2, hS2⟩ : ∃ S, strB bb = S := ⟨_, rfl⟩
  rw [hS1, hS2]
  have HS1 := Lib.hid hS1
  have HS2 := Lib.hid hS2
  refine wp_gen (fun W => Fresh w W ∧ Blk W b0 34 #[.int .i64 num, .slice HA m1 hc, .slice BA m2 bc] ∧ Blk W b5 45 #[.int .i64 num, .string S1, .string S2] ∧ QAt W w.heap.size q R 1 1000 5 nilR) ⟨HF3.out.allocS _, HZ3.out.alloc _, Blk.mkAt hb5, HQ3.out.fresh (Fresh.alloc _ _)⟩ ?_
  clear hb5 hS1 hS2
  rintro W4 ⟨hf4, hz4, hx4, hq4⟩
  have HF4 := Lib.hid hf4
  have HZ4 := Lib.hid hz4
  have HX4 := Lib.hid hx4
  have HQ4 := Lib.hid hq4
  have HSK : Hid (∀ w', Fresh W4 w' → w'.cell? ⟨b0, 0, none⟩ = some (.int .i64 num) ∧ w'.cell? ⟨b0, 1, none⟩ = some (.slice HA m1 hc) ∧ w'.cell? ⟨b0, 2, none⟩ = some (.slice BA m2 bc) ∧ Fresh W4 w') := Lib.hid (fun w' hw => by
    have hz := HZ4.out.fresh hw
    exact ⟨hz.cell 0, hz.cell 1, hz.cell 2, hw⟩)
  have HAP1 := Lib.hid (fun W (hw : Fresh W4 W) (a : Addr) => run_onto_empty (P := Try.prog) Try.underlying32 u8_infoQ 32 a HA hc hh m1 HM1.out W (HP3.out.fresh (HF4.out.trans hw)) (by omega))
  have HAP2 := Lib.hid (fun W (hw : Fresh W4 W) (a : Addr) => run_onto_empty (P := Try.prog) Try.underlying32 u8_infoQ 32 a BA bc bb m2 HM2.out W (HP6.out.fresh (HF4.out.trans hw)) (by omega))
  obtain ⟨z0, z1, z2, _⟩ := HSK.out W4 (Fresh.refl _)
  clear hf4 hz4 hx4 hq4
  go_cut [6] from 31 to 41 (fun x6 wx => CutY W4 num m1 m2 hh bb x6 wx)
  case first =>
    go_region_held3 (fun w' => w'.cell? ⟨b0, 0, none⟩ = some (.int .i64 num) ∧ w'.cell? ⟨b0, 1, none⟩ = some (.slice HA m1 hc) ∧ w'.cell? ⟨b0, 2, none⟩ = some (.slice BA m2 bc) ∧ Fresh W4 w')
      ((refine HSK.out _ ?_; (repeat (first | with_reducible assumption | with_reducible exact Fresh.refl _ | with_reducible apply Fresh.drewS | with_reducible apply Fresh.allocS | (with_reducible refine Fresh.step2 ?_ ?_; focus (have hq5 := hg5.size; have hq6 := hg6.size; (first | omega | (simp; done) | (simp; omega))))))))
      (first
        | ((with_reducible refine step_onto rfl (.tmp 33) (.tmp 35) _ rfl (HAP1.out _ ?f1) rfl ?f2 ?f3 ?_); (case f2 => exact ⟨_, rfl⟩); (case f3 => (first | rfl | simp [Act.eval, Act.put])); (case f1 => (repeat (first | with_reducible assumption | with_reducible exact Fresh.refl _ | with_reducible apply Fresh.drewS | with_reducible apply Fresh.allocS))); rintro A1 c1 w5 ⟨k1, k2, k3, k4⟩; have hg5 : Fresh W4 w5 := Fresh.trans (by (repeat (first | with_reducible assumption | with_reducible exact Fresh.refl _ | with_reducible apply Fresh.drewS | with_reducible apply Fresh.allocS))) k1; have HO1 := Lib.hid (ownB_mk (W4 := W4) (by (repeat (first | with_reducible assumption | with_reducible exact Fresh.refl _ | with_reducible apply Fresh.drewS | with_reducible apply Fresh.allocS))) HM1.out k2 k3 k4); clear k2 k3 k4; try ((first | have hbi5 := Blk.fresh (Blk.new _ 34 _) k1 | have hbi5 := Blk.fresh ((Blk.new _ 34 _).alloc _) k1 | have hbi5 := Blk.fresh (((Blk.new _ 34 _).alloc _).alloc _) k1 | have hbi5 := Blk.fresh hbi6 k1 | have hbi5 := Blk.fresh (hbi6.alloc _) k1 | have hbi5 := Blk.fresh ((hbi6.alloc _).alloc _) k1 | have hbi5 := Blk.fresh (Blk.drew (Blk.new _ 34 _)) k1 | have hbi5 := Blk.fresh (Blk.drew ((Blk.new _ 34 _).alloc _)) k1 | have hbi5 := Blk.fresh (Blk.drew (((Blk.new _ 34 _).alloc _).alloc _)) k1 | have hbi5 := Blk.fresh (Blk.drew hbi6) k1 | have hbi5 := Blk.fresh (Blk.drew (hbi6.alloc _)) k1 | have hbi5 := Blk.fresh (Blk.drew ((hbi6.alloc _).alloc _)) k1); (have y0 := hbi5.cell 0; have y1 := hbi5.cell 1; have y2 := hbi5.cell 2; have x0 := hbi5.frozen 0; have x1 := hbi5.frozen 1; have x2 := hbi5.frozen 2; simp at y0 y1 y2 x0 x1 x2)))
        | ((with_reducible refine step_onto rfl (.tmp 37) (.tmp 39) _ rfl (HAP2.out _ ?f1) rfl ?f2 ?f3 ?_); (case f2 => exact ⟨_, rfl⟩); (case f3 => (first | rfl | simp [Act.eval, Act.put])); (case f1 => (repeat (first | with_reducible assumption | with_reducible exact Fresh.refl _ | with_reducible apply Fresh.drewS | with_reducible apply Fresh.allocS))); rintro A2 c2 w6 ⟨l1, l2, l3, l4⟩; have hg6 : Fresh W4 w6 := Fresh.trans (by (repeat (first | with_reducible assumption | with_reducible exact Fresh.refl _ | with_reducible apply Fresh.drewS | with_reducible apply Fresh.allocS))) l1; have HO2 := Lib.hid (ownB_mk (W4 := W4) (by (repeat (first | with_reducible assumption | with_reducible exact Fresh.refl _ | with_reducible apply Fresh.drewS | with_reducible apply Fresh.allocS))) HM2.out l2 l3 l4); clear l2 l3 l4; try ((first | have hbi6 := Blk.fresh (Blk.new _ 34 _) l1 | have hbi6 := Blk.fresh ((Blk.new _ 34 _).alloc _) l1 | have hbi6 := Blk.fresh (((Blk.new _ 34 _).alloc _).alloc _) l1 | have hbi6 := Blk.fresh hbi5 l1 | have hbi6 := Blk.fresh (hbi5.alloc _) l1 | have hbi6 := Blk.fresh ((hbi5.alloc _).alloc _) l1 | have hbi6 := Blk.fresh (Blk.drew (Blk.new _ 34 _)) l1 | have hbi6 := Blk.fresh (Blk.drew ((Blk.new _ 34 _).alloc _)) l1 | have hbi6 := Blk.fresh (Blk.drew (((Blk.new _ 34 _).alloc _).alloc _)) l1 | have hbi6 := Blk.fresh (Blk.drew hbi5) l1 | have hbi6 := Blk.fresh (Blk.drew (hbi5.alloc _)) l1 | have hbi6 := Blk.fresh (Blk.drew ((hbi5.alloc _).alloc _)) l1); (have y0 := hbi6.cell 0; have y1 := hbi6.cell 1; have y2 := hbi6.cell 2; have x0 := hbi6.frozen 0; have x1 := hbi6.frozen 1; have x2 := hbi6.frozen 2; simp at y0 y1 y2 x0 x1 x2))))
    all_goals
      go_wp2_with fail
      go_meet
      case rel =>
        have hq5 := hg5.size
        have hq6 := hg6.size
        first
          | exact cutY_mk (cs := #[.int .i64 0, .slice none 0 0, .slice none 0 0]) rfl (by (repeat (first | with_reducible assumption | with_reducible exact Fresh.refl _ | with_reducible apply Fresh.drewS | with_reducible apply Fresh.allocS))) (by first | omega | (simp; done) | (simp; omega)) (by first | (simpa using hbi6) | (simpa using hbi5) | (repeat (first | with_reducible exact Blk.new _ _ _ | exact Blk.mkAt (by simp; done) | with_reducible apply Blk.alloc | with_reducible apply Blk.drew | (with_reducible refine Blk.fresh ?_ l1) | (with_reducible refine Blk.fresh ?_ k1)))) (by (repeat (first | with_reducible exact HO1.out | (with_reducible refine OwnB.fresh ?_ l1) | (with_reducible refine OwnB.fresh ?_ k1) | (with_reducible refine OwnB.fresh ?_ (Fresh.alloc _ _)) | (with_reducible refine OwnB.fresh ?_ (Fresh.drew _))))) (by (repeat (first | with_reducible exact HO2.out | (with_reducible refine OwnB.fresh ?_ l1) | (with_reducible refine OwnB.fresh ?_ k1) | (with_reducible refine OwnB.fresh ?_ (Fresh.alloc _ _)) | (with_reducible refine OwnB.fresh ?_ (Fresh.drew _)))))
          | exact cutY_mk2 (by (repeat (first | with_reducible assumption | with_reducible exact Fresh.refl _ | with_reducible apply Fresh.drewS | with_reducible apply Fresh.allocS))) (by first | omega | (simp; done) | (simp; omega)) (by first | (simpa using hbi6) | (simpa using hbi5) | (repeat (first | with_reducible exact Blk.new _ _ _ | exact Blk.mkAt (by simp; done) | with_reducible apply Blk.alloc | with_reducible apply Blk.drew | (with_reducible refine Blk.fresh ?_ l1) | (with_reducible refine Blk.fresh ?_ k1)))) (by (repeat (first | with_reducible exact HO1.out | (with_reducible refine OwnB.fresh ?_ l1) | (with_reducible refine OwnB.fresh ?_ k1) | (with_reducible refine OwnB.fresh ?_ (Fresh.alloc _ _)) | (with_reducible refine OwnB.fresh ?_ (Fresh.drew _))))) (by (repeat (first | with_reducible exact HO2.out | (with_reducible refine OwnB.fresh ?_ l1) | (with_reducible refine OwnB.fresh ?_ k1) | (with_reducible refine OwnB.fresh ?_ (Fresh.alloc _ _)) | (with_reducible refine OwnB.fresh ?_ (Fresh.drew _)))))
  case rest =>
  obtain ⟨b6, A1, c1, A2, c2, rfl, hf6, hb6, hy6, ho1, ho2⟩ := hcut
  have HF6 := Lib.hid (HF4.out.trans hf6)
  have HQ6 := Lib.hid (HQ4.out.fresh hf6)
  have HX6 := Lib.hid (HX4.out.fresh hf6)
  have HZ6 := Lib.hid (HZ4.out.fresh hf6)
  have HY6 := Lib.hid hy6
  have HO1 := Lib.hid ho1
  have HO2 := Lib.hid ho2
  have hz600 : QI.z ⟨num, A1, c1, hh, A2, c2, bb⟩ ≤ 600 := by
    show hh.length + bb.length ≤ 600
    have := HM1.out
    have := HM2.out
    omega
  have HPU : Hid (Calls Try.prog 16 #[.pointer (some ⟨q, 0, none⟩), .int .i64 0, .agg #[.int .i64 num, .slice A1 m1 c1, .slice A2 m2 c2]] wc (PutP w.heap.size q R 1 1000 5 nilR 0 ⟨num, A1, c1, hh, A2, c2, bb⟩ wc)) := Lib.hid (by
    have hp := qu_put 0 ⟨num, A1, c1, hh, A2, c2, bb⟩ HQ6.out HF6.out.size (by omega) (BS.pre (fun hn => by obtain ⟨g, zs, e, _, hb⟩ := ho1.d hn; exact ⟨g, zs, e, hb⟩)) (BS.pre (fun hn => by obtain ⟨g, zs, e, _, hb⟩ := ho2.d hn; exact ⟨g, zs, e, hb⟩)) (by omega) (by simp [nilR])
    unfold QI.agg at hp
    simp only at hp
    rw [HM1.out, HM2.out] at hp
    refine hp.mono (fun e w' h => ?_)
    rw [if_neg (by simp [nilR, qz]; omega)] at h
    exact h)
  obtain ⟨y0, y1, y2⟩ := hy6.c3
  clear hf6 hb6 hy6 ho1 ho2 hz600 z0 z1 z2 HSK HAP1 HAP2
  go_wp2_with fail
  with_reducible refine HPU.out.mono ?_
  rintro e w7 ⟨v', g1, g2, rfl, hq7, ho7, hn7, hg71, hg72⟩
  have hf7 : Fresh w w7 := HF6.out.only ho7 (fun k e => by
    rcases e with e | e
    · rw [e]; exact HRR.out
    · cases e)
  have hav7 : ∀ {g : Nat} {T : TypeId} {cs : Array Value}, Blk wc g T cs → T ≠ 63 → Blk w7 g T cs := fun hg hT => hg.only ho7 (fun e => by
    rcases e with e | e
    · obtain ⟨cs', h3, _⟩ := HQ6.out.rows
      exact hg.ne h3 hT e
    · cases e)
  have HF7 := Lib.hid hf7
  have HQ7 : Hid (QAt w7 w.heap.size q R 1 1000 5 (updR nilR 0 (v', [clI ⟨num, A1, c1, hh, A2, c2, bb⟩ g1 g2]))) := Lib.hid hq7
  have HX7 := Lib.hid (hav7 HX6.out (by decide))
  have HZ7 := Lib.hid (hav7 HZ6.out (by decide))
  have HY7 := Lib.hid (hav7 HY6.out (by decide))
  have HO17 : Hid (OwnB W4 A1 c1 hh w7) := Lib.hid ⟨HO1.out.le, HO1.out.max, fun hn => by
    obtain ⟨g, zs, e, h1, hb⟩ := HO1.out.d hn
    exact ⟨g, zs, e, h1, hav7 hb (by decide)⟩⟩
  have HO27 : Hid (OwnB W4 A2 c2 bb w7) := Lib.hid ⟨HO2.out.le, HO2.out.max, fun hn => by
    obtain ⟨g, zs, e, h1, hb⟩ := HO2.out.d hn
    exact ⟨g, zs, e, h1, hav7 hb (by decide)⟩⟩
  have HG1 : Hid (∀ k, (0 < m1 ∧ A1 = some ⟨k, 0, none⟩) ∨ (0 < m2 ∧ A2 = some ⟨k, 0, none⟩) → k ≠ g1 ∧ k ≠ g2 ∧ w.heap.size ≤ k) := Lib.hid (fun k hk => by
    have hs := HF4.out.size
    rcases hk with hk | hk
    · have := HO1.out.lt HM1.out k hk
      omega
    · have := HO2.out.lt HM2.out k hk
      omega)
  clear hq7 ho7 hn7 hg71 hg72 hf7 hav7 y0 y1 y2 HPU
  have y1 := HY7.out.cell 1
  have HST : Hid (IncD w7 A1 m1 w7) := Lib.hid (IncD.start _ _ _)
  have HAV1 : Hid (∀ wr, IncD w7 A1 m1 wr → Fresh w wr ∧ QAt wr w.heap.size q R 1 1000 5 (updR nilR 0 (v', [clI ⟨num, A1, c1, hh, A2, c2, bb⟩ g1 g2])) ∧ Blk wr b5 45 #[.int .i64 num, .string S1, .string S2] ∧ Blk wr b0 34 #[.int .i64 num, .slice HA m1 hc, .slice BA m2 bc] ∧ Blk wr b6 34 #[.int .i64 num, .slice A1 m1 c1, .slice A2 m2 c2] ∧ (0 < m2 → ∃ g l, A2 = some ⟨g, 0, none⟩ ∧ m2 ≤ l.length ∧ Blk wr g 5 (bytesA l))) := Lib.hid (fun wr h => by
    have hty := HO17.out.type HM1.out
    have hav : ∀ {g : Nat} {T : TypeId} {cs : Array Value}, Blk w7 g T cs → T ≠ 5 → Blk wr g T cs := fun hg hT => hg.only h.1 (fun e => by
      obtain ⟨cs, hb⟩ := hty _ e
      exact hg.ne hb hT rfl)
    refine ⟨HF7.out.only h.1 (fun k e => (HG1.out k (.inl e)).2.2), HQ7.out.keepOne h.1 hty (fun _ e => (HG1.out _ (.inl e)).1 rfl) (fun _ e => (HG1.out _ (.inl e)).2.1 rfl), hav HX7.out (by decide), hav HZ7.out (by decide), hav HY7.out (by decide), fun hn => ?_⟩
    obtain ⟨g, zs, e, _, hb⟩ := HO27.out.d (by have := HM2.out; omega)
    obtain ⟨l, hl, hb'⟩ := h.2 g _ hb
    exact ⟨g, l, e, by rw [hl]; simp; have := HM2.out; omega, hb'⟩)
  have HIN1 : Hid (0 < m1 → ∃ g l, A1 = some ⟨g, 0, none⟩ ∧ m1 ≤ l.length ∧ Blk w7 g 5 (bytesA l)) := Lib.hid (HO17.out.inc HM1.out)
  go_wp2
  go_loopw [57] (fun i wr => ∃ k : Nat, k ≤ m1 ∧ i = .int .i64 k ∧ IncD w7 A1 m1 wr) (fun i _ => m1 - (intOf i).toNat)
  case atStart => exact ⟨0, by omega, rfl, HST.out⟩
  case round =>
    obtain ⟨k, hk, rfl, hI⟩ := hrel
    have s1 := (HAV1.out wr hI).2.2.2.2.1.cell 1
    by_cases hlt : k < m1
    · have hlt' : (k : Int) < (m1 : Int) := by omega
      obtain ⟨g, z, rfl, hc, hz, hzz, hst⟩ := hI.step HIN1.out k hlt
      have hx8 := UInt8.toNat_lt z
      have HS := Lib.hid (hst (z + 1))
      clear hI hst y1
      generalize (z + 1).toNat = z1 at *
      go_wp2
      go_roundw
      case rel => exact ⟨k + 1, by omega, by go_num, HS.out⟩
      case measure => simp [intOf]; omega
    · have hlt' : ¬ (k : Int) < (m1 : Int) := by omega
      obtain ⟨hf8, hq8, hx8, hz8, hy8, ho8⟩ := HAV1.out wr hI
      have HT2 : Hid (∀ k, (0 < m2 ∧ A2 = some ⟨k, 0, none⟩) → ∃ cs, Blk wr k 5 cs) := Lib.hid (by
        rintro k ⟨hn, e⟩
        obtain ⟨g, l, e', _, hb⟩ := ho8 hn
        rw [e'] at e
        simp at e
        subst e
        exact ⟨_, hb⟩)
      have HAV2 : Hid (∀ wr2, IncD wr A2 m2 wr2 → Fresh w wr2 ∧ QAt wr2 w.heap.size q R 1 1000 5 (updR nilR 0 (v', [clI ⟨num, A1, c1, hh, A2, c2, bb⟩ g1 g2])) ∧ Blk wr2 b5 45 #[.int .i64 num, .string S1, .string S2] ∧ Blk wr2 b0 34 #[.int .i64 num, .slice HA m1 hc, .slice BA m2 bc] ∧ Blk wr2 b6 34 #[.int .i64 num, .slice A1 m1 c1, .slice A2 m2 c2]) := Lib.hid (fun wr2 h => by
        have hav : ∀ {g : Nat} {T : TypeId} {cs : Array Value}, Blk wr g T cs → T ≠ 5 → Blk wr2 g T cs := fun hg hT => hg.only h.1 (fun e => by
          obtain ⟨cs, hb⟩ := HT2.out _ e
          exact hg.ne hb hT rfl)
        exact ⟨Fresh.only hf8 h.1 (fun k e => (HG1.out k (.inr e)).2.2), hq8.keepOne h.1 HT2.out (fun _ e => (HG1.out _ (.inr e)).1 rfl) (fun _ e => (HG1.out _ (.inr e)).2.1 rfl), hav hx8 (by decide), hav hz8 (by decide), hav hy8 (by decide)⟩)
      have HIN2 := Lib.hid ho8
      have HST2 : Hid (IncD wr A2 m2 wr) := Lib.hid (IncD.start _ _ _)
      have s2 := hy8.cell 2
      clear hI hf8 hq8 hx8 hz8 hy8 ho8 y1 s1
      go_wp2
      clear s2
      obtain ⟨w8, rfl⟩ : ∃ w8 : World, w8 = wr := ⟨_, rfl⟩
      go_loopw [71] (fun i wr2 => ∃ k : Nat, k ≤ m2 ∧ i = .int .i64 k ∧ IncD w8 A2 m2 wr2) (fun i _ => m2 - (intOf i).toNat)
      case atStart => exact ⟨0, by omega, rfl, HST2.out⟩
      case round =>
        obtain ⟨k, hk, rfl, hI⟩ := hrel
        have s2 := (HAV2.out _ hI).2.2.2.2.cell 2
        by_cases hlt : k < m2
        · have hlt' : (k : Int) < (m2 : Int) := by omega
          obtain ⟨g, z, rfl, hc, hz, hzz, hst⟩ := hI.step HIN2.out k hlt
          have hx8 := UInt8.toNat_lt z
          have HS := Lib.hid (hst (z + 1))
          clear hI hst
          generalize (z + 1).toNat = z1 at *
          go_wp2
          go_roundw
          case rel => exact ⟨k + 1, by omega, by go_num, HS.out⟩
          case measure => simp [intOf]; omega
        · have hlt' : ¬ (k : Int) < (m2 : Int) := by omega
          obtain ⟨hf9, hq9, hx9, hz9, hy9⟩ := HAV2.out _ hI
          have HFI : Hid (Calls Try.prog 17 #[.pointer (some ⟨q, 0, none⟩), .int .i64 0] wr (FirstP (clI ⟨num, A1, c1, hh, A2, c2, bb⟩ g1 g2) wr)) := Lib.hid (qu_first 0 _ hq9 (by omega) (by rw [updR_same]; rfl))
          have HF9 := Lib.hid hf9
          have HQ9 := Lib.hid hq9
          have HX9 := Lib.hid hx9
          have HZ9 := Lib.hid hz9
          clear hI hf9 hq9 hx9 hz9 hy9 s2
          unfold FirstP at HFI
          simp only [clI, QI.agg] at HFI
          rw [HM1.out, HM2.out] at HFI
          go_wp2_with fail
          with_reducible refine HFI.out.mono ?_
          rintro e w10 ⟨g3, g4, rfl, k1, k2, k3, k4, k5, hf10⟩
          have HF10 := Lib.hid (HF9.out.trans hf10)
          have HQ10 := Lib.hid (HQ9.out.fresh hf10)
          have HX10 := Lib.hid (HX9.out.fresh hf10)
          have HZ10 := Lib.hid (HZ9.out.fresh hf10)
          have HK10 := Lib.hid (And.intro k1 k2)
          have HWR : Hid (w.heap.size ≤ g3 ∧ wr.heap.size ≤ g3) := Lib.hid ⟨Nat.le_trans HF9.out.size k4, k4⟩
          have HGN : Hid ((0 < hh.length → g1 ≠ g3) ∧ (0 < bb.length → g2 ≠ g3)) := Lib.hid (by
            have hok := HQ9.out.ok 0 (by omega) (clI ⟨num, A1, c1, hh, A2, c2, bb⟩ g1 g2) (by rw [updR_same]; simp)
            have h3 := HWR.out.2
            refine ⟨fun hn => ?_, fun hn => ?_⟩
            · obtain ⟨b, o, cs, e, hb⟩ := hok.hd.ty hn
              simp [clI] at e
              have := hb.lt
              omega
            · obtain ⟨b, o, cs, e, hb⟩ := hok.bd.ty hn
              simp [clI] at e
              have := hb.lt
              omega)
          clear k1 k2 k3 k4 k5 hf10 HFI
          go_upto_region 19 with fail
          obtain ⟨b9, hb9⟩ : ∃ b9, w10.heap.size = b9 := ⟨_, rfl⟩
          rw [hb9]
          refine wp_gen (fun W => Fresh w10 W ∧ Blk W b9 34 #[.int .i64 num, .slice (some ⟨g3, 0, none⟩) m1 m1, .slice (some ⟨g4, 0, none⟩) m2 m2]) ⟨Fresh.alloc _ _, Blk.mkAt hb9⟩ ?_
          clear hb9
          rintro W11 ⟨hf11, hb11⟩
          have HF11 := Lib.hid (HF10.out.trans hf11)
          have HQ11 := Lib.hid (HQ10.out.fresh hf11)
          have HX11 := Lib.hid (HX10.out.fresh hf11)
          have HZ11 := Lib.hid (HZ10.out.fresh hf11)
          have HK11 := Lib.hid (And.intro (HK10.out.1.fresh hf11) (HK10.out.2.fresh hf11))
          have HB11 := Lib.hid hb11
          have HSK : Hid (∀ w', Fresh W11 w' → w'.cell? ⟨b9, 0, none⟩ = some (.int .i64 num) ∧ w'.cell? ⟨b9, 1, none⟩ = some (.slice (some ⟨g3, 0, none⟩) m1 m1) ∧ w'.cell? ⟨b9, 2, none⟩ = some (.slice (some ⟨g4, 0, none⟩) m2 m2) ∧ w'.cell? ⟨b5, 0, none⟩ = some (.int .i64 num) ∧ w'.cell? ⟨b5, 1, none⟩ = some (.string S1) ∧ w'.cell? ⟨b5, 2, none⟩ = some (.string S2) ∧ w'.cell? ⟨b0, 0, none⟩ = some (.int .i64 num) ∧ w'.cell? ⟨b0, 1, none⟩ = some (.slice HA m1 hc) ∧ w'.cell? ⟨b0, 2, none⟩ = some (.slice BA m2 bc) ∧ Fresh W11 w') := Lib.hid (fun w' hw => by
            have h1 := HB11.out.fresh hw
            have h2 := HX11.out.fresh hw
            have h3 := HZ11.out.fresh hw
            exact ⟨h1.cell 0, h1.cell 1, h1.cell 2, h2.cell 0, h2.cell 1, h2.cell 2, h3.cell 0, h3.cell 1, h3.cell 2, hw⟩)
          have HRF : Hid (∀ W, Fresh W11 W → Calls Try.prog 15 #[.agg #[.int .i64 num, .slice (some ⟨g3, 0, none⟩) m1 m1, .slice (some ⟨g4, 0, none⟩) m2 m2]] W fun e w' => e = .returned (.agg #[.int .i64 num, .string S1, .string S2]) ∧ Fresh W w') := Lib.hid (fun W hw => by
            have h := qu_ref ⟨num, some ⟨g3, 0, none⟩, m1, hh, some ⟨g4, 0, none⟩, m2, bb⟩ W (BS.row (HK11.out.1.fresh hw)) (BS.row (HK11.out.2.fresh hw))
            simp only [QI.agg, QI.said, saidV] at h
            rw [HM1.out, HM2.out, HS1.out, HS2.out] at h
            exact h)
          have HSZ : Hid (∀ W, Calls Try.prog 18 #[.agg #[.int .i64 num, .slice HA m1 hc, .slice BA m2 bc]] W fun e w' => e = .returned (.int .i64 ((m1 : Int) + (m2 : Int))) ∧ Fresh W w') := Lib.hid (fun W => by
            have h := qu_size ⟨num, HA, hc, hh, BA, bc, bb⟩ W (by show hh.length + bb.length ≤ _; rw [HM1.out, HM2.out]; omega)
            simp only [QI.agg, QI.z] at h
            rw [HM1.out, HM2.out] at h
            refine h.mono (fun e w' h => ⟨by rw [h.1]; simp, h.2⟩))
          have e1 : S1.size = m1 := by rw [← HS1.out, strB_size]; exact HM1.out
          have e2 : S2.size = m2 := by rw [← HS2.out, strB_size]; exact HM2.out
          have e3 : IntKind.i64.wrap ((m1 : Int) + (m2 : Int)) = (m1 : Int) + (m2 : Int) := IntWalk.i64_in _ (by omega)
          clear hf11 hb11
          obtain ⟨u0, u1, u2, u3, u4, u5, u6, u7, u8, _⟩ := HSK.out W11 (Fresh.refl _)
          go_region_held3 (fun w' => w'.cell? ⟨b9, 0, none⟩ = some (.int .i64 num) ∧ w'.cell? ⟨b9, 1, none⟩ = some (.slice (some ⟨g3, 0, none⟩) m1 m1) ∧ w'.cell? ⟨b9, 2, none⟩ = some (.slice (some ⟨g4, 0, none⟩) m2 m2) ∧ w'.cell? ⟨b5, 0, none⟩ = some (.int .i64 num) ∧ w'.cell? ⟨b5, 1, none⟩ = some (.string S1) ∧ w'.cell? ⟨b5, 2, none⟩ = some (.string S2) ∧ w'.cell? ⟨b0, 0, none⟩ = some (.int .i64 num) ∧ w'.cell? ⟨b0, 1, none⟩ = some (.slice HA m1 hc) ∧ w'.cell? ⟨b0, 2, none⟩ = some (.slice BA m2 bc) ∧ Fresh W11 w')
            ((refine HSK.out _ ?_; first | with_reducible assumption | with_reducible exact Fresh.drew _))
            (first
              | (go_at_call 15; (with_reducible refine (HRF.out _ (Fresh.drew _)).mono ?_); rintro e w12 ⟨rfl, hf12⟩; have hg12 : Fresh W11 w12 := Fresh.trans (Fresh.drew _) hf12; clear hf12)
              | (go_at_call 18; (with_reducible refine (HSZ.out _).mono ?_); rintro e w13 ⟨rfl, hf13⟩; have hg13 : Fresh W11 w13 := Fresh.trans hg12 hf13; clear hf13))
          all_goals
            have hk3 := HK11.out.1.fresh hg13
            have HF13 := Lib.hid (HF11.out.trans hg13)
            have HQ13 := Lib.hid (HQ11.out.fresh hg13)
            have HX13 := Lib.hid (HX11.out.fresh hg13)
            have HB13 := Lib.hid (HB11.out.fresh hg13)
            have HST3 : Hid (IncS w13 g3 m1 w13) := Lib.hid (by have h := IncS.start hk3; rw [HM1.out] at h; exact h)
            have HTY : Hid (∃ cs, Blk w13 g3 5 cs) := Lib.hid ⟨_, hk3⟩
            have HAV3 : Hid (∀ wr, IncS w13 g3 m1 wr → Fresh w wr ∧ QAt wr w.heap.size q R 1 1000 5 (updR nilR 0 (v', [clI ⟨num, A1, c1, hh, A2, c2, bb⟩ g1 g2])) ∧ Blk wr b5 45 #[.int .i64 num, .string S1, .string S2] ∧ Blk wr b9 34 #[.int .i64 num, .slice (some ⟨g3, 0, none⟩) m1 m1, .slice (some ⟨g4, 0, none⟩) m2 m2]) := Lib.hid (fun wr h => by
              obtain ⟨cs3, hb3⟩ := HTY.out
              have hav : ∀ {g : Nat} {T : TypeId} {cs : Array Value}, Blk w13 g T cs → T ≠ 5 → Blk wr g T cs := fun hg hT => hg.only h.1 (fun e => hg.ne hb3 hT e)
              exact ⟨Fresh.only HF13.out h.1 (fun k e => by rw [e]; exact HWR.out.1), HQ13.out.keepOne h.1 (fun k e => by rw [e]; exact ⟨_, hb3⟩) HGN.out.1 HGN.out.2, hav HX13.out (by decide), hav HB13.out (by decide)⟩)
            clear hg12 hg13 hk3 u0 u1 u2 u3 u4 u5 u6 u7 u8 e1 e2 e3 HSK HRF HSZ
            have s9 := HB13.out.cell 1
            go_wp2
            clear s9
            go_loopw [110] (fun i wr3 => ∃ k : Nat, k ≤ m1 ∧ i = .int .i64 k ∧ IncS w13 g3 m1 wr3) (fun i _ => m1 - (intOf i).toNat)
            case atStart => exact ⟨0, by omega, rfl, HST3.out⟩
            case round =>
              obtain ⟨k, hk, rfl, hI⟩ := hrel
              have s9 := (HAV3.out _ hI).2.2.2.cell 1
              by_cases hlt : k < m1
              · have hlt' : (k : Int) < (m1 : Int) := by omega
                obtain ⟨z, hc, hz, hzz, hst⟩ := hI.step k hlt
                have hx8 := UInt8.toNat_lt z
                have HS := Lib.hid (hst (z + 1))
                clear hI hst
                generalize (z + 1).toNat = z1 at *
                go_wp2
                go_roundw
                case rel => exact ⟨k + 1, by omega, by go_num, HS.out⟩
                case measure => simp [intOf]; omega
              · have hlt' : ¬ (k : Int) < (m1 : Int) := by omega
                obtain ⟨hf14, hq14, hx14, _⟩ := HAV3.out _ hI
                have hok := hq14.ok 0 (by omega) (clI ⟨num, A1, c1, hh, A2, c2, bb⟩ g1 g2) (by rw [updR_same]; simp)
                have HPO : Hid (Calls Try.prog 19 #[.pointer (some ⟨q, 0, none⟩), .int .i64 0] wr (PopP w.heap.size q R 1 1000 5 (updR nilR 0 (v', [clI ⟨num, A1, c1, hh, A2, c2, bb⟩ g1 g2])) 0 (clI ⟨num, A1, c1, hh, A2, c2, bb⟩ g1 g2) wr)) := Lib.hid (qu_pop 0 _ hq14 (by omega) (by rw [updR_same]; rfl))
                have HF14 := Lib.hid hf14
                have HQ14 := Lib.hid hq14
                have HX14 := Lib.hid hx14
                have HOK := Lib.hid hok
                clear hI hf14 hq14 hx14 hok s9
                unfold PopP at HPO
                simp only [clI, QI.agg] at HPO
                rw [HM1.out, HM2.out] at HPO
                go_wp2_with fail
                with_reducible refine HPO.out.mono ?_
                rintro e w15 ⟨v5, rfl, hq15, _, ho15r⟩
                have ho15 : Only (fun k => k = R ∨ (updR nilR 0 (v', [clI ⟨num, A1, c1, hh, A2, c2, bb⟩ g1 g2]) 0).1.ownBlock = some k) wr w15 := ho15r
                have hav : ∀ {g : Nat} {T : TypeId} {cs : Array Value}, Blk wr g T cs → T ≠ 63 → T ≠ 34 → Blk w15 g T cs := fun hg h1 h2 => avO' HQ14.out (t := 0) (by omega) ho15 hg h1 h2
                have HX15 := Lib.hid (hav HX14.out (by decide) (by decide))
                have HOK15 : Hid (QI.Ok w15 (clI ⟨num, A1, c1, hh, A2, c2, bb⟩ g1 g2)) := Lib.hid (HOK.out.only ho15 (fun g cs hg e => by
                  rcases e with e | e
                  · exact (HQ14.out.byte_ne hg).2.1 e
                  · exact (HQ14.out.byte_ne hg).2.2 0 (by omega) e))
                have HF15 : Hid (Fresh w w15) := Lib.hid (Fresh.only HF14.out ho15 (fun k e => by
                  rcases e with e | e
                  · rw [e]; exact HRR.out
                  · exact ((HQ14.out.own 0 (by omega)).lt k e).1))
                clear hq15 ho15 ho15r hav HPO
                go_upto_region 27 with fail
                obtain ⟨b15, hb15⟩ : ∃ b15, w15.heap.size = b15 := ⟨_, rfl⟩
                rw [hb15]
                refine wp_gen (fun W => Fresh w15 W ∧ Blk W b15 34 #[.int .i64 num, .slice (some ⟨g1, 0, none⟩) m1 m1, .slice (some ⟨g2, 0, none⟩) m2 m2]) ⟨Fresh.alloc _ _, Blk.mkAt hb15⟩ ?_
                clear hb15
                rintro W16 ⟨hf16, hb16⟩
                have HF16 := Lib.hid (HF15.out.trans hf16)
                have HB16 := Lib.hid hb16
                have HX16 := Lib.hid (HX15.out.fresh hf16)
                have HOK16 := Lib.hid (HOK15.out.fresh hf16)
                have HSK : Hid (∀ w', Fresh W16 w' → w'.cell? ⟨b15, 0, none⟩ = some (.int .i64 num) ∧ w'.cell? ⟨b15, 1, none⟩ = some (.slice (some ⟨g1, 0, none⟩) m1 m1) ∧ w'.cell? ⟨b15, 2, none⟩ = some (.slice (some ⟨g2, 0, none⟩) m2 m2) ∧ w'.cell? ⟨b5, 0, none⟩ = some (.int .i64 num) ∧ w'.cell? ⟨b5, 1, none⟩ = some (.string S1) ∧ w'.cell? ⟨b5, 2, none⟩ = some (.string S2) ∧ Fresh W16 w') := Lib.hid (fun w' hw => by
                  have h1 := HB16.out.fresh hw
                  have h2 := HX16.out.fresh hw
                  exact ⟨h1.cell 0, h1.cell 1, h1.cell 2, h2.cell 0, h2.cell 1, h2.cell 2, hw⟩)
                have HRF : Hid (∀ W, Fresh W16 W → Calls Try.prog 15 #[.agg #[.int .i64 num, .slice (some ⟨g1, 0, none⟩) m1 m1, .slice (some ⟨g2, 0, none⟩) m2 m2]] W fun e w' => e = .returned (.agg #[.int .i64 num, .string S1, .string S2]) ∧ Fresh W w') := Lib.hid (fun W hw => by
                  have h := qu_ref (clI ⟨num, A1, c1, hh, A2, c2, bb⟩ g1 g2) W (HOK16.out.fresh hw).hd.bs (HOK16.out.fresh hw).bd.bs
                  simp only [clI, QI.agg, QI.said, saidV] at h
                  rw [HM1.out, HM2.out, HS1.out, HS2.out] at h
                  exact h)
                clear hf16 hb16
                obtain ⟨u0, u1, u2, u3, u4, u5, _⟩ := HSK.out W16 (Fresh.refl _)
                go_region_held3 (fun w' => w'.cell? ⟨b15, 0, none⟩ = some (.int .i64 num) ∧ w'.cell? ⟨b15, 1, none⟩ = some (.slice (some ⟨g1, 0, none⟩) m1 m1) ∧ w'.cell? ⟨b15, 2, none⟩ = some (.slice (some ⟨g2, 0, none⟩) m2 m2) ∧ w'.cell? ⟨b5, 0, none⟩ = some (.int .i64 num) ∧ w'.cell? ⟨b5, 1, none⟩ = some (.string S1) ∧ w'.cell? ⟨b5, 2, none⟩ = some (.string S2) ∧ Fresh W16 w')
                  ((refine HSK.out _ ?_; first | with_reducible assumption | with_reducible exact Fresh.drew _))
                  (first
                    | (go_at_call 15; (with_reducible refine (HRF.out _ (Fresh.drew _)).mono ?_); rintro e w17 ⟨rfl, hf17⟩; have hg17 : Fresh W16 w17 := Fresh.trans (Fresh.drew _) hf17; clear hf17)
                    | (go_at_call 8; (with_reducible refine (HAW.out _).mono ?_); rintro e w18 ⟨rfl, hf18⟩; have hg18 : Fresh W16 w18 := Fresh.trans hg17 hf18; clear hf18))
                all_goals
                  have HG18 := Lib.hid (HF16.out.trans hg18)
                  clear hg17 hg18 u0 u1 u2 u3 u4 u5 HSK HRF
                  go_wp2
                  go_ret
                  exact HEND.out _ HG18.out
end
end Go.Proofs.Ythfifeclmikbgaa
