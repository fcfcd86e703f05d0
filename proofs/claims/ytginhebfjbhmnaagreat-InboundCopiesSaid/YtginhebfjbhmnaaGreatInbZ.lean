/-
  Package inbound: Copy.
-/
import Derived.Test.YtginhebfjbhmnaaGreatG40
import Derived.Test.YtginhebfjbhmnaaGreatG14
import Derived.Test.YtginhebfjbhmnaaGreatG35
namespace Go.Proofs.YtginhebfjbhmnaaGreat
set_option maxRecDepth 100000
set_option linter.unusedVariables false
set_option linter.unusedSimpArgs false
open Go.RowKit
theorem wz_gen {F : Array Bool → Act → World → Prop} {e : Array Bool} {a : Act} {w : World} (S : World → Prop) (hS : S w) (h : ∀ w', S w' → F e a w') : F e a w := h w hS
def InCopyP (w0 w : World) (l : List UInt8) (s : Option Part) (bg : Bool) (e : Ending) (w' : World) : Prop :=
  ∃ B' : InB, e = .returned (.pointer (some ⟨B'.p, 0, none⟩)) ∧ IbAt w0 w' B' l s bg ∧ (∀ k, B'.has k → w.heap.size ≤ k) ∧ Fresh w w'
/-- A dead reader's copy. -/
theorem in_copy_dead (p : Nat) (w : World) (h : InDead w p) :
    Calls Tryz.prog 16 #[.pointer (some ⟨p, 0, none⟩)] w fun e w' => ∃ q, e = .returned (.pointer (some ⟨q, 0, none⟩)) ∧ InDead w' q ∧ w.heap.size ≤ q ∧ Fresh w w' := by
  have HD := Lib.hid h
  unfold InDead at HD
  clear h
  go_enter Tryz.func16, Tryz.ntmps16
  go_wp2_with (first | (refine wp_loadB rfl (.tmp 5) _ rfl rfl HD.out (by kernel_rfl) (fun w => by simp [isAgg, go_sem]) ?_) | (refine wp_storeB (ds := #[.pointer none, .pointer none, .pointer none, .bool false, .bool true]) rfl (.tmp 3) (.tmp 6) _ rfl rfl rfl (Blk.new _ _ _) (by kernel_rfl) rfl (by simp [Value.oneCell']) ?_) | fail)
  intro W3 hb3 ho3
  have hf3 : Fresh w W3 := Only.fresh ((Only.of_fresh (Fresh.alloc _ _)).trans ho3) (fun i hi e => by omega)
  have x4 : W3.cell? ⟨p, 4, none⟩ = some (.bool true) := (HD.out.fresh hf3).cell 4
  go_wp2
  go_ret
  exact ⟨_, rfl, hb3, Nat.le_refl _, hf3⟩
set_option maxHeartbeats 12800000 in
theorem in_copy (w0 w : World) (B : InB) (l : List UInt8) (s : Option Part) (bg : Bool) (h : IbAt w0 w B l s bg) :
    Calls Tryz.prog 16 #[.pointer (some ⟨B.p, 0, none⟩)] w (InCopyP w0 w l s bg) := by
  have HIB := Lib.hid h
  have HBB : Hid (Blk w B.p 54 #[.pointer (some ⟨B.rp, 0, none⟩), .pointer (some ⟨B.ap, 0, none⟩), .pointer (some ⟨B.dp, 0, none⟩), .bool bg, .bool false]) := Lib.hid h.blk
  have HRC := Lib.hid (fun W (hf : Fresh w W) => rcopy B.rp 16384 l B.v1 W (h.rs.fresh hf))
  have HAC := Lib.hid (fun W (hf : Fresh w W) => asCopy B.ap 16384 s B.v2 W (h.asm.fresh hf))
  have HDC := Lib.hid (fun W (hf : Fresh w W) => de_copy w0.heap.size B.dp B.pp B.v3 [] 0 0 16384 false W (h.de.fresh hf).dec (by have := h.de.fr.size; have := hf.size; omega) (by simp))
  unfold RCopy at HRC
  unfold CopyR at HAC
  have HLW : Hid (w0.heap.size ≤ w.heap.size) := Lib.hid h.de.fr.size
  have HFIN : Hid (∀ B' W, IbAt w0 W B' l s bg → (∀ k, B'.has k → w.heap.size ≤ k) → Fresh w W → InCopyP w0 w l s bg (.returned (.pointer (some ⟨B'.p, 0, none⟩))) W) := Lib.hid (fun B' W h1 h2 h3 => ⟨B', rfl, h1, h2, h3⟩)
  clear h
  generalize InCopyP w0 w l s bg = PP at *
  go_enter Tryz.func16, Tryz.ntmps16
  go_wp2_with (first | (refine wp_loadB rfl (.tmp 5) _ rfl rfl HBB.out (by kernel_rfl) (fun w => by simp [isAgg, go_sem]) ?_) | (refine wp_storeB (ds := #[.pointer (some ⟨B.rp, 0, none⟩), .pointer (some ⟨B.ap, 0, none⟩), .pointer (some ⟨B.dp, 0, none⟩), .bool bg, .bool false]) rfl (.tmp 3) (.tmp 6) _ rfl rfl rfl (Blk.new _ _ _) (by kernel_rfl) rfl (by simp [Value.oneCell']) ?_) | fail)
  intro W3 hb3 ho3
  have hf3 : Fresh w W3 := Only.fresh ((Only.of_fresh (Fresh.alloc _ _)).trans ho3) (fun i hi e => by omega)
  have x4 : W3.cell? ⟨B.p, 4, none⟩ = some (.bool false) := (HBB.out.fresh hf3).cell 4
  obtain ⟨c, hc⟩ : ∃ c, w.heap.size = c := ⟨_, rfl⟩
  have HC := Lib.hid hc
  rw [hc] at hb3 ⊢
  have HB3 := Lib.hid hb3
  have HF3 := Lib.hid hf3
  have HSK : Hid (∀ W, Fresh W3 W → W.cell? ⟨B.p, 0, none⟩ = some (.pointer (some ⟨B.rp, 0, none⟩)) ∧ W.cell? ⟨B.p, 1, none⟩ = some (.pointer (some ⟨B.ap, 0, none⟩)) ∧ W.cell? ⟨B.p, 2, none⟩ = some (.pointer (some ⟨B.dp, 0, none⟩))) := Lib.hid (fun W hf => by
    obtain ⟨c0, c1, c2, _, _⟩ := (HBB.out.fresh (hf3.trans hf)).c5
    exact ⟨c0, c1, c2⟩)
  clear hb3 hf3 ho3 hc
  go_upto_region 3 with fail
  clear x4
  refine wp_region_held_drew (S := (fun w' => w'.cell? ⟨B.p, 0, none⟩ = some (.pointer (some ⟨B.rp, 0, none⟩)) ∧ w'.cell? ⟨B.p, 1, none⟩ = some (.pointer (some ⟨B.ap, 0, none⟩)) ∧ w'.cell? ⟨B.p, 2, none⟩ = some (.pointer (some ⟨B.dp, 0, none⟩)))) (by kernel_rfl) (HSK.out _ (Fresh.drew _)) (fun hHeld => ?_)
  refine wpAnyH_take (i := 0) (v := ?_) rfl (by kernel_rfl) (by kernel_rfl) (by kernel_rfl) (fun _ _ _ h => h) (Or.inl ⟨by rfl, ?_⟩) (by assumption) ?_; rotate_left; focus (intro w hSw; (try dsimp only at hSw); go_simp; (try with_reducible rfl); done)
  (try simp only [Act.put, List.getElem_toArray, List.getElem_cons_zero, List.getElem_cons_succ, List.setIfInBounds_toArray, List.set_cons_zero, List.set_cons_succ])
  refine wpAnyH_take (i := 1) (v := ?_) rfl (by kernel_rfl) (by kernel_rfl) (by kernel_rfl) (fun _ _ _ h => h) (Or.inl ⟨by rfl, ?_⟩) (by assumption) ?_; rotate_left; focus (intro w hSw; (try dsimp only at hSw); go_simp; (try with_reducible rfl); done)
  (try simp only [Act.put, List.getElem_toArray, List.getElem_cons_zero, List.getElem_cons_succ, List.setIfInBounds_toArray, List.set_cons_zero, List.set_cons_succ])
  refine wpAnyH_take (i := 2) (v := ?_) rfl (by kernel_rfl) (by kernel_rfl) (by kernel_rfl) (fun _ _ _ h => h) (Or.inl ⟨by rfl, ?_⟩) (by assumption) ?_; rotate_left; focus (intro w hSw; (try dsimp only at hSw); go_simp; (try with_reducible rfl); done)
  (try simp only [Act.put, List.getElem_toArray, List.getElem_cons_zero, List.getElem_cons_succ, List.setIfInBounds_toArray, List.set_cons_zero, List.set_cons_succ])
  refine wpAnyH_take (i := 3) (v := ?_) rfl (by kernel_rfl) (by kernel_rfl) (by kernel_rfl) (fun _ _ _ h => h) (Or.inl ⟨by rfl, ?_⟩) (by assumption) ?_; rotate_left; focus (intro w hSw; (try dsimp only at hSw); go_simp; (try with_reducible rfl); done)
  (try simp only [Act.put, List.getElem_toArray, List.getElem_cons_zero, List.getElem_cons_succ, List.setIfInBounds_toArray, List.set_cons_zero, List.set_cons_succ])
  refine wpAnyH_take (i := 5) (v := ?_) rfl (by kernel_rfl) (by kernel_rfl) (by kernel_rfl) (fun _ _ _ h => h) (Or.inl ⟨by rfl, ?_⟩) (by assumption) ?_; rotate_left; focus (intro w hSw; (try dsimp only at hSw); go_simp; (try with_reducible rfl); done)
  (try simp only [Act.put, List.getElem_toArray, List.getElem_cons_zero, List.getElem_cons_succ, List.setIfInBounds_toArray, List.set_cons_zero, List.set_cons_succ])
  refine wpAnyH_take (i := 6) (v := ?_) rfl (by kernel_rfl) (by kernel_rfl) (by kernel_rfl) (fun _ _ _ h => h) (Or.inl ⟨by rfl, ?_⟩) (by assumption) ?_; rotate_left; focus (intro w hSw; (try dsimp only at hSw); go_simp; (try with_reducible rfl); done)
  (try simp only [Act.put, List.getElem_toArray, List.getElem_cons_zero, List.getElem_cons_succ, List.setIfInBounds_toArray, List.set_cons_zero, List.set_cons_succ])
  refine wpAnyH_take (i := 7) (v := ?_) rfl (by kernel_rfl) (by kernel_rfl) (by kernel_rfl) (fun _ _ _ h => h) (Or.inl ⟨by rfl, ?_⟩) (by assumption) ?_; rotate_left; focus (intro w hSw; (try dsimp only at hSw); go_simp; (try with_reducible rfl); done)
  (try simp only [Act.put, List.getElem_toArray, List.getElem_cons_zero, List.getElem_cons_succ, List.setIfInBounds_toArray, List.set_cons_zero, List.set_cons_succ])
  refine wpAnyH_take (i := 8) (v := ?_) rfl (by kernel_rfl) (by kernel_rfl) (by kernel_rfl) (fun _ _ _ h => h) (Or.inl ⟨by rfl, ?_⟩) (by assumption) ?_; rotate_left; focus (intro w hSw; (try dsimp only at hSw); go_simp; (try with_reducible rfl); done)
  (try simp only [Act.put, List.getElem_toArray, List.getElem_cons_zero, List.getElem_cons_succ, List.setIfInBounds_toArray, List.set_cons_zero, List.set_cons_succ])
  refine wpAnyH_take (i := 10) (v := ?_) rfl (by kernel_rfl) (by kernel_rfl) (by kernel_rfl) (fun _ _ _ h => h) (Or.inl ⟨by rfl, ?_⟩) (by assumption) ?_; rotate_left; focus (intro w hSw; (try dsimp only at hSw); go_simp; (try with_reducible rfl); done)
  (try simp only [Act.put, List.getElem_toArray, List.getElem_cons_zero, List.getElem_cons_succ, List.setIfInBounds_toArray, List.set_cons_zero, List.set_cons_succ])
  refine wpAnyH_take (i := 11) (v := ?_) rfl (by kernel_rfl) (by kernel_rfl) (by kernel_rfl) (fun _ _ _ h => h) (Or.inl ⟨by rfl, ?_⟩) (by assumption) ?_; rotate_left; focus (intro w hSw; (try dsimp only at hSw); go_simp; (try with_reducible rfl); done)
  (try simp only [Act.put, List.getElem_toArray, List.getElem_cons_zero, List.getElem_cons_succ, List.setIfInBounds_toArray, List.set_cons_zero, List.set_cons_succ])
  refine wpAnyH_take (i := 12) (v := ?_) rfl (by kernel_rfl) (by kernel_rfl) (by kernel_rfl) (fun _ _ _ h => h) (Or.inl ⟨by rfl, ?_⟩) (by assumption) ?_; rotate_left; focus (intro w hSw; (try dsimp only at hSw); go_simp; (try with_reducible rfl); done)
  (try simp only [Act.put, List.getElem_toArray, List.getElem_cons_zero, List.getElem_cons_succ, List.setIfInBounds_toArray, List.set_cons_zero, List.set_cons_succ])
  refine wpAnyH_take (i := 13) (v := ?_) rfl (by kernel_rfl) (by kernel_rfl) (by kernel_rfl) (fun _ _ _ h => h) (Or.inl ⟨by rfl, ?_⟩) (by assumption) ?_; rotate_left; focus (intro w hSw; (try dsimp only at hSw); go_simp; (try with_reducible rfl); done)
  (try simp only [Act.put, List.getElem_toArray, List.getElem_cons_zero, List.getElem_cons_succ, List.setIfInBounds_toArray, List.set_cons_zero, List.set_cons_succ])
  refine wpAnyH_ready (rs := [4]) (by kernel_rfl) (by simp) ?_
  refine AllReadyH.cons rfl (fun K hK => ?_) AllReadyH.nil
  go_simp
  go_at_call 32
  with_reducible refine (HRC.out _ (HF3.out.trans (Fresh.drew _))).mono ?_
  rintro e W4 ⟨rp, v1, rfl, hrp, hrs, hv1, hf4⟩
  have HF4 : Hid (Fresh W3 W4) := Lib.hid ((Fresh.drew _).trans hf4)
  have HRS := Lib.hid hrs
  have hsz3 := HB3.out.lt
  have hrp : W3.heap.size ≤ rp := hrp
  have hv1 : ∀ k, v1.ownBlock = some k → W3.heap.size ≤ k := hv1
  have HRC4 : Hid (∀ k, v1.ownBlock = some k → k < W4.heap.size) := Lib.hid (fun k hk => (hrs.ne k hk).2)
  refine hK.out _ _ (HSK.out _ HF4.out) (fun hHeld => ?_)
  clear hK K
  (try simp only [Act.put, List.getElem_toArray, List.getElem_cons_zero, List.getElem_cons_succ, List.setIfInBounds_toArray, List.set_cons_zero, List.set_cons_succ])
  refine wpAnyH_ready (rs := [9]) (by kernel_rfl) (by simp) ?_
  refine AllReadyH.cons rfl (fun K hK => ?_) AllReadyH.nil
  go_simp
  go_at_call 33
  with_reducible refine (HAC.out _ (HF3.out.trans HF4.out)).mono ?_
  rintro e W5 ⟨ap, v2, rfl, hap, has, hv2, hf5⟩
  have HF5 : Hid (Fresh W3 W5) := Lib.hid (HF4.out.trans hf5)
  have HRS := Lib.hid (HRS.out.fresh hf5)
  have HAS := Lib.hid has
  have hsz4 := HRS.out.blk.lt
  refine hK.out _ _ (HSK.out _ HF5.out) (fun hHeld => ?_)
  clear hK K
  (try simp only [Act.put, List.getElem_toArray, List.getElem_cons_zero, List.getElem_cons_succ, List.setIfInBounds_toArray, List.set_cons_zero, List.set_cons_succ])
  refine wpAnyH_ready (rs := [14]) (by kernel_rfl) (by simp) ?_
  refine AllReadyH.cons rfl (fun K hK => ?_) AllReadyH.nil
  go_simp
  go_at_call 34
  with_reducible refine (HDC.out _ (HF3.out.trans HF5.out)).mono ?_
  rintro e W6 ⟨dp, pp, v3, rfl, hdc, hdp, hpp, hv3, hf6⟩
  have HF6 : Hid (Fresh W3 W6) := Lib.hid (HF5.out.trans hf6)
  have HRS := Lib.hid (HRS.out.fresh hf6)
  have HAS := Lib.hid (HAS.out.fresh hf6)
  have HDD := Lib.hid hdc
  have HB6 := Lib.hid (HB3.out.fresh HF6.out)
  have hs34 := HF4.out.size
  have hs35 := HF5.out.size
  have hs45 := hf5.size
  have hs56 := hf6.size
  refine hK.out _ _ (HSK.out _ HF6.out) (fun hHeld => ?_)
  clear hK K
  (try simp only [Act.put, List.getElem_toArray, List.getElem_cons_zero, List.getElem_cons_succ, List.setIfInBounds_toArray, List.set_cons_zero, List.set_cons_succ])
  have HIN : Hid (∀ W, Blk W c 54 #[.pointer (some ⟨rp, 0, none⟩), .pointer (some ⟨ap, 0, none⟩), .pointer (some ⟨dp, 0, none⟩), .bool bg, .bool false] → Only (· = c) W6 W → IbAt w0 W ⟨c, rp, ap, dp, pp, v1, v2, v3⟩ l s bg ∧ Fresh w W ∧ ∀ k, (⟨c, rp, ap, dp, pp, v1, v2, v3⟩ : InB).has k → w.heap.size ≤ k) := Lib.hid (fun W hb ho => by
    have hlw := HLW.out
    have hcc := HC.out
    have hdb := hdc.blk.lt
    have hd0 := HIB.out.de
    have hf36 := HF3.out.size
    obtain ⟨cs, hcs⟩ := HAS.out.blk5
    have hsd : S7 w0 W6 dp pp v3 [] 0 0 16384 false := ⟨⟨hdc.blk, ⟨hdc.tab.blk, Own.base_le hdc.tab.own (by omega)⟩⟩, by omega, by omega, fun k hk => by have := hv3 k hk; omega, by omega, fun k hk => by have := hv3 k hk; omega, hd0.fr.trans (HF3.out.trans HF6.out), hd0.l0, hd0.l1, hd0.hm, hd0.tz, hd0.b0, hd0.b1⟩
    refine ⟨⟨hb, HRS.out.only ho (by omega) (fun k hk => by have := hv1 k hk; omega), HAS.out.only ho (by omega) (fun k hk => by have := hv2 k hk; omega), hsd.apart ho (fun k e => by omega) (by omega) (by omega) (fun k hk => by have := hv3 k hk; omega), ⟨by simp only; omega, by simp only; omega, by simp only; omega⟩, ⟨fun k hk => by have := hv1 k hk; omega, fun k hk => by have := hv2 k hk; omega⟩, fun k hk e => ?_⟩, Only.fresh ((Only.of_fresh (HF3.out.trans HF6.out)).trans ho) (fun i hi e => by omega), ?_⟩
    · have h1 := hv2 k e
      have h2 := (HRC4.out k hk)
      omega
    · rintro k (e | e | e | e | e | e | e | e)
      · simp only at e; omega
      · simp only at e; omega
      · simp only at e; omega
      · simp only at e; omega
      · simp only at e; omega
      · have := hv1 k e; omega
      · have := hv2 k e; omega
      · have := hv3 k e; omega)
  have x0 := HB6.out.cell 0
  have x1 := HB6.out.cell 1
  have x2 := HB6.out.cell 2
  have z0 := HB6.out.frozen 0
  have z1 := HB6.out.frozen 1
  have z2 := HB6.out.frozen 2
  simp only [List.getElem?_toArray, List.getElem?_cons_zero, List.getElem?_cons_succ] at x0 x1 x2
  have hbp : B.p < c := by have := HIB.out.blk.lt; have := HC.out; omega
  have hne : ¬ B.p = c := by omega
  have SKO : Hid (∀ W, Only (· = c) W6 W → W.cell? ⟨B.p, 0, none⟩ = some (.pointer (some ⟨B.rp, 0, none⟩)) ∧ W.cell? ⟨B.p, 1, none⟩ = some (.pointer (some ⟨B.ap, 0, none⟩)) ∧ W.cell? ⟨B.p, 2, none⟩ = some (.pointer (some ⟨B.dp, 0, none⟩))) := Lib.hid (fun W ho => by
    obtain ⟨c0, c1, c2⟩ := HSK.out _ HF6.out
    have hlt : B.p < W6.heap.size := by omega
    exact ⟨(ho.cell (p := ⟨B.p, 0, none⟩) hlt hne).trans c0, (ho.cell (p := ⟨B.p, 1, none⟩) hlt hne).trans c1, (ho.cell (p := ⟨B.p, 2, none⟩) hlt hne).trans c2⟩)
  refine wpAnyH_take (i := 15) (v := ?_) rfl (by kernel_rfl) (by kernel_rfl) (by kernel_rfl) (fun _ _ _ h => h) (Or.inl ⟨by rfl, ?_⟩) (by assumption) ?_; rotate_left; focus (intro w hSw; (try dsimp only at hSw); go_simp; (try with_reducible rfl); done)
  (try simp only [Act.put, List.getElem_toArray, List.getElem_cons_zero, List.getElem_cons_succ, List.setIfInBounds_toArray, List.set_cons_zero, List.set_cons_succ])
  refine wpAnyH_ready (rs := [16]) (by kernel_rfl) (by simp) ?_
  refine AllReadyH.cons rfl (fun K hK => ?_) AllReadyH.nil
  go_simp
  refine hK.out _ _ (SKO.out _ (show Only (· = c) W6 _ from Only.setCell W6 ⟨c, 0, none⟩ _)) (fun hHeld => ?_)
  clear hK K
  (try simp only [Act.put, List.getElem_toArray, List.getElem_cons_zero, List.getElem_cons_succ, List.setIfInBounds_toArray, List.set_cons_zero, List.set_cons_succ])
  refine wz_gen (fun W => Blk W c 54 #[.pointer (some ⟨rp, 0, none⟩), .pointer (some ⟨B.ap, 0, none⟩), .pointer (some ⟨B.dp, 0, none⟩), .bool bg, .bool false] ∧ Only (· = c) W6 W) ⟨HB6.out.set2 rfl, (show Only (· = c) W6 _ from Only.setCell W6 ⟨c, 0, none⟩ _)⟩ ?_
  clear hHeld x0 x1 x2 z0 z1 z2
  rintro W7 ⟨hb7, ho7⟩
  have hHeld := SKO.out _ ho7
  have x1 := hb7.cell 1
  have z1 := hb7.frozen 1
  simp only [List.getElem?_toArray, List.getElem?_cons_zero, List.getElem?_cons_succ] at x1
  refine wpAnyH_take (i := 17) (v := ?_) rfl (by kernel_rfl) (by kernel_rfl) (by kernel_rfl) (fun _ _ _ h => h) (Or.inl ⟨by rfl, ?_⟩) (by assumption) ?_; rotate_left; focus (intro w hSw; (try dsimp only at hSw); go_simp; (try with_reducible rfl); done)
  (try simp only [Act.put, List.getElem_toArray, List.getElem_cons_zero, List.getElem_cons_succ, List.setIfInBounds_toArray, List.set_cons_zero, List.set_cons_succ])
  refine wpAnyH_ready (rs := [18]) (by kernel_rfl) (by simp) ?_
  refine AllReadyH.cons rfl (fun K hK => ?_) AllReadyH.nil
  go_simp
  refine hK.out _ _ (SKO.out _ (ho7.trans (show Only (· = c) W7 _ from Only.setCell W7 ⟨c, 1, none⟩ _))) (fun hHeld => ?_)
  clear hK K
  (try simp only [Act.put, List.getElem_toArray, List.getElem_cons_zero, List.getElem_cons_succ, List.setIfInBounds_toArray, List.set_cons_zero, List.set_cons_succ])
  refine wz_gen (fun W => Blk W c 54 #[.pointer (some ⟨rp, 0, none⟩), .pointer (some ⟨ap, 0, none⟩), .pointer (some ⟨B.dp, 0, none⟩), .bool bg, .bool false] ∧ Only (· = c) W6 W) ⟨hb7.set2 rfl, ho7.trans (show Only (· = c) W7 _ from Only.setCell W7 ⟨c, 1, none⟩ _)⟩ ?_
  clear hHeld x1 z1
  rintro W8 ⟨hb8, ho8⟩
  have hHeld := SKO.out _ ho8
  have x2 := hb8.cell 2
  have z2 := hb8.frozen 2
  simp only [List.getElem?_toArray, List.getElem?_cons_zero, List.getElem?_cons_succ] at x2
  refine wpAnyH_take (i := 19) (v := ?_) rfl (by kernel_rfl) (by kernel_rfl) (by kernel_rfl) (fun _ _ _ h => h) (Or.inl ⟨by rfl, ?_⟩) (by assumption) ?_; rotate_left; focus (intro w hSw; (try dsimp only at hSw); go_simp; (try with_reducible rfl); done)
  (try simp only [Act.put, List.getElem_toArray, List.getElem_cons_zero, List.getElem_cons_succ, List.setIfInBounds_toArray, List.set_cons_zero, List.set_cons_succ])
  refine wpAnyH_ready (rs := [20]) (by kernel_rfl) (by simp) ?_
  refine AllReadyH.cons rfl (fun K hK => ?_) AllReadyH.nil
  go_simp
  refine hK.out _ _ (SKO.out _ (ho8.trans (show Only (· = c) W8 _ from Only.setCell W8 ⟨c, 2, none⟩ _))) (fun hHeld => ?_)
  clear hK K
  (try simp only [Act.put, List.getElem_toArray, List.getElem_cons_zero, List.getElem_cons_succ, List.setIfInBounds_toArray, List.set_cons_zero, List.set_cons_succ])
  refine wpAnyH_done (by kernel_rfl) ?_ _
  obtain ⟨h1, h2, h3⟩ := HIN.out _ (hb8.set2 rfl) (ho8.trans (show Only (· = c) W8 _ from Only.setCell W8 ⟨c, 2, none⟩ _))
  refine wx_gen (fun W => IbAt w0 W ⟨c, rp, ap, dp, pp, v1, v2, v3⟩ l s bg ∧ Fresh w W) ⟨h1, h2⟩ ?_
  clear h1 h2 hHeld
  rintro W9 ⟨h1, h2⟩
  go_wp2
  exact HFIN.out ⟨c, rp, ap, dp, pp, v1, v2, v3⟩ W9 h1 h3 h2
end Go.Proofs.YtginhebfjbhmnaaGreat

