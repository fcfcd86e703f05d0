/-
  Texts laid together: Huf3 Huf4.
-/
import Derived.Test.YtginhebfjbhmnaaGreatG19
import Derived.StillTailTactics
import Derived.Defers
import Derived.Laws.LoneSync
import Derived.RegionCalls
import Derived.Laws.NewBlocks
/-
  Package huff: the codes are made.
-/
namespace Go.Proofs.YtginhebfjbhmnaaGreat
set_option maxRecDepth 100000
set_option linter.unusedVariables false
set_option linter.unusedSimpArgs false
open Go.RowKit
attribute [local go_sem high] fold_lnA run_index_lnA
def cod1 (k : Nat) : Cod := ⟨fun _ => 0, fun _ => 0, fun _ => 0, fun _ => 0, cntK k⟩
def cod2 (m : Nat) : Cod := ⟨fun _ => 0, fun _ => 0, fun j => if j < m + 1 then fstF j else 0, fun j => if j < m + 1 then plcF j else 0, cntF⟩
def cod3 (k : Nat) : Cod := ⟨fun j => if j < k then numF j else 0, ordK k, fstF, plcF, cntF⟩
/-- While the symbols are laid: how many of each length were. -/
structure UsR (w : World) (p : Nat) (hd : List Value) (b k : Nat) (wr : World) : Prop where
  ge : w.heap.size ≤ b
  ne : b < wr.heap.size
  cod : CodAt wr p hd (cod3 k)
  on : Only (· = p) w wr
  us : Blk wr b 181 (tab .i64 31 (cntK k)).toArray
theorem cntK_le (k n : Nat) : cntK k n ≤ k := by
  unfold cntK
  exact Nat.le_trans (List.length_filter_le _ _) (by simp; omega)
set_option maxRecDepth 100000 in
set_option maxHeartbeats 3200000 in
theorem hf_lay (p : Nat) (hd : List Value) (w : World) (h : CodAt w p hd Cod.zero) : Calls Tryz.prog 106 #[.pointer (some ⟨p, 4, none⟩)] w fun e w' => e = .returned (.tuple #[]) ∧ CodAt w' p hd Cod.made ∧ Only (· = p) w w' := by
  have HST : Hid (CodAt w p hd (cod1 0) ∧ Only (· = p) w w) := Lib.hid ⟨⟨h.1, by
    have e : (cod1 0).cells hd = Cod.zero.cells hd := cod_congr (fun _ _ => rfl) (fun _ _ => rfl) (fun _ _ => rfl) (fun _ _ => rfl) (fun _ _ => by simp [cod1, cntK, Cod.zero])
    rw [e]; exact h.2⟩, Only.refl _ _⟩
  clear h
  go_enter Tryz.func106, Tryz.ntmps106
  go_wp2
  go_loopw [7] (fun i wr => ∃ k : Nat, k ≤ 257 ∧ i = .int .i64 k ∧ CodAt wr p hd (cod1 k) ∧ Only (· = p) w wr) (fun i _ => 257 - (intOf i).toNat)
  case atStart => exact ⟨0, by omega, rfl, HST.out⟩
  case round =>
    obtain ⟨k, hk, rfl, hc, ho⟩ := hrel
    by_cases hlt : k < 257
    · have hlt' : (k : Int) < 257 := by omega
      have h0 : (0 : Int) ≤ (k : Int) := by omega
      have h1 : (k : Int) ≤ 256 := by omega
      have hL := lnI_eq hlt
      have hln := (ln_ok hlt).2.1
      obtain ⟨y, hy⟩ : ∃ y, ln k = y := ⟨_, rfl⟩
      rw [hy] at hL hln
      have hce : wr.cell? ⟨p, 580 + y, none⟩ = some (.int .i64 (cntK k y : Int)) := (hc.cellL _).trans (Cod.get_cnt hc.1 (by omega))
      have hz := hc.frozen (580 + y)
      have hcl := cntK_le k y
      have HS : Hid (CodAt (wr.setCell ⟨p, 580 + y, none⟩ (.int .i64 ((cntK k y : Int) + 1))) p hd (cod1 (k + 1)) ∧ Only (· = p) w (wr.setCell ⟨p, 580 + y, none⟩ (.int .i64 ((cntK k y : Int) + 1)))) := Lib.hid ⟨by
        refine hc.setL _ _ hc.1 ?_
        have := Cod.set_cnt (c := cod1 k) hc.1 (show y < 31 by omega) (cntK k y + 1)
        rw [show ((cntK k y : Int) + 1) = ((cntK k y + 1 : Nat) : Int) by omega, this]
        refine cod_congr (fun _ _ => rfl) (fun _ _ => rfl) (fun _ _ => rfl) (fun _ _ => rfl) (fun i _ => ?_)
        show upF (cntK k) y (cntK k y + 1) i = cntK (k + 1) i
        rw [cntK_succ hlt, hy]
        unfold upF
        by_cases e : i = y
        · subst e; simp
        · rw [if_neg e, if_neg (fun h => e h.symm)]; rfl, ho.step _ _ (.inl rfl)⟩
      clear hc ho hy
      generalize cntK k y = z at *
      have hy0 : (0 : Int) ≤ (y : Int) := by omega
      have hy1 : (y : Int) < 31 := by omega
      have hw1 : IntKind.i64.wrap ((z : Int) + 1) = (z : Int) + 1 := IntWalk.i64_in _ (by omega)
      go_wp2_with fail
      go_still_tail 11, (by kernel_rfl)
      change wpList _ _ _ _ _ (World.drew _)
      clear hw1
      go_wp2_with fail
      go_roundw
      case rel => exact ⟨k + 1, by omega, by go_num, HS.out.1.fresh (Fresh.drew _), HS.out.2.drewS⟩
      case measure => simp [intOf]; omega
    · obtain rfl : k = 257 := by omega
      have HST2 : Hid (CodAt wr p hd (cod2 0) ∧ Only (· = p) w wr) := Lib.hid ⟨⟨hc.1, by
        have e : (cod2 0).cells hd = (cod1 257).cells hd := cod_congr (fun _ _ => rfl) (fun _ _ => rfl) (fun i hi => by
          show (if i < 0 + 1 then fstF i else 0) = 0
          by_cases h : i < 0 + 1
          · obtain rfl : i = 0 := by omega
            rfl
          · rw [if_neg h]) (fun i hi => by
          show (if i < 0 + 1 then plcF i else 0) = 0
          by_cases h : i < 0 + 1
          · obtain rfl : i = 0 := by omega
            rfl
          · rw [if_neg h]) (fun i hi => ((tab1 hi).1).symm)
        rw [e]; exact hc.2⟩, ho⟩
      clear hc ho
      obtain ⟨w1, rfl⟩ : ∃ w1 : World, w1 = wr := ⟨_, rfl⟩
      rw [show ((257 : Nat) : Int) = 257 from rfl]
      go_wp2
      go_loopw [3] (fun i wr => ∃ m : Nat, m ≤ 30 ∧ i = .int .i64 ((m : Int) + 1) ∧ CodAt wr p hd (cod2 m) ∧ Only (· = p) w wr) (fun i _ => 31 - (intOf i).toNat)
      case atStart => exact ⟨0, by omega, rfl, HST2.out⟩
      case round =>
        obtain ⟨m, hm, rfl, hc, ho⟩ := hrel
        by_cases hlt : m < 30
        · have hlt' : (m : Int) + 1 ≤ 30 := by omega
          have h0 : (0 : Int) ≤ (m : Int) := by omega
          obtain ⟨_, hcl, hf1, hpl, _⟩ := tab1 (n := m) (by omega)
          obtain ⟨t1, t2, t3⟩ := tab2 hlt
          have y1 : wr.cell? ⟨p, 518 + m, none⟩ = some (.int .u32 (fstF m : Int)) := by
            have := (hc.cellL (518 + m)).trans (Cod.get_fst (c := cod2 m) hc.1 (i := m) (by omega))
            rw [this]; simp [cod2]
          have y2 : wr.cell? ⟨p, 549 + m, none⟩ = some (.int .i64 (plcF m : Int)) := by
            have := (hc.cellL (549 + m)).trans (Cod.get_plc (c := cod2 m) hc.1 (i := m) (by omega))
            rw [this]; simp [cod2]
          have y3 : wr.cell? ⟨p, 580 + m, none⟩ = some (.int .i64 (cntF m : Int)) := (hc.cellL (580 + m)).trans (Cod.get_cnt (c := cod2 m) hc.1 (i := m) (by omega))
          have z1 := hc.frozen (518 + (m + 1))
          have y4 : wr.cell? ⟨p, 518 + (m + 1), none⟩ = some (.int .u32 0) := by
            have := (hc.cellL (518 + (m + 1))).trans (Cod.get_fst (c := cod2 m) hc.1 (i := m + 1) (by omega))
            rw [this]; simp [cod2]
          generalize hF : fstF m = F at *
          generalize hC : cntF m = C at *
          generalize hP : plcF m = P at *
          have e1 : IntKind.u32.wrap (C : Int) = (C : Int) := by rw [IntKind.wrap_u32]; omega
          have e2 : IntKind.u32.wrap ((F : Int) + (C : Int)) = (F : Int) + (C : Int) := by rw [IntKind.wrap_u32]; omega
          have e3 : IntKind.i64.wrap (m : Int) = (m : Int) := IntWalk.i64_in _ (by omega)
          have i1 : (m : Int) < 31 := by omega
          have i2 : (0 : Int) ≤ (m : Int) + 1 := by omega
          have i3 : (m : Int) + 1 < 31 := by omega
          have i4 : ((m : Int) + 1).toNat = m + 1 := by omega
          have e4 : IntKind.u32.wrap (((F : Int) + (C : Int)) * 2) = ((F : Int) + (C : Int)) * 2 := by rw [IntKind.wrap_u32]; omega
          have HM1 : Hid (CodAt (wr.setCell ⟨p, 518 + (m + 1), none⟩ (.int .u32 (((F : Int) + (C : Int)) * 2))) p hd ⟨fun _ => 0, fun _ => 0, fun j => if j < m + 2 then fstF j else 0, (cod2 m).plc, cntF⟩ ∧ Only (· = p) w (wr.setCell ⟨p, 518 + (m + 1), none⟩ (.int .u32 (((F : Int) + (C : Int)) * 2)))) := Lib.hid ⟨by
            refine hc.setL _ _ hc.1 ?_
            have := Cod.set_fst (c := cod2 m) hc.1 (show m + 1 < 31 by omega) ((F + C) * 2)
            rw [show ((F : Int) + (C : Int)) * 2 = (((F + C) * 2 : Nat) : Int) by omega, this]
            refine cod_congr (fun _ _ => rfl) (fun _ _ => rfl) (fun i _ => ?_) (fun _ _ => rfl) (fun _ _ => rfl)
            show upF (fun j => if j < m + 1 then fstF j else 0) (m + 1) ((F + C) * 2) i = if i < m + 2 then fstF i else 0
            unfold upF
            by_cases e : i = m + 1
            · subst e; rw [if_pos rfl, if_pos (by omega), t1]
            · rw [if_neg e]
              show (if i < m + 1 then fstF i else 0) = _
              by_cases h : i < m + 1
              · rw [if_pos h, if_pos (by omega)]
              · rw [if_neg h, if_neg (by omega)], ho.step _ _ (.inl rfl)⟩
          have HT2 := Lib.hid t2
          have HPC : Hid ((P : Int) + (C : Int) ≤ 257) := Lib.hid (by have := (tab1 (n := m) (by omega)).2.2.2.1; omega)
          clear hc ho
          go_upto_region 8 with fail
          go_still_tail 22, (by kernel_rfl)
          change wpList _ _ _ _ _ (World.drew _)
          clear e1 e2 e4 y1 y2 y3
          go_wp2_with fail
          refine wp_gen (fun W => CodAt W p hd ⟨fun _ => 0, fun _ => 0, fun j => if j < m + 2 then fstF j else 0, (cod2 m).plc, cntF⟩ ∧ Only (· = p) w W) ⟨HM1.out.1.fresh (Fresh.drew _), HM1.out.2.drewS⟩ ?_
          clear HM1 z1 y4
          rintro W2 ⟨hc, ho⟩
          have y2 : W2.cell? ⟨p, 549 + m, none⟩ = some (.int .i64 (P : Int)) := by
            rw [hc.cellL, Cod.get_plc hc.1 (by omega), ← hP]; simp [cod2]
          have y3 : W2.cell? ⟨p, 580 + m, none⟩ = some (.int .i64 (C : Int)) := by
            rw [hc.cellL, Cod.get_cnt hc.1 (by omega), ← hC]
          have z2 := hc.frozen (549 + (m + 1))
          have y4 : W2.cell? ⟨p, 549 + (m + 1), none⟩ = some (.int .i64 0) := by
            rw [hc.cellL, Cod.get_plc hc.1 (by omega)]; simp [cod2]
          have e5 : IntKind.i64.wrap ((P : Int) + (C : Int)) = (P : Int) + (C : Int) := IntWalk.i64_in _ (by have := HPC.out; omega)
          have HM2 : Hid (CodAt (W2.setCell ⟨p, 549 + (m + 1), none⟩ (.int .i64 ((P : Int) + (C : Int)))) p hd (cod2 (m + 1)) ∧ Only (· = p) w (W2.setCell ⟨p, 549 + (m + 1), none⟩ (.int .i64 ((P : Int) + (C : Int))))) := Lib.hid ⟨by
            refine hc.setL _ _ hc.1 ?_
            have := Cod.set_plc (c := ⟨fun _ => 0, fun _ => 0, fun j => if j < m + 2 then fstF j else 0, (cod2 m).plc, cntF⟩) hc.1 (show m + 1 < 31 by omega) (P + C)
            rw [show ((P : Int) + (C : Int)) = ((P + C : Nat) : Int) by omega, this]
            refine cod_congr (fun _ _ => rfl) (fun _ _ => rfl) (fun i _ => rfl) (fun i _ => ?_) (fun _ _ => rfl)
            show upF (fun j => if j < m + 1 then plcF j else 0) (m + 1) (P + C) i = if i < m + 1 + 1 then plcF i else 0
            unfold upF
            by_cases e : i = m + 1
            · subst e; rw [if_pos rfl, if_pos (by omega), HT2.out]
            · rw [if_neg e]
              show (if i < m + 1 then plcF i else 0) = _
              by_cases h : i < m + 1
              · rw [if_pos h, if_pos (by omega)]
              · rw [if_neg h, if_neg (by omega)], ho.step _ _ (.inl rfl)⟩
          clear hc ho hF hC hP t1 t2 t3 hf1 hpl
          go_upto_region 9 with fail
          go_still_tail 20, (by kernel_rfl)
          change wpList _ _ _ _ _ (World.drew _)
          clear e5 y2 y3 e3
          go_wp2_with fail
          go_roundw
          case rel => exact ⟨m + 1, by omega, by go_num, HM2.out.1.fresh (Fresh.drew _), HM2.out.2.drewS⟩
          case measure => simp [intOf]; omega
        · obtain rfl : m = 30 := by omega
          rw [show ((30 : Nat) : Int) = 30 from rfl, show (30 : Int) + 1 = 31 from rfl]
          have HC2 : Hid (CodAt wr p hd (cod3 0) ∧ Only (· = p) w wr) := Lib.hid ⟨⟨hc.1, by
            have e : (cod3 0).cells hd = (cod2 30).cells hd := cod_congr (fun i _ => by simp [cod3, cod2]) (fun _ _ => rfl) (fun i hi => by
              show fstF i = if i < 30 + 1 then fstF i else 0
              rw [if_pos (by omega)]) (fun i hi => by
              show plcF i = if i < 30 + 1 then plcF i else 0
              rw [if_pos (by omega)]) (fun _ _ => rfl)
            rw [e]; exact hc.2⟩, ho⟩
          clear hc ho
          obtain ⟨w2, rfl⟩ : ∃ w2 : World, w2 = wr := ⟨_, rfl⟩
          go_upto_region 11 with fail
          obtain ⟨b, hb⟩ : ∃ b, w2.heap.size = b := ⟨_, rfl⟩
          rw [hb]
          refine wp_gen (fun W => UsR w p hd b 0 W) ⟨by have := HC2.out.2.size; omega, by simp [hb], HC2.out.1.fresh (Fresh.alloc _ _), HC2.out.2.allocS _, ?_⟩ ?_
          · have := Blk.mkAt hb (t := 181) (cs := (tab .i64 31 (cntK 0)).toArray)
            exact this
          clear hb
          intro W0 hus
          have HUS := Lib.hid hus
          clear hus
          go_wp2
          go_loopw [68] (fun i wr => ∃ k : Nat, k ≤ 257 ∧ i = .int .i64 k ∧ UsR w p hd b k wr) (fun i _ => 257 - (intOf i).toNat)
          case atStart => exact ⟨0, by omega, rfl, HUS.out⟩
          case round =>
            obtain ⟨k, hk, rfl, hu⟩ := hrel
            have HU := Lib.hid hu
            by_cases hlt : k < 257
            · have hlt' : (k : Int) < 257 := by omega
              have h0 : (0 : Int) ≤ (k : Int) := by omega
              have h1 : (k : Int) ≤ 256 := by omega
              have hL := lnI_eq hlt
              have hln := (ln_ok hlt).2.1
              obtain ⟨s1, s2, s3, s4, s5, s6⟩ := sym hlt
              obtain ⟨y, hy⟩ : ∃ y, ln k = y := ⟨_, rfl⟩
              rw [hy] at hL hln s1 s2 s5 s6
              have hft := (tab1 (n := y) (by omega)).2.2.1
              have hff := (tab1 (n := y) (by omega)).2.2.2.2
              have hpp : 2 ^ y ≤ 2 ^ 30 := Nat.pow_le_pow_right (by omega) hln
              have hcc := cntK_succ hlt y
              rw [if_pos hy] at hcc
              have y1 : wr.cell? ⟨p, 518 + y, none⟩ = some (.int .u32 (fstF y : Int)) := (hu.cod.cellL _).trans (Cod.get_fst (c := cod3 k) hu.cod.1 (by omega))
              have y2 : wr.cell? ⟨b, y, none⟩ = some (.int .i64 (cntK k y : Int)) := by
                rw [hu.us.cell]
                simp only [List.getElem?_toArray]
                exact tab_get (by omega)
              have y3 : wr.cell? ⟨p, 4 + k, none⟩ = some (.int .u32 0) := by
                have := (hu.cod.cellL _).trans (Cod.get_num (c := cod3 k) hu.cod.1 hlt)
                rw [this]; simp [cod3]
              have z3 := hu.cod.frozen (4 + k)
              have HFU : Hid (fstF y + cntK k y = numF k) := Lib.hid s1.symm
              have HPU : Hid (plcF y + cntK k y = posF k) := Lib.hid s2.symm
              have HP0 := Lib.hid s3
              have HCC := Lib.hid hcc
              have hcl := cntK_le k y
              obtain ⟨F, hF⟩ : ∃ F, fstF y = F := ⟨_, rfl⟩
              obtain ⟨U, hU⟩ : ∃ U, cntK k y = U := ⟨_, rfl⟩
              have HF := Lib.hid hF
              have HUU := Lib.hid hU
              have HY := Lib.hid hy
              rw [hF] at y1 hft hff
              rw [hU] at y2 hcl s6
              have i1 : (y : Int) < 31 := by omega
              have i2 : (0 : Int) ≤ (y : Int) := by omega
              have i3 : (k : Int) < 257 := by omega
              have i4 : IntKind.i64.wrap (y : Int) = (y : Int) := IntWalk.i64_in _ (by omega)
              have e1 : IntKind.u32.wrap (U : Int) = (U : Int) := by rw [IntKind.wrap_u32]; omega
              have e2 : IntKind.u32.wrap ((F : Int) + (U : Int)) = (F : Int) + (U : Int) := by rw [IntKind.wrap_u32]; omega
              clear hu s1 s2 s3 s4 s5 hF hU hy hcc hff hpp
              go_upto_region 15 with fail
              go_still_tail 16, (by kernel_rfl)
              change wpList _ _ _ _ _ (World.drew _)
              clear e1 e2
              go_wp2_with fail
              refine wp_gen (fun W => CodAt W p hd ⟨fun j => if j < k + 1 then numF j else 0, ordK k, fstF, plcF, cntF⟩ ∧ Only (· = p) w W ∧ Blk W b 181 (tab .i64 31 (cntK k)).toArray ∧ b < W.heap.size) ⟨CodAt.fresh (HU.out.cod.setL _ _ HU.out.cod.1 ?_) (Fresh.drew _), (HU.out.on.step _ _ (.inl rfl)).drewS, (HU.out.us.far (by have := HU.out.us.ne HU.out.cod.2 (by decide); exact this) _).drew, by have := HU.out.ne; simp; omega⟩ ?_
              · have := Cod.set_num (c := cod3 k) HU.out.cod.1 hlt (F + U)
                rw [show ((F : Int) + (U : Int)) = ((F + U : Nat) : Int) by omega, this]
                refine cod_congr (fun i _ => ?_) (fun _ _ => rfl) (fun _ _ => rfl) (fun _ _ => rfl) (fun _ _ => rfl)
                show upF (fun j => if j < k then numF j else 0) k (F + U) i = if i < k + 1 then numF i else 0
                unfold upF
                by_cases e : i = k
                · subst e; rw [if_pos rfl, if_pos (by omega), ← HFU.out, HF.out, HUU.out]
                · rw [if_neg e]
                  show (if i < k then numF i else 0) = _
                  by_cases h : i < k
                  · rw [if_pos h, if_pos (by omega)]
                  · rw [if_neg h, if_neg (by omega)]
              clear y1 y2 y3 z3
              rintro W2 ⟨hc2, ho2, hu2, hb2⟩
              have HW2 := Lib.hid (And.intro hc2 (And.intro ho2 (And.intro hu2 hb2)))
              have y1 : W2.cell? ⟨p, 549 + y, none⟩ = some (.int .i64 (plcF y : Int)) := (hc2.cellL _).trans (Cod.get_plc hc2.1 (by omega))
              have y2 : W2.cell? ⟨b, y, none⟩ = some (.int .i64 (U : Int)) := by
                rw [hu2.cell]
                simp only [List.getElem?_toArray]
                rw [← HUU.out]
                exact tab_get (by omega)
              obtain ⟨P, hP⟩ : ∃ P, plcF y = P := ⟨_, rfl⟩
              have HP := Lib.hid hP
              have hpu : P + U < 257 := by have := HPU.out; have := HUU.out; have := HP0.out; omega
              rw [hP] at y1
              have y3 : ∃ v, W2.cell? ⟨p, 261 + (P + U), none⟩ = some v := ⟨_, (hc2.cellL _).trans (Cod.get_ord hc2.1 hpu)⟩
              obtain ⟨v3, y3⟩ := y3
              have z3 := hc2.frozen (261 + (P + U))
              have e1 : IntKind.i64.wrap ((P : Int) + (U : Int)) = (P : Int) + (U : Int) := IntWalk.i64_in _ (by omega)
              have i5 : (0 : Int) ≤ (P : Int) + (U : Int) := by omega
              have i6 : (P : Int) + (U : Int) < 257 := by omega
              have i7 : ((P : Int) + (U : Int)).toNat = P + U := by omega
              clear hc2 ho2 hu2 hb2 hP
              go_upto_region 16 with fail
              go_still_tail 15, (by kernel_rfl)
              change wpList _ _ _ _ _ (World.drew _)
              clear e1
              go_upto_region 17 with fail
              refine wp_gen (fun W => CodAt W p hd (cod3 (k + 1)) ∧ Only (· = p) w W ∧ Blk W b 181 (tab .i64 31 (cntK k)).toArray ∧ b < W.heap.size) ⟨CodAt.fresh (HW2.out.1.setL _ _ HW2.out.1.1 ?_) (Fresh.drew _), (HW2.out.2.1.step _ _ (.inl rfl)).drewS, (HW2.out.2.2.1.far (by have := HW2.out.2.2.1.ne HW2.out.1.2 (by decide); exact this) _).drew, by have := HW2.out.2.2.2; simp; omega⟩ ?_
              · have := Cod.set_ord (c := ⟨fun j => if j < k + 1 then numF j else 0, ordK k, fstF, plcF, cntF⟩) HW2.out.1.1 hpu k
                rw [this]
                refine cod_congr (fun i _ => rfl) (fun i _ => ?_) (fun _ _ => rfl) (fun _ _ => rfl) (fun _ _ => rfl)
                show upF (ordK k) (P + U) k i = if i = posF k then k else ordK k i
                rw [← HPU.out, HP.out, HUU.out]
                rfl
              clear y1 y2 y3 z3
              rintro W3 ⟨hc3, ho3, hu3, hb3⟩
              have HW3 := Lib.hid (And.intro hc3 (And.intro ho3 (And.intro hu3 hb3)))
              have y2 : W3.cell? ⟨b, y, none⟩ = some (.int .i64 (U : Int)) := by
                rw [hu3.cell]
                simp only [List.getElem?_toArray]
                rw [← HUU.out]
                exact tab_get (by omega)
              have z2 := hu3.frozen y
              clear hc3 ho3 hu3 hb3
              go_wp2
              go_roundw
              case rel =>
                have hne : b ≠ p := HW3.out.2.2.1.ne HW3.out.1.2 (by decide)
                refine ⟨k + 1, by omega, by go_num, HUS.out.ge, by have := HW3.out.2.2.2; simp; omega, ⟨HW3.out.1.1, HW3.out.1.2.far (fun e => hne e.symm) _⟩, ?_, ?_⟩
                · refine HW3.out.2.1.step _ _ (.inr HUS.out.ge)
                · have := HW3.out.2.2.1.set y (.int .i64 ((U : Int) + 1))
                  rw [show ((tab .i64 31 (cntK k)).toArray.setIfInBounds y (.int .i64 ((U : Int) + 1))) = (tab .i64 31 (cntK (k + 1))).toArray by
                    rw [show ((U : Int) + 1) = ((U + 1 : Nat) : Int) by omega]
                    simp only [List.setIfInBounds_toArray]
                    rw [tab_set, tab_congr (g := cntK (k + 1)) (fun i _ => ?_)]
                    unfold upF
                    rw [cntK_succ hlt, HY.out]
                    by_cases e : i = y
                    · subst e; rw [if_pos rfl, if_pos rfl, HUU.out]
                    · rw [if_neg e, if_neg (fun h => e h.symm)]; rfl] at this
                  exact this
              case measure => simp [intOf]; omega
            · obtain rfl : k = 257 := by omega
              have HFIN : Hid (CodAt wr p hd Cod.made ∧ Only (· = p) w wr) := Lib.hid ⟨⟨hu.cod.1, by
                have e : Cod.made.cells hd = (cod3 257).cells hd := cod_congr (fun i hi => by
                  show numF i = if i < 257 then numF i else 0
                  rw [if_pos hi]) (fun i hi => (ordK_all hi).symm) (fun _ _ => rfl) (fun _ _ => rfl) (fun _ _ => rfl)
                rw [e]; exact hu.cod.2⟩, hu.on⟩
              clear hu
              go_wp2
              go_end0
              exact ⟨rfl, HFIN.out⟩
end Go.Proofs.YtginhebfjbhmnaaGreat

/-
  Package huff: sync.Once; the codes are made once.
-/
namespace Go.Proofs.YtginhebfjbhmnaaGreat
set_option maxRecDepth 100000
set_option linter.unusedVariables false
set_option linter.unusedSimpArgs false
open Go.RowKit
theorem disable (w : World) : (callFunc 119 #[]).run Tryz.prog w = .ok (.value (.tuple #[])) w := run_call_mark0 Tryz.func119 (by kernel_rfl) (by kernel_rfl) (by kernel_rfl) .disable (by kernel_rfl) w
theorem enable (w : World) : (callFunc 121 #[]).run Tryz.prog w = .ok (.value (.tuple #[])) w := run_call_mark0 Tryz.func121 (by kernel_rfl) (by kernel_rfl) (by kernel_rfl) .enable (by kernel_rfl) w
theorem acquire (a : Addr) (w : World) : (callFunc 122 #[.pointer (some a)]).run Tryz.prog w = .ok (.value (.tuple #[])) w := run_call_marked Tryz.func122 (by kernel_rfl) (by kernel_rfl) (by kernel_rfl) .acquire (by kernel_rfl) a w
theorem releaseMerge (a : Addr) (w : World) : (callFunc 124 #[.pointer (some a)]).run Tryz.prog w = .ok (.value (.tuple #[])) w := run_call_marked Tryz.func124 (by kernel_rfl) (by kernel_rfl) (by kernel_rfl) .releaseMerge (by kernel_rfl) a w
theorem store_deferred (a : Addr) (x : Value) (u : FrameMode) (w : World) (hc : w.cell? a = some x) (hz : w.frozen? a = false) :
    CallsD Tryz.prog 114 #[.pointer (some a), .bool true] u w fun e u' w' => u' = u ∧ (e = .returned (.tuple #[]) ∧ w' = w.drew.setCell a (.int .u32 1)) := by
  have hc' : w.drew.cell? a = some x := by go_simp
  have hz' : w.drew.frozen? a = false := by go_simp
  have hst := run_call_store (P := Tryz.prog) Tryz.func117 (by kernel_rfl) (by kernel_rfl) (by kernel_rfl) (by kernel_rfl) (k := .u32) (y := 1) hc' hz'
  go_enter_d Tryz.func114, Tryz.ntmps114
  go_wp2
  go_region_calls
  all_goals (go_end0; exact ⟨rfl, rfl⟩)
set_option maxRecDepth 100000 in
set_option maxHeartbeats 1600000 in
theorem unlock_deferred (a : Addr) (u : FrameMode) (w : World) (hc : w.cell? a = some (.int .i32 1)) (hz : w.frozen? a = false) :
    CallsD Tryz.prog 113 #[.pointer (some a)] u w fun e u' w' => u' = u ∧ (e = .returned (.tuple #[]) ∧ w' = w.setCell a (.int .i32 0)) := by
  have hd := disable
  have he := enable
  have hr := releaseMerge
  have hadd := run_call_add (P := Tryz.prog) Tryz.func125 (by kernel_rfl) (by kernel_rfl) (by kernel_rfl) .i32 (by kernel_rfl) (y := -1) (s := 0) hc hz (by simp [go_sem]; rfl)
  have hcv := run_convert_to_unsafe (P := Tryz.prog) (src := 204) (dst := 208) Tryz.underlying204 Tryz.underlying208 (by kernel_rfl) hc
  go_enter_d Tryz.func113, Tryz.ntmps113
  go_wp2
  go_end0
  all_goals (first | exact ⟨rfl, rfl⟩ | (go_wp2; go_end0; exact ⟨rfl, rfl⟩))
set_option maxRecDepth 100000 in
set_option maxHeartbeats 1600000 in
theorem lock_free (a : Addr) (w : World) (hc : w.cell? a = some (.int .i32 0)) (hz : w.frozen? a = false) :
    Calls Tryz.prog 112 #[.pointer (some a)] w fun e w' => e = .returned (.tuple #[]) ∧ w' = w.setCell a (.int .i32 1) := by
  have hd := disable
  have he := enable
  have ha := acquire
  have hcas := run_call_cas_hit (P := Tryz.prog) Tryz.func120 (by kernel_rfl) (by kernel_rfl) (by kernel_rfl) .i32 (by kernel_rfl) (y := 1) hc hz
  have hc' : (w.setCell a (.int .i32 1)).cell? a = some (.int .i32 1) := World.cell?_setCell_same w a _ hc
  have hcv := run_convert_to_unsafe (P := Tryz.prog) (src := 204) (dst := 208) Tryz.underlying204 Tryz.underlying208 (by kernel_rfl) hc'
  go_enter Tryz.func112, Tryz.ntmps112
  go_wp2
  first | go_end0 | (simp only [Exit.inBlock, Exit.then]; refine bodyPost_ret (results_none rfl _ _ _) rfl ?_) | refine bodyPost_ret (results_none rfl _ _ _) rfl ?_
  all_goals (first | exact ⟨rfl, rfl⟩ | (go_wp2; go_end0; exact ⟨rfl, rfl⟩))
def hdC (d l m : Int) : List Value := [.int .u32 d, .int .i32 l, .int .u32 0, .int .i64 m]
theorem CodAt.h0 {w : World} {p : Nat} {d l m : Int} {c : Cod} (h : CodAt w p (hdC d l m) c) : w.cell? ⟨p, 0, none⟩ = some (.int .u32 d) ∧ w.cell? ⟨p, 1, none⟩ = some (.int .i32 l) ∧ w.cell? ⟨p, 3, none⟩ = some (.int .i64 m) :=
  ⟨(h.cellL 0).trans ((Cod.get_hd h.1 (by omega)).trans rfl), (h.cellL 1).trans ((Cod.get_hd h.1 (by omega)).trans rfl), (h.cellL 3).trans ((Cod.get_hd h.1 (by omega)).trans rfl)⟩
theorem CodAt.set0 {w : World} {p : Nat} {d l m d' : Int} {c : Cod} (h : CodAt w p (hdC d l m) c) : CodAt (w.setCell ⟨p, 0, none⟩ (.int .u32 d')) p (hdC d' l m) c := h.setL _ _ rfl (Cod.set_hd h.1 (by omega) _)
theorem CodAt.set1 {w : World} {p : Nat} {d l m l' : Int} {c : Cod} (h : CodAt w p (hdC d l m) c) : CodAt (w.setCell ⟨p, 1, none⟩ (.int .i32 l')) p (hdC d l' m) c := h.setL _ _ rfl (Cod.set_hd h.1 (by omega) _)
theorem CodAt.set3 {w : World} {p : Nat} {d l m m' : Int} {c : Cod} (h : CodAt w p (hdC d l m) c) : CodAt (w.setCell ⟨p, 3, none⟩ (.int .i64 m')) p (hdC d l m') c := h.setL _ _ rfl (Cod.set_hd h.1 (by omega) _)
def MadeP (p : Nat) (d l : Int) (w : World) (e : Ending) (w' : World) : Prop := e = .returned (.tuple #[]) ∧ CodAt w' p (hdC d l 1) Cod.made ∧ Only (· = p) w w'
set_option maxRecDepth 100000 in
set_option maxHeartbeats 1600000 in
theorem ready_one (p : Nat) (pl : Nat) (d l : Int) (w : World) (hpl : w.cell? ⟨pl, 0, none⟩ = some (.pointer (some ⟨p, 0, none⟩))) (hne : pl ≠ p) (h : CodAt w p (hdC d l 0) Cod.zero) :
    Calls Tryz.prog 105 #[.pointer (some ⟨pl, 0, none⟩)] w (MadeP p d l w) := by
  have HL := Lib.hid (hf_lay p (hdC d l 0) w h)
  have hplt := cell_lt hpl
  have HPL := Lib.hid hpl
  clear h
  go_enter Tryz.func105, Tryz.ntmps105
  go_wp2_with fail
  with_reducible refine HL.out.mono ?_
  rintro e w2 ⟨rfl, hc2, ho2⟩
  have HX := Lib.hid (And.intro hc2 ho2)
  have hp2 : w2.cell? ⟨pl, 0, none⟩ = some (.pointer (some ⟨p, 0, none⟩)) := (ho2.cell hplt hne).trans HPL.out
  have h3 := hc2.h0.2.2
  have z3 := hc2.frozen 3
  have hadd := run_call_add (P := Tryz.prog) Tryz.func110 (by kernel_rfl) (by kernel_rfl) (by kernel_rfl) .i64 (by kernel_rfl) (y := 1) (s := 1) h3 z3 (by simp [go_sem]; rfl)
  clear hc2 ho2 hpl
  go_wp2
  go_end0
  exact ⟨rfl, HX.out.1.set3, HX.out.2.step _ _ (.inl rfl)⟩
end Go.Proofs.YtginhebfjbhmnaaGreat

