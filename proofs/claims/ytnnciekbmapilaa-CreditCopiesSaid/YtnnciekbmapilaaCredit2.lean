/-
  Contracts of package credit: grants.
-/
import Derived.Test.YtnnciekbmapilaaCredit
import Derived.IntWalk
namespace Go.Proofs.Ytnnciekbmapilaa
set_option linter.unusedVariables false
open Go.RowKit

theorem cr_grant_range (c : Nat) (x : Int) (w : World) (h : ¬ (1 ≤ x ∧ x ≤ 2147483647)) :
    Calls Try.prog 12 #[.pointer (some ⟨c, 0, none⟩), .int .i64 x] w fun e w' => e = .returned (.int .i64 11) ∧ w = w' := by
  have H := Lib.hid (fun p w => grow_range p x w h)
  clear h
  go_enter Try.func12, Try.ntmps12
  go_wp2_with fail
  with_reducible refine (H.out _ _).mono ?_
  rintro e w1 ⟨rfl, rfl⟩
  go_wp2_with fail
  go_ret
  exact ⟨rfl, rfl⟩
theorem cr_grant_flow (c g k n t : Nat) (f : Nat → Int) (x : Int) (w : World) (h : Cr w c g k n f t) (h1 : 1 ≤ x) (h2 : x ≤ 2147483647) (h3 : 2147483647 < sumN f n + x) :
    Calls Try.prog 12 #[.pointer (some ⟨c, 0, none⟩), .int .i64 x] w fun e w' => e = .returned (.int .i64 103) ∧ w = w' := by
  have h0 := sumN_nonneg h.pos
  have H := Lib.hid (grow_flow c 0 (sumN f n) x w (by rw [h.blk.cell]; rfl) h1 h2 (by omega) h.mx h3)
  clear h h0 h1 h2 h3
  go_enter Try.func12, Try.ntmps12
  go_wp2_with fail
  with_reducible refine H.out.mono ?_
  rintro e w1 ⟨rfl, rfl⟩
  go_wp2_with fail
  go_ret
  exact ⟨rfl, rfl⟩
structure GrR (w : World) (c g k n t : Nat) (f : Nat → Int) (x s : Int) (p j : Nat) (wr : World) : Prop where
  blk : Blk wr c 51 #[.int .i64 s, .slice (some ⟨g, 0, none⟩) n k, .int .i64 (t : Int)]
  prt : Prt wr g n k (grantK n f t x j)
  ps : Blk wr p 3 (intsA (partsL x n))
  on : Only (fun i => i = c ∨ i = g) w wr
theorem GrR.same {w wr : World} {c g k n t : Nat} {f : Nat → Int} {x s : Int} {p j : Nat} (h : GrR w c g k n t f x s p j wr) (ht : t < n) (h0 : part x n j = 0) : GrR w c g k n t f x s p (j + 1) wr :=
  ⟨h.blk, h.prt.congr (fun i hi => by
    by_cases e : i = fwdN n t j
    · by_cases hj : j < n
      · subst e; rw [grantK_at f x ht hj, h0]; omega
      · have := bckN_lt ht hi
        unfold grantK
        rw [if_pos (by omega), if_pos (by omega)]
    · rw [grantK_other f x ht hi e]), h.ps, h.on⟩
theorem GrR.step {w wr : World} {c g k n t : Nat} {f : Nat → Int} {x s : Int} {p j : Nat} (h : GrR w c g k n t f x s p j wr) (ht : t < n) (hj : j < n) : GrR w c g k n t f x s p (j + 1) (wr.setCell ⟨g, fwdN n t j, none⟩ (.int .i64 (f (fwdN n t j) + part x n j))) := by
  have hb := h.blk
  have hp := h.prt
  have hps := h.ps
  refine ⟨hb.far (fun e => hp.ne hb (by decide) e) _, (hp.set (fwdN_lt ht hj) _).congr (fun i hi => ?_), hps.far (fun e => hp.ne hps (by decide) e) _, h.on.step _ _ (.inl (.inr rfl))⟩
  by_cases e : i = fwdN n t j
  · subst e; rw [updN_same, grantK_at f x ht hj, grantK_at0 f x ht hj]
  · rw [updN_ne e, grantK_other f x ht hi e]
theorem GrR.drew {w wr : World} {c g k n t : Nat} {f : Nat → Int} {x s : Int} {p j : Nat} (h : GrR w c g k n t f x s p j wr) : GrR w c g k n t f x s p j wr.drew :=
  ⟨h.blk.drew, h.prt.fresh (Fresh.drew _), h.ps.drew, h.on.drewS⟩
def GrantPost (c g k n t : Nat) (f : Nat → Int) (x : Int) (w : World) (e : Ending) (w' : World) : Prop := e = .returned (.int .i64 0) ∧ Cr w' c g k n (grantF n f t x) ((t + 1) % n) ∧ Only (fun i => i = c ∨ i = g) w w'
set_option maxHeartbeats 1600000 in
theorem cr_grant_ok (c g k n t : Nat) (f : Nat → Int) (x : Int) (w : World) (h : Cr w c g k n f t) (h1 : 1 ≤ x) (h2 : x ≤ 2147483647) (h3 : sumN f n + x ≤ 2147483647) :
    Calls Try.prog 12 #[.pointer (some ⟨c, 0, none⟩), .int .i64 x] w (GrantPost c g k n t f x w) := by
  have h0 := sumN_nonneg h.pos
  have hN := Cr.ne h
  have H := Lib.hid (grow_ok c 0 (sumN f n) x w (by rw [h.blk.cell]; rfl) (h.blk.frozen 0) h1 h2 (by omega) h3)
  have hb := h.blk.set 0 (.int .i64 (sumN f n + x))
  have hp := h.prt.only (Only.setCell w ⟨c, 0, none⟩ (.int .i64 (sumN f n + x))) (fun e => hN e.symm)
  have ho : Only (fun i => i = c ∨ i = g) w (w.setCell ⟨c, 0, none⟩ (.int .i64 (sumN f n + x))) := (Only.setCell _ _ _).mono (fun i hi => .inl hi)
  have HB : Hid (Blk (w.setCell ⟨c, 0, none⟩ (.int .i64 (sumN f n + x))) c 51 #[.int .i64 (sumN f n + x), .slice (some ⟨g, 0, none⟩) n k, .int .i64 (t : Int)]) := Lib.hid (by simpa using hb)
  have HP := Lib.hid hp
  have HO := Lib.hid ho
  have HH := Lib.hid h
  have n1 := h.n1
  have n2 := h.n2
  have tl := h.tl
  have HK : Hid (∀ j, j < n → 0 ≤ f j ∧ f j ≤ sumN f n) := Lib.hid (fun j hj => ⟨h.pos j hj, sumN_ge h.pos hj⟩)
  generalize hs : sumN f n + x = s at *
  have HS := Lib.hid hs
  clear hs h hb hp ho
  generalize hw0 : w.setCell ⟨c, 0, none⟩ (.int .i64 s) = W at *
  clear hw0
  go_enter Try.func12, Try.ntmps12
  go_wp2_with fail
  with_reducible refine H.out.mono ?_
  rintro e w1 ⟨rfl, hw1⟩
  subst hw1
  have q1 := HB.out.cell 1
  simp only [List.getElem?_toArray, List.getElem?_cons_zero, List.getElem?_cons_succ] at q1
  go_wp2_with fail
  with_reducible refine (partsX x n _ n1 n2 (by omega) (by omega)).mono ?_
  rintro e w2 ⟨p, rfl, hp, hps, hf2⟩
  have HR : Hid (GrR w c g k n t f x s p 0 w2) := Lib.hid ⟨HB.out.fresh hf2, by rw [grantK_zero]; exact HP.out.fresh hf2, hps, HO.out.freshS hf2⟩
  clear q1 hf2 hps hp HB HP HO H
  go_wp2_with fail
  go_loopw [24] (fun i wr => ∃ j : Nat, j ≤ n ∧ i = .int .i64 j ∧ GrR w c g k n t f x s p j wr) (fun i _ => n - (intOf i).toNat)
  case atStart => exact ⟨0, by omega, rfl, HR.out⟩
  case round =>
    obtain ⟨j, hj, rfl, hR⟩ := hrel
    clear HR
    by_cases hlt : j < n
    · have HR := Lib.hid hR
      have cp : wr.cell? ⟨p, j, none⟩ = some (.int .i64 (part x n j)) := by rw [hR.ps.cell, intsA_get, partsL_get _ _ _ hlt]; rfl
      obtain ⟨hx0, hx1⟩ := part_bd x n j (by omega) n1 hlt
      by_cases hz : part x n j = 0
      · have HS2 := Lib.hid (hR.same tl hz)
        rw [hz] at cp
        clear hz hR hx0 hx1
        go_wp2_with fail
        go_roundw
        case rel => exact ⟨j + 1, by omega, by go_num, HS2.out⟩
        case measure => simp [intOf]; omega
      · have HS2 := Lib.hid ((hR.drew).step tl hlt)
        have hdl := fwdN_lt tl hlt
        have HC := Lib.hid (grow_ok g (fwdN n t j) (f (fwdN n t j)) (part x n j) wr.drew (by rw [hR.drew.prt.cell hdl, grantK_at0 f x tl hlt]) (hR.drew.prt.frozen _) (by omega) (by omega) (by have := HK.out _ hdl; omega) (by have := HK.out _ hdl; have := HS.out; omega))
        have hm := fwd_mod tl hlt
        have q1 := hR.blk.cell 1
        have q2 := hR.blk.cell 2
        simp only [List.getElem?_toArray, List.getElem?_cons_zero, List.getElem?_cons_succ] at q1 q2
        generalize fwdN n t j = d at *
        have hpos : 0 < part x n j := by omega
        have hm2 : ((t : Int) + (j : Int)).tmod (n : Int) = (d : Int) := by rw [Int.tmod_eq_emod_of_nonneg (by omega)]; exact hm
        have hw1 : IntKind.i64.wrap ((t : Int) + (j : Int)) = (t : Int) + (j : Int) := IntWalk.i64_in _ (by omega)
        have hw2 : IntKind.i64.wrap (d : Int) = (d : Int) := IntWalk.i64_in _ (by omega)
        have hn0 : ((n : Int) == 0) = false := by simp; omega
        have hn1 : ¬ (n : Int) = 0 := by omega
        have hn2 : ¬ n = 0 := by omega
        generalize hy : part x n j = y at *
        clear hR hz hy hm
        go_wp2_with fail
        go_still_tail 18, (by kernel_rfl)
        change wpList _ _ _ _ _ (World.drew _)
        clear hm2 hw1 hw2
        go_wp2_with fail
        with_reducible refine HC.out.mono ?_
        rintro e w3 ⟨rfl, hw3⟩
        subst hw3
        go_wp2_with fail
        go_roundw
        case rel => exact ⟨j + 1, by omega, by go_num, HS2.out⟩
        case measure => simp [intOf]; omega
    · obtain rfl : j = n := by omega
      have HR := Lib.hid hR
      have q1 := hR.blk.cell 1
      have q2 := hR.blk.cell 2
      have q3 := hR.blk.frozen 2
      simp only [List.getElem?_toArray, List.getElem?_cons_zero, List.getElem?_cons_succ] at q1 q2
      have hm := nxt_mod n1 tl
      have hdl : (t + 1) % j < j := Nat.mod_lt _ (by omega)
      obtain ⟨d, hd⟩ : ∃ d, (t + 1) % j = d := ⟨_, rfl⟩
      rw [hd] at hm hdl
      have HD := Lib.hid hd
      clear hd
      have hm2 : ((t : Int) + 1).tmod (j : Int) = (d : Int) := by rw [Int.tmod_eq_emod_of_nonneg (by omega)]; exact hm
      have hw1 : IntKind.i64.wrap ((t : Int) + 1) = (t : Int) + 1 := IntWalk.i64_in _ (by omega)
      have hw2 : IntKind.i64.wrap (d : Int) = (d : Int) := IntWalk.i64_in _ (by omega)
      have hn0 : ((j : Int) == 0) = false := by simp; omega
      have hn1 : ¬ (j : Int) = 0 := by omega
      have hn2 : ¬ j = 0 := by omega
      clear hR hm
      go_wp2_with fail
      go_still_tail 14, (by kernel_rfl)
      change wpList _ _ _ _ _ (World.drew _)
      clear hm2 hw1 hw2
      go_wp2
      go_ret
      have hs := HS.out
      have hb2 := HR.out.drew.blk.set 2 (.int .i64 (d : Int))
      have hb3 : Blk (wr.drew.setCell ⟨c, 2, none⟩ (.int .i64 (d : Int))) c 51 #[.int .i64 s, .slice (some ⟨g, 0, none⟩) j k, .int .i64 (d : Int)] := by simpa using hb2
      have hd := HD.out
      subst hd
      refine ⟨rfl, ⟨?_, ?_, n1, n2, hdl, grantF_pos tl HH.out.pos (by omega), ?_⟩, HR.out.drew.on.step _ _ (.inl (.inl rfl))⟩
      · rw [sum_grantF f x tl, hs]; exact hb3
      · exact (HR.out.drew.prt.only (Only.setCell _ ⟨c, 2, none⟩ _) (fun e => hN e.symm)).congr (grantK_all f x tl)
      · rw [sum_grantF f x tl, hs]; omega
end Go.Proofs.Ytnnciekbmapilaa
