/-
  Package clean: Check; the laws' fixed answer.
-/
import Derived.Test.YtapikjhfgcbifaaGreatDoorClnF
namespace Go.Proofs.YtapikjhfgcbifaaGreatDoor
set_option maxRecDepth 100000
set_option linter.unusedVariables false
set_option linter.unusedSimpArgs false
open Go.RowKit
def wrongC (f : FldT) : Nat := if nameB f.1.data.toList = false ∨ hopB f.1 f.2 = true then 30 else if valB f.2.data.toList = false then 31 else 0
/-- The first error of lines. -/
def chkR : List LnD → Nat
  | [] => 0
  | x :: r => if wrongC x.1 ≠ 0 then wrongC x.1 else chkR r
theorem chkR_ok : ∀ {l : List LnD}, (∀ (j : Nat) x, l[j]? = some x → wrongC x.1 = 0) → chkR l = 0
  | [], _ => rfl
  | x :: r, h => by
    unfold chkR
    rw [if_neg (by rw [h 0 x rfl]; simp)]
    exact chkR_ok (fun j y hy => h (j + 1) y (by simpa using hy))
theorem chkR_bad : ∀ {l : List LnD} {k : Nat} {x : LnD}, l[k]? = some x → (∀ (j : Nat) y, j < k → l[j]? = some y → wrongC y.1 = 0) → wrongC x.1 ≠ 0 → chkR l = wrongC x.1
  | [], k, f, h, _, _ => by cases h
  | g :: r, 0, f, h, _, hf => by
    simp at h
    subst h
    unfold chkR
    rw [if_pos hf]
  | g :: r, k + 1, f, h, ha, hf => by
    unfold chkR
    rw [if_neg (by rw [ha 0 g (by omega) rfl]; simp)]
    exact chkR_bad (l := r) (k := k) (by simpa using h) (fun j y hj hy => ha (j + 1) y (by omega) (by simpa using hy)) hf
theorem okC_succ {l : List LnD} {k : Nat} {x : LnD} (h : ∀ (j : Nat) y, j < k → l[j]? = some y → wrongC y.1 = 0) (hk : l[k]? = some x) (hx : wrongC x.1 = 0) : ∀ (j : Nat) y, j < k + 1 → l[j]? = some y → wrongC y.1 = 0 := by
  intro j y hj hy
  by_cases e : j = k
  · subst e
    rw [hk] at hy
    cases hy
    exact hx
  · exact h j y (by omega) hy
def ChkP (l : List LnD) (w : World) (e : Ending) (w' : World) : Prop := ∃ n : Nat, e = .returned (.int .i64 (n : Int)) ∧ chkR l = n ∧ Fresh w w'
set_option maxHeartbeats 6400000 in
theorem cl_check (A0 : Option Addr) (c0 : Nat) (l : List LnD) (w : World) (hm : Many lnD 3 w A0 l) (hl : l.length ≤ 1000000) (hs : ∀ x ∈ l, x.1.2.size ≤ 1000000) :
    Calls Tryz.prog 28 #[.slice A0 l.length c0] w (ChkP l w) := by
  have HM := Lib.hid hm
  have HS := Lib.hid hs
  have HBAD : Hid (∀ (k n : Nat) (x : LnD) (w' : World), l[k]? = some x → (∀ (j : Nat) y, j < k → l[j]? = some y → wrongC y.1 = 0) → wrongC x.1 = n → n ≠ 0 → Fresh w w' → ChkP l w (.returned (.int .i64 (n : Int))) w') := Lib.hid (fun k n x w' hx ha hn h0 hf => by
    subst hn
    exact ⟨_, rfl, chkR_bad hx ha h0, hf⟩)
  have HFIN : Hid (∀ w', (∀ (j : Nat) y, l[j]? = some y → wrongC y.1 = 0) → Fresh w w' → ChkP l w (.returned (.int .i64 0)) w') := Lib.hid (fun w' h hf => ⟨0, rfl, chkR_ok h, hf⟩)
  clear hm hs
  generalize ChkP l w = FP at *
  go_enter Tryz.func28, Tryz.ntmps28
  go_wp2_with fail
  go_loopw [7] (fun i wr => ∃ k : Nat, k ≤ l.length ∧ i = .int .i64 (k : Int) ∧ (∀ (j : Nat) y, j < k → l[j]? = some y → wrongC y.1 = 0) ∧ Fresh w wr) (fun i _ => l.length - (intOf i).toNat)
  case atStart => exact ⟨0, by omega, rfl, fun j g hj => by omega, Fresh.refl _⟩
  case round =>
    obtain ⟨k, hk, rfl, hok, hfr⟩ := hrel
    have HOK := Lib.hid hok
    have HFR := Lib.hid hfr
    clear hok
    by_cases hlt : k < l.length
    · have hlt' : (k : Int) < (l.length : Int) := by omega
      obtain ⟨x, hx⟩ : ∃ x, l[k]? = some x := ⟨_, List.getElem?_eq_getElem hlt⟩
      obtain ⟨b, o, rfl, hb, g0, g1, g2⟩ := HM.out.lnAt k x hx
      have e0 := (hfr.cell (p := ⟨b, o + k * 3, none⟩) hb).trans g0
      have e1 := (hfr.cell (p := ⟨b, o + k * 3 + 1, none⟩) hb).trans g1
      have e2 := (hfr.cell (p := ⟨b, o + k * 3 + 2, none⟩) hb).trans g2
      have HX := Lib.hid hx
      have HWR : Hid (wrongC x.1 = if nameB x.1.1.data.toList = false ∨ hopB x.1.1 x.1.2 = true then 30 else if valB x.1.2.data.toList = false then 31 else 0) := Lib.hid rfl
      have HNM := Lib.hid (fun w => cl_name x.1.1 w)
      have HVL := Lib.hid (fun w => cl_value x.1.2 w (HS.out x (List.mem_of_getElem? hx)))
      have HHP := Lib.hid (fun w => cl_hop x.1.1 x.1.2 w)
      obtain ⟨bn, hbn⟩ : ∃ b, nameB x.1.1.data.toList = b := ⟨_, rfl⟩
      obtain ⟨bv, hbv⟩ : ∃ b, valB x.1.2.data.toList = b := ⟨_, rfl⟩
      obtain ⟨bh, hbh⟩ : ∃ b, hopB x.1.1 x.1.2 = b := ⟨_, rfl⟩
      rw [hbn, hbv, hbh] at HWR
      rw [hbn] at HNM
      rw [hbv] at HVL
      rw [hbh] at HHP
      clear hx g0 g1 g2 hfr hbn hbv hbh
      obtain ⟨⟨f1, f2⟩, nv⟩ := x
      simp only at e0 e1 e2 HNM HVL HHP
      go_upto_region 4 with fail
      refine wp_gen (fun W => Blk W wr.heap.size 38 #[.string f1, .string f2, .bool nv] ∧ Fresh wr W) ⟨Blk.new wr _ _, Fresh.alloc _ _⟩ ?_
      rintro W ⟨hbw, hfw⟩
      obtain ⟨p, hp⟩ : ∃ p, wr.heap.size = p := ⟨_, rfl⟩
      rw [hp] at hbw ⊢
      clear hp e0 e1 e2
      obtain ⟨y0, y1, y2⟩ := hbw.c3
      have HBW := Lib.hid hbw
      have HFW := Lib.hid hfw
      clear hbw hfw
      cases bn
      · have HB := Lib.hid (HBAD.out k 30 ((f1, f2), nv) W HX.out HOK.out (by rw [HWR.out]; rfl) (by omega) (HFR.out.trans HFW.out))
        go_wp2_with fail
        with_reducible refine (HNM.out _).mono ?_
        rintro e w5 ⟨rfl, hw⟩
        obtain rfl : W = w5 := hw.symm
        go_wp2_with fail
        exact HB.out
      go_wp2_with fail
      with_reducible refine (HNM.out _).mono ?_
      rintro e w5 ⟨rfl, hw⟩
      obtain rfl : W = w5 := hw.symm
      go_wp2_with fail
      with_reducible refine (HHP.out _).mono ?_
      rintro e w7 ⟨rfl, hf7⟩
      obtain ⟨y0, y1, y2⟩ := (HBW.out.fresh hf7).c3
      have HBW7 := Lib.hid (HBW.out.fresh hf7)
      have HF7 := Lib.hid (HFW.out.trans hf7)
      clear hf7 HBW HFW
      cases bh
      rotate_left
      · have HB := Lib.hid (HBAD.out k 30 ((f1, f2), nv) w7 HX.out HOK.out (by rw [HWR.out]; rfl) (by omega) (HFR.out.trans HF7.out))
        go_wp2_with fail
        exact HB.out
      go_wp2_with fail
      with_reducible refine (HVL.out _).mono ?_
      rintro e w6 ⟨rfl, hf6⟩
      have HF6 := Lib.hid (HF7.out.trans hf6)
      clear hf6 HBW7 HF7
      cases bv
      · have HB := Lib.hid (HBAD.out k 31 ((f1, f2), nv) w6 HX.out HOK.out (by rw [HWR.out]; rfl) (by omega) (HFR.out.trans HF6.out))
        go_wp2_with fail
        exact HB.out
      have HQ := Lib.hid (okC_succ HOK.out HX.out (by rw [HWR.out]; rfl))
      go_wp2_with fail
      go_roundw
      case rel => exact ⟨k + 1, by omega, by go_num, HQ.out, HFR.out.trans HF6.out⟩
      case measure => simp [intOf]; omega
    · obtain rfl : k = l.length := by omega
      have HQ := Lib.hid (HFIN.out wr (fun j y hy => HOK.out j y (List.getElem?_eq_some_iff.1 hy).1 hy) hfr)
      clear hfr
      go_wp2_with fail
      exact HQ.out
theorem many_fd1 {w : World} {b : Nat} {x : FldT} (h : Blk w b 29 #[.string x.1, .string x.2]) : Many fldD 2 w (some ⟨b, 0, none⟩) [x] := fun _ => by
  refine ⟨b, 0, rfl, h.lt, fun i hi j hj => ?_⟩
  obtain rfl : i = 0 := by simp at hi; omega
  rcases (show j = 0 ∨ j = 1 by omega) with rfl | rfl
  · rw [h.cell]; rfl
  · rw [h.cell]; rfl
theorem many_fd3 {w : World} {b : Nat} {x y z : FldT} (h : Blk w b 29 #[.string x.1, .string x.2, .string y.1, .string y.2, .string z.1, .string z.2]) : Many fldD 2 w (some ⟨b, 0, none⟩) [x, y, z] := fun _ => by
  refine ⟨b, 0, rfl, h.lt, fun i hi j hj => ?_⟩
  have hi' : i = 0 ∨ i = 1 ∨ i = 2 := by simp at hi; omega
  rcases hi' with rfl | rfl | rfl <;> rcases (show j = 0 ∨ j = 1 by omega) with rfl | rfl <;> (rw [h.cell]; rfl)
end Go.Proofs.YtapikjhfgcbifaaGreatDoor

