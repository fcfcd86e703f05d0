/-
  The laws' small.
-/
import Derived.Test.YtmeeofplpffboaaDoorClnG
import Derived.Test.YtmeeofplpffboaaDoorClnO
namespace Go.Proofs.YtmeeofplpffboaaDoor
set_option maxRecDepth 100000
set_option linter.unusedVariables false
set_option linter.unusedSimpArgs false
open Go.RowKit
def sz5 (f : FldT) : Nat := 5 + f.1.size + f.2.size
def sum21 (l : List FldT) : Nat := (l.map sz5).sum
theorem sum21_take {l : List FldT} {k : Nat} {f : FldT} (h : l[k]? = some f) : sum21 (l.take (k + 1)) = sum21 (l.take k) + sz5 f := by
  obtain ⟨hk, rfl⟩ := List.getElem?_eq_some_iff.1 h
  unfold sum21
  rw [List.take_succ_eq_append_getElem hk, List.map_append, List.sum_append]
  rfl
theorem sum21_mem {l : List FldT} {f : FldT} (h : f ∈ l) : sz5 f ≤ sum21 l := by
  induction l with
  | nil => cases h
  | cons g r ih =>
    unfold sum21 at *
    simp only [List.map_cons, List.sum_cons]
    rcases List.mem_cons.1 h with rfl | h
    · omega
    · have := ih h; omega
theorem sum21_len (l : List FldT) : 5 * l.length ≤ sum21 l := by
  induction l with
  | nil => simp [sum21]
  | cons g r ih =>
    unfold sum21 at *
    simp only [List.map_cons, List.sum_cons, List.length_cons]
    have : 5 ≤ sz5 g := by unfold sz5; omega
    omega
/-- Fields that are gone through. -/
def Small21 (l : List FldT) : Prop := l.length ≤ 400 ∧ ∀ f ∈ l, f.1.size ≤ 2000 ∧ f.2.size ≤ 2000
theorem small21_of {l : List FldT} (h : sum21 l ≤ 2000) : Small21 l := ⟨by have := sum21_len l; omega, fun f hf => by
  have := sum21_mem hf
  unfold sz5 at this
  omega⟩
def SmlP (l : List FldT) (w : World) (e : Ending) (w' : World) : Prop := ∃ r : Bool, e = .returned (.bool r) ∧ (r = true → Small21 l) ∧ Fresh w w'
theorem sm_nums {s a b k n : Nat} (h : s ≤ 2000) (ha : a ≤ 140737488351232) (hb : b ≤ 140737488351232) (hk : k < n) (hn : n ≤ 140737488351232) : IntKind.i64.wrap (5 + (a : Int)) = 5 + (a : Int) ∧ IntKind.i64.wrap (5 + (a : Int) + (b : Int)) = 5 + (a : Int) + (b : Int) ∧ IntKind.i64.wrap ((s : Int) + (5 + (a : Int) + (b : Int))) = (s : Int) + (5 + (a : Int) + (b : Int)) ∧ ((s + (5 + a + b) : Nat) : Int) = (s : Int) + (5 + (a : Int) + (b : Int)) ∧ (k : Int) < (n : Int) ∧ IntKind.i64.wrap ((k : Int) + 1) = (k : Int) + 1 := ⟨IntWalk.i64_in _ (by omega), IntWalk.i64_in _ (by omega), IntWalk.i64_in _ (by omega), by omega, by omega, IntWalk.i64_in _ (by omega)⟩
set_option maxHeartbeats 6400000 in
theorem l21_small (A0 : Option Addr) (c0 : Nat) (l : List FldT) (w : World) (hm : Many fldD 2 w A0 l) (hl : l.length ≤ 140737488351232) (hok : ∀ f ∈ l, FldT.Ok w f) :
    Calls Tryd.prog 17 #[.slice A0 l.length c0] w (SmlP l w) := by
  have HM := Lib.hid hm
  have HO := Lib.hid hok
  have HYES : Hid (∀ w', sum21 l ≤ 2000 → Fresh w w' → SmlP l w (.returned (.bool true)) w') := Lib.hid (fun w' h hf => ⟨true, rfl, fun _ => small21_of h, hf⟩)
  have HNO : Hid (∀ w', Fresh w w' → SmlP l w (.returned (.bool false)) w') := Lib.hid (fun w' hf => ⟨false, rfl, (fun h => by cases h), hf⟩)
  clear hm hok
  generalize SmlP l w = FP at *
  go_enter Tryd.func17, Tryd.ntmps17
  go_wp2_with fail
  go_loopw [3, 8] (fun s i wr => ∃ k : Nat, k ≤ l.length ∧ i = .int .i64 (k : Int) ∧ s = .int .i64 (sum21 (l.take k) : Int) ∧ sum21 (l.take k) ≤ 2000 ∧ Fresh w wr) (fun _ i _ => l.length - (intOf i).toNat)
  case atStart => exact ⟨0, by omega, rfl, rfl, by simp [sum21], Fresh.refl _⟩
  case round =>
    obtain ⟨k, hk, rfl, rfl, hs, hfr⟩ := hrel
    have HFR := Lib.hid hfr
    by_cases hlt : k < l.length
    · obtain ⟨f, hx⟩ : ∃ f, l[k]? = some f := ⟨_, List.getElem?_eq_getElem hlt⟩
      obtain ⟨b, o, rfl, hb, g0, g1⟩ := HM.out.fdAt k f hx
      have e0 := (hfr.cell (p := ⟨b, o + k * 2, none⟩) hb).trans g0
      have e1 := (hfr.cell (p := ⟨b, o + k * 2 + 1, none⟩) hb).trans g1
      have HT := Lib.hid (sum21_take hx)
      obtain ⟨o1, o2⟩ := HO.out f (List.mem_of_getElem? hx)
      obtain ⟨n1, n2, n3, n4, n5, n6⟩ := sm_nums hs o1 o2 hlt hl
      have HN4 := Lib.hid n4
      unfold sz5 at HT
      have HS := Lib.hid hs
      obtain ⟨f1, f2⟩ := f
      simp only at e0 e1 n1 n2 n3 HT HN4
      clear hx g0 g1 hfr o1 o2 n4 hs
      obtain ⟨s0, hs0⟩ : ∃ s0, sum21 (l.take k) = s0 := ⟨_, rfl⟩
      rw [hs0] at n3 HT HN4 HS ⊢
      clear hs0
      go_upto_region 5 with fail
      refine wp_gen (fun W => Blk W wr.heap.size 23 #[.string f1, .string f2] ∧ Fresh wr W) ⟨Blk.new wr _ _, Fresh.alloc _ _⟩ ?_
      rintro W ⟨hbw, hfw⟩
      obtain ⟨p, hp⟩ : ∃ p, wr.heap.size = p := ⟨_, rfl⟩
      rw [hp] at hbw ⊢
      clear hp e0 e1
      obtain ⟨y0, y1⟩ := hbw.c2
      have HFW := Lib.hid hfw
      clear hbw hfw
      by_cases hbig : s0 + (5 + f1.size + f2.size) ≤ 2000
      · have d0 : decide ((2000 : Int) < (s0 : Int) + (5 + (f1.size : Int) + (f2.size : Int))) = false := decide_eq_false (by omega)
        have HBG := Lib.hid hbig
        clear hbig
        go_wp2
        go_roundw
        case rel => exact ⟨k + 1, by omega, by go_num, by rw [HT.out, HN4.out], by rw [HT.out]; exact HBG.out, HFR.out.trans HFW.out⟩
        case measure => simp [intOf]; omega
      · have d0 : (2000 : Int) < (s0 : Int) + (5 + (f1.size : Int) + (f2.size : Int)) := by omega
        have HQ := Lib.hid (HNO.out W (HFR.out.trans HFW.out))
        clear hbig
        go_wp2
        exact HQ.out
    · obtain rfl : k = l.length := by omega
      have HQ := Lib.hid (HYES.out wr (by rw [List.take_length] at hs; exact hs) hfr)
      clear hfr hs
      have hlt' : ¬ (l.length : Int) < (l.length : Int) := by omega
      go_wp2_with fail
      exact HQ.out
end Go.Proofs.YtmeeofplpffboaaDoor

