/-
  Layer 16: the frame of pairs.
-/
import Derived.Test.YtfnggbnacdbcpaaDoorSet3
import Derived.Test.YtfnggbnacdbcpaaDoorOctet
import Derived.Test.YtfnggbnacdbcpaaDoorPay6
import Derived.Deep.RegionHeld3
import Derived.StillTailTactics
namespace Go.Proofs.YtfnggbnacdbcpaaDoor
set_option linter.unusedVariables false
open Go.RowKit

def PrOk (p : Int × Int) : Prop := 0 ≤ p.1 ∧ p.1 ≤ 65535 ∧ 0 ≤ p.2 ∧ p.2 ≤ 4294967295
instance (p : Int × Int) : Decidable (PrOk p) := by unfold PrOk; infer_instance
def prB (p : Int × Int) : List UInt8 := bigL p.1.toNat 2 ++ bigL p.2.toNat 4
theorem prB_len (p : Int × Int) : (prB p).length = 6 := by simp [prB, bigL_length]
def prsB (ps : List (Int × Int)) : List UInt8 := ps.flatMap prB
theorem prsB_len (ps : List (Int × Int)) : (prsB ps).length = 6 * ps.length := by
  induction ps with
  | nil => rfl
  | cons p ps ih =>
    have : (prsB (p :: ps)).length = (prB p).length + (prsB ps).length := by simp [prsB]
    rw [this, ih, prB_len, List.length_cons]
    omega
theorem prsB_drop (ps : List (Int × Int)) (k : Nat) : (prsB ps).drop (6 * k) = prsB (ps.drop k) := by
  induction k generalizing ps with
  | zero => rfl
  | succ k ih =>
    cases ps with
    | nil => simp [prsB]
    | cons p ps =>
      have : prsB (p :: ps) = prB p ++ prsB ps := by simp [prsB]
      rw [this, List.drop_append_of_le_length' (by rw [prB_len]; omega)]
      rw [prB_len, show 6 * (k + 1) - 6 = 6 * k by omega, ih]
      rfl
where
  List.drop_append_of_le_length' {α : Type} {a b : List α} {n : Nat} (h : a.length ≤ n) : (a ++ b).drop n = b.drop (n - a.length) := by
    rw [List.drop_append]
    rw [List.drop_eq_nil_of_le h]
    rfl
theorem prsL_prsB (ps : List (Int × Int)) (h : ∀ p ∈ ps, PrOk p) : prsL ps.length (prsB ps) = ps := by
  apply List.ext_getElem (by rw [prsL_len])
  intro i h1 h2
  have hp := h ps[i] (List.getElem_mem h2)
  obtain ⟨a0, a1, b0, b1⟩ := hp
  have hd : (prsB ps).drop (6 * i) = prB ps[i] ++ prsB (ps.drop (i + 1)) := by
    rw [prsB_drop, List.drop_eq_getElem_cons h2]
    show (ps[i] :: ps.drop (i + 1)).flatMap prB = _
    rw [List.flatMap_cons]
    rfl
  have hd2 : (prsB ps).drop (6 * i + 2) = bigL (ps[i]).2.toNat 4 ++ prsB (ps.drop (i + 1)) := by
    rw [← List.drop_drop, hd, prB, List.append_assoc, List.drop_append, bigL_length]
    simp [bigL_length]
  simp only [prsL, List.getElem_map, List.getElem_range]
  rw [hd2, hd]
  have e1 : ((prB ps[i] ++ prsB (ps.drop (i + 1))).take 2) = bigL (ps[i]).1.toNat 2 := by
    rw [prB, List.append_assoc, List.take_append, bigL_length]
    simp [bigL_length, List.take_of_length_le]
  have e2 : ((bigL (ps[i]).2.toNat 4 ++ prsB (ps.drop (i + 1))).take 4) = bigL (ps[i]).2.toNat 4 := by
    rw [List.take_append, bigL_length]
    simp [bigL_length, List.take_of_length_le]
  rw [e1, e2, numL_bigL, numL_bigL]
  apply Prod.ext
  · show (((ps[i]).1.toNat % 256 ^ 2 : Nat) : Int) = (ps[i]).1
    omega
  · show (((ps[i]).2.toNat % 256 ^ 4 : Nat) : Int) = (ps[i]).2
    omega
theorem prsB_succ (ps : List (Int × Int)) (k : Nat) (p : Int × Int) (h : ps[k]? = some p) : prsB (ps.take (k + 1)) = prsB (ps.take k) ++ bigL p.1.toNat 2 ++ bigL p.2.toNat 4 := by
  obtain ⟨hk, rfl⟩ := List.getElem?_eq_some_iff.1 h
  rw [List.take_succ_eq_append_getElem hk, prsB, List.flatMap_append]
  simp [prsB, prB]
theorem set_rightv (v : Int) (b : Bool) (hb : decide (0 ≤ v ∧ v ≤ 4294967295) = b) (w : World) : Calls Tryd.prog 23 #[.int .i64 v] w fun e w' => e = .returned (.bool b) ∧ w = w' := by
  subst hb
  by_cases h : 0 ≤ v
  · go_enter Tryd.func23, Tryd.ntmps23
    go_wp2_with fail
    go_ret
    exact ⟨by simp [h], rfl⟩
  · have e : decide (0 ≤ v ∧ v ≤ 4294967295) = false := by simp [h]
    rw [e]
    go_enter Tryd.func23, Tryd.ntmps23
    go_wp2_with fail
    go_ret
    exact ⟨rfl, rfl⟩
theorem frm_back {W : World} {g : Nat} {ty : TypeId} {a b c d a' b' c' d' : Value} (h : Blk W g ty #[a, b, c, d]) : Blk ((((W.setCell ⟨g, 0, none⟩ a').setCell ⟨g, 1, none⟩ b').setCell ⟨g, 2, none⟩ c').setCell ⟨g, 3, none⟩ d') g ty #[a', b', c', d'] := by
  have := (((h.set 0 a').set 1 b').set 2 c').set 3 d'
  simpa using this
def FrmBad (co : Int) (w : World) (e : Ending) (w' : World) : Prop := e = .returned (.tuple #[.agg #[.int .i64 0, .int .i64 0, .int .i64 0, .slice none 0 0], .int .i64 co]) ∧ Fresh w w'
def FrmOk (L : List UInt8) (n : Nat) (w : World) (e : Ending) (w' : World) : Prop :=
  ∃ A c, e = .returned (.tuple #[.agg #[.int .i64 4, .int .i64 0, .int .i64 0, .slice A n c], .int .i64 0]) ∧ n ≤ c ∧ c ≤ maxLen ∧ BS w' A L ∧ (∀ b o, A = some ⟨b, o, none⟩ → w.heap.size ≤ b) ∧ Fresh w w'
set_option maxRecDepth 100000 in
set_option maxHeartbeats 3200000 in
theorem set_frame_bad (A : Option Addr) (ps : List (Int × Int)) (c : Nat) (w : World) (hmax : ps.length ≤ 1000) (hm : Many pairC 2 w A ps) (hbd : ∀ p ∈ ps, (-9223372036854775808 ≤ p.1 ∧ p.1 ≤ 9223372036854775807) ∧ (-9223372036854775808 ≤ p.2 ∧ p.2 ≤ 9223372036854775807))
    (k : Nat) (hk : k < ps.length) (hok : ∀ j (h : j < k), PrOk ps[j]) (hno : ¬ PrOk ps[k]) :
    Calls Tryd.prog 14 #[.slice A ps.length c] w (FrmBad 11 w) := by
  have HM := Lib.hid hm
  have HOK := Lib.hid hok
  have HNO := Lib.hid hno
  clear hm hok hno hbd
  go_enter Tryd.func14, Tryd.ntmps14
  go_wp2_with fail
  go_loopw [11] (fun i wr => ∃ (j : Nat), j ≤ k ∧ i = .int .i64 (j : Int) ∧ Blk wr w.heap.size 44 #[.int .i64 0, .int .i64 0, .int .i64 0, .slice none 0 0] ∧ Fresh w wr) (fun i _ => ps.length - (intOf i).toNat)
  case atStart => exact ⟨0, by omega, rfl, Blk.new _ _ _, Fresh.alloc _ _⟩
  case round =>
    obtain ⟨j, hj, rfl, hb, hf⟩ := hrel
    have HB := Lib.hid hb
    have HF := Lib.hid hf
    have hlt : j < ps.length := by omega
    have hlt' : (j : Int) < (ps.length : Int) := by omega
    obtain ⟨⟨n, v⟩, hy⟩ : ∃ y, ps[j]? = some y := ⟨_, List.getElem?_eq_getElem hlt⟩
    obtain ⟨b, o, rfl, hbw, hcc⟩ := HM.out.at j (n, v) hy
    have e0 := (hf.cell (p := ⟨b, o + j * 2 + 0, none⟩) hbw).trans (hcc 0 (by omega))
    have e1 := (hf.cell (p := ⟨b, o + j * 2 + 1, none⟩) hbw).trans (hcc 1 (by omega))
    simp only [pairC, List.getElem?_cons_zero, List.getElem?_cons_succ, Nat.add_zero] at e0 e1
    have hz := hb.lt
    have hpj : ps[j] = (n, v) := (List.getElem?_eq_some_iff.1 hy).2
    by_cases hok : PrOk (n, v)
    · have hjk : j < k := by
        rcases Nat.lt_or_ge j k with h | h
        · exact h
        · obtain rfl : j = k := by omega
          exact absurd (by rw [hpj]; exact hok) HNO.out
      obtain ⟨a0, a1, b0, b1⟩ := hok
      simp only at a0 a1 b0 b1
      have HR := Lib.hid (set_rightv v true (by simp [b0, b1]))
      have d0 : decide (n < 0) = false := by simp; omega
      have d1 : decide (65535 < n) = false := by simp; omega
      clear hy hcc hb hf hpj a0 a1 b0 b1
      go_wp2_with fail
      with_reducible refine (HR.out _).mono ?_
      rintro e w2 ⟨rfl, rfl⟩
      go_wp2_with fail
      go_roundw
      case rel => exact ⟨j + 1, by omega, by go_num, HB.out.alloc _, HF.out.allocS _⟩
      case measure => simp [intOf]; omega
    · obtain ⟨y0, y1, y2, y3⟩ := hb.c4
      obtain ⟨z0, z1, z2, z3⟩ := hb.z4
      by_cases h0 : n < 0
      · clear hy hcc hb hf hpj hok
        go_wp2_with fail
        refine wx_gen (fun W => Blk W w.heap.size 44 #[.int .i64 0, .int .i64 0, .int .i64 0, .slice none 0 0] ∧ Fresh w W) ⟨by first | exact (frm_back HB.out).alloc _ | exact frm_back HB.out, by
          have := HF.out
          repeat (first | with_reducible exact this | with_reducible exact Fresh.refl _ | with_reducible apply Fresh.drewS | with_reducible apply Fresh.allocS | (with_reducible refine Fresh.step2 (Nat.le_refl _) ?_))⟩ ?_
        intro W ⟨hbW, hfW⟩
        obtain ⟨y0, y1, y2, y3⟩ := hbW.c4
        refine bodyPost_ret (v := .tuple #[.agg #[.int .i64 0, .int .i64 0, .int .i64 0, .slice none 0 0], .int .i64 11]) (by simp [results, Tryd.results14, go_sem, y0, y1, y2, y3]) rfl ?_
        exact ⟨rfl, hfW⟩
      · have d0 : decide (n < 0) = false := by simp; omega
        by_cases h1 : 65535 < n
        · clear hy hcc hb hf hpj hok h0
          go_wp2_with fail
          refine wx_gen (fun W => Blk W w.heap.size 44 #[.int .i64 0, .int .i64 0, .int .i64 0, .slice none 0 0] ∧ Fresh w W) ⟨by first | exact (frm_back HB.out).alloc _ | exact frm_back HB.out, by
            have := HF.out
            repeat (first | with_reducible exact this | with_reducible exact Fresh.refl _ | with_reducible apply Fresh.drewS | with_reducible apply Fresh.allocS | (with_reducible refine Fresh.step2 (Nat.le_refl _) ?_))⟩ ?_
          intro W ⟨hbW, hfW⟩
          obtain ⟨y0, y1, y2, y3⟩ := hbW.c4
          refine bodyPost_ret (v := .tuple #[.agg #[.int .i64 0, .int .i64 0, .int .i64 0, .slice none 0 0], .int .i64 11]) (by simp [results, Tryd.results14, go_sem, y0, y1, y2, y3]) rfl ?_
          exact ⟨rfl, hfW⟩
        · have d1 : decide (65535 < n) = false := by simp; omega
          have HR := Lib.hid (set_rightv v false (by
            simp only [PrOk] at hok
            simp
            omega))
          clear hy hcc hb hf hpj hok h0 h1
          go_wp2_with fail
          with_reducible refine (HR.out _).mono ?_
          rintro e w2 ⟨rfl, rfl⟩
          go_wp2_with fail
          refine wx_gen (fun W => Blk W w.heap.size 44 #[.int .i64 0, .int .i64 0, .int .i64 0, .slice none 0 0] ∧ Fresh w W) ⟨by first | exact (frm_back HB.out).alloc _ | exact frm_back HB.out, by
            have := HF.out
            repeat (first | with_reducible exact this | with_reducible exact Fresh.refl _ | with_reducible apply Fresh.drewS | with_reducible apply Fresh.allocS | (with_reducible refine Fresh.step2 (Nat.le_refl _) ?_))⟩ ?_
          intro W ⟨hbW, hfW⟩
          obtain ⟨y0, y1, y2, y3⟩ := hbW.c4
          refine bodyPost_ret (v := .tuple #[.agg #[.int .i64 0, .int .i64 0, .int .i64 0, .slice none 0 0], .int .i64 11]) (by simp [results, Tryd.results14, go_sem, y0, y1, y2, y3]) rfl ?_
          exact ⟨rfl, hfW⟩
end Go.Proofs.YtfnggbnacdbcpaaDoor
