/-
  Package reg: what a registry is; New, Open, Live, Last.
-/
import Derived.Test.YtjediikcfhdgiaaDoorReg
import Derived.Test.YtjediikcfhdgiaaDoorStateR
import Derived.Test.YtjediikcfhdgiaaDoorChain
import Derived.Maps.Own
import Derived.Maps.OwnOps
import Derived.Maps.OwnSet
import Derived.Deep.RegionHeld3
import Derived.Deep.Cut
namespace Go.Proofs.YtjediikcfhdgiaaDoor
set_option maxRecDepth 100000
set_option linter.unusedVariables false
set_option linter.unusedSimpArgs false
open Go.RowKit Go.Maps
theorem rint_info : (Tryd.prog.info? 3).map (fun i => (i.zero, i.size, i.bytes)) = some (some (.int .i64 0), 1, 8) := by kernel_rfl
/-- How an element reads: a run's block. -/
def ptrR (v : Value) : Option (DataW Unit × List MemPlace) :=
  match v with
  | .pointer (some ⟨b, 0, none⟩) => some (.lit (.int .i64 b), [])
  | .pointer none => some (.lit (.int .i64 (-1)), [])
  | _ => none
theorem ikey : Keyed Tryd.prog 3 := int_keyed Tryd.underlying3
/-- What each tenant has live. -/
def LiveAt (w : World) (lb n : Nat) (L : Nat → Int) : Prop := ∃ cs : Array Value, n ≤ cs.size ∧ Blk w lb 3 cs ∧ ∀ i, i < n → cs[i]? = some (.int .i64 (L i))
theorem LiveAt.only {S : Nat → Prop} {w w' : World} {lb n : Nat} {L : Nat → Int} (h : LiveAt w lb n L) (ho : Only S w w') (hs : ¬ S lb) : LiveAt w' lb n L := by
  obtain ⟨cs, h1, h2, h3⟩ := h
  exact ⟨cs, h1, h2.only ho hs, h3⟩
theorem LiveAt.at {w : World} {lb n : Nat} {L : Nat → Int} (h : LiveAt w lb n L) {i : Nat} (hi : i < n) : w.cell? ⟨lb, i, none⟩ = some (.int .i64 (L i)) ∧ w.frozen? ⟨lb, i, none⟩ = false := by
  obtain ⟨cs, h1, h2, h3⟩ := h
  exact ⟨(h2.cell i).trans (h3 i hi), h2.frozen i⟩
def upI (L : Nat → Int) (i : Nat) (z : Int) : Nat → Int := fun j => if j = i then z else L j
theorem LiveAt.set {w : World} {lb n : Nat} {L : Nat → Int} (h : LiveAt w lb n L) (i : Nat) (z : Int) : LiveAt (w.setCell ⟨lb, i, none⟩ (.int .i64 z)) lb n (upI L i z) := by
  obtain ⟨cs, h1, h2, h3⟩ := h
  refine ⟨cs.setIfInBounds i (.int .i64 z), by simpa using h1, h2.set i _, fun j hj => ?_⟩
  unfold upI
  by_cases e : j = i
  · subst e
    rw [if_pos rfl, Array.getElem?_setIfInBounds, if_pos rfl, if_pos (by omega)]
  · rw [if_neg e, Array.getElem?_setIfInBounds_ne (fun h => e h.symm)]
    exact h3 j hj
theorem LiveAt.made (w : World) (n : Nat) : LiveAt (w.alloc (.cells (madeCells #[.int .i64 0] n) 3)) w.heap.size n (fun _ => 0) := by
  refine ⟨_, Nat.le_of_eq (size_madeCells _ _).symm, Blk.new _ _ _, fun i hi => ?_⟩
  rw [← Array.getElem?_toList, toList_madeCells_one]
  simp [hi]
theorem World.ownsMap.only' {S : Nat → Prop} {w w' : World} {b N : Nat} {D : DataW Unit} (h : w.ownsMap Tryd.prog 3 ptrR b N D) (ho : Only S w w') (hs : ¬ S b) : w'.ownsMap Tryd.prog 3 ptrR b N D := by
  obtain ⟨es, clock, hb, F, h1, h2⟩ := h
  exact ⟨es, clock, (ho.block b (Array.getElem?_eq_some_iff.1 hb).1 hs).trans hb, F, h1, h2⟩
/-- A registry's own block: the slice of what each tenant has live may have more room than it says. -/
def RBlk (w : World) (g mb lb n : Nat) (q last : Int) : Prop := ∃ lc, n ≤ lc ∧ Blk w g 67 #[.int .i64 (n : Int), .int .i64 q, .int .i64 last, .map (some mb), .slice (some ⟨lb, 0, none⟩) n lc]
theorem RBlk.only {S : Nat → Prop} {w w' : World} {g mb lb n : Nat} {q last : Int} (h : RBlk w g mb lb n q last) (ho : Only S w w') (hs : ¬ S g) : RBlk w' g mb lb n q last := by
  obtain ⟨lc, h1, h2⟩ := h
  exact ⟨lc, h1, h2.only ho hs⟩
theorem RBlk.fresh {w w' : World} {g mb lb n : Nat} {q last : Int} (h : RBlk w g mb lb n q last) (hf : Fresh w w') : RBlk w' g mb lb n q last := h.only (S := fun _ => False) (Only.of_fresh hf) id
theorem RBlk.lt {w : World} {g mb lb n : Nat} {q last : Int} (h : RBlk w g mb lb n q last) : g < w.heap.size := by
  obtain ⟨_, _, h⟩ := h
  exact h.lt
theorem RBlk.k0 {w : World} {g mb lb n : Nat} {q last : Int} (h : RBlk w g mb lb n q last) : w.cell? ⟨g, 0, none⟩ = some (.int .i64 (n : Int)) := by
  obtain ⟨_, _, h⟩ := h
  exact h.cell 0
theorem RBlk.k2 {w : World} {g mb lb n : Nat} {q last : Int} (h : RBlk w g mb lb n q last) : w.cell? ⟨g, 2, none⟩ = some (.int .i64 last) := by
  obtain ⟨_, _, h⟩ := h
  exact h.cell 2
theorem RBlk.k3 {w : World} {g mb lb n : Nat} {q last : Int} (h : RBlk w g mb lb n q last) : w.cell? ⟨g, 3, none⟩ = some (.map (some mb)) := by
  obtain ⟨_, _, h⟩ := h
  exact h.cell 3
theorem RBlk.k4 {w : World} {g mb lb n : Nat} {q last : Int} (h : RBlk w g mb lb n q last) : ∃ lc, n ≤ lc ∧ w.cell? ⟨g, 4, none⟩ = some (.slice (some ⟨lb, 0, none⟩) n lc) := by
  obtain ⟨lc, hl, h⟩ := h
  exact ⟨lc, hl, h.cell 4⟩
theorem RBlk.z2 {w : World} {g mb lb n : Nat} {q last : Int} (h : RBlk w g mb lb n q last) : w.frozen? ⟨g, 2, none⟩ = false := by
  obtain ⟨_, _, h⟩ := h
  exact h.frozen 2
theorem RBlk.set2 {w : World} {g mb lb n : Nat} {q last : Int} (h : RBlk w g mb lb n q last) (z : Int) : RBlk (w.setCell ⟨g, 2, none⟩ (.int .i64 z)) g mb lb n q z := by
  obtain ⟨lc, hl, h⟩ := h
  exact ⟨lc, hl, by simpa using h.set 2 (.int .i64 z)⟩
theorem RBlk.ne {w : World} {g mb lb n g' : Nat} {q last : Int} {t : TypeId} {cs : Array Value} (h : RBlk w g mb lb n q last) (h' : Blk w g' t cs) (hne : 67 ≠ t) : g ≠ g' := by
  obtain ⟨_, _, h⟩ := h
  exact h.ne h' hne
/-- A registry. -/
structure RegAt (w : World) (base g mb lb n : Nat) (q last : Int) (L : Nat → Int) (N : Nat) (D : DataW Unit) : Prop where
  blk : RBlk w g mb lb n q last
  live : LiveAt w lb n L
  map : w.ownsMap Tryd.prog 3 ptrR mb N D
  gm : g ≠ mb
  gl : g ≠ lb
  ml : mb ≠ lb
  bg : base ≤ g
  bm : base ≤ mb
  bl : base ≤ lb
theorem RegAt.only {S : Nat → Prop} {w w' : World} {base g mb lb n : Nat} {q last : Int} {L : Nat → Int} {N : Nat} {D : DataW Unit} (h : RegAt w base g mb lb n q last L N D) (ho : Only S w w') (h1 : ¬ S g) (h2 : ¬ S mb) (h3 : ¬ S lb) : RegAt w' base g mb lb n q last L N D :=
  { h with blk := h.blk.only ho h1, live := h.live.only ho h3, map := World.ownsMap.only' h.map ho h2 }
theorem RegAt.fresh {w w' : World} {base g mb lb n : Nat} {q last : Int} {L : Nat → Int} {N : Nat} {D : DataW Unit} (h : RegAt w base g mb lb n q last L N D) (ho : Fresh w w') : RegAt w' base g mb lb n q last L N D := h.only (S := fun _ => False) (Only.of_fresh ho) id id id
def NewRP (n : Nat) (q : Int) (w : World) (e : Ending) (w' : World) : Prop := ∃ g mb lb, e = .returned (.tuple #[.pointer (some ⟨g, 0, none⟩), .int .i64 0]) ∧ RegAt w' w.heap.size g mb lb n q 0 (fun _ => 0) 0 (.map []) ∧ Fresh w w'
theorem rg_new (n : Nat) (q : Int) (w : World) (h0 : 1 ≤ n) (h1 : n ≤ 64) (h2 : 1 ≤ q) (h3 : q ≤ 65536) : Calls Tryd.prog 9 #[.int .i64 (n : Int), .int .i64 q] w (NewRP n q w) := by
  have HT := Lib.hid (fun w => rg_tens_yes (n : Int) w (by omega) (by omega))
  obtain ⟨i, hi, hiz, his, hib⟩ := info_parts rint_info
  have hmk : ∀ W, (Instr.makeSlice 65 (.int .i64 (n : Int)) (.int .i64 (n : Int))).run Tryd.prog W = .ok (.slice (some ⟨W.heap.size, 0, none⟩) n n) (W.alloc (.cells (madeCells #[.int .i64 0] n) 3)) := fun W => by
    have := run_make_rowN (P := Tryd.prog) 65 3 i _ Tryd.underlying65 hi hiz .i64 .i64 n n (Nat.le_refl _) (by rw [hib]; omega) (by omega) W
    rw [his, Nat.mul_one] at this
    exact this
  have hmm := @run_makeMap Tryd.prog
  have d0 : decide (q < 1) = false := decide_eq_false (by omega)
  have d1 : decide (65536 < q) = false := decide_eq_false (by omega)
  have HFIN : Hid (∀ (w1 : World) (C : Array Value), Blk w1 (w.heap.size + 1 + 1) 67 C → C = #[.int .i64 (n : Int), .int .i64 q, .int .i64 0, .map (some w.heap.size), .slice (some ⟨w.heap.size + 1, 0, none⟩) n n] → LiveAt w1 (w.heap.size + 1) n (fun _ => 0) → w1.ownsMap Tryd.prog 3 ptrR w.heap.size 0 (.map []) → Fresh w w1 → NewRP n q w (.returned (.tuple #[.pointer (some ⟨w.heap.size + 1 + 1, 0, none⟩), .int .i64 0])) w1) := Lib.hid (fun w1 C hb hC hl hm hf => by
    subst hC
    exact ⟨_, _, _, rfl, ⟨⟨n, Nat.le_refl n, hb⟩, hl, hm, by omega, by omega, by omega, by omega, by omega, by omega⟩, hf⟩)
  clear hi hiz his hib
  generalize NewRP n q w = PP at *
  go_enter Tryd.func9, Tryd.ntmps9
  go_wp2_with fail
  with_reducible refine (HT.out _).mono ?_
  rintro e w1 ⟨rfl, hw⟩
  obtain rfl : w = w1 := hw.symm
  go_wp2_with fail
  exact HFIN.out _ _ (Blk.mkAt (by simp)) rfl ((show LiveAt ((w.alloc (.map #[] 0)).alloc (.cells (madeCells #[.int .i64 0] n) 3)) (w.heap.size + 1) n (fun _ => 0) by simpa using LiveAt.made (w.alloc (.map #[] 0)) n).only (S := fun _ => False) (Only.of_fresh (Fresh.alloc _ _)) id) (((World.ownsMap_made w Tryd.prog 3 ptrR).alloc _).alloc _) (((Fresh.alloc _ _).allocS _).allocS _)
theorem rg_owner (g : Nat) (n : Nat) (t : Int) (z : Int) (w : World) (h0 : 0 ≤ t) (h1 : t ≤ 1073741823) (h2 : 1 ≤ n) (h3 : n ≤ 64) (hz : t % (n : Int) = z) (hc : w.cell? ⟨g, 0, none⟩ = some (.int .i64 (n : Int))) :
    Calls Tryd.prog 31 #[.pointer (some ⟨g, 0, none⟩), .int .i64 (2 * t + 1)] w fun e w' => e = .returned (.int .i64 z) ∧ w' = w := by
  have HT := Lib.hid (fun w => rg_own_yes t (n : Int) w h0 h1 (by omega) (by omega))
  rw [hz] at HT
  clear hz
  go_enter Tryd.func31, Tryd.ntmps31
  go_wp2_with fail
  with_reducible refine (HT.out _).mono ?_
  rintro e w1 ⟨rfl, hw⟩
  obtain rfl : w = w1 := hw.symm
  go_wp2_with fail
  go_ret
  exact ⟨rfl, rfl⟩
def OpnP (w : World) (base g mb lb n : Nat) (q t : Int) (L : Nat → Int) (o N : Nat) (D : DataW Unit) (e : Ending) (w' : World) : Prop :=
  ∃ (p : Nat) (a : Int) (cs : List Int), e = .returned (.tuple #[.int .i64 (2 * t + 1), .int .i64 0]) ∧ RegAt w' base g mb lb n q (2 * t + 1) (upI L o (L o + 1)) (N + 1) (D.put (.int .i64 (2 * t + 1)) (.lit (.int .i64 (p : Int)))) ∧ RunAt w' p a cs ∧ w.heap.size ≤ p ∧ Only (fun k => k = g ∨ k = mb ∨ k = lb) w w' ∧ a = 1 ∧ (∀ c ∈ cs, c ≤ 1)
theorem rg_open_range (g : Nat) (t : Int) (w : World) (h : ¬ (0 ≤ t ∧ t ≤ 1073741823)) : Calls Tryd.prog 17 #[.pointer (some ⟨g, 0, none⟩), .int .i64 t] w fun e w' => e = .returned (.tuple #[.int .i64 0, .int .i64 11]) ∧ w' = w := by
  have HT := Lib.hid (fun w => rg_tick_no t w h)
  clear h
  go_enter Tryd.func17, Tryd.ntmps17
  go_wp2_with fail
  with_reducible refine (HT.out _).mono ?_
  rintro e w1 ⟨rfl, hw⟩
  obtain rfl : w = w1 := hw.symm
  go_wp2_with fail
  go_ret2
  exact ⟨rfl, rfl⟩
theorem rg_open_state {base g mb lb n : Nat} {q last t : Int} {L : Nat → Int} {N : Nat} {D : DataW Unit} {w : World} (h : RegAt w base g mb lb n q last L N D) (h0 : 0 ≤ t) (h1 : t ≤ 1073741823) (hl : 2 * t + 1 ≤ last) : Calls Tryd.prog 17 #[.pointer (some ⟨g, 0, none⟩), .int .i64 t] w fun e w' => e = .returned (.tuple #[.int .i64 0, .int .i64 25]) ∧ w' = w := by
  have HT := Lib.hid (fun w => rg_tick_yes t w h0 h1)
  have HI := Lib.hid (fun w => rg_id_yes t (2 * t + 1) w h0 h1 rfl)
  have c2 := h.blk.k2
  clear h
  go_enter Tryd.func17, Tryd.ntmps17
  go_wp2_with fail
  with_reducible refine (HT.out _).mono ?_
  rintro e w1 ⟨rfl, hw⟩
  obtain rfl : w = w1 := hw.symm
  go_wp2_with fail
  with_reducible refine (HI.out _).mono ?_
  rintro e w1 ⟨rfl, hw⟩
  obtain rfl : w = w1 := hw.symm
  go_wp2_with fail
  go_ret2
  exact ⟨rfl, rfl⟩
set_option maxHeartbeats 3200000 in
theorem rg_open_quota {base g mb lb n : Nat} {q last t : Int} {L : Nat → Int} {N : Nat} {D : DataW Unit} {w : World} (h : RegAt w base g mb lb n q last L N D) (h0 : 0 ≤ t) (h1 : t ≤ 1073741823) (h2 : 1 ≤ n) (h3 : n ≤ 64) (hl : last < 2 * t + 1) (o : Nat) (ho : t % (n : Int) = (o : Int)) (hq : q ≤ L o) :
    Calls Tryd.prog 17 #[.pointer (some ⟨g, 0, none⟩), .int .i64 t] w fun e w' => e = .returned (.tuple #[.int .i64 0, .int .i64 33]) ∧ Fresh w w' := by
  have hon : o < n := by
    have := Int.emod_lt_of_pos t (show (0 : Int) < (n : Int) by omega)
    omega
  have HT := Lib.hid (fun w => rg_tick_yes t w h0 h1)
  have HI := Lib.hid (fun w => rg_id_yes t (2 * t + 1) w h0 h1 rfl)
  have HO := Lib.hid (fun W hc => rg_owner g n t (o : Int) W h0 h1 h2 h3 ho hc)
  obtain ⟨lc, _, hblk⟩ := h.blk
  have HSK : Hid (∀ w', Fresh w w' → w'.cell? ⟨g, 0, none⟩ = some (.int .i64 (n : Int)) ∧ w'.cell? ⟨g, 1, none⟩ = some (.int .i64 q) ∧ w'.cell? ⟨g, 4, none⟩ = some (.slice (some ⟨lb, 0, none⟩) n lc) ∧ w'.cell? ⟨lb, o, none⟩ = some (.int .i64 (L o)) ∧ Fresh w w') := Lib.hid (fun w' hw => by
    have hb := hblk.fresh hw
    exact ⟨hb.cell 0, hb.cell 1, hb.cell 4, ((h.live.only (S := fun _ => False) (Only.of_fresh hw) id).at hon).1, hw⟩)
  have c2 := h.blk.k2
  have dl : decide (2 * t + 1 ≤ last) = false := decide_eq_false (by omega)
  have ho' : (o : Int) < (n : Int) := by omega
  generalize L o = lo at *
  clear h ho
  go_enter Tryd.func17, Tryd.ntmps17
  go_wp2_with fail
  with_reducible refine (HT.out _).mono ?_
  rintro e w1 ⟨rfl, hw⟩
  obtain rfl : w = w1 := hw.symm
  go_wp2_with fail
  with_reducible refine (HI.out _).mono ?_
  rintro e w1 ⟨rfl, hw⟩
  obtain rfl : w = w1 := hw.symm
  obtain ⟨i2, hi2⟩ : ∃ i, 2 * t + 1 = i := ⟨_, rfl⟩
  rw [hi2] at HO dl ⊢
  clear hi2
  go_upto_region 6 with fail
  obtain ⟨k0, k1, k2, k3, _⟩ := HSK.out w (Fresh.refl _)
  go_region_held3 (fun w' => w'.cell? ⟨g, 0, none⟩ = some (.int .i64 (n : Int)) ∧ w'.cell? ⟨g, 1, none⟩ = some (.int .i64 q) ∧ w'.cell? ⟨g, 4, none⟩ = some (.slice (some ⟨lb, 0, none⟩) n lc) ∧ w'.cell? ⟨lb, o, none⟩ = some (.int .i64 lo) ∧ Fresh w w')
    ((refine HSK.out _ ?_; first | with_reducible assumption | with_reducible exact Fresh.drew _))
    (first | (go_at_call 31; (with_reducible refine (HO.out _ (by first | with_reducible assumption | (exact (HSK.out _ (Fresh.drew _)).1))).mono ?_); rintro e wa ⟨rfl, hwa⟩; have hga : Fresh w wa := by (rw [hwa]; first | with_reducible assumption | with_reducible exact Fresh.drew _)))
  all_goals
    go_wp2_with fail
    go_ret2
    exact ⟨rfl, by first | exact hga | exact Fresh.drew _⟩
set_option maxHeartbeats 6400000 in
theorem rg_open {base g mb lb n : Nat} {q last t : Int} {L : Nat → Int} {N : Nat} {D : DataW Unit} {w : World} (h : RegAt w base g mb lb n q last L N D) (hT : Tbl w) (hbT : 0 < base) (hbw : base ≤ w.heap.size) (h0 : 0 ≤ t) (h1 : t ≤ 1073741823) (h2 : 1 ≤ n) (h3 : n ≤ 64) (hl : last < 2 * t + 1) (o : Nat) (ho : t % (n : Int) = (o : Int)) (hq : L o < q) (hq2 : q ≤ 65536) (hLo : 0 ≤ L o) (hN : N < 1000000) :
    Calls Tryd.prog 17 #[.pointer (some ⟨g, 0, none⟩), .int .i64 t] w (OpnP w base g mb lb n q t L o N D) := by
  have hon : o < n := by
    have := Int.emod_lt_of_pos t (show (0 : Int) < (n : Int) by omega)
    omega
  have HT := Lib.hid (fun w => rg_tick_yes t w h0 h1)
  have HI := Lib.hid (fun w => rg_id_yes t (2 * t + 1) w h0 h1 rfl)
  have HO := Lib.hid (fun W hc => rg_owner g n t (o : Int) W h0 h1 h2 h3 ho hc)
  obtain ⟨lc, _, hblk⟩ := h.blk
  have HSK : Hid (∀ w', Fresh w w' → w'.cell? ⟨g, 0, none⟩ = some (.int .i64 (n : Int)) ∧ w'.cell? ⟨g, 1, none⟩ = some (.int .i64 q) ∧ w'.cell? ⟨g, 4, none⟩ = some (.slice (some ⟨lb, 0, none⟩) n lc) ∧ w'.cell? ⟨lb, o, none⟩ = some (.int .i64 (L o)) ∧ Fresh w w') := Lib.hid (fun w' hw => by
    have hb := hblk.fresh hw
    exact ⟨hb.cell 0, hb.cell 1, hb.cell 4, ((h.live.only (S := fun _ => False) (Only.of_fresh hw) id).at hon).1, hw⟩)
  have c2 := h.blk.k2
  have H := Lib.hid h
  have HTB := Lib.hid hT
  have dl : decide (2 * t + 1 ≤ last) = false := decide_eq_false (by omega)
  have dq : decide (q ≤ L o) = false := decide_eq_false (by omega)
  have ho' : (o : Int) < (n : Int) := by omega
  have HNM : Hid (0 ≤ t ∧ t ≤ 1073741823 ∧ L o < q ∧ q ≤ 65536 ∧ 0 ≤ L o ∧ N < 1000000 ∧ base ≤ w.heap.size ∧ 0 < base) := Lib.hid ⟨h0, h1, hq, hq2, hLo, hN, hbw, hbT⟩
  have HFIN : Hid (∀ (p : Nat) (a : Int) (cs : List Int) (w' : World), RegAt w' base g mb lb n q (2 * t + 1) (upI L o (L o + 1)) (N + 1) (D.put (.int .i64 (2 * t + 1)) (.lit (.int .i64 (p : Int)))) → RunAt w' p a cs → w.heap.size ≤ p → Only (fun k => k = g ∨ k = mb ∨ k = lb) w w' → a = 1 ∧ (∀ c ∈ cs, c ≤ 1) → OpnP w base g mb lb n q t L o N D (.returned (.tuple #[.int .i64 (2 * t + 1), .int .i64 0])) w') := Lib.hid (fun p a cs w' h1 h2 h3 h4 h5 => ⟨p, a, cs, rfl, h1, h2, h3, h4, h5⟩)
  have HRN := Lib.hid (fun w => run_new w)
  clear h ho hq hT hq2 hLo hN hbw hbT
  generalize OpnP w base g mb lb n q t L o N D = PP at *
  go_enter Tryd.func17, Tryd.ntmps17
  go_wp2_with fail
  with_reducible refine (HT.out _).mono ?_
  rintro e w1 ⟨rfl, hw⟩
  obtain rfl : w = w1 := hw.symm
  go_wp2_with fail
  with_reducible refine (HI.out _).mono ?_
  rintro e w1 ⟨rfl, hw⟩
  obtain rfl : w = w1 := hw.symm
  obtain ⟨i2, hi2⟩ : ∃ i, 2 * t + 1 = i := ⟨_, rfl⟩
  rw [hi2] at HO dl HFIN ⊢
  have HI2 := Lib.hid hi2
  clear hi2
  go_upto_region 6 with fail
  obtain ⟨k0, k1, k2, k3, _⟩ := HSK.out w (Fresh.refl _)
  go_region_held3 (fun w' => w'.cell? ⟨g, 0, none⟩ = some (.int .i64 (n : Int)) ∧ w'.cell? ⟨g, 1, none⟩ = some (.int .i64 q) ∧ w'.cell? ⟨g, 4, none⟩ = some (.slice (some ⟨lb, 0, none⟩) n lc) ∧ w'.cell? ⟨lb, o, none⟩ = some (.int .i64 (L o)) ∧ Fresh w w')
    ((refine HSK.out _ ?_; first | with_reducible assumption | with_reducible exact Fresh.drew _))
    (first | (go_at_call 31; (with_reducible refine (HO.out _ (by first | with_reducible assumption | (exact (HSK.out _ (Fresh.drew _)).1))).mono ?_); rintro e wa ⟨rfl, hwa⟩; have hga : Fresh w wa := by (rw [hwa]; first | with_reducible assumption | with_reducible exact Fresh.drew _)))
  all_goals
    refine wx_gen (fun W => Fresh w W) (by first | exact hga | exact Fresh.drew _) ?_
    clear k0 k1 k2 k3 c2
    rintro W1 hW1
    have HW1 := Lib.hid hW1
    clear hW1
    go_wp2_with fail
    with_reducible refine (HRN.out _).mono ?_
    rintro e w2 ⟨p, rfl, hp, hrun2, hf2⟩
    have HW2 := Lib.hid (HW1.out.trans hf2)
    have HP : Hid (w.heap.size ≤ p) := Lib.hid (Nat.le_trans HW1.out.size hp)
    have HDO := Lib.hid (rdo p 0 0 _ w2 hrun2 (HTB.out.fresh HW2.out) (by decide) (by have := HNM.out.2.2.2.2.2.2; have := HP.out; omega))
    clear hrun2 hf2 hp
    go_wp2_with fail
    with_reducible refine HDO.out.mono ?_
    rintro e w3 ⟨rfl, hrun3, ho3⟩
    have hR3 : RegAt w3 base g mb lb n q last L N D := (H.out.fresh HW2.out).only ho3 (by have := H.out.blk.lt; have := HP.out; omega) (by
      obtain ⟨es, clock, hb, _⟩ := H.out.map
      have := (Array.getElem?_eq_some_iff.1 hb).1
      have := HP.out
      omega) (by
      obtain ⟨cs, _, hb, _⟩ := H.out.live
      have := hb.lt
      have := HP.out
      omega)
    have HO3 : Hid (Only (fun k => k = g ∨ k = mb ∨ k = lb) w w3) := Lib.hid ((Only.of_fresh HW2.out).trans' ho3 (fun i hi e => by have := HP.out; omega))
    obtain ⟨w4, hup, hm4, hg4⟩ := hR3.map.update (t := 64) (e := 74) ikey Tryd.underlying64 (by have := HNM.out.2.2.2.2.2.1; unfold maxLen; omega) (key := .int .i64 i2) (val := .pointer (some ⟨p, 0, none⟩)) (keyOf_int_mk Tryd.underlying3 (by have := HNM.out; have := HI2.out; simp [Lit.wf, IntKind.min, IntKind.max, IntKind.signed, IntKind.bits]; omega)) rfl
    have x3 := hR3.blk.k3
    have hR4 : RegAt w4 base g mb lb n q last L (N + 1) (D.put (.int .i64 i2) (.lit (.int .i64 (p : Int)))) := by
      have hO : Only (· = mb) w3 w4 := ⟨hg4.os, hg4.tape, hg4.output, hg4.size, fun k hk hne => hg4.block k hk (fun e => hne (Option.some.inj e))⟩
      exact { hR3 with blk := hR3.blk.only hO (fun e => hR3.gm e), live := hR3.live.only hO (fun e => hR3.ml e.symm), map := hm4 }
    have hO4 : Only (· = mb) w3 w4 := ⟨hg4.os, hg4.tape, hg4.output, hg4.size, fun k hk hne => hg4.block k hk (fun e => hne (Option.some.inj e))⟩
    have HO4 : Hid (Only (fun k => k = g ∨ k = mb ∨ k = lb) w w4) := Lib.hid (HO3.out.trans (hO4.mono (fun i hi => .inr (.inl hi))))
    have hpm : p ≠ mb := by
      obtain ⟨es, clock, hb, _⟩ := H.out.map
      have := (Array.getElem?_eq_some_iff.1 hb).1
      have := HP.out
      omega
    have hrun4 := hrun3.only hO4 hpm
    obtain ⟨a4, ha4⟩ : ∃ a, doA 0 0 = a := ⟨_, rfl⟩
    obtain ⟨cs4, hcs4⟩ : ∃ cs, doL 0 0 [0, 0, 0, 0, 0, 0, 0, 0, 0] = cs := ⟨_, rfl⟩
    have HA4 : Hid (a4 = 1 ∧ ∀ c ∈ cs4, c ≤ 1) := Lib.hid ⟨by rw [← ha4]; decide, by rw [← hcs4]; decide⟩
    rw [ha4, hcs4] at hrun4
    have HR4 := Lib.hid hR4
    have HU4 := Lib.hid hrun4
    clear hR3 hR4 hrun3 hrun4 ho3 hm4 hg4 hO4 hpm ha4 hcs4 HDO HW1 HW2 HO3
    go_upto_region 11 with fail
    refine wp_gen (fun W => RegAt W base g mb lb n q last L (N + 1) (D.put (.int .i64 i2) (.lit (.int .i64 (p : Int)))) ∧ RunAt W p a4 cs4 ∧ Only (fun k => k = g ∨ k = mb ∨ k = lb) w W) ⟨HR4.out, HU4.out, HO4.out⟩ ?_
    clear HR4 HU4 HO4 hup x3
    rintro W5 ⟨hR5, hU5, hO5⟩
    have HR5 := Lib.hid hR5
    have HU5 := Lib.hid hU5
    have HO5 := Lib.hid hO5
    have hlw : IntKind.i64.wrap (L o + 1) = L o + 1 := IntWalk.i64_in _ (by have := HNM.out; omega)
    obtain ⟨lc5, _, hblk5⟩ := HR5.out.blk
    have HSK5 : Hid (∀ w', Fresh W5 w' → w'.cell? ⟨g, 0, none⟩ = some (.int .i64 (n : Int)) ∧ w'.cell? ⟨g, 4, none⟩ = some (.slice (some ⟨lb, 0, none⟩) n lc5) ∧ w'.cell? ⟨lb, o, none⟩ = some (.int .i64 (L o)) ∧ w'.frozen? ⟨lb, o, none⟩ = false ∧ Fresh W5 w') := Lib.hid (fun w' hw => by
      have hb := hblk5.fresh hw
      have hl := (HR5.out.live.only (S := fun _ => False) (Only.of_fresh hw) id).at hon
      exact ⟨hb.cell 0, hb.cell 4, hl.1, hl.2, hw⟩)
    clear hR5 hU5 hO5 hblk5
    obtain ⟨k0, k2, k3, k4, _⟩ := HSK5.out W5 (Fresh.refl _)
    go_region_law (go_simp; go_at_call 31; (with_reducible refine (HO.out _ (HSK5.out _ (Fresh.drew _)).1).mono ?_); rintro e wa ⟨rfl, hwa⟩; obtain rfl : W5.drew = wa := hwa.symm; obtain ⟨m0, m2, m3, m4, _⟩ := HSK5.out _ (Fresh.drew W5))
    all_goals
      refine wx_gen (fun W => RegAt W base g mb lb n q last (upI L o (L o + 1)) (N + 1) (D.put (.int .i64 i2) (.lit (.int .i64 (p : Int)))) ∧ RunAt W p a4 cs4 ∧ Only (fun k => k = g ∨ k = mb ∨ k = lb) w W) ?_ ?_
      focus
        have hr := HR5.out.fresh (Fresh.drew W5)
        have hos := Only.setCell W5.drew ⟨lb, o, none⟩ (.int .i64 (L o + 1))
        have hpl : p ≠ lb := by
          obtain ⟨cs, _, hb, _⟩ := H.out.live
          have := hb.lt
          have := HP.out
          omega
        exact ⟨{ hr with blk := hr.blk.only hos (fun e => hr.gl e), live := hr.live.set o (L o + 1), map := World.ownsMap.only' hr.map hos (fun e => hr.ml e) }, (HU5.out.fresh (Fresh.drew W5)).only hos hpl, (HO5.out.freshS (Fresh.drew W5)).trans (hos.mono (fun i hi => .inr (.inr hi)))⟩
      clear k0 k2 k3 k4 m0 m2 m3 m4 HSK5 HR5 HU5 HO5
      rintro W6 ⟨hR6, hU6, hO6⟩
      have x2 := hR6.blk.k2
      have z2 := hR6.blk.z2
      have HQ : Hid (PP (.returned (.tuple #[.int .i64 i2, .int .i64 0])) (W6.setCell ⟨g, 2, none⟩ (.int .i64 i2))) := Lib.hid (by
        have hos := Only.setCell W6 ⟨g, 2, none⟩ (.int .i64 i2)
        have hpg : p ≠ g := by have := H.out.blk.lt; have := HP.out; omega
        have hb := hR6.blk.set2 i2
        exact HFIN.out p a4 cs4 _ { hR6 with blk := hb, live := hR6.live.only hos (fun e => hR6.gl e.symm), map := World.ownsMap.only' hR6.map hos (fun e => hR6.gm e.symm) } (hU6.only hos hpg) HP.out (hO6.trans (hos.mono (fun i hi => .inl hi))) HA4.out)
      clear hR6 hU6 hO6
      go_wp2_with fail
      first | exact HQ.out | (go_ret2; exact HQ.out)
end Go.Proofs.YtjediikcfhdgiaaDoor

