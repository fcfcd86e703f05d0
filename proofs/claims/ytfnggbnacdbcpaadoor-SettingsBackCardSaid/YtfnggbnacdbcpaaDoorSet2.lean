/-
  Layer 16: Apply, and the other calls.
-/
import Derived.Test.YtfnggbnacdbcpaaDoorSet
import Derived.Test.YtfnggbnacdbcpaaDoorChain
import Derived.Test.YtfnggbnacdbcpaaDoorMake
import Derived.Deep.Cut
namespace Go.Proofs.YtfnggbnacdbcpaaDoor
set_option linter.unusedVariables false
open Go.RowKit Go.ChangeShapes Go.WideShapes Go.Deep
set_option maxRecDepth 100000 in
set_option maxHeartbeats 1600000 in
theorem set_set (p : Nat) (s : SetV) (n v : Int) (w : World) (hb : Blk w p 26 s.cells) :
    Calls Tryd.prog 22 #[.pointer (some ⟨p, 0, none⟩), .int .i64 n, .int .i64 v] w fun en w' => en = .returned (.tuple #[]) ∧ Blk w' p 26 (set1 s n v).cells ∧ Only (· = p) w w' := by
  have hp := hb.lt
  have z0 := hb.frozen 0
  have z1 := hb.frozen 1
  have z2 := hb.frozen 2
  have z3 := hb.frozen 3
  have z4 := hb.frozen 4
  have z5 := hb.frozen 5
  have x0 := hb.cell 0
  have x1 := hb.cell 1
  have x2 := hb.cell 2
  have x3 := hb.cell 3
  have x4 := hb.cell 4
  have x5 := hb.cell 5
  simp only [SetV.cells, List.getElem?_toArray, List.getElem?_cons_zero, List.getElem?_cons_succ] at x0 x1 x2 x3 x4 x5
  have HB := Lib.hid hb
  clear hb
  have key : n = 1 ∨ n = 2 ∨ n = 3 ∨ n = 4 ∨ n = 5 ∨ n = 6 ∨ ((n == 1) = false ∧ (n == 2) = false ∧ (n == 3) = false ∧ (n == 4) = false ∧ (n == 5) = false ∧ (n == 6) = false) := by
    simp only [beq_eq_false_iff_ne]
    omega
  rcases key with rfl | rfl | rfl | rfl | rfl | rfl | ⟨n1, n2, n3, n4, n5, n6⟩
  rotate_right
  · go_enter Tryd.func22, Tryd.ntmps22
    go_wp2
    go_returns
    refine ⟨rfl, ?_, Only.refl _ _⟩
    have e : set1 s n v = s := by
      simp only [beq_eq_false_iff_ne] at n1 n2 n3 n4 n5 n6
      simp [set1, n1, n2, n3, n4, n5, n6]
    rw [e]; exact HB.out
  all_goals
    go_enter Tryd.func22, Tryd.ntmps22
    go_wp2
    go_returns
    refine ⟨rfl, ?_, Only.step2 (.inl rfl) (Only.refl _ _)⟩
    exact (HB.out.set _ _)
def codeS (ps : List (Int × Int)) : Int := match ps.find? (fun p => wrongC p.1 p.2 != 0) with
  | none => 0
  | some p => wrongC p.1 p.2
def setsS (s : SetV) (ps : List (Int × Int)) : SetV := ps.foldl (fun s p => set1 s p.1 p.2) s
def applyR (s : SetV) (ps : List (Int × Int)) : SetV × Int × Int × Int := if codeS ps = 0 then (setsS s ps, s.wi, (setsS s ps).wi, 0) else (s, 0, 0, codeS ps)
theorem setsS_take {s : SetV} {ps : List (Int × Int)} {k : Nat} {p : Int × Int} (h : ps[k]? = some p) : setsS s (ps.take (k + 1)) = set1 (setsS s (ps.take k)) p.1 p.2 := by
  obtain ⟨hk, rfl⟩ := List.getElem?_eq_some_iff.1 h
  unfold setsS
  rw [List.take_succ_eq_append_getElem hk, List.foldl_append]
  rfl
theorem codeS_good {ps : List (Int × Int)} : codeS ps = 0 ↔ ∀ p ∈ ps, wrongC p.1 p.2 = 0 := by
  unfold codeS
  constructor
  · intro h p hp
    cases hf : ps.find? (fun p => wrongC p.1 p.2 != 0) with
    | none =>
      have := List.find?_eq_none.1 hf p hp
      simpa using this
    | some q =>
      rw [hf] at h
      have := List.find?_some hf
      simp at this h
      exact absurd h this
  · intro h
    have : ps.find? (fun p => wrongC p.1 p.2 != 0) = none := by
      rw [List.find?_eq_none]
      intro p hp
      simp [h p hp]
    rw [this]
theorem codeS_at {ps : List (Int × Int)} {k : Nat} {p : Int × Int} (h : ps[k]? = some p) (hg : ∀ q ∈ ps.take k, wrongC q.1 q.2 = 0) (hc : wrongC p.1 p.2 ≠ 0) : codeS ps = wrongC p.1 p.2 := by
  obtain ⟨hk, rfl⟩ := List.getElem?_eq_some_iff.1 h
  unfold codeS
  have : ps.find? (fun p => wrongC p.1 p.2 != 0) = some ps[k] := by
    rw [List.find?_eq_some_iff_append]
    refine ⟨by simpa using hc, ps.take k, ps.drop (k + 1), by rw [← List.drop_eq_getElem_cons hk, List.take_append_drop], fun a ha => by simp [hg a ha]⟩
  rw [this]
/-- Within Apply: its cells. -/
structure ApW (w : World) (g : Nat) (s nx : SetV) (W : World) : Prop where
  fr : Fresh w W
  b0 : Blk W g 26 s.cells
  b1 : Blk W (g + 1) 26 (SetV.mk 0 0 0 0 0 0).cells
  b2 : Blk W (g + 1 + 1) 35 #[.int .i64 0, .int .i64 0]
  b3 : Blk W (g + 1 + 1 + 1) 38 #[.int .i64 0, .bool false]
  b4 : Blk W (g + 1 + 1 + 1 + 1) 26 nx.cells
theorem ApW.fresh {w W W' : World} {g : Nat} {s nx : SetV} (h : ApW w g s nx W) (hf : Fresh W W') : ApW w g s nx W' :=
  ⟨h.fr.trans hf, h.b0.fresh hf, h.b1.fresh hf, h.b2.fresh hf, h.b3.fresh hf, h.b4.fresh hf⟩
set_option maxRecDepth 100000 in
set_option maxHeartbeats 3200000 in
theorem set_apply (s : SetV) (A : Option Addr) (ps : List (Int × Int)) (c : Nat) (w : World) (r : SetV × Int × Int × Int) (hR : Rul w) (hle : ps.length ≤ c) (hmax : c ≤ maxLen) (hm : Many pairC 2 w A ps) (hr : applyR s ps = r) :
    Calls Tryd.prog 13 #[s.val, .slice A ps.length c] w fun en w' => en = .returned (.tuple #[r.1.val, .agg #[.int .i64 r.2.1, .int .i64 r.2.2.1], fltC r.2.2.2]) ∧ Fresh w w' := by
  have HR := Lib.hid hR
  have HM := Lib.hid hm
  have HRR := Lib.hid hr
  unfold maxLen at hmax
  clear hR hm hr
  obtain ⟨ta, pu, sm, wi, fr, li⟩ := s
  dsimp only [SetV.val]
  go_enter Tryd.func13, Tryd.ntmps13
  go_wp2
  go_loopw [14] (fun i wr => ∃ (k : Nat), k ≤ ps.length ∧ i = .int .i64 (k : Int) ∧ (∀ q ∈ ps.take k, wrongC q.1 q.2 = 0) ∧ ApW w w.heap.size ⟨ta, pu, sm, wi, fr, li⟩ (setsS ⟨ta, pu, sm, wi, fr, li⟩ (ps.take k)) wr) (fun i _ => ps.length - (intOf i).toNat)
  case atStart =>
    refine ⟨0, by omega, rfl, by simp, ?_⟩
    dsimp only [setsS, List.take, List.foldl]
    refine ⟨?_, ?_, ?_, ?_, ?_, ?_⟩
    all_goals try dsimp only [SetV.cells]
    · repeat (first | with_reducible exact Fresh.refl _ | with_reducible apply Fresh.allocS)
    all_goals repeat (first | (with_reducible refine Blk.mkAt ?_; (simp; done)) | with_reducible apply Blk.alloc)
  case round =>
    obtain ⟨k, hk, rfl, hg, hw⟩ := hrel
    have HW := Lib.hid hw
    have HG := Lib.hid hg
    by_cases hlt : k < ps.length
    · have hlt' : (k : Int) < (ps.length : Int) := by omega
      obtain ⟨⟨n, v⟩, hy⟩ : ∃ y, ps[k]? = some y := ⟨_, List.getElem?_eq_getElem hlt⟩
      obtain ⟨b, o, rfl, hbw, hcc⟩ := HM.out.at k (n, v) hy
      have e0 := (hw.fr.cell (p := ⟨b, o + k * 2 + 0, none⟩) hbw).trans (hcc 0 (by omega))
      have e1 := (hw.fr.cell (p := ⟨b, o + k * 2 + 1, none⟩) hbw).trans (hcc 1 (by omega))
      simp only [pairC, List.getElem?_cons_zero, List.getElem?_cons_succ, Nat.add_zero] at e0 e1
      have HY := Lib.hid hy
      have hz := hw.b4.lt
      clear hy hcc hw hg
      go_wp2_with fail
      with_reducible refine (set_wrong n v _ ((HR.out.fresh HW.out.fr).fresh (Fresh.alloc _ _))).mono ?_
      rintro e w3 ⟨rfl, hf3⟩
      have HW3 := Lib.hid (HW.out.fresh ((Fresh.alloc _ _).trans hf3))
      have HPR := Lib.hid ((Blk.new wr 31 #[.int .i64 n, .int .i64 v]).fresh hf3)
      have hz3 := hf3.size
      simp only [World.size_alloc] at hz3
      have hz4 : wr.heap.size < w3.heap.size := by omega
      clear hf3 e0 e1
      obtain ⟨cc, hcc⟩ : ∃ cc, wrongC n v = cc := ⟨_, rfl⟩
      rw [hcc]
      have HCC := Lib.hid hcc
      clear hcc
      by_cases hc0 : cc = 0
      · subst hc0
        dsimp only [fltC]
        have hd : decide ((0 : Int) ≠ 0) = false := rfl
        rw [hd]
        clear hd
        have p0 := HPR.out.cell 0
        have p1 := HPR.out.cell 1
        simp only [List.getElem?_toArray, List.getElem?_cons_zero, List.getElem?_cons_succ] at p0 p1
        go_wp2_with (go_at_call 17; go_in)
        with_reducible refine (set_set _ _ n v _ (HW3.out.b4.fresh ((Fresh.alloc _ _).allocS _))).mono ?_
        rintro e w4 ⟨rfl, hb4, ho4⟩
        have HW4 : Hid (ApW w w.heap.size ⟨ta, pu, sm, wi, fr, li⟩ (setsS ⟨ta, pu, sm, wi, fr, li⟩ (ps.take (k + 1))) w4) := Lib.hid (by
          rw [setsS_take HY.out]
          have h0 := HW3.out.fresh ((Fresh.alloc w3 (.cells #[.int .i64 0, .bool false] 38)).allocS (.cells #[.int .i64 0, .bool false] 38))
          have hz := h0.b4.lt
          refine ⟨Below.trans h0.fr (Only.below ho4 h0.fr.size (fun k e => by omega)), h0.b0.only ho4 (by omega), h0.b1.only ho4 (by omega), h0.b2.only ho4 (by omega), h0.b3.only ho4 (by omega), hb4⟩)
        clear hb4 ho4 p0 p1
        go_wp2
        go_roundw
        case rel =>
          refine ⟨k + 1, by omega, by go_num, ?_, HW4.out⟩
          intro q hq
          rw [List.take_succ_eq_append_getElem hlt] at hq
          rcases List.mem_append.1 hq with h | h
          · exact HG.out q h
          · simp at h
            have := (List.getElem?_eq_some_iff.1 HY.out).2
            rw [h, this]
            exact HCC.out
        case measure => simp [intOf]; omega
      · have hc1 : (cc == 0) = false := by simpa using hc0
        have hc2 : decide (cc ≠ 0) = true := by simpa using hc0
        dsimp only [fltC]
        rw [hc2]
        clear hc2
        have p0 := HPR.out.cell 0
        have p1 := HPR.out.cell 1
        simp only [List.getElem?_toArray, List.getElem?_cons_zero, List.getElem?_cons_succ] at p0 p1
        go_upto_region 7 with (go_at_call 17; go_in)
        refine wp_gen (fun W => ApW w w.heap.size ⟨ta, pu, sm, wi, fr, li⟩ (setsS ⟨ta, pu, sm, wi, fr, li⟩ (ps.take k)) W ∧ Blk W w3.heap.size 38 #[.int .i64 cc, .bool true]) ⟨HW3.out.fresh ?_, ?_⟩ ?_
        · repeat (first | with_reducible exact Fresh.refl _ | with_reducible apply Fresh.drewS | with_reducible apply Fresh.allocS)
        · repeat (first | (with_reducible refine Blk.mkAt ?_; (simp; done)) | with_reducible apply Blk.drew | with_reducible apply Blk.alloc)
        intro W ⟨hW, hF⟩
        clear p0 p1
        obtain ⟨q0, q1⟩ := hF.c2
        have x0 := hW.b0.cell 0
        have x1 := hW.b0.cell 1
        have x2 := hW.b0.cell 2
        have x3 := hW.b0.cell 3
        have x4 := hW.b0.cell 4
        have x5 := hW.b0.cell 5
        have r0 := hW.b1.cell 0
        have r1 := hW.b1.cell 1
        have r2 := hW.b1.cell 2
        have r3 := hW.b1.cell 3
        have r4 := hW.b1.cell 4
        have r5 := hW.b1.cell 5
        simp only [SetV.cells, List.getElem?_toArray, List.getElem?_cons_zero, List.getElem?_cons_succ] at x0 x1 x2 x3 x4 x5 r0 r1 r2 r3 r4 r5
        obtain ⟨s0, s1⟩ := hW.b2.c2
        obtain ⟨t0, t1⟩ := hW.b3.c2
        have z0 := hW.b1.frozen 0
        have z1 := hW.b1.frozen 1
        have z2 := hW.b1.frozen 2
        have z3 := hW.b1.frozen 3
        have z4 := hW.b1.frozen 4
        have z5 := hW.b1.frozen 5
        have y0 := hW.b2.frozen 0
        have y1 := hW.b2.frozen 1
        have v0 := hW.b3.frozen 0
        have v1 := hW.b3.frozen 1
        have HFR := Lib.hid hW.fr
        have hz5 := hF.lt
        have hz6 := hW.b4.lt
        have hz7 := HW3.out.b4.lt
        clear hW hF
        go_region
        go_wp2
        have hrr : r = (⟨ta, pu, sm, wi, fr, li⟩, 0, 0, cc) := by
          rw [← HRR.out]
          have := codeS_at HY.out HG.out (by rw [HCC.out]; exact hc0)
          unfold applyR
          rw [this, HCC.out, if_neg hc0]
        subst hrr
        refine bodyPost_ret (v := .tuple #[.agg #[.int .i64 ta, .int .i64 pu, .int .i64 sm, .int .i64 wi, .int .i64 fr, .int .i64 li], .agg #[.int .i64 0, .int .i64 0], .agg #[.int .i64 cc, .bool true]]) (by simp [results, Tryd.results13, go_sem, r0, r1, r2, r3, r4, r5, s0, s1, t0, t1]) rfl ⟨?_, ?_⟩
        · dsimp only [fltC]
          have : decide (cc ≠ 0) = true := by simpa using hc0
          rw [this]
        · repeat (first | with_reducible exact HFR.out | with_reducible apply Fresh.drewS | with_reducible apply Fresh.allocS | (with_reducible refine Fresh.step2 ?_ ?_; focus (simp only []; omega)))
    · have hlt' : ¬ (k : Int) < (ps.length : Int) := by omega
      obtain rfl : k = ps.length := by omega
      rw [List.take_length] at hw hg
      have hrr : r = (setsS ⟨ta, pu, sm, wi, fr, li⟩ ps, wi, (setsS ⟨ta, pu, sm, wi, fr, li⟩ ps).wi, 0) := by
        rw [← HRR.out]
        unfold applyR
        rw [if_pos (codeS_good.2 hg)]
      subst hrr
      obtain ⟨nx, hnx⟩ : ∃ nx, setsS ⟨ta, pu, sm, wi, fr, li⟩ ps = nx := ⟨_, rfl⟩
      rw [hnx] at hw
      obtain ⟨ta2, pu2, sm2, wi2, fr2, li2⟩ := nx
      have HNX := Lib.hid hnx
      clear hnx
      clear HRR HW HG hg
      go_upto_region 10 with fail
      have hW := hw
      clear hw
      have n0 := hW.b4.cell 0
      have n1 := hW.b4.cell 1
      have n2 := hW.b4.cell 2
      have n3 := hW.b4.cell 3
      have n4 := hW.b4.cell 4
      have n5 := hW.b4.cell 5
      simp only [SetV.cells, List.getElem?_toArray, List.getElem?_cons_zero, List.getElem?_cons_succ] at n0 n1 n2 n3 n4 n5
      have x0 := hW.b0.cell 0
      have x1 := hW.b0.cell 1
      have x2 := hW.b0.cell 2
      have x3 := hW.b0.cell 3
      have x4 := hW.b0.cell 4
      have x5 := hW.b0.cell 5
      have r0 := hW.b1.cell 0
      have r1 := hW.b1.cell 1
      have r2 := hW.b1.cell 2
      have r3 := hW.b1.cell 3
      have r4 := hW.b1.cell 4
      have r5 := hW.b1.cell 5
      simp only [SetV.cells, List.getElem?_toArray, List.getElem?_cons_zero, List.getElem?_cons_succ] at x0 x1 x2 x3 x4 x5 r0 r1 r2 r3 r4 r5
      obtain ⟨s0, s1⟩ := hW.b2.c2
      obtain ⟨t0, t1⟩ := hW.b3.c2
      have z0 := hW.b1.frozen 0
      have z1 := hW.b1.frozen 1
      have z2 := hW.b1.frozen 2
      have z3 := hW.b1.frozen 3
      have z4 := hW.b1.frozen 4
      have z5 := hW.b1.frozen 5
      have y0 := hW.b2.frozen 0
      have y1 := hW.b2.frozen 1
      have v0 := hW.b3.frozen 0
      have v1 := hW.b3.frozen 1
      have HFR := Lib.hid hW.fr
      have hz6 := hW.b4.lt
      clear hW
      go_region
      go_wp2
      refine bodyPost_ret (v := .tuple #[.agg #[.int .i64 ta2, .int .i64 pu2, .int .i64 sm2, .int .i64 wi2, .int .i64 fr2, .int .i64 li2], .agg #[.int .i64 wi, .int .i64 wi2], .agg #[.int .i64 0, .bool false]]) (by simp [results, Tryd.results13, go_sem, r0, r1, r2, r3, r4, r5, s0, s1, t0, t1]) rfl ⟨by rw [HNX.out]; rfl, ?_⟩
      repeat (first | with_reducible exact HFR.out | with_reducible apply Fresh.drewS | with_reducible apply Fresh.allocS | (with_reducible refine Fresh.step2 ?_ ?_; focus (simp only []; omega)))
def firstV : SetV := ⟨4096, 1, 4294967295, 65535, 16384, 4294967295⟩
theorem set_first (w : World) : Calls Tryd.prog 9 #[] w fun en w' => en = .returned firstV.val ∧ Fresh w w' := by
  go_enter Tryd.func9, Tryd.ntmps9
  go_wp2
  go_returns
  exact ⟨rfl, by repeat (first | with_reducible exact Fresh.refl _ | with_reducible apply Fresh.drewS | with_reducible apply Fresh.allocS | (with_reducible refine Fresh.step2 ?_ ?_; focus (simp only []; omega)))⟩
/-- A tenant's share. -/
def shareC (sm t : Int) : Int := if t < 1 ∨ 64 < t then 0 else min (if Int.tmod sm t < 0 then Int.tdiv sm t - 1 else Int.tdiv sm t) 65536
set_option maxRecDepth 100000 in
theorem set_share (s : SetV) (t : Int) (w : World) (hs : 0 ≤ s.sm) (hs2 : s.sm ≤ 9223372036854775807) :
    Calls Tryd.prog 20 #[s.val, .int .i64 t] w fun en w' => en = .returned (.int .i64 (shareC s.sm t)) ∧ Fresh w w' := by
  obtain ⟨ta, pu, sm, wi, fr, li⟩ := s
  dsimp only [SetV.val] at *
  by_cases h1 : t < 1
  · have HC : Hid (shareC sm t = 0) := Lib.hid (by simp [shareC, h1])
    go_enter Tryd.func20, Tryd.ntmps20
    go_wp2
    go_ret
    exact ⟨by rw [HC.out]; rfl, Fresh.alloc _ _⟩
  by_cases h2 : 64 < t
  · have HC : Hid (shareC sm t = 0) := Lib.hid (by simp [shareC, h2])
    go_enter Tryd.func20, Tryd.ntmps20
    go_wp2
    go_ret
    exact ⟨by rw [HC.out]; rfl, Fresh.alloc _ _⟩
  have hr : ¬ Int.tmod sm t < 0 := by have := Int.tmod_nonneg t hs; omega
  have hq0 : 0 ≤ Int.tdiv sm t := Int.tdiv_nonneg hs (by omega)
  have hq1 : Int.tdiv sm t ≤ sm := Int.tdiv_le_self t hs
  have HC : Hid (shareC sm t = min (Int.tdiv sm t) 65536) := Lib.hid (by simp [shareC, h1, h2, hr])
  have ht0 : ¬ t = 0 := by omega
  have hr2 : ¬ sm % t < 0 := by have := Int.emod_nonneg sm ht0; omega
  have ht1 : ¬ t = -1 := by omega
  have hmm : Int.tdiv sm t ≤ 65536 ∨ 65536 < Int.tdiv sm t := by omega
  rcases hmm with hm | hm
  all_goals
    go_enter Tryd.func20, Tryd.ntmps20
    go_wp2
    go_ret
    exact ⟨ret_int (by rw [HC.out]; omega), Fresh.alloc _ _⟩
def pairsL (s : SetV) : List (Int × Int) := [(1, s.ta), (2, s.pu), (3, s.sm), (4, s.wi), (5, s.fr), (6, s.li)]
theorem set_pairs (s : SetV) (w : World) : Calls Tryd.prog 19 #[s.val] w fun en w' => ∃ g, en = .returned (.slice (some ⟨g, 0, none⟩) 6 6) ∧ Many pairC 2 w' (some ⟨g, 0, none⟩) (pairsL s) ∧ Fresh w w' := by
  obtain ⟨ta, pu, sm, wi, fr, li⟩ := s
  dsimp only [SetV.val]
  go_enter Tryd.func19, Tryd.ntmps19
  go_wp2
  go_ret
  have hb : Blk _ (w.heap.size + 1) _ _ := Blk.mkAt (w := w.alloc (.cells #[.int .i64 ta, .int .i64 pu, .int .i64 sm, .int .i64 wi, .int .i64 fr, .int .i64 li] 26)) (g := w.heap.size + 1) (t := 31) (cs := #[.int .i64 1, .int .i64 ta, .int .i64 2, .int .i64 pu, .int .i64 3, .int .i64 sm, .int .i64 4, .int .i64 wi, .int .i64 5, .int .i64 fr, .int .i64 6, .int .i64 li]) (by simp)
  refine ⟨w.heap.size + 1, rfl, ?_, (Fresh.alloc _ _).allocS _⟩
  intro _
  refine ⟨_, 0, rfl, hb.lt, fun k hk j hj => ?_⟩
  rw [hb.cell]
  simp only [pairsL, List.length_cons, List.length_nil] at hk
  have hk' : k = 0 ∨ k = 1 ∨ k = 2 ∨ k = 3 ∨ k = 4 ∨ k = 5 := by omega
  have hj' : j = 0 ∨ j = 1 := by omega
  rcases hk' with rfl | rfl | rfl | rfl | rfl | rfl <;> rcases hj' with rfl | rfl <;> rfl
theorem set_ack (w : World) : Calls Tryd.prog 18 #[] w fun en w' => en = .returned (.agg #[.int .i64 4, .int .i64 1, .int .i64 0, .slice none 0 0]) ∧ Fresh w w' := by
  go_enter Tryd.func18, Tryd.ntmps18
  go_wp2
  go_returns
  exact ⟨rfl, by repeat (first | with_reducible exact Fresh.refl _ | with_reducible apply Fresh.drewS | with_reducible apply Fresh.allocS | (with_reducible refine Fresh.step2 ?_ ?_; focus (simp only []; omega)))⟩
end Go.Proofs.YtfnggbnacdbcpaaDoor
