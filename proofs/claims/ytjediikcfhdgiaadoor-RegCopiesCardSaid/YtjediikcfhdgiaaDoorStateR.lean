/-
  Layer 13: streams.
-/
import Derived.Test.YtjediikcfhdgiaaDoorState
namespace Go.Proofs.YtjediikcfhdgiaaDoor
set_option linter.unusedVariables false
open Go.RowKit Go.ChangeShapes Go.WideShapes Go.Deep
/-- What becomes of a stream at a, when e happens. -/
def doGood (a e : Int) : Bool := if 0 ≤ e ∧ e ≤ 3 then decide (sendE a e = 0) else if 4 ≤ e ∧ e ≤ 8 then decide (getC a e = 0) else false
def doA (a e : Int) : Int := if 0 ≤ e ∧ e ≤ 3 then (if sendE a e = 0 then sendS a e else a) else if 4 ≤ e ∧ e ≤ 8 then getS a e else a
def doE (a e : Int) : Int := if 0 ≤ e ∧ e ≤ 3 then sendE a e else if 4 ≤ e ∧ e ≤ 8 then 0 else 11
def doC (a e : Int) : Int := if 4 ≤ e ∧ e ≤ 8 then getC a e else 0
def doB (a e : Int) : Bool := if 4 ≤ e ∧ e ≤ 8 then getB a e else false
def doL (a e : Int) (cs : List Int) : List Int := if doGood a e = true then cs.set e.toNat (cs.getD e.toNat 0 + 1) else cs

structure RunAt (w : World) (p : Nat) (a : Int) (cs : List Int) : Prop where
  blk : Blk w p 92 (Value.int .i64 a :: cs.map (Value.int .i64)).toArray
  len : cs.length = 9
  a0 : 0 ≤ a
  a4 : a ≤ 4
  bd : ∀ c ∈ cs, 0 ≤ c ∧ c ≤ 1000000000000
theorem RunAt.only {S : Nat → Prop} {w w' : World} {p : Nat} {a : Int} {cs : List Int} (h : RunAt w p a cs) (ho : Only S w w') (hp : ¬ S p) : RunAt w' p a cs := ⟨h.blk.only ho hp, h.len, h.a0, h.a4, h.bd⟩
theorem RunAt.fresh {w w' : World} {p : Nat} {a : Int} {cs : List Int} (h : RunAt w p a cs) (hf : Fresh w w') : RunAt w' p a cs := ⟨h.blk.fresh hf, h.len, h.a0, h.a4, h.bd⟩
theorem RunAt.far {w : World} {p : Nat} {a : Int} {cs : List Int} (h : RunAt w p a cs) (q : Addr) (v : Value) (hq : p ≠ q.block) : RunAt (w.setCell q v) p a cs := h.only (Only.setCell w q v) (fun e => hq e)
theorem RunAt.cells {w : World} {p : Nat} {a : Int} {cs : List Int} (h : RunAt w p a cs) : w.cell? ⟨p, 0, none⟩ = some (.int .i64 a) ∧ w.frozen? ⟨p, 0, none⟩ = false ∧ ∀ j, j < 9 → w.cell? ⟨p, 1 + j, none⟩ = some (.int .i64 (cs.getD j 0)) ∧ w.frozen? ⟨p, 1 + j, none⟩ = false := by
  refine ⟨h.blk.cell 0, h.blk.frozen 0, fun j hj => ⟨?_, h.blk.frozen _⟩⟩
  rw [h.blk.cell, Nat.add_comm]
  simp [List.getD, List.getElem?_eq_getElem (show j < cs.length by rw [h.len]; exact hj)]
theorem RunAt.set0 {w : World} {p : Nat} {a b : Int} {cs : List Int} (h : RunAt w p a cs) (hb0 : 0 ≤ b) (hb4 : b ≤ 4) : RunAt (w.setCell ⟨p, 0, none⟩ (.int .i64 b)) p b cs := by
  refine ⟨?_, h.len, hb0, hb4, h.bd⟩
  have := h.blk.set 0 (.int .i64 b)
  simpa using this
theorem RunAt.setj {w : World} {p : Nat} {a b : Int} {cs : List Int} (h : RunAt w p a cs) (j : Nat) (hb0 : 0 ≤ b) (hb : b ≤ 1000000000000) : RunAt (w.setCell ⟨p, 1 + j, none⟩ (.int .i64 b)) p a (cs.set j b) := by
  refine ⟨?_, by rw [List.length_set]; exact h.len, h.a0, h.a4, fun c hc => ?_⟩
  · have := h.blk.set (1 + j) (.int .i64 b)
    rw [Nat.add_comm 1 j] at this ⊢
    simpa [List.map_set] using this
  · rcases List.mem_or_eq_of_mem_set hc with h' | rfl
    · exact h.bd c h'
    · exact ⟨hb0, hb⟩
theorem send_bd {a e : Int} (h : sendE a e = 0) : 0 ≤ sendS a e ∧ sendS a e ≤ 4 := by
  unfold sendE at h
  unfold sendS
  split at h
  · rename_i hb
    rw [if_pos hb]
    have := fol_send a.toNat (by omega) e.toNat (by omega)
    split at h
    · omega
    · rename_i h5
      rw [if_neg h5]; omega
  · omega
theorem get_bd {a e : Int} (h0 : 0 ≤ a) (h4 : a ≤ 4) : 0 ≤ getS a e ∧ getS a e ≤ 4 := by
  unfold getS
  split
  · rename_i hb
    have := fol_get a.toNat (by omega) e.toNat (by omega) (by omega)
    split
    · omega
    · split
      · omega
      · omega
  · omega
theorem send_e {a e : Int} (h : sendE a e ≠ 0) (h0 : 0 ≤ a) (h4 : a ≤ 4) (he : 0 ≤ e ∧ e ≤ 3) : sendE a e = 25 := by
  unfold sendE at h ⊢
  rw [if_pos ⟨h0, h4, he.1, he.2⟩] at h ⊢
  split
  · rfl
  · rename_i h5
    rw [if_neg h5] at h
    exact absurd rfl h
theorem getB_0 {a e : Int} (h : getC a e = 0) : getB a e = false := by
  unfold getC at h
  unfold getB
  split at h
  · rename_i hb
    rw [decide_eq_false (by simpa using hb), Bool.false_or]
    split at h
    · omega
    · rename_i h6
      exact decide_eq_false h6
  · omega

def DoR (p : Nat) (a e : Int) (cs : List Int) (w : World) (en : Ending) (w' : World) : Prop :=
  en = .returned (.tuple #[.int .i64 (doE a e), .agg #[.int .i64 (doC a e), .bool (doB a e)]]) ∧ RunAt w' p (doA a e) (doL a e cs) ∧ Only (· = p) w w'

set_option maxRecDepth 100000 in
set_option maxHeartbeats 3200000 in
theorem rdo (p : Nat) (a e : Int) (cs : List Int) (w : World) (h : RunAt w p a cs) (hT : Tbl w) (hb : ∀ c ∈ cs, c < 1000000000000) (hp : p ≠ 0) :
    Calls Tryd.prog 33 #[.pointer (some ⟨p, 0, none⟩), .int .i64 e] w (DoR p a e cs w) := by
  obtain ⟨c0, z0, hcj⟩ := h.cells
  have hR := Lib.hid h
  have hTT := Lib.hid hT
  have hplt := h.blk.lt
  have ha0 := h.a0
  have ha4 := h.a4
  have hlen := h.len
  clear h hT
  by_cases hs : 0 ≤ e ∧ e ≤ 3
  · obtain ⟨j, rfl⟩ : ∃ j : Nat, e = (j : Int) := ⟨e.toNat, by omega⟩
    have HE : Hid (doE a (j : Int) = sendE a j) := Lib.hid (if_pos hs)
    have HC : Hid (doC a (j : Int) = 0) := Lib.hid (if_neg (by omega))
    have HB : Hid (doB a (j : Int) = false) := Lib.hid (if_neg (by omega))
    have HA : Hid (doA a (j : Int) = if sendE a j = 0 then sendS a j else a) := Lib.hid (if_pos hs)
    have HG : Hid (doGood a (j : Int) = decide (sendE a j = 0)) := Lib.hid (if_pos hs)
    obtain ⟨s0, s3⟩ := hs
    have hj := hcj j (by omega)
    have hS := Lib.hid (fun w1 (h1 : Tbl w1) => ssend a (j : Int) w1 h1)
    by_cases h0 : sendE a j = 0
    · have hbd := send_bd h0
      have HL : Hid (doL a (j : Int) cs = cs.set j (cs.getD j 0 + 1)) := Lib.hid (by unfold doL; rw [HG.out, if_pos (by simpa using h0), Int.toNat_natCast])
      rw [if_pos h0] at HA
      rw [h0] at HE hS
      obtain ⟨hj1, hj2⟩ := hj
      have hcb : 0 ≤ cs.getD j 0 ∧ cs.getD j 0 < 1000000000000 := by
        have hm : cs.getD j 0 ∈ cs := by
          rw [List.getD_eq_getElem?_getD, List.getElem?_eq_getElem (show j < cs.length by omega)]
          exact List.getElem_mem _
        exact ⟨(hR.out.bd _ hm).1, hb _ hm⟩
      clear h0 hb HG hcj
      generalize hgc : cs.getD j 0 = c at *
      have HGC := Lib.hid hgc
      clear hgc
      generalize sendS a j = b at *
      obtain ⟨hb0, hb4⟩ := hbd
      obtain ⟨hc0, hc1⟩ := hcb
      have hw1 : IntKind.i64.wrap (c + 1) = c + 1 := IntWalk.i64_in _ (by omega)
      go_enter Tryd.func33, Tryd.ntmps33
      go_wp2_with (first | (go_at_call 44; with_reducible refine (hS.out _ (hTT.out.fresh (Fresh.alloc _ _))).mono ?_; rintro en w1 ⟨rfl, rfl⟩) | go_in)
      go_region
      go_wp2
      refine bodyPost_ret (v := .tuple #[.int .i64 0, .agg #[.int .i64 0, .bool false]]) (by simp [results, Tryd.results33, go_sem]) rfl ⟨ret_two (val_i HE.out) (agg_ib HC.out HB.out), ?_, ?_⟩
      · rw [HA.out, HL.out]
        exact (((hR.out.set0 hb0 hb4).setj j (by omega) (by omega)).fresh (Fresh.alloc _ _)).fresh (Fresh.drew _)
      · exact (((Only.setCell w ⟨p, 0, none⟩ _).trans (Only.setCell _ ⟨p, 1 + j, none⟩ _)).trans (Only.of_fresh (Fresh.alloc _ _))).trans (Only.of_fresh (Fresh.drew _))
    · have HL : Hid (doL a (j : Int) cs = cs) := Lib.hid (by unfold doL; rw [HG.out, if_neg (by simpa using h0)])
      rw [if_neg h0] at HA
      have h25 := send_e h0 ha0 ha4 ⟨s0, s3⟩
      rw [h25] at HE hS
      clear h0 hb HG hcj hj h25
      generalize sendS a j = b at *
      go_enter Tryd.func33, Tryd.ntmps33
      go_wp2_with (first | (go_at_call 44; with_reducible refine (hS.out _ (hTT.out.fresh (Fresh.alloc _ _))).mono ?_; rintro en w1 ⟨rfl, rfl⟩) | go_in)
      refine bodyPost_ret (v := .tuple #[.int .i64 25, .agg #[.int .i64 0, .bool false]]) (by simp [results, Tryd.results33, go_sem]) rfl ⟨ret_two (val_i HE.out) (agg_ib HC.out HB.out), ?_, ?_⟩
      · rw [HA.out, HL.out]; exact hR.out.fresh (Fresh.alloc _ _)
      · exact Only.of_fresh (Fresh.alloc _ _)
  · by_cases hg : 4 ≤ e ∧ e ≤ 8
    · obtain ⟨j, rfl⟩ : ∃ j : Nat, e = (j : Int) := ⟨e.toNat, by omega⟩
      have HE : Hid (doE a (j : Int) = 0) := Lib.hid (by unfold doE; rw [if_neg hs, if_pos hg])
      have HC : Hid (doC a (j : Int) = getC a j) := Lib.hid (if_pos hg)
      have HB : Hid (doB a (j : Int) = getB a j) := Lib.hid (if_pos hg)
      have HA : Hid (doA a (j : Int) = getS a j) := Lib.hid (by unfold doA; rw [if_neg hs, if_pos hg])
      have HG : Hid (doGood a (j : Int) = decide (getC a j = 0)) := Lib.hid (by unfold doGood; rw [if_neg hs, if_pos hg])
      obtain ⟨g4, g8⟩ := hg
      have hj := hcj j (by omega)
      have h3 : decide ((j : Int) ≤ 3) = false := decide_eq_false (by omega)
      have h0j : 0 ≤ (j : Int) := by omega
      have hbd := get_bd (e := (j : Int)) ha0 ha4
      have hS := Lib.hid (fun w1 (h1 : Tbl w1) => sget a (j : Int) w1 h1)
      by_cases h0 : getC a j = 0
      · have HL : Hid (doL a (j : Int) cs = cs.set j (cs.getD j 0 + 1)) := Lib.hid (by unfold doL; rw [HG.out, if_pos (by simpa using h0), Int.toNat_natCast])
        have hB0 := getB_0 h0
        rw [h0, hB0] at hS
        rw [h0] at HC
        rw [hB0] at HB
        obtain ⟨hj1, hj2⟩ := hj
        have hcb : 0 ≤ cs.getD j 0 ∧ cs.getD j 0 < 1000000000000 := by
          have hm : cs.getD j 0 ∈ cs := by
            rw [List.getD_eq_getElem?_getD, List.getElem?_eq_getElem (show j < cs.length by omega)]
            exact List.getElem_mem _
          exact ⟨(hR.out.bd _ hm).1, hb _ hm⟩
        clear h0 hb HG hcj hs hB0
        generalize hgc : cs.getD j 0 = c at *
        have HGC := Lib.hid hgc
        clear hgc
        generalize getS a j = b at *
        obtain ⟨hb0, hb4⟩ := hbd
        obtain ⟨hc0, hc1⟩ := hcb
        have hw1 : IntKind.i64.wrap (c + 1) = c + 1 := IntWalk.i64_in _ (by omega)
        go_enter Tryd.func33, Tryd.ntmps33
        go_wp2_with (first | (go_at_call 43; go_in) | (go_at_call 45; go_in))
        with_reducible refine (hS.out _ (hTT.out.fresh (Fresh.alloc _ _))).mono ?_
        rintro en w1 ⟨rfl, hf1⟩
        have hf1' : Fresh w w1 := (Fresh.alloc _ _).trans hf1
        have hR1 := Lib.hid (hR.out.fresh hf1')
        have HF1 := Lib.hid hf1'
        obtain ⟨k0, y0, kcj⟩ := hR1.out.cells
        obtain ⟨k1, y1⟩ := kcj j (by omega)
        rw [HGC.out] at k1
        have hB1 := (Blk.new w 56 #[.int .i64 0, .bool false]).fresh hf1
        obtain ⟨r0, r1⟩ := hB1.c2
        have r2 := hB1.frozen 0
        have r3 := hB1.frozen 1
        have hz1 : w.heap.size < w1.heap.size := hB1.lt
        have hz2 : p < w1.heap.size := by omega
        have hne1 : p ≠ w.heap.size := by omega
        have hne2 : w.heap.size ≠ p := by omega
        have hne3 : w.heap.size ≠ w1.heap.size := by omega
        have hne4 : w.heap.size ≠ w1.heap.size + 1 := by omega
        have HB1 := Lib.hid hB1
        clear hf1 hB1 kcj hf1'
        go_wp2
        go_region
        go_wp2
        refine bodyPost_ret (v := .tuple #[.int .i64 0, .agg #[.int .i64 0, .bool false]]) (by simp [results, Tryd.results33, go_sem, r0, r1, hne1, hne2, hne3, hne4, hz1, hz2]) rfl ⟨ret_two (val_i HE.out) (agg_ib HC.out HB.out), ?_, ?_⟩
        · rw [HA.out, HL.out]
          exact ((((((((hR1.out.set0 hb0 hb4).setj j (by omega) (by omega)).far ⟨w.heap.size, 0, none⟩ _ hne1).far ⟨w.heap.size, 1, none⟩ _ hne1).fresh (Fresh.alloc _ _)).fresh (Fresh.alloc _ _)).fresh (Fresh.drew _)))
        · repeat (first | exact Only.of_fresh HF1.out | apply Only.drewS | apply Only.allocS | (refine Only.step ?_ _ _ (by first | exact .inl rfl | exact .inr (Nat.le_refl _))))
      · have HL : Hid (doL a (j : Int) cs = cs) := Lib.hid (by unfold doL; rw [HG.out, if_neg (by simpa using h0)])
        have hg0 : (getC a j == 0) = false := by simpa using h0
        clear h0 hb HG hcj hs hj
        generalize getS a j = b at *
        generalize getC a j = gc at *
        generalize getB a j = gb at *
        obtain ⟨hb0, hb4⟩ := hbd
        go_enter Tryd.func33, Tryd.ntmps33
        go_wp2_with (first | (go_at_call 43; go_in) | (go_at_call 45; go_in))
        with_reducible refine (hS.out _ (hTT.out.fresh (Fresh.alloc _ _))).mono ?_
        rintro en w1 ⟨rfl, hf1⟩
        have hf1' : Fresh w w1 := (Fresh.alloc _ _).trans hf1
        have hR1 := Lib.hid (hR.out.fresh hf1')
        have HF1 := Lib.hid hf1'
        obtain ⟨k0, y0, kcj⟩ := hR1.out.cells
        have hB1 := (Blk.new w 56 #[.int .i64 0, .bool false]).fresh hf1
        obtain ⟨r0, r1⟩ := hB1.c2
        have r2 := hB1.frozen 0
        have r3 := hB1.frozen 1
        have hz1 : w.heap.size < w1.heap.size := hB1.lt
        have hz2 : p < w1.heap.size := by omega
        have hne1 : p ≠ w.heap.size := by omega
        have hne2 : w.heap.size ≠ p := by omega
        have hne3 : w.heap.size ≠ w1.heap.size := by omega
        have hne4 : w.heap.size ≠ w1.heap.size + 1 := by omega
        have HB1 := Lib.hid hB1
        clear hf1 hB1 kcj hf1'
        go_wp2
        go_region
        go_wp2
        refine bodyPost_ret (v := .tuple #[.int .i64 0, .agg #[.int .i64 gc, .bool gb]]) (by simp [results, Tryd.results33, go_sem, r0, r1, hne1, hne2, hne3, hne4, hz1, hz2]) rfl ⟨ret_two (val_i HE.out) (agg_ib HC.out HB.out), ?_, ?_⟩
        · rw [HA.out, HL.out]
          exact (((((((hR1.out.set0 hb0 hb4)).far ⟨w.heap.size, 0, none⟩ _ hne1).far ⟨w.heap.size, 1, none⟩ _ hne1).fresh (Fresh.alloc _ _)).fresh (Fresh.alloc _ _)).fresh (Fresh.drew _))
        · repeat (first | exact Only.of_fresh HF1.out | apply Only.drewS | apply Only.allocS | (refine Only.step ?_ _ _ (by first | exact .inl rfl | exact .inr (Nat.le_refl _))))
    · have HE : Hid (doE a e = 11) := Lib.hid (by unfold doE; rw [if_neg hs, if_neg hg])
      have HC : Hid (doC a e = 0) := Lib.hid (if_neg hg)
      have HB : Hid (doB a e = false) := Lib.hid (if_neg hg)
      have HA : Hid (doA a e = a) := Lib.hid (by unfold doA; rw [if_neg hs, if_neg hg])
      have HL : Hid (doL a e cs = cs) := Lib.hid (by unfold doL doGood; rw [if_neg hs, if_neg hg]; rfl)
      have key : e < 0 ∨ (0 ≤ e ∧ 4 ≤ e ∧ decide (e ≤ 8) = false ∧ decide (e ≤ 3) = false) := by
        by_cases h : e < 0
        · exact .inl h
        · exact .inr ⟨by omega, by omega, decide_eq_false (by omega), decide_eq_false (by omega)⟩
      clear hs hg hb hcj
      rcases key with h | ⟨h, h', h'', h3⟩
      all_goals
        go_enter Tryd.func33, Tryd.ntmps33
        go_wp2
        refine bodyPost_ret (v := .tuple #[.int .i64 11, .agg #[.int .i64 0, .bool false]]) (by simp [results, Tryd.results33, go_sem]) rfl ⟨ret_two (val_i HE.out) (agg_ib HC.out HB.out), ?_, ?_⟩
        · rw [HA.out, HL.out]; exact hR.out.fresh (Fresh.alloc _ _)
        · exact Only.of_fresh (Fresh.alloc _ _)
theorem run_new (w : World) : Calls Tryd.prog 32 #[] w fun en w' => ∃ p, en = .returned (.pointer (some ⟨p, 0, none⟩)) ∧ w.heap.size ≤ p ∧ RunAt w' p 0 [0, 0, 0, 0, 0, 0, 0, 0, 0] ∧ Fresh w w' := by
  go_enter Tryd.func32, Tryd.ntmps32
  go_wp2
  go_ret
  exact ⟨w.heap.size, rfl, Nat.le_refl _, ⟨Blk.new _ _ _, rfl, by omega, by omega, by decide⟩, Fresh.alloc _ _⟩
theorem run_at (p : Nat) (a : Int) (cs : List Int) (w : World) (h : RunAt w p a cs) : Calls Tryd.prog 34 #[.pointer (some ⟨p, 0, none⟩)] w fun en w' => en = .returned (.int .i64 a) ∧ w = w' := by
  obtain ⟨c0, z0, hcj⟩ := h.cells
  clear h hcj
  go_enter Tryd.func34, Tryd.ntmps34
  go_wp2
  go_ret
  exact ⟨rfl, rfl⟩
end Go.Proofs.YtjediikcfhdgiaaDoor

