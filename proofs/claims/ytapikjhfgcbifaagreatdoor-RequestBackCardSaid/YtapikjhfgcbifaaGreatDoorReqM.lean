/-
  The law RequestSecret: its walk.
-/
import Derived.Test.YtapikjhfgcbifaaGreatDoorReqK
namespace Go.Proofs.YtapikjhfgcbifaaGreatDoor
set_option maxRecDepth 100000
set_option linter.unusedVariables false
set_option linter.unusedSimpArgs false
open Go.RowKit
def autL' : List UInt8 := [58, 97, 117, 116, 104, 111, 114, 105, 116, 121]
theorem linesR_err {m s p a : ByteArray} {fs : List FldT} {n : Nat} {xs : List LnD} (h : linesR m s p a fs = (n, xs)) (hn : n ≠ 0) : xs = [] := by
  unfold linesR at h
  split at h
  · cases h; rfl
  · split at h
    · cases h; rfl
    · cases h; exact absurd rfl hn
theorem linesR_ok {m s p a : ByteArray} {fs : List FldT} {xs : List LnD} (h : linesR m s p a fs = (0, xs)) : ∃ ms, clnR fs = (0, ms) ∧ xs = baseR m s p a ++ ms := by
  unfold linesR at h
  split at h
  · cases h
  · split at h
    · rename_i hne
      injection h with h1 _
      exact absurd h1 hne
    · rename_i hne
      simp only [ne_eq, Classical.not_not] at hne
      injection h with _ h2
      exact ⟨_, by rw [← hne], h2.symm⟩
theorem secret_ok {m s p a : ByteArray} {fs : List FldT} {xs : List LnD} (h : linesR m s p a fs = (0, xs)) : ∀ x ∈ xs, x.2 = senB x.1.1 ∧ hopB x.1.1 x.1.2 = false ∧ ¬ (x.1.1.toList = autL' ∧ x.1.2.toList = []) := by
  obtain ⟨ms, hc, rfl⟩ := linesR_ok h
  intro x hx
  rcases List.mem_append.1 hx with hx | hx
  · unfold baseR autL at hx
    by_cases hae : a.data.toList = []
    · rw [if_pos hae] at hx
      simp only [List.append_nil, List.mem_cons, List.not_mem_nil, or_false] at hx
      rcases hx with rfl | rfl | rfl <;> (refine ⟨?_, ?_, ?_⟩ <;> simp [senB, hopB, Lib.toList_data, mthN, schN, pthN, autL'])
    · rw [if_neg hae] at hx
      simp only [List.mem_append, List.mem_cons, List.not_mem_nil, or_false] at hx
      rcases hx with (rfl | rfl | rfl) | rfl
      · refine ⟨?_, ?_, ?_⟩ <;> simp [senB, hopB, Lib.toList_data, mthN, schN, pthN, autL']
      · refine ⟨?_, ?_, ?_⟩ <;> simp [senB, hopB, Lib.toList_data, mthN, schN, pthN, autL']
      · refine ⟨?_, ?_, ?_⟩ <;> simp [senB, hopB, Lib.toList_data, mthN, schN, pthN, autL']
      · refine ⟨?_, ?_, fun ⟨_, h⟩ => hae ?_⟩
        · simp [senB, hopB, Lib.toList_data, autN]
        · simp [senB, hopB, Lib.toList_data, autN]
        · rw [← Lib.toList_data]; exact h
  · obtain ⟨hall, rfl⟩ := clnR_yesR hc
    unfold keepR at hx
    obtain ⟨f, hf, rfl⟩ := List.mem_map.1 hx
    obtain ⟨hf1, hf2⟩ := List.mem_filter.1 hf
    refine ⟨rfl, (show hopB f.1 f.2 = false by simpa using hf2), fun ⟨h1, _⟩ => ?_⟩
    obtain ⟨j, hj⟩ := List.getElem?_of_mem hf1
    have hw := hall j f hj
    unfold wrongF at hw
    have h3 : f.1.toList = autL' := h1
    rw [Lib.toList_data] at h3
    rw [h3, if_pos (by decide +kernel)] at hw
    cases hw
set_option maxHeartbeats 32000000 in
theorem secret_all (r : RqV) (w : World) (h : r.Ok w) : Calls Tryz.prog 8 #[.agg r.arr] w (RqQ w) := by
  have HAW := Lib.hid a22
  have HFIN : Hid (∀ W, Fresh w W → RqQ w (.returned (.bool true)) W) := Lib.hid (fun W h => ⟨rfl, h⟩)
  have HWD := Lib.hid (fun W (hf : Fresh w W) => l22_words r W ⟨h.z, h.fle, h.fmax, h.rows.fresh hf, h.fok, h.bl⟩)
  have HLI := Lib.hid (fun (k : WdOk r) W (hf : Fresh w W) => rq_lines r W (h.rows.fresh hf) (by have := (sum_small k.f).1; omega) (fun f hf => by have := ((sum_small k.f).2 f hf).2; omega) ⟨by have := k.z.1; omega, by have := k.z.2.1; omega, by have := k.z.2.2.1; omega, by have := k.z.2.2.2; omega⟩)
  have HMEM : Hid (∀ (k : WdOk r) xs, linesR r.m r.s r.p r.a r.fs = (0, xs) → (3 ≤ xs.length ∧ xs.length ≤ 4 + r.fs.length ∧ r.fs.length ≤ 200) ∧ ∀ x ∈ xs, x.1.1.size ≤ 5000 ∧ x.1.2.size ≤ 5000) := Lib.hid (fun k xs h => by
    have h1 := linesR_mem h (by omega : 100 ≤ 5000) ⟨by have := k.z; omega, by have := k.z; omega, by have := k.z; omega, by have := k.z; omega⟩ (fun f hf => by have := (sum_small k.f).2 f hf; omega)
    refine ⟨⟨?_, h1.1, (sum_small k.f).1⟩, h1.2⟩
    obtain ⟨ms, _, rfl⟩ := linesR_ok h
    rw [List.length_append]
    unfold baseR
    simp
    omega)
  unfold WdP at HWD
  unfold LinP at HLI
  clear h
  generalize RqQ w = PP at *
  unfold RqV.arr at HWD HLI ⊢
  generalize hK : WdOk r = K at *
  obtain ⟨m, s, p, a, FA, fc, fs, BA, bc, bd⟩ := r
  simp only at HWD HLI HMEM ⊢
  obtain ⟨n, hn⟩ : ∃ n, fs.length = n := ⟨_, rfl⟩
  obtain ⟨bn, hbn⟩ : ∃ n, bd.length = n := ⟨_, rfl⟩
  rw [hbn] at HWD HLI ⊢
  rw [hn] at HWD HLI HMEM ⊢
  clear hn hbn hK
  go_enter Tryz.func8, Tryz.ntmps8
  go_upto_region 1 with fail
  refine wp_gen (fun W => Blk W w.heap.size 25 #[.string m, .string s, .string p, .string a, .slice FA n fc, .slice BA bn bc] ∧ Fresh w W) ⟨Blk.new w _ _, Fresh.alloc _ _⟩ ?_
  rintro W1 ⟨hb1, hf1⟩
  obtain ⟨b, hb⟩ : ∃ b, w.heap.size = b := ⟨_, rfl⟩
  rw [hb] at hb1 ⊢
  clear hb
  have HC : Hid (∀ W, Fresh W1 W → W.cell? ⟨b, 0, none⟩ = some (.string m) ∧ W.cell? ⟨b, 1, none⟩ = some (.string s) ∧ W.cell? ⟨b, 2, none⟩ = some (.string p) ∧ W.cell? ⟨b, 3, none⟩ = some (.string a) ∧ W.cell? ⟨b, 4, none⟩ = some (.slice FA n fc) ∧ W.cell? ⟨b, 5, none⟩ = some (.slice BA bn bc)) := Lib.hid (fun W hf => ⟨(hb1.fresh hf).cell 0, (hb1.fresh hf).cell 1, (hb1.fresh hf).cell 2, (hb1.fresh hf).cell 3, (hb1.fresh hf).cell 4, (hb1.fresh hf).cell 5⟩)
  have HF1 := Lib.hid hf1
  clear hb1 hf1
  obtain ⟨e0, e1, e2, e3, e4, e5⟩ := HC.out W1 (Fresh.refl _)
  go_wp2_with fail
  with_reducible refine (HWD.out _ HF1.out).mono ?_
  rintro e w2 ⟨q, rfl, hq, hf2⟩
  have HG2 := Lib.hid hf2
  have HQ := Lib.hid hq
  clear hf2 hq HWD e0 e1 e2 e3 e4 e5
  cases q
  · go_wp2_with fail
    with_reducible refine (HAW.out _).mono ?_
    rintro e w4 ⟨rfl, hf4⟩
    have HX := Lib.hid (HFIN.out _ (HF1.out.trans (HG2.out.trans hf4)))
    clear hf4
    go_wp2_with fail
    exact HX.out
  have hk := HQ.out (by trivial)
  have HLI := Lib.hid (fun W hf => HLI.out hk W hf)
  have HMEM := Lib.hid (HMEM.out hk)
  clear hk
  obtain ⟨e0, e1, e2, e3, e4, e5⟩ := HC.out w2 HG2.out
  go_wp2_with fail
  with_reducible refine (HLI.out _ (HF1.out.trans HG2.out)).mono ?_
  rintro e w4 ⟨ln, lA, lxs, lc, hlin, rfl, hown, hf4⟩
  have HLN := Lib.hid hlin
  have HOW := Lib.hid (own_manyL hown)
  have HG4 := Lib.hid (HG2.out.trans hf4)
  clear hlin hown hf4 e0 e1 e2 e3 e4 e5
  obtain ⟨N, hNN⟩ : ∃ N, lxs.length = N := ⟨_, rfl⟩
  have HNN := Lib.hid hNN
  rw [hNN]
  clear hNN
  by_cases hl0 : ln = 0
  rotate_left
  · have d0 : ((ln : Int) != 0) = true := by simp; omega
    have hN0 : N = 0 := by rw [← HNN.out, linesR_err HLN.out hl0]; rfl
    subst hN0
    clear hl0
    go_wp2_with fail
    with_reducible refine (HAW.out _).mono ?_
    rintro e w7 ⟨rfl, hf7⟩
    have HX := Lib.hid (HFIN.out _ (HF1.out.trans (HG4.out.trans hf7)))
    clear hf7
    go_wp2_with fail
    exact HX.out
  subst hl0
  rw [show ((0 : Nat) : Int) = 0 from rfl]
  obtain ⟨hlen, hmem⟩ := HMEM.out _ HLN.out
  rw [HNN.out] at hlen
  have HLEN := Lib.hid hlen
  have HSEC := Lib.hid (secret_ok HLN.out)
  clear hlen hmem HMEM
  go_wp2_with fail
  go_loopw [26] (fun i wr => ∃ u : Nat, u ≤ N ∧ i = .int .i64 (u : Int) ∧ Fresh w4 wr) (fun i _ => N - (intOf i).toNat)
  case atStart => exact ⟨0, Nat.zero_le _, rfl, Fresh.refl _⟩
  case round =>
    obtain ⟨u, hu, rfl, hf⟩ := hrel
    have HFJ := Lib.hid hf
    clear hf
    have hN9 : N ≤ 1000 := by have := HLEN.out; omega
    by_cases huj : u < N
    · have huj' : (u : Int) < (N : Int) := by omega
      have hkw : IntKind.i64.wrap ((u : Int) + 1) = (u : Int) + 1 := IntWalk.i64_in _ (by omega)
      obtain ⟨x, hx⟩ : ∃ x, lxs[u]? = some x := ⟨_, List.getElem?_eq_getElem (by rw [HNN.out]; exact huj)⟩
      obtain ⟨b1, o1, rfl, hb1, z0, z1, z2⟩ := (HOW.out.fresh HFJ.out).lnAt u x hx
      obtain ⟨s0, s1, s2⟩ := HSEC.out x (List.mem_of_getElem? hx)
      obtain ⟨⟨F1, F2⟩, nv⟩ := x
      simp only at z0 z1 z2 s0 s1 s2
      have HS2 := Lib.hid s2
      clear hb1 hx s2
      have HSN := Lib.hid (fun w => cl_sen F1 w)
      have HHP := Lib.hid (fun w => cl_hop F1 F2 w)
      rw [s1] at HHP
      rw [← s0] at HSN
      clear s0 s1
      go_upto_region 9 with fail
      refine wp_gen (fun W => Blk W wr.heap.size 38 #[.string F1, .string F2, .bool nv] ∧ Fresh wr W) ⟨Blk.new wr _ _, Fresh.alloc _ _⟩ ?_
      rintro W ⟨hbw, hfw⟩
      obtain ⟨y, hy⟩ : ∃ y, wr.heap.size = y := ⟨_, rfl⟩
      rw [hy] at hbw ⊢
      clear hy z0 z1 z2
      have HSK : Hid (∀ w', Fresh W w' → w'.cell? ⟨y, 0, none⟩ = some (.string F1) ∧ w'.cell? ⟨y, 1, none⟩ = some (.string F2) ∧ w'.cell? ⟨y, 2, none⟩ = some (.bool nv) ∧ Fresh W w') := Lib.hid (fun w' hw => ⟨(hbw.fresh hw).cell 0, (hbw.fresh hw).cell 1, (hbw.fresh hw).cell 2, hw⟩)
      have HFW := Lib.hid (HFJ.out.trans hfw)
      clear hbw hfw
      obtain ⟨y0, y1, y2, _⟩ := HSK.out W (Fresh.refl _)
      have hcase : (F1.toList == [58, 97, 117, 116, 104, 111, 114, 105, 116, 121]) = false ∨ ((F1.toList == [58, 97, 117, 116, 104, 111, 114, 105, 116, 121]) = true ∧ F2.toList.isEmpty = false) := by
        cases h : (F1.toList == [58, 97, 117, 116, 104, 111, 114, 105, 116, 121])
        · exact .inl rfl
        · refine .inr ⟨rfl, ?_⟩
          cases h2 : F2.toList with
          | nil => exact absurd ⟨eq_of_beq h, h2⟩ HS2.out
          | cons c t => rfl
      have hnv : (nv != nv) = false := by cases nv <;> rfl
      have hforms : (F1.toList == [58, 97, 117, 116, 104, 111, 114, 105, 116, 121]) = false → (F1.toList = [58, 97, 117, 116, 104, 111, 114, 105, 116, 121]) = False ∧ (F1 = { data := #[58, 97, 117, 116, 104, 111, 114, 105, 116, 121] }) = False := fun h => by
        have h3 : ¬ F1.toList = [58, 97, 117, 116, 104, 111, 114, 105, 116, 121] := by simpa using h
        have h4 : ¬ F1 = { data := #[58, 97, 117, 116, 104, 111, 114, 105, 116, 121] } := fun e => h3 (by rw [e, Lib.toList_data])
        exact ⟨eq_false h3, eq_false h4⟩
      have HFM := Lib.hid hforms
      clear hforms
      rcases hcase with h1 | ⟨h1, h2⟩
      · obtain ⟨h3, h4⟩ := HFM.out h1
        have h6 : decide (F1.toList = [58, 97, 117, 116, 104, 111, 114, 105, 116, 121]) = false := decide_eq_false (by rw [h3]; exact fun h => h)
        refine wp_region_held_drew (S := (fun w' => w'.cell? ⟨y, 0, none⟩ = some (.string F1) ∧ w'.cell? ⟨y, 1, none⟩ = some (.string F2) ∧ w'.cell? ⟨y, 2, none⟩ = some (.bool nv) ∧ Fresh W w')) (by kernel_rfl) (HSK.out _ (Fresh.drew _)) (fun hHeld => ?_)
        refine wpAnyH_take (i := 0) (v := ?_) rfl (by kernel_rfl) (by kernel_rfl) (by kernel_rfl) (fun _ _ _ h => h) (Or.inl ⟨by rfl, ?_⟩) (by assumption) ?_; rotate_left; focus (intro w hSw; (try dsimp only at hSw); go_simp; (try with_reducible rfl); done)
        (try simp only [Act.put, List.getElem_toArray, List.getElem_cons_zero, List.getElem_cons_succ, List.setIfInBounds_toArray, List.set_cons_zero, List.set_cons_succ])
        refine wpAnyH_take (i := 1) (v := ?_) rfl (by kernel_rfl) (by kernel_rfl) (by kernel_rfl) (fun _ _ _ h => h) (Or.inl ⟨by rfl, ?_⟩) (by assumption) ?_; rotate_left; focus (intro w hSw; (try dsimp only at hSw); go_simp; (try with_reducible rfl); done)
        (try simp only [Act.put, List.getElem_toArray, List.getElem_cons_zero, List.getElem_cons_succ, List.setIfInBounds_toArray, List.set_cons_zero, List.set_cons_succ])
        refine wpAnyH_take (i := 2) (v := ?_) rfl (by kernel_rfl) (by kernel_rfl) (by kernel_rfl) (fun _ _ _ h => h) (Or.inl ⟨by rfl, ?_⟩) (by assumption) ?_; rotate_left; focus (intro w hSw; (try dsimp only at hSw); go_simp; (try with_reducible rfl); done)
        (try simp only [Act.put, List.getElem_toArray, List.getElem_cons_zero, List.getElem_cons_succ, List.setIfInBounds_toArray, List.set_cons_zero, List.set_cons_succ])
        refine wpAnyH_take (i := 3) (v := ?_) rfl (by kernel_rfl) (by kernel_rfl) (by kernel_rfl) (fun _ _ _ h => h) (Or.inl ⟨by rfl, ?_⟩) (by assumption) ?_; rotate_left; focus (intro w hSw; (try dsimp only at hSw); go_simp; (try with_reducible rfl); done)
        (try simp only [Act.put, List.getElem_toArray, List.getElem_cons_zero, List.getElem_cons_succ, List.setIfInBounds_toArray, List.set_cons_zero, List.set_cons_succ])
        refine wpAnyH_take (i := 4) (v := ?_) rfl (by kernel_rfl) (by kernel_rfl) (by kernel_rfl) (fun _ _ _ h => h) (Or.inl ⟨by rfl, ?_⟩) (by assumption) ?_; rotate_left; focus (intro w hSw; (try dsimp only at hSw); go_simp; (try with_reducible rfl); done)
        (try simp only [Act.put, List.getElem_toArray, List.getElem_cons_zero, List.getElem_cons_succ, List.setIfInBounds_toArray, List.set_cons_zero, List.set_cons_succ])
        refine wpAnyH_ready (rs := [5]) (by kernel_rfl) (by simp) ?_
        refine AllReadyH.cons rfl (fun K hK => ?_) AllReadyH.nil
        (go_simp; go_at_call 32; (with_reducible refine (HSN.out _).mono ?_); rintro e wa ⟨rfl, hwa⟩; have hga : Fresh W wa := by (rw [hwa]; first | with_reducible assumption | with_reducible exact Fresh.drew _))
        refine hK.out _ _ (HSK.out _ hga) (fun hHeld => ?_)
        clear hK K
        (try simp only [Act.put, List.getElem_toArray, List.getElem_cons_zero, List.getElem_cons_succ, List.setIfInBounds_toArray, List.set_cons_zero, List.set_cons_succ])
        refine wpAnyH_take (i := 6) (v := ?_) rfl (by kernel_rfl) (by kernel_rfl) (by kernel_rfl) (fun _ _ _ h => h) (Or.inl ⟨by rfl, ?_⟩) (by assumption) ?_; rotate_left; focus (intro w hSw; (try dsimp only at hSw); go_simp; (try with_reducible rfl); done)
        (try simp only [Act.put, List.getElem_toArray, List.getElem_cons_zero, List.getElem_cons_succ, List.setIfInBounds_toArray, List.set_cons_zero, List.set_cons_succ])
        refine wpAnyH_take (i := 7) (v := ?_) rfl (by kernel_rfl) (by kernel_rfl) (by kernel_rfl) (fun _ _ _ h => h) (Or.inl ⟨by rfl, ?_⟩) (by assumption) ?_; rotate_left; focus (intro w hSw; (try dsimp only at hSw); go_simp; (try with_reducible rfl); done)
        (try simp only [Act.put, List.getElem_toArray, List.getElem_cons_zero, List.getElem_cons_succ, List.setIfInBounds_toArray, List.set_cons_zero, List.set_cons_succ])
        refine wpAnyH_take (i := 8) (v := ?_) rfl (by kernel_rfl) (by kernel_rfl) (by kernel_rfl) (fun _ _ _ h => h) (Or.inl ⟨by rfl, ?_⟩) (by assumption) ?_; rotate_left; focus (intro w hSw; (try dsimp only at hSw); go_simp; (try with_reducible rfl); done)
        (try simp only [Act.put, List.getElem_toArray, List.getElem_cons_zero, List.getElem_cons_succ, List.setIfInBounds_toArray, List.set_cons_zero, List.set_cons_succ])
        refine wpAnyH_take (i := 9) (v := ?_) rfl (by kernel_rfl) (by kernel_rfl) (by kernel_rfl) (fun _ _ _ h => h) (Or.inl ⟨by rfl, ?_⟩) (by assumption) ?_; rotate_left; focus (intro w hSw; (try dsimp only at hSw); go_simp; (try with_reducible rfl); done)
        (try simp only [Act.put, List.getElem_toArray, List.getElem_cons_zero, List.getElem_cons_succ, List.setIfInBounds_toArray, List.set_cons_zero, List.set_cons_succ])
        refine wpAnyH_ready (rs := [10]) (by kernel_rfl) (by simp) ?_
        refine AllReadyH.cons rfl (fun K hK => ?_) AllReadyH.nil
        (go_simp; go_at_call 33; (with_reducible refine (HHP.out _).mono ?_); rintro e wb ⟨rfl, hwb⟩; have hgb : Fresh W wb := (by first | exact hga.trans hwb | exact (Fresh.drew _).trans hwb))
        refine hK.out _ _ (HSK.out _ hgb) (fun hHeld => ?_)
        clear hK K
        (try simp only [Act.put, List.getElem_toArray, List.getElem_cons_zero, List.getElem_cons_succ, List.setIfInBounds_toArray, List.set_cons_zero, List.set_cons_succ])
        refine wpAnyH_take (i := 11) (v := ?_) rfl (by kernel_rfl) (by kernel_rfl) (by kernel_rfl) (fun _ _ _ h => h) (Or.inl ⟨by rfl, ?_⟩) (by assumption) ?_; rotate_left; focus (intro w hSw; (try dsimp only at hSw); go_simp; (try with_reducible rfl); done)
        (try simp only [Act.put, List.getElem_toArray, List.getElem_cons_zero, List.getElem_cons_succ, List.setIfInBounds_toArray, List.set_cons_zero, List.set_cons_succ])
        refine wpAnyH_take (i := 12) (v := ?_) rfl (by kernel_rfl) (by kernel_rfl) (by kernel_rfl) (fun _ _ _ h => h) (Or.inl ⟨by rfl, ?_⟩) (by assumption) ?_; rotate_left; focus (intro w hSw; (try dsimp only at hSw); go_simp; (try with_reducible rfl); done)
        (try simp only [Act.put, List.getElem_toArray, List.getElem_cons_zero, List.getElem_cons_succ, List.setIfInBounds_toArray, List.set_cons_zero, List.set_cons_succ])
        refine wpAnyH_take (i := 13) (v := ?_) rfl (by kernel_rfl) (by kernel_rfl) (by kernel_rfl) (fun _ _ _ h => h) (Or.inl ⟨by rfl, ?_⟩) (by assumption) ?_; rotate_left; focus (intro w hSw; (try dsimp only at hSw); go_simp; (try with_reducible rfl); done)
        (try simp only [Act.put, List.getElem_toArray, List.getElem_cons_zero, List.getElem_cons_succ, List.setIfInBounds_toArray, List.set_cons_zero, List.set_cons_succ])
        refine wpAnyH_take (i := 14) (v := ?_) rfl (by kernel_rfl) (by kernel_rfl) (by kernel_rfl) (fun _ _ _ h => h) (Or.inl ⟨by rfl, ?_⟩) (by assumption) ?_; rotate_left; focus (intro w hSw; (try dsimp only at hSw); go_simp; (try with_reducible rfl); done)
        (try simp only [Act.put, List.getElem_toArray, List.getElem_cons_zero, List.getElem_cons_succ, List.setIfInBounds_toArray, List.set_cons_zero, List.set_cons_succ])
        refine wpAnyH_take (i := 15) (v := ?_) rfl (by kernel_rfl) (by kernel_rfl) (by kernel_rfl) (fun _ _ _ h => h) (Or.inl ⟨by rfl, ?_⟩) (by assumption) ?_; rotate_left; focus (intro w hSw; (try dsimp only at hSw); go_simp; (try with_reducible rfl); done)
        (try simp only [Act.put, List.getElem_toArray, List.getElem_cons_zero, List.getElem_cons_succ, List.setIfInBounds_toArray, List.set_cons_zero, List.set_cons_succ])
        refine wpAnyH_take (i := 16) (v := ?_) rfl (by kernel_rfl) (by kernel_rfl) (by kernel_rfl) (fun _ _ _ h => h) (Or.inl ⟨by rfl, ?_⟩) (by assumption) ?_; rotate_left; focus (intro w hSw; (try dsimp only at hSw); go_simp; (try with_reducible rfl); done)
        (try simp only [Act.put, List.getElem_toArray, List.getElem_cons_zero, List.getElem_cons_succ, List.setIfInBounds_toArray, List.set_cons_zero, List.set_cons_succ])
        refine wpAnyH_take (i := 17) (v := ?_) rfl (by kernel_rfl) (by kernel_rfl) (by kernel_rfl) (fun _ _ _ h => h) (Or.inl ⟨by rfl, ?_⟩) (by assumption) ?_; rotate_left; focus (intro w hSw; (try dsimp only at hSw); go_simp; (try with_reducible rfl); done)
        (try simp only [Act.put, List.getElem_toArray, List.getElem_cons_zero, List.getElem_cons_succ, List.setIfInBounds_toArray, List.set_cons_zero, List.set_cons_succ])
        refine wpAnyH_take (i := 18) (v := undef) rfl (by kernel_rfl) (by kernel_rfl) (by kernel_rfl) (fun _ _ _ h => h) (Or.inr ⟨by rfl, rfl⟩) (by assumption) ?_; (try simp only [Act.put, List.getElem_toArray, List.getElem_cons_zero, List.getElem_cons_succ, List.setIfInBounds_toArray, List.set_cons_zero, List.set_cons_succ])
        refine wpAnyH_take (i := 19) (v := undef) rfl (by kernel_rfl) (by kernel_rfl) (by kernel_rfl) (fun _ _ _ h => h) (Or.inr ⟨by rfl, rfl⟩) (by assumption) ?_; (try simp only [Act.put, List.getElem_toArray, List.getElem_cons_zero, List.getElem_cons_succ, List.setIfInBounds_toArray, List.set_cons_zero, List.set_cons_succ])
        refine wpAnyH_take (i := 20) (v := undef) rfl (by kernel_rfl) (by kernel_rfl) (by kernel_rfl) (fun _ _ _ h => h) (Or.inr ⟨by rfl, rfl⟩) (by assumption) ?_; (try simp only [Act.put, List.getElem_toArray, List.getElem_cons_zero, List.getElem_cons_succ, List.setIfInBounds_toArray, List.set_cons_zero, List.set_cons_succ])
        refine wpAnyH_take (i := 21) (v := undef) rfl (by kernel_rfl) (by kernel_rfl) (by kernel_rfl) (fun _ _ _ h => h) (Or.inr ⟨by rfl, rfl⟩) (by assumption) ?_; (try simp only [Act.put, List.getElem_toArray, List.getElem_cons_zero, List.getElem_cons_succ, List.setIfInBounds_toArray, List.set_cons_zero, List.set_cons_succ])
        refine wpAnyH_take (i := 22) (v := ?_) rfl (by kernel_rfl) (by kernel_rfl) (by kernel_rfl) (fun _ _ _ h => h) (Or.inl ⟨by rfl, ?_⟩) (by assumption) ?_; rotate_left; focus (intro w hSw; (try dsimp only at hSw); go_simp; (try with_reducible rfl); done)
        (try simp only [Act.put, List.getElem_toArray, List.getElem_cons_zero, List.getElem_cons_succ, List.setIfInBounds_toArray, List.set_cons_zero, List.set_cons_succ])
        refine wpAnyH_take (i := 23) (v := ?_) rfl (by kernel_rfl) (by kernel_rfl) (by kernel_rfl) (fun _ _ _ h => h) (Or.inl ⟨by rfl, ?_⟩) (by assumption) ?_; rotate_left; focus (intro w hSw; (try dsimp only at hSw); go_simp; (try with_reducible rfl); done)
        (try simp only [Act.put, List.getElem_toArray, List.getElem_cons_zero, List.getElem_cons_succ, List.setIfInBounds_toArray, List.set_cons_zero, List.set_cons_succ])
        refine wpAnyH_done (by kernel_rfl) ?_ _
        all_goals
          refine wx_gen (fun W2 => Fresh W W2) (by first | exact hgb | exact hga | exact Fresh.drew _) ?_
          rintro W2 hw2
          have HW2 := Lib.hid (HFW.out.trans hw2)
          clear hw2
          go_wp2_with fail
          go_roundw
          case rel => exact ⟨u + 1, by omega, by go_num, HW2.out⟩
          case measure => simp [intOf]; omega
      · have h9 := h1
        first | (go_region_held3 (fun w' => w'.cell? ⟨y, 0, none⟩ = some (.string F1) ∧ w'.cell? ⟨y, 1, none⟩ = some (.string F2) ∧ w'.cell? ⟨y, 2, none⟩ = some (.bool nv) ∧ Fresh W w')
          ((refine HSK.out _ ?_; first | with_reducible assumption | with_reducible exact Fresh.drew _))
          (first
            | (go_at_call 32; (with_reducible refine (HSN.out _).mono ?_); rintro e wa ⟨rfl, hwa⟩; have hga : Fresh W wa := by (rw [hwa]; first | with_reducible assumption | with_reducible exact Fresh.drew _))
            | (go_at_call 33; (with_reducible refine (HHP.out _).mono ?_); rintro e wb ⟨rfl, hwb⟩; have hgb : Fresh W wb := (by first | exact hga.trans hwb | exact (Fresh.drew _).trans hwb)))) | fail
        all_goals
          refine wx_gen (fun W2 => Fresh W W2) (by first | exact hgb | exact hga | exact Fresh.drew _) ?_
          rintro W2 hw2
          have HW2 := Lib.hid (HFW.out.trans hw2)
          clear hw2
          go_wp2_with fail
          go_roundw
          case rel => exact ⟨u + 1, by omega, by go_num, HW2.out⟩
          case measure => simp [intOf]; omega
    · obtain rfl : u = N := by omega
      have hnj : ¬ (u : Int) < (u : Int) := by omega
      obtain ⟨e0, e1, e2, e3, e4, e5⟩ := HC.out wr (HG4.out.trans HFJ.out)
      obtain ⟨l3, l4, l5⟩ := HLEN.out
      have q0 : (3 : Int) ≤ (u : Int) := by omega
      have q1 : IntKind.i64.wrap (4 + (n : Int)) = 4 + (n : Int) := IntWalk.i64_in _ (by omega)
      have q2 : (u : Int) ≤ 4 + (n : Int) := by omega
      clear l3 l4 l5
      go_wp2_with fail
      with_reducible refine (HAW.out _).mono ?_
      rintro e wz ⟨rfl, hfz⟩
      have HX := Lib.hid (HFIN.out _ (HF1.out.trans ((HG4.out.trans HFJ.out).trans hfz)))
      clear hfz
      go_wp2_with fail
      exact HX.out
theorem RequestSecret_any (r : RqV) (w : World) (h : r.Ok w) : Calls Tryz.prog 8 #[.agg r.arr] w (RqQ w) := secret_all r w h
end Go.Proofs.YtapikjhfgcbifaaGreatDoor

