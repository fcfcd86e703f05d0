/-
  The law FrameAll: its walk.
-/
import Derived.Test.YtplpaobbgfdinaaFrameR2
import Derived.Test.YtplpaobbgfdinaaFrameA
namespace Go.Proofs.Ytplpaobbgfdinaa
set_option linter.unusedVariables false
open Go.RowKit

theorem flat4_length (fs : List (Fr × Option Addr)) : (fs.flatMap cellsF).length = fs.length * 4 := by
  induction fs with
  | nil => rfl
  | cons p fs ih => rw [List.flatMap_cons, List.length_append, ih, List.length_cons]; show 4 + _ = _; omega
theorem flat4_get (fs : List (Fr × Option Addr)) (k j : Nat) (hj : j < 4) : (fs.flatMap cellsF)[k * 4 + j]? = (fs[k]?).bind fun p => (cellsF p)[j]? := by
  induction fs generalizing k with
  | nil => simp
  | cons p fs ih =>
    rw [List.flatMap_cons]
    have h4 : (cellsF p).length = 4 := rfl
    cases k with
    | zero => rw [List.getElem?_append_left (by omega)]; simp
    | succ k =>
      rw [List.getElem?_append_right (by omega), h4, show (k + 1) * 4 + j - 4 = k * 4 + j by omega, ih k]
      simp
/-- The cells of frame k. -/
theorem OwnF.cells {w : World} {base n c : Nat} {A : Option Addr} {fs : List (Fr × Option Addr)} (h : OwnF w base (.slice A n c) fs) (k : Nat) (p : Fr × Option Addr) (hp : fs[k]? = some p) :
    ∃ g, A = some ⟨g, 0, none⟩ ∧ g < w.heap.size ∧ base ≤ g ∧ w.cell? ⟨g, k * 4, none⟩ = some (.int .i64 (p.1.x.toNat : Int)) ∧ w.cell? ⟨g, k * 4 + 1, none⟩ = some (.int .i64 (p.1.y.toNat : Int)) ∧ w.cell? ⟨g, k * 4 + 2, none⟩ = some (.int .i64 (p.1.st : Int)) ∧ w.cell? ⟨g, k * 4 + 3, none⟩ = some (.slice p.2 p.1.pl.length p.1.pl.length) := by
  have hk : k < fs.length := (List.getElem?_eq_some_iff.1 hp).1
  rcases h.1.form with ⟨e, h0, _⟩ | ⟨g, cap, e, hb, hlt, _, _, hc⟩
  · omega
  · injection e with e1
    have key : ∀ j, j < 4 → w.cell? ⟨g, k * 4 + j, none⟩ = (cellsF p)[j]? := fun j hj => by
      rw [(hc (k * 4 + j) (by rw [flat4_length]; omega)).1, flat4_get fs k j hj, hp]
      rfl
    exact ⟨g, e1, hlt, hb, key 0 (by omega), key 1 (by omega), key 2 (by omega), key 3 (by omega)⟩

/-- Where the law's loop stands: what is left, and how many frames there were. -/
def LoopRel (most : Int) (tot : Option (List Fr × List UInt8)) (s kk : Value) : Prop :=
  ∃ (r : List UInt8) (done : List Fr) (n : Nat), s = .string (strB r) ∧ kk = .int .i64 (done.length : Int) ∧ r.length ≤ n ∧ tot = (allF most n r).map (fun p => (done ++ p.1, p.2)) ∧ done.length + r.length ≤ 400

set_option maxRecDepth 100000 in
set_option maxHeartbeats 6400000 in
theorem FrameAll_any (A : Option Addr) (l : List UInt8) (c : Nat) (most : Int) (w : World) (hlc : l.length ≤ c) (hcm : c ≤ maxLen) (hA : BS w A l) (_ : (Lit.int .i64 most).wf = true) :
    Calls Try.prog 5 #[.slice A l.length c, .int .i64 most] w fun e w' => e = .returned (.bool true) ∧ Below w.heap.size w w' := by
  have HW := Lib.hid awake_true
  have hcm' := hcm
  unfold maxLen at hcm'
  by_cases h1 : 400 < l.length
  · have h1' : (400 : Int) < (l.length : Int) := by omega
    go_enter Try.func5, Try.ntmps5
    go_wp2_with fail
    with_reducible refine (HW.out _).mono ?_
    rintro e w3 ⟨rfl, hf3⟩
    have HF3 := Lib.hid hf3
    clear hf3
    go_wp2
    go_ret
    exact ⟨rfl, HF3.out⟩
  · have h1' : ¬ (400 : Int) < (l.length : Int) := by omega
    have HA := Lib.hid (fall A c l most w hlc hcm hA (by omega))
    have HCB : Hid (∀ W, Fresh w W → (convert 22 9 (.slice A l.length c)).run Try.prog W = .ok (.string (strB l)) W) := fun W h =>
      run_str (P := Try.prog) (hA.fresh h) 22 9 5 Try.underlying22 Try.underlying5 Try.underlying9 c
    have HSt : Hid (LoopRel most (allF most l.length l) (.string (strB l)) (.int .i64 0)) := ⟨l, [], l.length, rfl, rfl, Nat.le_refl _, by cases allF most l.length l <;> simp, by simp; omega⟩
    clear hA
    generalize ht : allF most l.length l = tot at *
    cases tot with
    | none =>
      go_enter Try.func5, Try.ntmps5
      go_wp2_with fail
      with_reducible refine HA.out.mono ?_
      rintro e w2 ⟨_, h2⟩
      obtain ⟨rfl, hf2⟩ := h2 rfl
      clear h2
      have hcb := HCB.out w2 hf2
      obtain ⟨SL, hSL⟩ : ∃ SL, SL = strB l := ⟨_, rfl⟩
      rw [← hSL] at hcb HSt
      have HF2 := Lib.hid hf2
      clear hf2 hSL
      go_wp2
      clear hcb
      go_loopw [8, 9] (fun s kk wr => LoopRel most none s kk ∧ Fresh w wr) (fun s _ _ => match s with | .string s => s.size | _ => 0)
      case atStart => exact ⟨HSt.out, HF2.out⟩
      case round =>
        obtain ⟨⟨r, done, n, rfl, rfl, hrn, ht, hb⟩, hf⟩ := hrel
        have HT := Lib.hid ht
        have HF := Lib.hid hf
        clear ht hf HSt
        have hrs : (strB r).size = r.length := strB_size r
        rcases parseK_cases r most with hk | hk | hk
        · exfalso
          have := HT.out
          rw [allF_16 hk] at this
          simp at this
        · have HP := Lib.hid (rparse_no r most wr (by omega) 106 106 hk (by omega) (by omega))
          clear hk
          generalize strB r = S at *
          go_wp2_with fail
          with_reducible refine HP.out.mono ?_
          rintro e w3 ⟨rfl, hf3⟩
          have HF3 := Lib.hid (HF.out.trans (hf3.trans (Fresh.alloc w3 (.cells #[.int .i64 0, .int .i64 0, .int .i64 0, .int .i64 0] 35))))
          clear hf3
          go_wp2_with fail
          with_reducible refine (HW.out _).mono ?_
          rintro e w4 ⟨rfl, hf4⟩
          have HF4 := Lib.hid (HF3.out.trans hf4)
          clear hf4
          go_wp2
          go_ret
          exact ⟨rfl, HF4.out⟩
        · obtain ⟨m, hm2, hA0⟩ := allF_0 hrn hk
          obtain ⟨hp1, hp2, hp3⟩ := headF_pl hk
          have hx : r[3]? = some (headF r).x := by
            rw [List.getElem?_eq_getElem (by omega)]
            simp [headF, List.getD, List.getElem?_eq_getElem (show 3 < r.length by omega)]
          have hy : r[4]? = some (headF r).y := by
            rw [List.getElem?_eq_getElem (by omega)]
            simp [headF, List.getD, List.getElem?_eq_getElem (show 4 < r.length by omega)]
          have HP := Lib.hid (rparse_ok r most wr (by omega) (headF r).x (headF r).y (headF r).pl.length (headF r).st hk hp1.symm hx hy rfl)
          have hlf : lenF r = 9 + (headF r).pl.length := by unfold lenF; omega
          have HN : Hid (LoopRel most none (.string (strB (r.drop (lenF r)))) (.int .i64 ((done.length : Int) + 1))) := by
            refine ⟨r.drop (lenF r), done ++ [headF r], m, rfl, by simp, hm2, ?_, by simp; omega⟩
            rw [HT.out, hA0]
            cases allF most m (r.drop (lenF r)) <;> simp
          have hcut : (strB r).extract (9 + (headF r).pl.length) r.length = strB (r.drop (lenF r)) := by
            rw [strB_cut, List.take_length, hlf]
          have HLt : Hid ((strB (r.drop (lenF r))).size < r.length) := by show _ < _; rw [strB_size]; simp; omega
          clear hk hx hy hp1 hA0 hlf hm2
          generalize headF r = h at *
          generalize strB (r.drop (lenF r)) = S2 at *
          generalize strB r = S at *
          go_wp2_with fail
          with_reducible refine HP.out.mono ?_
          rintro e w3 ⟨rfl, hf3⟩
          have HF3 := Lib.hid (HF.out.trans (hf3.trans (Fresh.alloc w3 (.cells #[.int .i64 (h.x.toNat : Int), .int .i64 (h.y.toNat : Int), .int .i64 (h.st : Int), .int .i64 (9 + (h.pl.length : Int))] 35))))
          clear hf3
          go_wp2_with fail
          go_quiet (fail)
          go_wp2
          go_roundw
          case rel => rw [hcut]; exact ⟨HN.out, HF3.out.trans (Fresh.drewN _ _)⟩
          case measure => have := HLt.out; simp [hcut]; omega
    | some P =>
      go_enter Try.func5, Try.ntmps5
      go_wp2_with fail
      with_reducible refine HA.out.mono ?_
      rintro e w2 ⟨h2, _⟩
      obtain ⟨A1, n1, c1, fs, A5, rfl, hn1, ho2, hfs, hp2, hf2⟩ := h2 P rfl
      clear h2
      have hcb := HCB.out w2 hf2
      obtain ⟨SL, hSL⟩ : ∃ SL, SL = strB l := ⟨_, rfl⟩
      rw [← hSL] at hcb HSt
      have HF2 := Lib.hid hf2
      have HO2 := Lib.hid ho2
      have HFS := Lib.hid hfs
      have HP2 := Lib.hid hp2
      have HN1 := Lib.hid hn1
      clear hf2 hSL ho2 hfs hp2 hn1
      go_wp2
      clear hcb
      go_loopw [8, 9] (fun s kk wr => LoopRel most (some P) s kk ∧ Fresh w2 wr) (fun s _ _ => match s with | .string s => s.size | _ => 0)
      case atStart => exact ⟨HSt.out, Fresh.refl _⟩
      case round =>
        obtain ⟨⟨r, done, n, rfl, rfl, hrn, ht, hb⟩, hf⟩ := hrel
        have HT := Lib.hid ht
        have HF := Lib.hid hf
        clear ht hf HSt
        have hrs : (strB r).size = r.length := strB_size r
        rcases parseK_cases r most with hk | hk | hk
        · have HP := Lib.hid (rparse_no r most wr (by omega) 16 16 hk (by omega) (by omega))
          have hPP : P = (done, r) := by
            have := HT.out
            rw [allF_16 hk] at this
            simp at this
            exact this
          subst hPP
          clear hk
          have hn1 : done.length = n1 := HN1.out.symm
          have hqn : ((done.length : Int) == (n1 : Int)) = true := by rw [hn1]; simp
          have HCR : Hid (∀ W, Fresh w2 W → (convert 22 9 (.slice A5 r.length r.length)).run Try.prog W = .ok (.string (strB r)) W) := fun W h =>
            run_str (P := Try.prog) (HP2.out.bs.fresh h) 22 9 5 Try.underlying22 Try.underlying5 Try.underlying9 r.length
          clear hn1
          generalize strB r = S at *
          have hqs : (S.toList == S.toList) = true := by simp
          go_wp2_with fail
          with_reducible refine HP.out.mono ?_
          rintro e w3 ⟨rfl, hf3⟩
          have HF3 := Lib.hid (HF.out.trans (hf3.trans (Fresh.alloc w3 (.cells #[.int .i64 0, .int .i64 0, .int .i64 0, .int .i64 0] 35))))
          have hcr := HCR.out _ HF3.out
          clear hf3
          go_wp2_with fail
          with_reducible refine (HW.out _).mono ?_
          rintro e w4 ⟨rfl, hf4⟩
          have HF4 := Lib.hid (HF2.out.trans (HF3.out.trans hf4))
          clear hf4 hcr hqs hqn
          go_wp2
          go_ret
          exact ⟨rfl, HF4.out⟩
        · exfalso
          have := HT.out
          rw [allF_106 hrn hk] at this
          simp at this
        · obtain ⟨m, hm2, hA0⟩ := allF_0 hrn hk
          obtain ⟨hp1, hp2, hp3⟩ := headF_pl hk
          have hx : r[3]? = some (headF r).x := by
            rw [List.getElem?_eq_getElem (by omega)]
            simp [headF, List.getD, List.getElem?_eq_getElem (show 3 < r.length by omega)]
          have hy : r[4]? = some (headF r).y := by
            rw [List.getElem?_eq_getElem (by omega)]
            simp [headF, List.getD, List.getElem?_eq_getElem (show 4 < r.length by omega)]
          have HP := Lib.hid (rparse_ok r most wr (by omega) (headF r).x (headF r).y (headF r).pl.length (headF r).st hk hp1.symm hx hy rfl)
          have hlf : lenF r = 9 + (headF r).pl.length := by unfold lenF; omega
          have HN : Hid (LoopRel most (some P) (.string (strB (r.drop (lenF r)))) (.int .i64 ((done.length : Int) + 1))) := by
            refine ⟨r.drop (lenF r), done ++ [headF r], m, rfl, by simp, hm2, ?_, by simp; omega⟩
            rw [HT.out, hA0]
            cases allF most m (r.drop (lenF r)) <;> simp
          have hcut : (strB r).extract (9 + (headF r).pl.length) r.length = strB (r.drop (lenF r)) := by
            rw [strB_cut, List.take_length, hlf]
          have hcut2 : (strB r).extract 9 (9 + (headF r).pl.length) = strB (headF r).pl := by
            rw [strB_cut, hp1]; rfl
          have HLt : Hid ((strB (r.drop (lenF r))).size < r.length) := by show _ < _; rw [strB_size]; simp; omega
          have hPk : P.1[done.length]? = some (headF r) := by
            have := HT.out
            rw [hA0] at this
            cases hq : allF most m (r.drop (lenF r)) with
            | none => rw [hq] at this; simp at this
            | some p => rw [hq] at this; simp at this; rw [this]; simp
          clear hk hx hy hp1 hA0 hlf hm2
          generalize headF r = h at *
          generalize strB (r.drop (lenF r)) = S2 at *
          generalize strB r = S at *
          obtain ⟨q, hq, rfl⟩ : ∃ q, fs[done.length]? = some q ∧ q.1 = h := by
            have e := HFS.out
            rw [← e, List.getElem?_map] at hPk
            cases hq : fs[done.length]? with
            | none => rw [hq] at hPk; simp at hPk
            | some q => rw [hq] at hPk; simp at hPk; exact ⟨q, rfl, hPk⟩
          have hkn : done.length < n1 := by
            have := HN1.out
            have e := (List.getElem?_eq_some_iff.1 hPk).1
            omega
          obtain ⟨h, A7⟩ := q
          simp only [] at *
          have hpay := (HO2.out.2 _ (List.mem_of_getElem? hq)).1
          simp only [] at hpay
          obtain ⟨g, rfl, hg, hgb, c0, c1', c2', c3'⟩ := HO2.out.cells done.length _ hq
          simp only [] at c0 c1' c2' c3'
          generalize done.length = k at *
          go_wp2_with fail
          with_reducible refine HP.out.mono ?_
          rintro e w3 ⟨rfl, hf3⟩
          have HF3 := Lib.hid (HF.out.trans (hf3.trans (Fresh.alloc w3 (.cells #[.int .i64 (h.x.toNat : Int), .int .i64 (h.y.toNat : Int), .int .i64 (h.st : Int), .int .i64 (9 + (h.pl.length : Int))] 35))))
          have k0 := fun o => HF3.out.cell (p := ⟨g, o, none⟩) hg
          have d0 := (k0 _).trans c0
          have d1 := (k0 _).trans c1'
          have d2 := (k0 _).trans c2'
          have d3 := (k0 _).trans c3'
          clear hf3 k0 c0 c1' c2' c3'
          obtain ⟨S9, hS9⟩ : ∃ S9, S9 = strB h.pl := ⟨_, rfl⟩
          rw [← hS9] at hcut2
          have hcut3 : S.extract 9 ((9 : Int) + (h.pl.length : Int)).toNat = S9 := by rw [show ((9 : Int) + (h.pl.length : Int)).toNat = 9 + h.pl.length by omega]; exact hcut2
          have HCV : Hid (∀ W, Fresh w2 W → (convert 22 9 (.slice A7 h.pl.length h.pl.length)).run Try.prog W = .ok (.string S9) W) := fun W hW => by
            have := run_str (P := Try.prog) (hpay.bs.fresh hW) 22 9 5 Try.underlying22 Try.underlying5 Try.underlying9 h.pl.length
            rwa [← hS9] at this
          have hcv : ∀ q, (convert 22 9 (.slice A7 h.pl.length h.pl.length)).run Try.prog ((w3.alloc (.cells #[.int .i64 (h.x.toNat : Int), .int .i64 (h.y.toNat : Int), .int .i64 (h.st : Int), .int .i64 (9 + (h.pl.length : Int))] 35)).drewN q) = .ok (.string S9) ((w3.alloc (.cells #[.int .i64 (h.x.toNat : Int), .int .i64 (h.y.toNat : Int), .int .i64 (h.st : Int), .int .i64 (9 + (h.pl.length : Int))] 35)).drewN q) := fun q => HCV.out _ (HF3.out.trans (Fresh.drewN _ q))
          have hE : ∀ W, (Op.equalIn 10000 42 (.agg #[.int .i64 (h.x.toNat : Int), .int .i64 (h.y.toNat : Int), .int .i64 (h.st : Int)]) (.agg #[.int .i64 (h.x.toNat : Int), .int .i64 (h.y.toNat : Int), .int .i64 (h.st : Int)])).run Try.prog W = .ok true W := fun W => by
            have := run_equalIn_ints (P := Try.prog) Try.underlying42 Try.underlying3 (by kernel_rfl) 9998 [(h.x.toNat : Int), (h.y.toNat : Int), (h.st : Int)] [(h.x.toNat : Int), (h.y.toNat : Int), (h.st : Int)] rfl rfl W
            rw [decide_eq_true rfl] at this
            exact this
          have hqs : (S9.toList != S9.toList) = false := by simp
          have hkn' : decide ((n1 : Int) ≤ (k : Int)) = false := decide_eq_false (by omega)
          have hkn3 : decide (n1 ≤ k) = false := decide_eq_false (by omega)
          have hkn2 : (k : Int) < (n1 : Int) := by omega
          have hk0 : (0 : Int) ≤ (k : Int) := by omega
          have i9 : (9 : Int) ≤ 9 + (h.pl.length : Int) := by omega
          have ir : (9 : Int) + (h.pl.length : Int) ≤ (r.length : Int) := by omega
          clear hpay hS9 hPk hq
          go_wp2_with fail
          go_quiet (fail)
          clear hcv hE hqs hcut2 hcut3 hkn' hkn3
          go_wp2
          go_roundw
          case rel => rw [hcut]; exact ⟨HN.out, HF3.out.trans (Fresh.drewN _ _)⟩
          case measure => have := HLt.out; simp [hcut]; omega
end Go.Proofs.Ytplpaobbgfdinaa
