/-
  The law CellReads: its walk.
-/
import Derived.Test.YtpokpkijhakpjaaCell7
namespace Go.Proofs.Ytpokpkijhakpjaa
set_option linter.unusedVariables false
open Go.RowKit

def RdRel (most : Int) (tot : Option (List Fr × List UInt8)) (s kk : Value) : Prop :=
  ∃ (r : List UInt8) (done : List Fr) (m : Nat), s = .string (strB r) ∧ kk = .int .i64 ((done.filter notFil).length : Int) ∧ r.length ≤ m ∧ tot = (allF most m r).map (fun p => (done ++ p.1, p.2)) ∧ (done.filter notFil).length + r.length ≤ 600
theorem filt_snoc (done : List Fr) (h : Fr) : (done ++ [h]).filter notFil = done.filter notFil ++ if notFil h then [h] else [] := by
  rw [List.filter_append]; congr 1; simp [List.filter_cons]
theorem notFil_x (h : Fr) : notFil h = ((h.x.toNat : Int) != 250) := by
  unfold notFil
  rw [Bool.eq_iff_iff]
  simp only [bne_iff_ne, ne_eq]
  refine not_congr ⟨fun e => by rw [e]; rfl, fun e => UInt8.toNat_inj.1 (by simp; omega)⟩
set_option maxRecDepth 100000 in
set_option maxHeartbeats 6400000 in
theorem reads_no (A : Option Addr) (l : List UInt8) (c : Nat) (N : Nat) (tot : Option (List Fr × List UInt8)) (w : World) (h0 : l.length ≤ 600) (h1 : 1 ≤ N) (h2 : N ≤ 1024) (hlc : l.length ≤ c) (hA : BS w A l) (htot : allF ((N : Int) + 18) l.length l = tot)
    (hop : ∀ w, BS w A l → Calls Try.prog 17 #[.slice A l.length c, .int .i64 (N : Int)] w (OpenNo 10 w)) (hno : (l.length : Int) = (N : Int) + 18 → ∀ P, tot ≠ some (P, [])) :
    Calls Try.prog 5 #[.slice A l.length c, .int .i64 (N : Int)] w fun e w' => e = .returned (.bool true) ∧ Below w.heap.size w w' := by
  have HA := Lib.hid hA
  have HTT := Lib.hid htot
  have HOP := Lib.hid hop
  have HNO := Lib.hid hno
  clear hA htot hop hno
  go_enter Try.func5, Try.ntmps5
  go_wp2_with fail
  refine (HOP.out _ HA.out).mono ?_
  rintro e w1 ⟨rfl, hf1⟩
  have HF1 := Lib.hid hf1
  clear hf1
  go_wp2_with fail
  with_reducible refine (ce_right20_yes N _ (by omega) (by omega)).mono ?_
  rintro e w2 ⟨rfl, rfl⟩
  have hcv := run_str (P := Try.prog) (HA.out.fresh HF1.out) 22 9 5 Try.underlying22 Try.underlying5 Try.underlying9 c
  have HSt : Hid (RdRel ((N : Int) + 18) tot (.string (strB l)) (.int .i64 0)) := Lib.hid ⟨l, [], l.length, rfl, rfl, Nat.le_refl _, by rw [← HTT.out]; cases allF ((N : Int) + 18) l.length l <;> simp, by simp; omega⟩
  go_wp2_with fail
  clear hcv
  go_loopw [7, 8] (fun s kk wr => RdRel ((N : Int) + 18) tot s kk ∧ Fresh w1 wr) (fun s _ _ => match s with | .string s => s.size | _ => 0)
  case atStart => exact ⟨HSt.out, Fresh.refl _⟩
  case round =>
    obtain ⟨⟨r, done, m0, rfl, rfl, hrn, ht, hb⟩, hf⟩ := hrel
    have HT := Lib.hid ht
    have HF := Lib.hid (HF1.out.trans hf)
    have HFR := Lib.hid hf
    clear ht hf HSt
    have hrs : (strB r).size = r.length := strB_size r
    by_cases hr0 : r = []
    · subst hr0
      have hs0 : (strB []).size = 0 := rfl
      have hne : (l.length : Int) ≠ (N : Int) + 18 := fun e => by
        have h1 := HT.out
        rw [allF_16 (show parseK [] ((N : Int) + 18) = 16 from rfl)] at h1
        exact HNO.out e _ (by simpa using h1)
      have hne' : ((l.length : Int) != (N : Int) + 18) = true := by simpa using hne
      clear hne
      generalize (done.filter notFil).length = K at *
      generalize strB [] = S at *
      go_wp2_with fail
      with_reducible refine (ce_awake _).mono ?_
      rintro e w4 ⟨rfl, hf4⟩
      have HF4 := Lib.hid (HF.out.trans hf4)
      clear hf4
      go_wp2
      go_ret
      exact ⟨rfl, HF4.out⟩
    · have hrl : 0 < r.length := by
        rcases r with _ | ⟨x, r⟩
        · exact absurd rfl hr0
        · simp
      rcases parseK_cases r ((N : Int) + 18) with hk | hk | hk
      · have HP := Lib.hid (rparse_no r ((N : Int) + 18) wr (by omega) 16 16 hk (by omega) (by omega))
        clear hk
        generalize (done.filter notFil).length = K at *
        generalize strB r = S at *
        go_wp2_with fail
        with_reducible refine HP.out.mono ?_
        rintro e w3 ⟨rfl, hf3⟩
        have HF3 := Lib.hid (HF.out.trans (hf3.trans (Fresh.alloc w3 (.cells #[.int .i64 0, .int .i64 0, .int .i64 0, .int .i64 0] 39))))
        clear hf3
        go_wp2_with fail
        with_reducible refine (ce_awake _).mono ?_
        rintro e w4 ⟨rfl, hf4⟩
        have HF4 := Lib.hid (HF3.out.trans hf4)
        clear hf4
        go_wp2
        go_ret
        exact ⟨rfl, HF4.out⟩
      · have HP := Lib.hid (rparse_no r ((N : Int) + 18) wr (by omega) 106 106 hk (by omega) (by omega))
        clear hk
        generalize (done.filter notFil).length = K at *
        generalize strB r = S at *
        go_wp2_with fail
        with_reducible refine HP.out.mono ?_
        rintro e w3 ⟨rfl, hf3⟩
        have HF3 := Lib.hid (HF.out.trans (hf3.trans (Fresh.alloc w3 (.cells #[.int .i64 0, .int .i64 0, .int .i64 0, .int .i64 0] 39))))
        clear hf3
        go_wp2_with fail
        with_reducible refine (ce_awake _).mono ?_
        rintro e w4 ⟨rfl, hf4⟩
        have HF4 := Lib.hid (HF3.out.trans hf4)
        clear hf4
        go_wp2
        go_ret
        exact ⟨rfl, HF4.out⟩
      · obtain ⟨m, hm2, hA0⟩ := allF_0 hrn hk
        obtain ⟨hp1, hp2, hp3⟩ := headF_pl hk
        have hx : r[3]? = some (headF r).x := by
          rw [List.getElem?_eq_getElem (by omega)]
          simp [headF, List.getD, List.getElem?_eq_getElem (show 3 < r.length by omega)]
        have hy : r[4]? = some (headF r).y := by
          rw [List.getElem?_eq_getElem (by omega)]
          simp [headF, List.getD, List.getElem?_eq_getElem (show 4 < r.length by omega)]
        have HP := Lib.hid (rparse_ok r ((N : Int) + 18) wr (by omega) (headF r).x (headF r).y (headF r).pl.length (headF r).st hk hp1.symm hx hy rfl)
        have hlf : lenF r = 9 + (headF r).pl.length := by unfold lenF; omega
        have hdl : (r.drop (lenF r)).length + 9 ≤ r.length := by simp; omega
        have hxb := UInt8.toNat_lt (headF r).x
        have hcut : (strB r).extract (9 + (headF r).pl.length) r.length = strB (r.drop (lenF r)) := by
          rw [strB_cut, List.take_length, hlf]
        have HLt : Hid ((strB (r.drop (lenF r))).size < r.length) := by show _ < _; rw [strB_size]; simp; omega
        have HTN : Hid (tot = (allF ((N : Int) + 18) m (r.drop (lenF r))).map (fun p => ((done ++ [headF r]) ++ p.1, p.2))) := Lib.hid (by
          rw [HT.out, hA0]
          cases allF ((N : Int) + 18) m (r.drop (lenF r)) <;> simp)
        by_cases hfx : notFil (headF r) = true
        · have HN : Hid (RdRel ((N : Int) + 18) tot (.string (strB (r.drop (lenF r)))) (.int .i64 (((done.filter notFil).length : Int) + 1))) := Lib.hid (by
            refine ⟨r.drop (lenF r), done ++ [headF r], m, rfl, ?_, hm2, HTN.out, ?_⟩
            · rw [filt_snoc, hfx]; simp
            · rw [filt_snoc, hfx]; simp only [if_true, List.length_append, List.length_cons, List.length_nil]; omega)
          have hx250 : (((headF r).x.toNat : Int) != 250) = true := by rw [← notFil_x]; exact hfx
          clear hk hx hy hp1 hA0 hlf hm2 hfx hdl
          generalize hK : (done.filter notFil).length = K at *
          clear hK
          generalize headF r = h at *
          generalize strB (r.drop (lenF r)) = S2 at *
          generalize strB r = S at *
          go_wp2_with fail
          with_reducible refine HP.out.mono ?_
          rintro e w3 ⟨rfl, hf3⟩
          have HF3 := Lib.hid (HFR.out.trans (hf3.trans (Fresh.alloc w3 (.cells #[.int .i64 (h.x.toNat : Int), .int .i64 (h.y.toNat : Int), .int .i64 (h.st : Int), .int .i64 (9 + (h.pl.length : Int))] 39))))
          clear hf3
          go_wp2_with fail
          go_quiet (fail)
          go_wp2
          go_roundw
          case rel => rw [hcut]; exact ⟨HN.out, HF3.out.trans (Fresh.drewN _ _)⟩
          case measure => have := HLt.out; simp [hcut]; omega
        · have HN : Hid (RdRel ((N : Int) + 18) tot (.string (strB (r.drop (lenF r)))) (.int .i64 ((done.filter notFil).length : Int))) := Lib.hid (by
            refine ⟨r.drop (lenF r), done ++ [headF r], m, rfl, ?_, hm2, HTN.out, ?_⟩
            · rw [filt_snoc]; simp [hfx]
            · rw [filt_snoc]; simp [hfx]; simp at hdl; omega)
          have hx250 : (((headF r).x.toNat : Int) != 250) = false := by rw [← notFil_x]; simpa using hfx
          clear hk hx hy hp1 hA0 hlf hm2 hfx hdl
          generalize (done.filter notFil).length = K at *
          generalize headF r = h at *
          generalize strB (r.drop (lenF r)) = S2 at *
          generalize strB r = S at *
          go_wp2_with fail
          with_reducible refine HP.out.mono ?_
          rintro e w3 ⟨rfl, hf3⟩
          have HF3 := Lib.hid (HFR.out.trans (hf3.trans (Fresh.alloc w3 (.cells #[.int .i64 (h.x.toNat : Int), .int .i64 (h.y.toNat : Int), .int .i64 (h.st : Int), .int .i64 (9 + (h.pl.length : Int))] 39))))
          clear hf3
          go_wp2_with fail
          go_roundw
          case rel => rw [hcut]; exact ⟨HN.out, HF3.out⟩
          case measure => have := HLt.out; simp [hcut]; omega
set_option maxRecDepth 100000 in
set_option maxHeartbeats 6400000 in
theorem reads_yes (A : Option Addr) (l : List UInt8) (c : Nat) (N : Nat) (P : List Fr) (tot : Option (List Fr × List UInt8)) (w : World) (h0 : l.length ≤ 600) (hl : (l.length : Int) = (N : Int) + 18) (h1 : 1 ≤ N) (h2 : N ≤ 1024) (hlc : l.length ≤ c) (hA : BS w A l) (htot : allF ((N : Int) + 18) l.length l = tot) (hyes : tot = some (P, []))
    (hop : ∀ w, BS w A l → Calls Try.prog 17 #[.slice A l.length c, .int .i64 (N : Int)] w (OpenPost (some (P.filter notFil)) w)) :
    Calls Try.prog 5 #[.slice A l.length c, .int .i64 (N : Int)] w fun e w' => e = .returned (.bool true) ∧ Below w.heap.size w w' := by
  have HA := Lib.hid hA
  have HTT := Lib.hid htot
  have HOP := Lib.hid hop
  have HYES := Lib.hid hyes
  have HLN := Lib.hid hl
  clear hA htot hop hyes hl
  go_enter Try.func5, Try.ntmps5
  go_wp2_with fail
  refine (HOP.out _ HA.out).mono ?_
  rintro e w1 ⟨hy, _⟩
  obtain ⟨A5, n5, c5, fs, rfl, hn5, hfs, hmp, hf1⟩ := hy _ rfl
  have HF1 := Lib.hid hf1
  have HFS := Lib.hid hfs
  have HMP := Lib.hid hmp
  have HN5 := Lib.hid hn5
  clear hy hf1 hfs hmp hn5
  go_wp2_with fail
  with_reducible refine (ce_right20_yes N _ (by omega) (by omega)).mono ?_
  rintro e w2 ⟨rfl, rfl⟩
  have hcv := run_str (P := Try.prog) (HA.out.fresh HF1.out) 22 9 5 Try.underlying22 Try.underlying5 Try.underlying9 c
  have HSt : Hid (RdRel ((N : Int) + 18) tot (.string (strB l)) (.int .i64 0)) := Lib.hid ⟨l, [], l.length, rfl, rfl, Nat.le_refl _, by rw [← HTT.out]; cases allF ((N : Int) + 18) l.length l <;> simp, by simp; omega⟩
  go_wp2_with fail
  clear hcv
  go_loopw [7, 8] (fun s kk wr => RdRel ((N : Int) + 18) tot s kk ∧ Fresh w1 wr) (fun s _ _ => match s with | .string s => s.size | _ => 0)
  case atStart => exact ⟨HSt.out, Fresh.refl _⟩
  case round =>
    obtain ⟨⟨r, done, m0, rfl, rfl, hrn, ht, hb⟩, hf⟩ := hrel
    have HT := Lib.hid ht
    have HF := Lib.hid (HF1.out.trans hf)
    have HFR := Lib.hid hf
    clear ht hf HSt
    have hrs : (strB r).size = r.length := strB_size r
    by_cases hr0 : r = []
    · subst hr0
      have hs0 : (strB []).size = 0 := rfl
      have hPd : P = done := by
        have h1 := HT.out
        rw [allF_16 (show parseK [] ((N : Int) + 18) = 16 from rfl), HYES.out] at h1
        simpa using h1
      have hKn : (done.filter notFil).length = n5 := by rw [HN5.out, hPd]
      have hne' : ((l.length : Int) != (N : Int) + 18) = false := by rw [HLN.out]; simp
      have hkk : ((n5 : Int) == (n5 : Int)) = true := by simp
      rw [hKn] at *
      clear hPd hKn
      generalize strB [] = S at *
      go_wp2_with fail
      with_reducible refine (ce_awake _).mono ?_
      rintro e w4 ⟨rfl, hf4⟩
      have HF4 := Lib.hid (HF.out.trans hf4)
      clear hf4
      go_wp2
      go_ret
      exact ⟨rfl, HF4.out⟩
    · have hrl : 0 < r.length := by
        rcases r with _ | ⟨x, r⟩
        · exact absurd rfl hr0
        · simp
      rcases parseK_cases r ((N : Int) + 18) with hk | hk | hk
      · exfalso
        have h1 := HT.out
        rw [allF_16 hk, HYES.out] at h1
        simp at h1
        exact hr0 h1.2
      · exfalso
        have h1 := HT.out
        rw [allF_106 hrn hk, HYES.out] at h1
        simp at h1
      · obtain ⟨m, hm2, hA0⟩ := allF_0 hrn hk
        obtain ⟨hp1, hp2, hp3⟩ := headF_pl hk
        have hx : r[3]? = some (headF r).x := by
          rw [List.getElem?_eq_getElem (by omega)]
          simp [headF, List.getD, List.getElem?_eq_getElem (show 3 < r.length by omega)]
        have hy : r[4]? = some (headF r).y := by
          rw [List.getElem?_eq_getElem (by omega)]
          simp [headF, List.getD, List.getElem?_eq_getElem (show 4 < r.length by omega)]
        have HP := Lib.hid (rparse_ok r ((N : Int) + 18) wr (by omega) (headF r).x (headF r).y (headF r).pl.length (headF r).st hk hp1.symm hx hy rfl)
        have hlf : lenF r = 9 + (headF r).pl.length := by unfold lenF; omega
        have hdl : (r.drop (lenF r)).length + 9 ≤ r.length := by simp; omega
        have hxb := UInt8.toNat_lt (headF r).x
        have hcut : (strB r).extract (9 + (headF r).pl.length) r.length = strB (r.drop (lenF r)) := by
          rw [strB_cut, List.take_length, hlf]
        have HLt : Hid ((strB (r.drop (lenF r))).size < r.length) := by show _ < _; rw [strB_size]; simp; omega
        have HTN : Hid (tot = (allF ((N : Int) + 18) m (r.drop (lenF r))).map (fun p => ((done ++ [headF r]) ++ p.1, p.2))) := Lib.hid (by
          rw [HT.out, hA0]
          cases allF ((N : Int) + 18) m (r.drop (lenF r)) <;> simp)
        by_cases hfx : notFil (headF r) = true
        · have HN : Hid (RdRel ((N : Int) + 18) tot (.string (strB (r.drop (lenF r)))) (.int .i64 (((done.filter notFil).length : Int) + 1))) := Lib.hid (by
            refine ⟨r.drop (lenF r), done ++ [headF r], m, rfl, ?_, hm2, HTN.out, ?_⟩
            · rw [filt_snoc, hfx]; simp
            · rw [filt_snoc, hfx]; simp only [if_true, List.length_append, List.length_cons, List.length_nil]; omega)
          have hx250 : (((headF r).x.toNat : Int) != 250) = true := by rw [← notFil_x]; exact hfx
          have hsplit : ∃ rest : List Fr, P = (done ++ [headF r]) ++ rest := by
            have h1 := HTN.out
            rw [HYES.out] at h1
            cases hq : allF ((N : Int) + 18) m (r.drop (lenF r)) with
            | none => rw [hq] at h1; simp at h1
            | some q => rw [hq] at h1; simp at h1; exact ⟨q.1, by rw [h1.1]; simp⟩
          obtain ⟨rest, hrest⟩ := hsplit
          have hPf : P.filter notFil = done.filter notFil ++ headF r :: rest.filter notFil := by
            rw [hrest, List.filter_append, filt_snoc, hfx]; simp
          have hfk : (fs.map Prod.fst)[(done.filter notFil).length]? = some (headF r) := by
            rw [HMP.out, hPf, List.getElem?_append_right (Nat.le_refl _)]; simp
          have hkl : (done.filter notFil).length < n5 := by rw [HN5.out, hPf]; simp
          obtain ⟨q0, hq0, hq1⟩ : ∃ q0, fs[(done.filter notFil).length]? = some q0 ∧ q0.1 = headF r := by
            rw [List.getElem?_map] at hfk
            cases hq : fs[(done.filter notFil).length]? with
            | none => rw [hq] at hfk; cases hfk
            | some q0 => rw [hq] at hfk; simp at hfk; exact ⟨q0, rfl, hfk⟩
          have HQ0 := Lib.hid hq0
          have HQ1 := Lib.hid hq1
          clear hrest hPf hfk hq0 hq1
          clear hk hx hy hp1 hA0 hlf hm2 hfx hdl
          generalize hK : (done.filter notFil).length = K at *
          clear hK
          generalize headF r = h at *
          generalize strB (r.drop (lenF r)) = S2 at *
          generalize strB r = S at *
          go_wp2_with fail
          with_reducible refine HP.out.mono ?_
          rintro e w3 ⟨rfl, hf3⟩
          have HF3 := Lib.hid (HFR.out.trans (hf3.trans (Fresh.alloc w3 (.cells #[.int .i64 (h.x.toNat : Int), .int .i64 (h.y.toNat : Int), .int .i64 (h.st : Int), .int .i64 (9 + (h.pl.length : Int))] 39))))
          obtain ⟨gq, hgA, hgl, _, k0, _, k2, _⟩ := (HFS.out.fresh HF3.out).cells K q0 HQ0.out
          have HGA := Lib.hid hgA
          subst hgA
          rw [HQ1.out] at k0 k2
          have i1 : (K : Int) < (n5 : Int) := by omega
          have i2 : decide ((n5 : Int) ≤ (K : Int)) = false := by simp; omega
          have i3 : ((h.x.toNat : Int) != (h.x.toNat : Int)) = false := by simp
          have i4 : ((h.st : Int) != (h.st : Int)) = false := by simp
          have i5 : K < n5 := by omega
          have i6 : (0 : Int) ≤ (K : Int) := by omega
          clear hf3
          go_wp2_with fail
          go_quiet (fail)
          go_wp2
          go_roundw
          case rel => rw [hcut]; exact ⟨HN.out, HF3.out.trans (Fresh.drewN _ _)⟩
          case measure => have := HLt.out; simp [hcut]; omega
        · have HN : Hid (RdRel ((N : Int) + 18) tot (.string (strB (r.drop (lenF r)))) (.int .i64 ((done.filter notFil).length : Int))) := Lib.hid (by
            refine ⟨r.drop (lenF r), done ++ [headF r], m, rfl, ?_, hm2, HTN.out, ?_⟩
            · rw [filt_snoc]; simp [hfx]
            · rw [filt_snoc]; simp [hfx]; simp at hdl; omega)
          have hx250 : (((headF r).x.toNat : Int) != 250) = false := by rw [← notFil_x]; simpa using hfx
          clear hk hx hy hp1 hA0 hlf hm2 hfx hdl
          generalize (done.filter notFil).length = K at *
          generalize headF r = h at *
          generalize strB (r.drop (lenF r)) = S2 at *
          generalize strB r = S at *
          go_wp2_with fail
          with_reducible refine HP.out.mono ?_
          rintro e w3 ⟨rfl, hf3⟩
          have HF3 := Lib.hid (HFR.out.trans (hf3.trans (Fresh.alloc w3 (.cells #[.int .i64 (h.x.toNat : Int), .int .i64 (h.y.toNat : Int), .int .i64 (h.st : Int), .int .i64 (9 + (h.pl.length : Int))] 39))))
          clear hf3
          go_wp2_with fail
          go_roundw
          case rel => rw [hcut]; exact ⟨HN.out, HF3.out⟩
          case measure => have := HLt.out; simp [hcut]; omega
theorem CellReads_any (A : Option Addr) (l : List UInt8) (c : Nat) (n : Int) (w : World) (hlc : l.length ≤ c) (hcm : c ≤ maxLen) (hA : BS w A l) (_ : (Lit.int .i64 n).wf = true) :
    Calls Try.prog 5 #[.slice A l.length c, .int .i64 n] w fun e w' => e = .returned (.bool true) ∧ Below w.heap.size w w' := by
  have hcm' := hcm
  unfold maxLen at hcm
  by_cases h0 : l.length ≤ 600
  · by_cases h1 : 1 ≤ n ∧ n ≤ 1024
    · obtain ⟨N, rfl⟩ : ∃ N : Nat, n = (N : Int) := ⟨n.toNat, by omega⟩
      obtain ⟨h1, h2⟩ := h1
      by_cases hl : l.length = N + 18
      · have hop := fun w hA => open_any A c l N w (by omega) (by omega) hl hlc hcm' hA
        rw [← hl] at hop
        have e18 : (l.length : Int) = (N : Int) + 18 := by omega
        have hR : ∀ P r, allF ((N : Int) + 18) l.length l = some (P, r) → openR l = if r = [] then some (P.filter notFil) else none := fun P r h => by unfold openR; rw [e18, h]
        have hR0 : allF ((N : Int) + 18) l.length l = none → openR l = none := fun h => by unfold openR; rw [e18, h]
        by_cases hy : ∃ P, allF ((N : Int) + 18) l.length l = some (P, [])
        · obtain ⟨P, hP⟩ := hy
          have hR' : openR l = some (P.filter notFil) := by rw [hR P [] hP]; simp
          rw [hR'] at hop
          exact reads_yes A l c N P _ w h0 (by omega) (by omega) (by omega) hlc hA rfl hP hop
        · have hR' : openR l = none := by
            cases hq : allF ((N : Int) + 18) l.length l with
            | none => exact hR0 hq
            | some q =>
              obtain ⟨P, r⟩ := q
              have : r ≠ [] := fun e => hy ⟨P, by rw [hq, e]⟩
              rw [hR P r hq]
              simp [this]
          rw [hR'] at hop
          exact reads_no A l c N _ w h0 (by omega) (by omega) hlc hA rfl (fun w hA => (hop w hA).mono fun e w' h => h.2 rfl) (fun _ P e => hy ⟨P, e⟩)
      · exact reads_no A l c N _ w h0 (by omega) (by omega) hlc hA rfl (fun w hA => open_form A l.length c N w (by omega) (by omega) (by omega)) (fun e => by omega)
    · have HO := Lib.hid (fun w => open_range (.slice A l.length c) n w h1)
      have H20 := Lib.hid (fun w => ce_right20_no n w h1)
      clear hA h1
      go_enter Try.func5, Try.ntmps5
      go_wp2_with fail
      refine (HO.out _).mono ?_
      rintro e w1 ⟨rfl, hf1⟩
      have HF1 := Lib.hid hf1
      clear hf1
      go_wp2_with fail
      with_reducible refine (H20.out _).mono ?_
      rintro e w2 ⟨rfl, rfl⟩
      go_wp2_with fail
      refine (ce_awake _).mono ?_
      rintro e w5 ⟨rfl, hf5⟩
      have HF5 := Lib.hid (HF1.out.trans hf5)
      clear hf5
      go_wp2_with fail
      go_ret
      exact ⟨rfl, HF5.out⟩
  · clear hA
    have h0' : (600 : Int) < (l.length : Int) := by omega
    go_enter Try.func5, Try.ntmps5
    go_wp2_with fail
    refine (ce_awake _).mono ?_
    rintro e w5 ⟨rfl, hf5⟩
    go_wp2_with fail
    go_ret
    exact ⟨rfl, hf5⟩
end Go.Proofs.Ytpokpkijhakpjaa
