/-
  The law StateCounts: its walk.
-/
import Derived.Test.YtdmcinndpkcjjaaDoorStateV
import Derived.Test.YtdmcinndpkcjjaaDoorStateV2
namespace Go.Proofs.YtdmcinndpkcjjaaDoor
set_option linter.unusedVariables false
open Go.RowKit Go.ChangeShapes Go.WideShapes Go.Deep
theorem cnts_out : ∀ a : Fin 5, ∀ e : Fin 9, (doGood a.val e.val = true ∧ doE a.val e.val = 0 ∧ doC a.val e.val = 0 ∧ doB a.val e.val = false ∧ mayB a.val e.val = true) ∨ (doGood a.val e.val = false ∧ doE a.val e.val = 25 ∧ doC a.val e.val = 0 ∧ doB a.val e.val = false ∧ mayB a.val e.val = false) ∨
    (doGood a.val e.val = false ∧ doE a.val e.val = 0 ∧ doC a.val e.val = 101 ∧ doB a.val e.val = true ∧ mayB a.val e.val = false) ∨ (doGood a.val e.val = false ∧ doE a.val e.val = 0 ∧ doC a.val e.val = 105 ∧ doB a.val e.val = false ∧ mayB a.val e.val = false) := by decide +kernel
theorem cnts_a : ∀ a : Fin 5, ∀ e : Fin 9, (doGood a.val e.val = false → doC a.val e.val ≠ 105 → doA a.val e.val = a.val) ∧ (doC a.val e.val = 105 → doA a.val e.val = 4) := by decide +kernel
theorem sum_set1 : ∀ (cs : List Int) (j : Nat), j < cs.length → (cs.set j (cs.getD j 0 + 1)).sum = cs.sum + 1
  | [], j, h => absurd h (by simp)
  | c :: cs, 0, _ => by simp; omega
  | c :: cs, j + 1, h => by
    have := sum_set1 cs j (by simpa using h)
    simp at this ⊢
    omega
theorem sum_take1 (cs : List Int) (j : Nat) (h : j < cs.length) : (cs.take (j + 1)).sum = (cs.take j).sum + cs.getD j 0 := by
  rw [List.take_succ_eq_append_getElem h, List.sum_append]
  simp [List.getD, h]
/-- What the loop keeps. -/
structure CntSt (w wr : World) (p q k : Nat) (a : Int) (cs : List Int) : Prop where
  rp : RunAt wr p a cs
  rq : RunAt wr q a cs
  ne : p ≠ q
  bd : ∀ c ∈ cs, c ≤ (k : Int)
  s0 : 0 ≤ cs.sum
  sk : cs.sum ≤ (k : Int)
  fr : Only (fun b => b = p ∨ b = q) w wr
theorem CntSt.fresh {w wr wr' : World} {p q k : Nat} {a : Int} {cs : List Int} (h : CntSt w wr p q k a cs) (hf : Fresh wr wr') : CntSt w wr' p q k a cs := ⟨h.rp.fresh hf, h.rq.fresh hf, h.ne, h.bd, h.s0, h.sk, h.fr.freshS hf⟩
theorem CntSt.bad {w wr wr' : World} {p q k : Nat} {a : Int} {cs : List Int} (h : CntSt w wr p q k a cs) (hr : RunAt wr' p a cs) (ho : Only (· = p) wr wr') : CntSt w wr' p q (k + 1) a cs :=
  ⟨hr, h.rq.only ho (fun e => h.ne e.symm), h.ne, fun c hc => by have := h.bd c hc; omega, h.s0, by have := h.sk; omega, h.fr.trans' ho (fun i _ e => .inl e)⟩
theorem set_bd' {cs : List Int} {k j : Nat} (hj : j < cs.length) (h : ∀ c ∈ cs, c ≤ (k : Int)) : ∀ c ∈ cs.set j (cs.getD j 0 + 1), c ≤ ((k + 1 : Nat) : Int) := fun c hc => by
  have hm : cs.getD j 0 ≤ (k : Int) := by
    rw [List.getD_eq_getElem?_getD, List.getElem?_eq_getElem hj]
    exact h _ (List.getElem_mem _)
  rcases List.mem_or_eq_of_mem_set hc with h' | rfl
  · have := h c h'; omega
  · omega
theorem CntSt.good {w wr w3 w4 w5 : World} {p q k : Nat} {a b : Int} {cs : List Int} (h : CntSt w wr p q k a cs) (j : Nat) (hj : j < 9) (hr : RunAt w3 p b (cs.set j (cs.getD j 0 + 1))) (ho : Only (· = p) wr w3) (hf : Fresh w3 w4) (hr2 : RunAt w5 q b (cs.set j (cs.getD j 0 + 1))) (ho2 : Only (· = q) w4 w5) :
    CntSt w w5 p q (k + 1) b (cs.set j (cs.getD j 0 + 1)) := by
  have hl : j < cs.length := by rw [h.rp.len]; exact hj
  have hs := sum_set1 cs j hl
  exact ⟨(hr.fresh hf).only ho2 h.ne, hr2, h.ne, set_bd' hl h.bd, by have := h.s0; omega, by have := h.sk; omega, (((h.fr.trans' ho (fun i _ e => .inl e)).freshS hf).trans' ho2 (fun i _ e => .inr e))⟩

set_option maxRecDepth 100000 in
set_option maxHeartbeats 12800000 in
theorem StateCounts_any (s : IntsV) (w : World) (hs : s.Ok w) (hT : Tbl w) :
    Calls Tryd.prog 6 #[.slice s.A s.zs.length s.c] w fun en w' => en = .returned (.bool true) ∧ Below w.heap.size w w' := by
  obtain ⟨A, c, zs⟩ := s
  have hTT := Lib.hid hT
  have hlc := hs.le
  have hm := hs.max
  have HROW := Lib.hid hs.rows
  have hg0 := hT.lt
  clear hT hs
  simp only at hlc hm HROW ⊢
  unfold maxLen at hm
  by_cases h200 : 200 < zs.length
  · have h200' : (200 : Int) < (zs.length : Int) := by omega
    go_enter Tryd.func6, Tryd.ntmps6
    go_wp2_with fail
    with_reducible refine (run_new _).mono ?_
    rintro en w1 ⟨p, rfl, hp, hr, hf⟩
    have HF := Lib.hid hf
    have HT := Lib.hid (hTT.out.fresh hf)
    clear hr hf hTT
    go_wp2_with fail
    with_reducible refine (run_new _).mono ?_
    rintro en w2 ⟨q, rfl, hq, hr, hf⟩
    have HF2 := Lib.hid (HF.out.trans hf)
    have HT2 := Lib.hid (HT.out.fresh hf)
    clear hr hf HT
    go_wp2_with fail
    with_reducible refine (state_awake _ HT2.out).mono ?_
    rintro en w3 ⟨rfl, hf3⟩
    have HF3 := Lib.hid (HF2.out.trans hf3)
    clear hf3
    go_wp2
    go_ret
    exact ⟨rfl, HF3.out⟩
  · have h200' : ¬ (200 : Int) < (zs.length : Int) := by omega
    go_enter Tryd.func6, Tryd.ntmps6
    go_wp2_with fail
    with_reducible refine (run_new _).mono ?_
    rintro en w1 ⟨p, rfl, hp, hr, hf⟩
    have HF := Lib.hid hf
    have HR := Lib.hid hr
    have HT := Lib.hid (hTT.out.fresh hf)
    have hplt := hr.blk.lt
    clear hr hf hTT
    go_wp2_with fail
    with_reducible refine (run_new _).mono ?_
    rintro en w2 ⟨q, rfl, hq, hr, hf⟩
    have HF2 := Lib.hid (HF.out.trans hf)
    have HT2 := Lib.hid (HT.out.fresh hf)
    have HRP := Lib.hid (HR.out.fresh hf)
    have HRQ := Lib.hid hr
    have hpg : p ≠ 0 := by omega
    have hqg : q ≠ 0 := by omega
    have HPQ : Hid (p ≠ q ∧ w.heap.size ≤ p ∧ w.heap.size ≤ q) := Lib.hid ⟨by omega, hp, by omega⟩
    clear hr hf HT HR hp hq hplt hg0
    go_wp2
    go_loopw [5, 37] (fun n i wr => ∃ (k : Nat) (a : Int) (cs : List Int), k ≤ zs.length ∧ i = .int .i64 (k : Int) ∧ n = .int .i64 cs.sum ∧ CntSt w2 wr p q k a cs) (fun _ i _ => zs.length - (intOf i).toNat)
    case atStart => exact ⟨0, 0, [0, 0, 0, 0, 0, 0, 0, 0, 0], Nat.zero_le _, rfl, rfl, ⟨HRP.out, HRQ.out, HPQ.out.1, by decide, by decide, by decide, Only.refl _ _⟩⟩
    case round =>
      obtain ⟨k, a, cs, hk, rfl, rfl, hst⟩ := hrel
      have HST := Lib.hid hst
      have HTr := Lib.hid (HT2.out.only hst.fr (fun e => by rcases e with e | e; exact hpg e.symm; exact hqg e.symm))
      have hszr := hst.fr.size
      obtain ⟨sm, hsm⟩ : ∃ sm, cs.sum = sm := ⟨_, rfl⟩
      have HSM := Lib.hid hsm
      have hs0 := hst.s0
      have hsk := hst.sk
      have ha0 := hst.rp.a0
      have ha4 := hst.rp.a4
      rw [hsm] at hs0 hsk
      rw [hsm]
      clear hst hsm
      by_cases hlt : k < zs.length
      · have hlt' : (k : Int) < (zs.length : Int) := by omega
        obtain ⟨e, he⟩ : ∃ e, zs[k]? = some e := ⟨_, List.getElem?_eq_getElem hlt⟩
        obtain ⟨b, o', rfl, hbw, k0⟩ := HROW.out.one k e he
        have hbp : ¬ (b = p ∨ b = q) := by have := HPQ.out; omega
        have j0 := (HST.out.fr.cell (p := ⟨b, o' + k, none⟩) (by show b < w2.heap.size; have := HF2.out.size; omega) hbp).trans ((HF2.out.cell (p := ⟨b, o' + k, none⟩) hbw).trans k0)
        simp only [cellI, List.getElem?_cons_zero] at j0
        clear he k0 hbp
        by_cases hin : e < 0 ∨ 8 < e
        · obtain ⟨q1, q2, q3, q4, q5⟩ := do_out (a := a) (cs := cs) hin
          have HM := Lib.hid (may_out (s := a) (e := e) (by omega))
          have HD := Lib.hid (rdoV p a e cs wr _ _ _ _ _ HST.out.rp HTr.out (fun c hc => by have := HST.out.bd c hc; omega) hpg q1 q2 q3 q4 q5)
          clear q1 q2 q3 q4 q5 hin
          go_wp2_with fail
          with_reducible refine (run_at p _ _ _ HST.out.rp).mono ?_
          rintro en w3 ⟨rfl, rfl⟩
          go_wp2_with fail
          with_reducible refine HD.out.mono ?_
          rintro en w3 ⟨rfl, hr3, ho3⟩
          have HS3 := Lib.hid (HST.out.bad hr3 ho3)
          have HT3 := Lib.hid (HTr.out.only ho3 (fun e => hpg e.symm))
          clear hr3 ho3
          go_wp2_with fail
          with_reducible refine (smayV a e _ _ (HT3.out.fresh (Fresh.alloc _ _)) HM.out).mono ?_
          rintro en w4 ⟨rfl, hf4⟩
          have HS4 := Lib.hid ((HS3.out.fresh (Fresh.alloc _ _)).fresh hf4)
          obtain ⟨r0, r1⟩ := ((Blk.new w3 28 #[.int .i64 0, .bool false]).fresh hf4).c2
          clear hf4
          go_wp2
          go_roundw
          case rel => exact ⟨k + 1, a, cs, by omega, by go_num, by rw [HSM.out], by first | exact HS4.out | exact HS4.out.fresh (Fresh.alloc _ _)⟩
          case measure => simp [intOf]; omega
        · have hf := cnts_out ⟨a.toNat, by omega⟩ ⟨e.toNat, by omega⟩
          have hA := cnts_a ⟨a.toNat, by omega⟩ ⟨e.toNat, by omega⟩
          simp only [show ((a.toNat : Nat) : Int) = a by omega, show ((e.toNat : Nat) : Int) = e by omega] at hf hA
          rcases hf with ⟨f5, f2, f3, f4, f6⟩ | hf
          · have hL : doL a e cs = cs.set e.toNat (cs.getD e.toNat 0 + 1) := by unfold doL; rw [if_pos f5]
            have hj : e.toNat < 9 := by omega
            have HD := Lib.hid (rdoV p a e cs wr _ _ _ _ _ HST.out.rp HTr.out (fun c hc => by have := HST.out.bd c hc; omega) hpg f2 f3 f4 rfl hL)
            have HDQ := Lib.hid (fun (w' : World) (h : RunAt w' q a cs) (hT : Tbl w') => rdoV q a e cs w' _ _ _ _ _ h hT (fun c hc => by have := HST.out.bd c hc; omega) hqg f2 f3 f4 rfl hL)
            have HM := Lib.hid f6
            generalize doA a e = b1 at *
            have HSS := Lib.hid (sum_set1 cs e.toNat (by rw [HST.out.rp.len]; exact hj))
            clear f2 f3 f4 f5 f6 hL hA hin
            have hw1 : IntKind.i64.wrap (sm + 1) = sm + 1 := IntWalk.i64_in _ (by omega)
            go_wp2_with fail
            with_reducible refine (run_at p _ _ _ HST.out.rp).mono ?_
            rintro en w3 ⟨rfl, rfl⟩
            go_wp2_with fail
            with_reducible refine HD.out.mono ?_
            rintro en w3 ⟨rfl, hr3, ho3⟩
            have HR3 := Lib.hid hr3
            have HO3 := Lib.hid ho3
            have HT3 := Lib.hid (HTr.out.only ho3 (fun e => hpg e.symm))
            have HQ3 := Lib.hid (HST.out.rq.only ho3 (fun e => HST.out.ne e.symm))
            clear hr3 ho3
            go_wp2_with (go_at_call 15; go_in)
            with_reducible refine (HDQ.out _ (HQ3.out.fresh ((Fresh.alloc _ _).allocS _)) (HT3.out.fresh ((Fresh.alloc _ _).allocS _))).mono ?_
            rintro en w4 ⟨rfl, hr4, ho4⟩
            have HS4 := Lib.hid (HST.out.good e.toNat hj HR3.out HO3.out ((Fresh.alloc _ _).allocS _) hr4 ho4)
            have HT4 := Lib.hid ((HT3.out.fresh ((Fresh.alloc _ _).allocS _)).only ho4 (fun e => hqg e.symm))
            have HB4 := ((Blk.new w3 28 #[.int .i64 0, .bool false]).fresh (Fresh.alloc _ (.cells #[.int .i64 0, .bool false] 28))).only ho4 (by have := HQ3.out.blk.lt; omega)
            obtain ⟨s0, s1⟩ := HB4.c2
            have HBB4 := Lib.hid HB4
            clear hr4 ho4 HB4
            go_wp2_with fail
            with_reducible refine (smayV a e _ _ HT4.out HM.out).mono ?_
            rintro en w5 ⟨rfl, hf5⟩
            have HS5 := Lib.hid (HS4.out.fresh hf5)
            obtain ⟨r0, r1⟩ := (HBB4.out.fresh hf5).c2
            have hz5 := (HBB4.out.fresh hf5).lt
            clear hf5
            go_wp2
            go_roundw
            case rel => exact ⟨k + 1, b1, _, by omega, by go_num, by rw [HSS.out, HSM.out], by first | exact HS5.out | exact HS5.out.fresh (Fresh.alloc _ _)⟩
            case measure => simp [intOf]; omega
          · rcases hf with ⟨f5, f2, f3, f4, f6⟩ | ⟨f5, f2, f3, f4, f6⟩ | ⟨f5, f2, f3, f4, f6⟩
            · have hL : doL a e cs = cs := by unfold doL; rw [if_neg (by rw [f5]; simp)]
              have hb := hA.1 f5 (by rw [f3]; omega)
              have HD := Lib.hid (rdoV p a e cs wr _ _ _ _ _ HST.out.rp HTr.out (fun c hc => by have := HST.out.bd c hc; omega) hpg f2 f3 f4 hb hL)
              have HM := Lib.hid f6
              clear f2 f3 f4 f5 f6 hL hA hb hin
              go_wp2_with fail
              with_reducible refine (run_at p _ _ _ HST.out.rp).mono ?_
              rintro en w3 ⟨rfl, rfl⟩
              go_wp2_with fail
              with_reducible refine HD.out.mono ?_
              rintro en w3 ⟨rfl, hr3, ho3⟩
              have HS3 := Lib.hid (HST.out.bad hr3 ho3)
              have HT3 := Lib.hid (HTr.out.only ho3 (fun e => hpg e.symm))
              clear hr3 ho3
              go_wp2_with (go_at_call 15; go_in)
              with_reducible refine (smayV a e _ _ (HT3.out.fresh (Fresh.alloc _ _)) HM.out).mono ?_
              rintro en w4 ⟨rfl, hf4⟩
              have HS4 := Lib.hid ((HS3.out.fresh (Fresh.alloc _ _)).fresh hf4)
              have HT4 := Lib.hid ((HT3.out.fresh (Fresh.alloc _ _)).fresh hf4)
              have HB4 := (((Blk.new w3 28 #[.int .i64 0, .bool false])).fresh hf4)
              obtain ⟨r0, r1⟩ := HB4.c2
              have hz4 := HB4.lt
              clear hf4 HB4
              go_wp2
              go_roundw
              case rel => exact ⟨k + 1, a, cs, by omega, by go_num, by rw [HSM.out], by first | exact HS4.out | exact HS4.out.fresh (Fresh.alloc _ _)⟩
              case measure => simp [intOf]; omega
            · have hL : doL a e cs = cs := by unfold doL; rw [if_neg (by rw [f5]; simp)]
              have hb := hA.1 f5 (by rw [f3]; omega)
              have HD := Lib.hid (rdoV p a e cs wr _ _ _ _ _ HST.out.rp HTr.out (fun c hc => by have := HST.out.bd c hc; omega) hpg f2 f3 f4 hb hL)
              have HM := Lib.hid f6
              clear f2 f3 f4 f5 f6 hL hA hb hin
              go_wp2_with fail
              with_reducible refine (run_at p _ _ _ HST.out.rp).mono ?_
              rintro en w3 ⟨rfl, rfl⟩
              go_wp2_with fail
              with_reducible refine HD.out.mono ?_
              rintro en w3 ⟨rfl, hr3, ho3⟩
              have HS3 := Lib.hid (HST.out.bad hr3 ho3)
              have HT3 := Lib.hid (HTr.out.only ho3 (fun e => hpg e.symm))
              clear hr3 ho3
              go_wp2_with (go_at_call 15; go_in)
              with_reducible refine (smayV a e _ _ (HT3.out.fresh ((Fresh.alloc _ _).allocS _)) HM.out).mono ?_
              rintro en w4 ⟨rfl, hf4⟩
              have HS4 := Lib.hid ((HS3.out.fresh ((Fresh.alloc _ _).allocS _)).fresh hf4)
              have HT4 := Lib.hid ((HT3.out.fresh ((Fresh.alloc _ _).allocS _)).fresh hf4)
              have HB4 := (((Blk.new w3 28 #[.int .i64 101, .bool true]).fresh (Fresh.alloc _ (.cells #[.int .i64 101, .bool true] 28))).fresh hf4)
              obtain ⟨r0, r1⟩ := HB4.c2
              have hz4 := HB4.lt
              clear hf4 HB4
              go_wp2
              go_roundw
              case rel => exact ⟨k + 1, a, cs, by omega, by go_num, by rw [HSM.out], by first | exact HS4.out | exact HS4.out.fresh (Fresh.alloc _ _)⟩
              case measure => simp [intOf]; omega
            · have hL : doL a e cs = cs := by unfold doL; rw [if_neg (by rw [f5]; simp)]
              have hb := hA.2 f3
              have HD := Lib.hid (rdoV p a e cs wr _ _ _ _ _ HST.out.rp HTr.out (fun c hc => by have := HST.out.bd c hc; omega) hpg f2 f3 f4 hb hL)
              have HM := Lib.hid f6
              clear f2 f3 f4 f5 f6 hL hA hb hin
              go_wp2_with fail
              with_reducible refine (run_at p _ _ _ HST.out.rp).mono ?_
              rintro en w3 ⟨rfl, rfl⟩
              go_wp2_with fail
              with_reducible refine HD.out.mono ?_
              rintro en w3 ⟨rfl, hr3, ho3⟩
              have HS3 : Hid (RunAt w3 p 4 cs ∧ Only (fun b => b = p ∨ b = q) w2 w3) := Lib.hid ⟨hr3, HST.out.fr.trans' ho3 (fun i _ e => .inl e)⟩
              have HT3 := Lib.hid (HTr.out.only ho3 (fun e => hpg e.symm))
              clear hr3 ho3
              go_wp2_with (go_at_call 15; go_in)
              with_reducible refine (smayV a e _ _ (HT3.out.fresh ((Fresh.alloc _ _).allocS _)) HM.out).mono ?_
              rintro en w4 ⟨rfl, hf4⟩
              have HS4 : Hid (RunAt w4 p 4 cs ∧ Only (fun b => b = p ∨ b = q) w2 w4) := Lib.hid ⟨(HS3.out.1.fresh ((Fresh.alloc _ _).allocS _)).fresh hf4, (HS3.out.2.freshS ((Fresh.alloc _ _).allocS _)).freshS hf4⟩
              have HT4 := Lib.hid ((HT3.out.fresh ((Fresh.alloc _ _).allocS _)).fresh hf4)
              have HB4 := (((Blk.new w3 28 #[.int .i64 105, .bool false]).fresh (Fresh.alloc _ (.cells #[.int .i64 105, .bool false] 28))).fresh hf4)
              obtain ⟨r0, r1⟩ := HB4.c2
              have hz4 := HB4.lt
              clear hf4 HB4
              go_wp2_with (go_at_call 15; go_in)
              with_reducible refine (run_at p _ _ _ (HS4.out.1.fresh (Fresh.alloc _ _))).mono ?_
              rintro en w5 ⟨rfl, rfl⟩
              go_wp2_with fail
              with_reducible refine (state_awake _ (HT4.out.fresh (Fresh.alloc _ _))).mono ?_
              rintro en w5 ⟨rfl, hf5⟩
              have HF5 : Hid (Fresh w w5) := Lib.hid ((Fresh.allocS (show Fresh w w4 from Below.trans HF2.out (Only.below HS4.out.2 HF2.out.size (fun i e => by have := HPQ.out; omega))) _).trans hf5)
              clear hf5
              go_wp2
              go_ret
              exact ⟨rfl, HF5.out⟩
      · have hlt' : ¬ (k : Int) < (zs.length : Int) := by omega
        have HFE : Hid (Fresh w wr) := Lib.hid (Below.trans HF2.out (Only.below HST.out.fr HF2.out.size (fun i e => by have := HPQ.out; omega)))
        go_wp2
        go_loop [11, 12] (fun su ei => ∃ j : Nat, j ≤ 9 ∧ ei = .int .i64 (j : Int) ∧ su = .int .i64 (cs.take j).sum ∧ 0 ≤ (cs.take j).sum ∧ (cs.take j).sum ≤ 1000 * (j : Int)) (fun _ ei => 9 - (intOf ei).toNat)
        case atStart => exact ⟨0, by omega, rfl, rfl, by simp, by simp⟩
        case round =>
          obtain ⟨j, hj, rfl, rfl, hb0, hb1⟩ := hrel
          obtain ⟨sj, hsj⟩ : ∃ sj, (cs.take j).sum = sj := ⟨_, rfl⟩
          rw [hsj] at hb0 hb1
          rw [hsj]
          by_cases hj9 : j < 9
          · have hst1 := sum_take1 cs j (by rw [HST.out.rp.len]; exact hj9)
            have hcm : cs.getD j 0 ∈ cs := by
              rw [List.getD_eq_getElem?_getD, List.getElem?_eq_getElem (by rw [HST.out.rp.len]; exact hj9)]
              exact List.getElem_mem _
            have hcb := HST.out.rp.bd _ hcm
            have hcb2 := HST.out.bd _ hcm
            have hcn : cntI cs (j : Int) = cs.getD j 0 := by unfold cntI; rw [if_pos (by omega), Int.toNat_natCast]
            rw [hsj] at hst1
            have HS1 := Lib.hid hst1
            generalize cs.getD j 0 = cj at *
            have HCN := Lib.hid hcn
            have h8 : (j : Int) ≤ 8 := by omega
            have hw1 : IntKind.i64.wrap (sj + cj) = sj + cj := IntWalk.i64_in _ (by omega)
            have hq : (cj != cj) = false := by simp
            obtain ⟨hc0, _⟩ := hcb
            clear hst1 hcm hcn hsj
            go_wp2_with fail
            with_reducible refine (run_countV p _ _ _ _ _ HST.out.rp HCN.out).mono ?_
            rintro en w3 ⟨rfl, rfl⟩
            go_wp2_with fail
            with_reducible refine (run_countV q _ _ _ _ _ HST.out.rq HCN.out).mono ?_
            rintro en w3 ⟨rfl, rfl⟩
            go_wp2_with fail
            with_reducible refine (run_countV p _ _ _ _ _ HST.out.rp HCN.out).mono ?_
            rintro en w3 ⟨rfl, rfl⟩
            go_wp2
            go_round
            case rel => exact ⟨j + 1, by omega, by go_num, by rw [HS1.out], by rw [HS1.out]; omega, by rw [HS1.out]; omega⟩
            case measure => simp [intOf]; omega
          · have h9 : j = 9 := by omega
            subst h9
            have hsm2 := HSM.out
            rw [List.take_of_length_le (by rw [HST.out.rp.len]; omega), hsm2] at hsj
            subst hsj
            clear hsm2
            go_wp2_with fail
            with_reducible refine (run_at q _ _ _ HST.out.rq).mono ?_
            rintro en w3 ⟨rfl, rfl⟩
            go_wp2_with fail
            with_reducible refine (run_at p _ _ _ HST.out.rp).mono ?_
            rintro en w3 ⟨rfl, rfl⟩
            go_wp2_with fail
            with_reducible refine (state_awake _ HTr.out).mono ?_
            rintro en w3 ⟨rfl, hf3⟩
            have HF3 := Lib.hid (HFE.out.trans hf3)
            clear hf3
            go_wp2
            go_ret
            exact ⟨rfl, HF3.out⟩
end Go.Proofs.YtdmcinndpkcjjaaDoor
