/-
  The law StateEnds: its walk.
-/
import Derived.Test.YtdmcinndpkcjjaaDoorStateV2
namespace Go.Proofs.YtdmcinndpkcjjaaDoor
set_option linter.unusedVariables false
open Go.RowKit Go.ChangeShapes Go.WideShapes Go.Deep
def bi (b : Bool) : Int := if b then 1 else 0
theorem bi_bd (b : Bool) : 0 ≤ bi b ∧ bi b ≤ 1 := by cases b <;> decide
structure EndsInv (a : Int) (cs : List Int) (o t : Bool) : Prop where
  a0 : 0 ≤ a
  a4 : a ≤ 4
  len : cs.length = 9
  o3 : o = true → a = 3 ∨ a = 4
  t2 : t = true → a = 2 ∨ a = 4
  c2 : cs.getD 2 0 = bi o
  c6 : cs.getD 6 0 = bi t
  c3 : cs.getD 3 0 = 0 ∨ (cs.getD 3 0 = 1 ∧ a = 4)
theorem ends_f1 : ∀ a : Fin 5, ∀ e : Fin 9, 0 ≤ doA a.val e.val ∧ doA a.val e.val ≤ 4 ∧ (a.val = 4 → doA a.val e.val = 4) := by decide +kernel
theorem ends_f2 : ∀ a : Fin 5, ∀ e : Fin 9, ((a.val = 3 ∨ a.val = 4) → (doA a.val e.val = 3 ∨ doA a.val e.val = 4)) ∧ ((a.val = 2 ∨ a.val = 4) → (doA a.val e.val = 2 ∨ doA a.val e.val = 4)) := by decide +kernel
theorem ends_f3 : ∀ a : Fin 5, ∀ e : Fin 9, doGood a.val e.val = true → ((a.val = 3 ∨ a.val = 4) → 2 < e.val) ∧ ((a.val = 2 ∨ a.val = 4) → e.val < 4 ∨ 6 < e.val) := by decide +kernel
theorem ends_f4 : ∀ a : Fin 5, ∀ e : Fin 9, doGood a.val e.val = true → (e.val = 2 → doA a.val e.val = 3 ∨ doA a.val e.val = 4) ∧ (e.val = 6 → doA a.val e.val = 2 ∨ doA a.val e.val = 4) ∧ (e.val = 3 → doA a.val e.val = 4 ∧ a.val ≠ 4) := by decide +kernel
theorem ends_f5 : ∀ e : Fin 9, doGood 4 e.val = true → 7 ≤ e.val := by decide +kernel
theorem ends_fits (a : Fin 5) (e : Fin 9) : 0 ≤ doA a.val e.val ∧ doA a.val e.val ≤ 4 ∧ (a.val = 4 → doA a.val e.val = 4) ∧ ((a.val = 3 ∨ a.val = 4) → (doA a.val e.val = 3 ∨ doA a.val e.val = 4)) ∧ ((a.val = 2 ∨ a.val = 4) → (doA a.val e.val = 2 ∨ doA a.val e.val = 4)) ∧
    (doGood a.val e.val = true → ((a.val = 3 ∨ a.val = 4) → 2 < e.val) ∧ ((a.val = 2 ∨ a.val = 4) → e.val < 4 ∨ 6 < e.val) ∧ (e.val = 2 → doA a.val e.val = 3 ∨ doA a.val e.val = 4) ∧ (e.val = 6 → doA a.val e.val = 2 ∨ doA a.val e.val = 4) ∧ (e.val = 3 → doA a.val e.val = 4 ∧ a.val ≠ 4)) :=
  ⟨(ends_f1 a e).1, (ends_f1 a e).2.1, (ends_f1 a e).2.2, (ends_f2 a e).1, (ends_f2 a e).2, fun h => ⟨(ends_f3 a e h).1, (ends_f3 a e h).2, ends_f4 a e h⟩⟩
theorem ends_out : ∀ a : Fin 5, ∀ e : Fin 9, (doGood a.val e.val = true ∧ doE a.val e.val = 0 ∧ doC a.val e.val = 0 ∧ doB a.val e.val = false) ∨ (doGood a.val e.val = false ∧ doE a.val e.val = 25 ∧ doC a.val e.val = 0 ∧ doB a.val e.val = false) ∨
    (doGood a.val e.val = false ∧ doE a.val e.val = 0 ∧ doC a.val e.val = 101 ∧ doB a.val e.val = true) ∨ (doGood a.val e.val = false ∧ doE a.val e.val = 0 ∧ doC a.val e.val = 105 ∧ doB a.val e.val = false) := by decide +kernel
theorem ends_bad {a : Int} {cs : List Int} {o t : Bool} {e : Int} (h : EndsInv a cs o t) (h0 : 0 ≤ e) (h8 : e ≤ 8) : EndsInv (doA a e) cs o t ∧ (a = 4 → doA a e = 4) := by
  have f := ends_fits ⟨a.toNat, by have := h.a0; have := h.a4; omega⟩ ⟨e.toNat, by omega⟩
  simp only [show ((a.toNat : Nat) : Int) = a by have := h.a0; omega, show ((e.toNat : Nat) : Int) = e by omega] at f
  have ha : (a.toNat : Int) = a := by have := h.a0; omega
  obtain ⟨f1, f2, f3, f4, f5, _⟩ := f
  refine ⟨⟨f1, f2, h.len, fun ho => f4 (by have := h.o3 ho; omega), fun ht => f5 (by have := h.t2 ht; omega), h.c2, h.c6, ?_⟩, fun h4 => f3 (by omega)⟩
  rcases h.c3 with h | ⟨h, h4⟩
  · exact .inl h
  · exact .inr ⟨h, f3 (by omega)⟩
theorem getD_set (cs : List Int) (i j : Nat) (x : Int) (hj : j < cs.length) : (cs.set j x).getD i 0 = if i = j then x else cs.getD i 0 := by
  rw [List.getD_eq_getElem?_getD, List.getD_eq_getElem?_getD, List.getElem?_set]
  split
  · rename_i h
    subst h
    simp [hj]
  · rename_i h
    rw [if_neg (fun e => h e.symm)]
theorem ends_good {a : Int} {cs : List Int} {o t : Bool} {e : Int} (h : EndsInv a cs o t) (h0 : 0 ≤ e) (h8 : e ≤ 8) (hg : doGood a e = true) :
    EndsInv (doA a e) (cs.set e.toNat (cs.getD e.toNat 0 + 1)) (o || (e == 2)) (t || (e == 6)) ∧ (a = 4 → doA a e = 4) ∧ (o = true → 2 < e) ∧ (t = true → e < 4 ∨ 6 < e) := by
  have f := ends_fits ⟨a.toNat, by have := h.a0; have := h.a4; omega⟩ ⟨e.toNat, by omega⟩
  simp only [show ((a.toNat : Nat) : Int) = a by have := h.a0; omega, show ((e.toNat : Nat) : Int) = e by omega] at f
  have ha : (a.toNat : Int) = a := by have := h.a0; omega
  obtain ⟨f1, f2, f3, f4, f5, f6⟩ := f
  obtain ⟨g1, g2, g3, g4, g5⟩ := f6 hg
  have hl : e.toNat < cs.length := by rw [h.len]; omega
  have ho : o = true → 2 < e := fun ho => by have := g1 (by have := h.o3 ho; omega); omega
  have ht : t = true → e < 4 ∨ 6 < e := fun ht => by have := g2 (by have := h.t2 ht; omega); omega
  refine ⟨⟨f1, f2, by rw [List.length_set]; exact h.len, ?_, ?_, ?_, ?_, ?_⟩, fun h4 => f3 (by omega), ho, ht⟩
  · intro hx
    rw [Bool.or_eq_true] at hx
    rcases hx with hx | hx
    · exact f4 (by have := h.o3 hx; omega)
    · exact g3 (by have := eq_of_beq hx; omega)
  · intro hx
    rw [Bool.or_eq_true] at hx
    rcases hx with hx | hx
    · exact f5 (by have := h.t2 hx; omega)
    · exact g4 (by have := eq_of_beq hx; omega)
  · rw [getD_set _ _ _ _ hl]
    by_cases he : e = 2
    · subst he
      have : o = false := by
        cases ho' : o with
        | false => rfl
        | true => have := ho ho'; omega
      have h2 := h.c2
      rw [this] at h2 ⊢
      rw [if_pos (show (2 : Nat) = Int.toNat 2 from rfl)]
      show cs.getD 2 0 + 1 = _
      rw [h2]; rfl
    · rw [if_neg (by omega), h.c2, show (e == 2) = false by simpa using he, Bool.or_false]
  · rw [getD_set _ _ _ _ hl]
    by_cases he : e = 6
    · subst he
      have : t = false := by
        cases ht' : t with
        | false => rfl
        | true => have := ht ht'; omega
      have h2 := h.c6
      rw [this] at h2 ⊢
      rw [if_pos (show (6 : Nat) = Int.toNat 6 from rfl)]
      show cs.getD 6 0 + 1 = _
      rw [h2]; rfl
    · rw [if_neg (by omega), h.c6, show (e == 6) = false by simpa using he, Bool.or_false]
  · rw [getD_set _ _ _ _ hl]
    by_cases he : e = 3
    · subst he
      obtain ⟨g6, g7⟩ := g5 rfl
      rw [if_pos (show (3 : Nat) = Int.toNat 3 from rfl)]
      rcases h.c3 with h3 | ⟨h3, h4⟩
      · right
        exact ⟨by show cs.getD 3 0 + 1 = 1; omega, g6⟩
      · omega
    · rw [if_neg (by omega)]
      rcases h.c3 with h3 | ⟨h3, h4⟩
      · exact .inl h3
      · exact .inr ⟨h3, f3 (by omega)⟩

/-- What the loop keeps. -/
structure EndsSt (w wr : World) (p k : Nat) (a : Int) (cs : List Int) (o t : Bool) : Prop where
  run : RunAt wr p a cs
  inv : EndsInv a cs o t
  bd : ∀ c ∈ cs, c ≤ (k : Int)
  fr : Only (· = p) w wr
theorem EndsSt.fresh {w wr wr' : World} {p k : Nat} {a : Int} {cs : List Int} {o t : Bool} (h : EndsSt w wr p k a cs o t) (hf : Fresh wr wr') : EndsSt w wr' p k a cs o t := ⟨h.run.fresh hf, h.inv, h.bd, h.fr.freshS hf⟩
theorem set_bd {cs : List Int} {k j : Nat} (hj : j < cs.length) (h : ∀ c ∈ cs, c ≤ (k : Int)) : ∀ c ∈ cs.set j (cs.getD j 0 + 1), c ≤ ((k + 1 : Nat) : Int) := fun c hc => by
  have hm : cs.getD j 0 ≤ (k : Int) := by
    rw [List.getD_eq_getElem?_getD, List.getElem?_eq_getElem hj]
    exact h _ (List.getElem_mem _)
  rcases List.mem_or_eq_of_mem_set hc with h' | rfl
  · have := h c h'; omega
  · omega

set_option maxRecDepth 100000 in
set_option maxHeartbeats 12800000 in
theorem StateEnds_any (s : IntsV) (w : World) (hs : s.Ok w) (hT : Tbl w) :
    Calls Tryd.prog 5 #[.slice s.A s.zs.length s.c] w fun en w' => en = .returned (.bool true) ∧ Below w.heap.size w w' := by
  obtain ⟨A, c, zs⟩ := s
  have hTT := Lib.hid hT
  have hlc := hs.le
  have hm := hs.max
  have HROW := Lib.hid hs.rows
  have hg0 := hT.lt
  clear hT hs
  simp only at hlc hm HROW ⊢
  unfold maxLen at hm
  by_cases h200 : 200 < zs.length
  · have h200' : (200 : Int) < (zs.length : Int) := by omega
    go_enter Tryd.func5, Tryd.ntmps5
    go_wp2_with fail
    with_reducible refine (run_new _).mono ?_
    rintro en w1 ⟨p, rfl, hp, hr, hf⟩
    have HF := Lib.hid hf
    have HT := Lib.hid (hTT.out.fresh hf)
    clear hr hf hTT
    go_wp2_with fail
    with_reducible refine (state_awake _ HT.out).mono ?_
    rintro en w2 ⟨rfl, hf2⟩
    have HF2 := Lib.hid (HF.out.trans hf2)
    clear hf2
    go_wp2
    go_ret
    exact ⟨rfl, HF2.out⟩
  · have h200' : ¬ (200 : Int) < (zs.length : Int) := by omega
    go_enter Tryd.func5, Tryd.ntmps5
    go_wp2_with fail
    with_reducible refine (run_new _).mono ?_
    rintro en w2 ⟨p, rfl, hp, hr, hf⟩
    have HF2 := Lib.hid hf
    have HR := Lib.hid hr
    have HT2 := Lib.hid (hTT.out.fresh hf)
    have hpg : p ≠ 0 := by omega
    have HP : Hid (w.heap.size ≤ p ∧ p < w2.heap.size) := Lib.hid ⟨hp, hr.blk.lt⟩
    clear hr hf hTT hp hg0
    go_wp2
    go_loopw [4, 5, 6, 27] (fun cl ou th i wr => ∃ (k : Nat) (a : Int) (cs : List Int) (o t : Bool), k ≤ zs.length ∧ i = .int .i64 (k : Int) ∧ cl = .bool (a == 4) ∧ ou = .bool o ∧ th = .bool t ∧ EndsSt w2 wr p k a cs o t) (fun _ _ _ i _ => zs.length - (intOf i).toNat)
    case atStart => exact ⟨0, 0, [0, 0, 0, 0, 0, 0, 0, 0, 0], false, false, Nat.zero_le _, rfl, rfl, rfl, rfl, ⟨HR.out, ⟨by omega, by omega, rfl, by simp, by simp, rfl, rfl, .inl rfl⟩, by decide, Only.refl _ _⟩⟩
    case round =>
      obtain ⟨k, a, cs, o, t, hk, rfl, rfl, rfl, rfl, hst⟩ := hrel
      have HST := Lib.hid hst
      have hr := hst.run
      have hinv := hst.inv
      have HTr := Lib.hid (HT2.out.only hst.fr (fun e => hpg e.symm))
      have hszr := hst.fr.size
      clear hst
      by_cases hlt : k < zs.length
      · have hlt' : (k : Int) < (zs.length : Int) := by omega
        obtain ⟨e, he⟩ : ∃ e, zs[k]? = some e := ⟨_, List.getElem?_eq_getElem hlt⟩
        obtain ⟨b, o', rfl, hbw, k0⟩ := HROW.out.one k e he
        have hbp : b ≠ p := by have := HP.out; omega
        have j0 := (HST.out.fr.cell (p := ⟨b, o' + k, none⟩) (by show b < w2.heap.size; have := HF2.out.size; omega) hbp).trans ((HF2.out.cell (p := ⟨b, o' + k, none⟩) hbw).trans k0)
        simp only [cellI, List.getElem?_cons_zero] at j0
        clear he k0
        by_cases h4 : a = 4
        · subst h4
          by_cases hin : e < 0 ∨ 8 < e
          · obtain ⟨q1, q2, q3, q4, q5⟩ := do_out (a := 4) (cs := cs) hin
            have HV := Lib.hid hinv
            have HD := Lib.hid (rdoV p 4 e cs wr _ _ _ _ _ hr HTr.out (fun c hc => by have := HST.out.bd c hc; omega) hpg q1 q2 q3 q4 q5)
            clear q1 q2 q3 q4 q5 hr hinv hin
            cases o <;> cases t
            all_goals
              as_aux_lemma =>
                go_wp2_with fail
                with_reducible refine HD.out.mono ?_
                rintro en w3 ⟨rfl, hr3, ho3⟩
                have HS3 : Hid (EndsSt w2 w3 p (k + 1) 4 cs _ _) := Lib.hid ⟨hr3, HV.out, fun c hc => by have := HST.out.bd c hc; omega, HST.out.fr.trans ho3⟩
                clear hr3 ho3
                go_wp2_with (first | (go_at_call 20; with_reducible refine (run_atV p _ _ _ _ (by first | exact HS3.out.run.fresh (Fresh.alloc _ _) | exact HS3.out.run.fresh ((Fresh.alloc _ _).allocS _)) rfl).mono ?_; rintro en w6 ⟨rfl, rfl⟩) | (go_at_call 15; go_in) | (go_at_call 14; go_in))
                go_roundw
                case rel => exact ⟨k + 1, 4, _, _, _, by omega, by go_num, rfl, rfl, rfl, by first | exact HS3.out.fresh (Fresh.alloc _ _) | exact HS3.out.fresh ((Fresh.alloc _ _).allocS _)⟩
                case measure => simp [intOf]; omega
          · have hf := ends_out ⟨(4 : Int).toNat, by have := hinv.a0; have := hinv.a4; omega⟩ ⟨e.toNat, by omega⟩
            simp only [show (((4 : Int).toNat : Nat) : Int) = 4 by have := hinv.a0; omega, show ((e.toNat : Nat) : Int) = e by omega] at hf
            rcases hf with ⟨f5, f2, f3, f4⟩ | hf
            · have hL : doL 4 e cs = cs.set e.toNat (cs.getD e.toNat 0 + 1) := by unfold doL; rw [if_pos f5]
              obtain ⟨hv, hv4, ho, ht⟩ := ends_good hinv (by omega) (by omega) f5
              have HD := Lib.hid (rdoV p 4 e cs wr _ _ _ _ _ hr HTr.out (fun c hc => by have := HST.out.bd c hc; omega) hpg f2 f3 f4 rfl hL)
              rw [hv4 rfl] at HD hv
              have he7 : e = 7 ∨ e = 8 := by
                have := ends_f5 ⟨e.toNat, by omega⟩ (by simpa only [show ((e.toNat : Nat) : Int) = e by omega] using f5)
                simp only at this
                omega
              have HV := Lib.hid hv
              clear hv hv4 ho ht f2 f3 f4 f5 hL hr hinv hin
              cases o <;> cases t
              all_goals
                rcases he7 with rfl | rfl
                all_goals
                  as_aux_lemma =>
                    go_wp2_with fail
                    with_reducible refine HD.out.mono ?_
                    rintro en w3 ⟨rfl, hr3, ho3⟩
                    have HS3 : Hid (EndsSt w2 w3 p (k + 1) 4 _ _ _) := Lib.hid ⟨hr3, HV.out, set_bd (by rw [HST.out.run.len]; decide) HST.out.bd, HST.out.fr.trans ho3⟩
                    clear hr3 ho3
                    go_wp2_with (first | (go_at_call 20; with_reducible refine (run_atV p _ _ _ _ (by first | exact HS3.out.run.fresh (Fresh.alloc _ _) | exact HS3.out.run.fresh ((Fresh.alloc _ _).allocS _)) rfl).mono ?_; rintro en w6 ⟨rfl, rfl⟩) | (go_at_call 15; go_in) | (go_at_call 14; go_in))
                    go_roundw
                    case rel => exact ⟨k + 1, 4, _, _, _, by omega, by go_num, rfl, rfl, rfl, by first | exact HS3.out.fresh (Fresh.alloc _ _) | exact HS3.out.fresh ((Fresh.alloc _ _).allocS _)⟩
                    case measure => simp [intOf]; omega
            · obtain ⟨hv, hv4⟩ := ends_bad (e := e) hinv (by omega) (by omega)
              rcases hf with ⟨f5, f2, f3, f4⟩ | ⟨f5, f2, f3, f4⟩ | ⟨f5, f2, f3, f4⟩
              all_goals
                have hL : doL 4 e cs = cs := by unfold doL; rw [if_neg (by rw [f5]; simp)]
                have HD := Lib.hid (rdoV p 4 e cs wr _ _ _ _ _ hr HTr.out (fun c hc => by have := HST.out.bd c hc; omega) hpg f2 f3 f4 rfl hL)
                rw [hv4 rfl] at HD hv
                have HV := Lib.hid hv
                clear hv hv4 f2 f3 f4 f5 hL hr hinv hin
                cases o <;> cases t
                all_goals
                  as_aux_lemma =>
                    go_wp2_with fail
                    with_reducible refine HD.out.mono ?_
                    rintro en w3 ⟨rfl, hr3, ho3⟩
                    have HS3 : Hid (EndsSt w2 w3 p (k + 1) 4 cs _ _) := Lib.hid ⟨hr3, HV.out, fun c hc => by have := HST.out.bd c hc; omega, HST.out.fr.trans ho3⟩
                    clear hr3 ho3
                    go_wp2_with (first | (go_at_call 20; with_reducible refine (run_atV p _ _ _ _ (by first | exact HS3.out.run.fresh (Fresh.alloc _ _) | exact HS3.out.run.fresh ((Fresh.alloc _ _).allocS _)) rfl).mono ?_; rintro en w6 ⟨rfl, rfl⟩) | (go_at_call 15; go_in) | (go_at_call 14; go_in))
                    go_roundw
                    case rel => exact ⟨k + 1, 4, _, _, _, by omega, by go_num, rfl, rfl, rfl, by first | exact HS3.out.fresh (Fresh.alloc _ _) | exact HS3.out.fresh ((Fresh.alloc _ _).allocS _)⟩
                    case measure => simp [intOf]; omega
        · have ha4 : (a == 4) = false := by simpa using h4
          clear h4
          by_cases hin : e < 0 ∨ 8 < e
          · obtain ⟨q1, q2, q3, q4, q5⟩ := do_out (a := a) (cs := cs) hin
            have HV := Lib.hid hinv
            have HD := Lib.hid (rdoV p a e cs wr _ _ _ _ _ hr HTr.out (fun c hc => by have := HST.out.bd c hc; omega) hpg q1 q2 q3 q4 q5)
            clear q1 q2 q3 q4 q5 hr hinv hin
            cases o <;> cases t
            all_goals
              as_aux_lemma =>
                go_wp2_with fail
                with_reducible refine HD.out.mono ?_
                rintro en w3 ⟨rfl, hr3, ho3⟩
                have HS3 : Hid (EndsSt w2 w3 p (k + 1) a cs _ _) := Lib.hid ⟨hr3, HV.out, fun c hc => by have := HST.out.bd c hc; omega, HST.out.fr.trans ho3⟩
                clear hr3 ho3
                go_wp2_with (first | (go_at_call 20; with_reducible refine (run_atV p _ _ _ _ (by first | exact HS3.out.run.fresh (Fresh.alloc _ _) | exact HS3.out.run.fresh ((Fresh.alloc _ _).allocS _)) rfl).mono ?_; rintro en w6 ⟨rfl, rfl⟩) | (go_at_call 15; go_in) | (go_at_call 14; go_in))
                go_roundw
                case rel => exact ⟨k + 1, a, _, _, _, by omega, by go_num, by first | rfl | (rw [ha4]; rfl), rfl, rfl, by first | exact HS3.out.fresh (Fresh.alloc _ _) | exact HS3.out.fresh ((Fresh.alloc _ _).allocS _)⟩
                case measure => simp [intOf]; omega
          · have hf := ends_out ⟨(a : Int).toNat, by have := hinv.a0; have := hinv.a4; omega⟩ ⟨e.toNat, by omega⟩
            simp only [show (((a : Int).toNat : Nat) : Int) = a by have := hinv.a0; omega, show ((e.toNat : Nat) : Int) = e by omega] at hf
            rcases hf with ⟨f5, f2, f3, f4⟩ | hf
            · have hL : doL a e cs = cs.set e.toNat (cs.getD e.toNat 0 + 1) := by unfold doL; rw [if_pos f5]
              obtain ⟨hv, hv4, ho, ht⟩ := ends_good hinv (by omega) (by omega) f5
              have HD := Lib.hid (rdoV p a e cs wr _ _ _ _ _ hr HTr.out (fun c hc => by have := HST.out.bd c hc; omega) hpg f2 f3 f4 rfl hL)
              generalize doA a e = b1 at *
              have HV := Lib.hid hv
              have he9 : e = 0 ∨ e = 1 ∨ e = 2 ∨ e = 3 ∨ e = 4 ∨ e = 5 ∨ e = 6 ∨ e = 7 ∨ e = 8 := by omega
              clear hv hv4 f2 f3 f4 f5 hL hr hinv hin
              cases o <;> cases t
              · clear ho ht
                rcases he9 with rfl | rfl | rfl | rfl | rfl | rfl | rfl | rfl | rfl
                all_goals
                  as_aux_lemma =>
                    go_wp2_with fail
                    with_reducible refine HD.out.mono ?_
                    rintro en w3 ⟨rfl, hr3, ho3⟩
                    have HS3 : Hid (EndsSt w2 w3 p (k + 1) b1 _ _ _) := Lib.hid ⟨hr3, HV.out, set_bd (by rw [HST.out.run.len]; decide) HST.out.bd, HST.out.fr.trans ho3⟩
                    clear hr3 ho3
                    go_wp2_with (first | (go_at_call 20; with_reducible refine (run_atV p _ _ _ _ (by first | exact HS3.out.run.fresh (Fresh.alloc _ _) | exact HS3.out.run.fresh ((Fresh.alloc _ _).allocS _)) rfl).mono ?_; rintro en w6 ⟨rfl, rfl⟩) | (go_at_call 15; go_in) | (go_at_call 14; go_in))
                    go_roundw
                    case rel => exact ⟨k + 1, b1, _, _, _, by omega, by go_num, rfl, rfl, rfl, by first | exact HS3.out.fresh (Fresh.alloc _ _) | exact HS3.out.fresh ((Fresh.alloc _ _).allocS _)⟩
                    case measure => simp [intOf]; omega
              · have hx := ht rfl
                have he9' : e = 0 ∨ e = 1 ∨ e = 2 ∨ e = 3 ∨ e = 7 ∨ e = 8 := by omega
                clear ho ht he9 hx
                rcases he9' with rfl | rfl | rfl | rfl | rfl | rfl
                all_goals
                  as_aux_lemma =>
                    go_wp2_with fail
                    with_reducible refine HD.out.mono ?_
                    rintro en w3 ⟨rfl, hr3, ho3⟩
                    have HS3 : Hid (EndsSt w2 w3 p (k + 1) b1 _ _ _) := Lib.hid ⟨hr3, HV.out, set_bd (by rw [HST.out.run.len]; decide) HST.out.bd, HST.out.fr.trans ho3⟩
                    clear hr3 ho3
                    go_wp2_with (first | (go_at_call 20; with_reducible refine (run_atV p _ _ _ _ (by first | exact HS3.out.run.fresh (Fresh.alloc _ _) | exact HS3.out.run.fresh ((Fresh.alloc _ _).allocS _)) rfl).mono ?_; rintro en w6 ⟨rfl, rfl⟩) | (go_at_call 15; go_in) | (go_at_call 14; go_in))
                    go_roundw
                    case rel => exact ⟨k + 1, b1, _, _, _, by omega, by go_num, rfl, rfl, rfl, by first | exact HS3.out.fresh (Fresh.alloc _ _) | exact HS3.out.fresh ((Fresh.alloc _ _).allocS _)⟩
                    case measure => simp [intOf]; omega
              · have hx := ho rfl
                have he9' : e = 3 ∨ e = 4 ∨ e = 5 ∨ e = 6 ∨ e = 7 ∨ e = 8 := by omega
                clear ho ht he9 hx
                rcases he9' with rfl | rfl | rfl | rfl | rfl | rfl
                all_goals
                  as_aux_lemma =>
                    go_wp2_with fail
                    with_reducible refine HD.out.mono ?_
                    rintro en w3 ⟨rfl, hr3, ho3⟩
                    have HS3 : Hid (EndsSt w2 w3 p (k + 1) b1 _ _ _) := Lib.hid ⟨hr3, HV.out, set_bd (by rw [HST.out.run.len]; decide) HST.out.bd, HST.out.fr.trans ho3⟩
                    clear hr3 ho3
                    go_wp2_with (first | (go_at_call 20; with_reducible refine (run_atV p _ _ _ _ (by first | exact HS3.out.run.fresh (Fresh.alloc _ _) | exact HS3.out.run.fresh ((Fresh.alloc _ _).allocS _)) rfl).mono ?_; rintro en w6 ⟨rfl, rfl⟩) | (go_at_call 15; go_in) | (go_at_call 14; go_in))
                    go_roundw
                    case rel => exact ⟨k + 1, b1, _, _, _, by omega, by go_num, rfl, rfl, rfl, by first | exact HS3.out.fresh (Fresh.alloc _ _) | exact HS3.out.fresh ((Fresh.alloc _ _).allocS _)⟩
                    case measure => simp [intOf]; omega
              · have hx := ho rfl
                have hy := ht rfl
                have he9' : e = 3 ∨ e = 7 ∨ e = 8 := by omega
                clear ho ht he9 hx hy
                rcases he9' with rfl | rfl | rfl
                all_goals
                  as_aux_lemma =>
                    go_wp2_with fail
                    with_reducible refine HD.out.mono ?_
                    rintro en w3 ⟨rfl, hr3, ho3⟩
                    have HS3 : Hid (EndsSt w2 w3 p (k + 1) b1 _ _ _) := Lib.hid ⟨hr3, HV.out, set_bd (by rw [HST.out.run.len]; decide) HST.out.bd, HST.out.fr.trans ho3⟩
                    clear hr3 ho3
                    go_wp2_with (first | (go_at_call 20; with_reducible refine (run_atV p _ _ _ _ (by first | exact HS3.out.run.fresh (Fresh.alloc _ _) | exact HS3.out.run.fresh ((Fresh.alloc _ _).allocS _)) rfl).mono ?_; rintro en w6 ⟨rfl, rfl⟩) | (go_at_call 15; go_in) | (go_at_call 14; go_in))
                    go_roundw
                    case rel => exact ⟨k + 1, b1, _, _, _, by omega, by go_num, rfl, rfl, rfl, by first | exact HS3.out.fresh (Fresh.alloc _ _) | exact HS3.out.fresh ((Fresh.alloc _ _).allocS _)⟩
                    case measure => simp [intOf]; omega
            · obtain ⟨hv, hv4⟩ := ends_bad (e := e) hinv (by omega) (by omega)
              rcases hf with ⟨f5, f2, f3, f4⟩ | ⟨f5, f2, f3, f4⟩ | ⟨f5, f2, f3, f4⟩
              all_goals
                have hL : doL a e cs = cs := by unfold doL; rw [if_neg (by rw [f5]; simp)]
                have HD := Lib.hid (rdoV p a e cs wr _ _ _ _ _ hr HTr.out (fun c hc => by have := HST.out.bd c hc; omega) hpg f2 f3 f4 rfl hL)
                generalize doA a e = b1 at *
                have HV := Lib.hid hv
                clear hv hv4 f2 f3 f4 f5 hL hr hinv hin
                cases o <;> cases t
                all_goals
                  as_aux_lemma =>
                    go_wp2_with fail
                    with_reducible refine HD.out.mono ?_
                    rintro en w3 ⟨rfl, hr3, ho3⟩
                    have HS3 : Hid (EndsSt w2 w3 p (k + 1) b1 cs _ _) := Lib.hid ⟨hr3, HV.out, fun c hc => by have := HST.out.bd c hc; omega, HST.out.fr.trans ho3⟩
                    clear hr3 ho3
                    go_wp2_with (first | (go_at_call 20; with_reducible refine (run_atV p _ _ _ _ (by first | exact HS3.out.run.fresh (Fresh.alloc _ _) | exact HS3.out.run.fresh ((Fresh.alloc _ _).allocS _)) rfl).mono ?_; rintro en w6 ⟨rfl, rfl⟩) | (go_at_call 15; go_in) | (go_at_call 14; go_in))
                    go_roundw
                    case rel => exact ⟨k + 1, b1, _, _, _, by omega, by go_num, rfl, rfl, rfl, by first | exact HS3.out.fresh (Fresh.alloc _ _) | exact HS3.out.fresh ((Fresh.alloc _ _).allocS _)⟩
                    case measure => simp [intOf]; omega
      · have hlt' : ¬ (k : Int) < (zs.length : Int) := by omega
        have HFE : Hid (Fresh w wr) := Lib.hid (Below.trans HF2.out (Only.below HST.out.fr HF2.out.size (fun i e => by have := HP.out; omega)))
        have H2 : Hid (cntI cs 2 = bi o) := Lib.hid hinv.c2
        have H6 : Hid (cntI cs 6 = bi t) := Lib.hid hinv.c6
        have hb2 := (bi_bd o).2
        have hb6 := (bi_bd t).2
        obtain ⟨n3, hn3, hb3⟩ : ∃ n, cntI cs 3 = n ∧ n ≤ 1 := ⟨_, rfl, by show cs.getD 3 0 ≤ 1; have := hinv.c3; omega⟩
        have H3 := Lib.hid hn3
        clear hn3 hinv
        generalize bi o = n2 at *
        generalize bi t = n6 at *
        go_wp2_with fail
        with_reducible refine (run_countV p _ _ _ _ _ hr H2.out).mono ?_
        rintro en w3 ⟨rfl, rfl⟩
        go_wp2_with fail
        with_reducible refine (run_countV p _ _ _ _ _ hr H6.out).mono ?_
        rintro en w3 ⟨rfl, rfl⟩
        go_wp2_with fail
        with_reducible refine (run_countV p _ _ _ _ _ hr H3.out).mono ?_
        rintro en w3 ⟨rfl, rfl⟩
        clear hr
        go_wp2_with fail
        with_reducible refine (state_awake _ HTr.out).mono ?_
        rintro en w3 ⟨rfl, hf3⟩
        have HF3 := Lib.hid (HFE.out.trans hf3)
        clear hf3
        go_wp2
        go_ret
        exact ⟨rfl, HF3.out⟩
end Go.Proofs.YtdmcinndpkcjjaaDoor
