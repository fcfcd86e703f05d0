/-
  Package request: a request's lines. Made by program.
-/
import Derived.Test.YtapikjhfgcbifaaGreatDoorReqM0
import Derived.Laws.EntriesVeiled
namespace Go.Proofs.YtapikjhfgcbifaaGreatDoor
set_option maxRecDepth 100000
set_option linter.unusedVariables false
set_option linter.unusedSimpArgs false
open Go.RowKit
theorem ld_oneR (ys : List LnD) : ∀ u ∈ rowL ys, u.oneCell' = true := fun u hu => by
  simp only [rowL, List.mem_flatMap, lnD, List.mem_cons, List.not_mem_nil, or_false] at hu
  obtain ⟨x, _, rfl | rfl | rfl⟩ := hu <;> rfl
theorem moreLr {w0 w : World} {base n : Nat} {v : Value} {xs : List LnD} (h : Own w base 38 3 v n (rowL xs)) (hb : Below base w0 w) (hbase : base ≤ w0.heap.size) (A : Option Addr) (c : Nat) (ys : List LnD) (hm : Many lnD 3 w A ys) (hn : n + ys.length ≤ 2000000) :
    ∃ A' c' w', (Builtin.append_ #[30, 30] 30 #[v, .slice A ys.length c]).run Tryz.prog w = .ok (.slice A' (n + ys.length) c') w' ∧ Own w' base 38 3 (.slice A' (n + ys.length) c') (n + ys.length) (rowL (xs ++ ys)) ∧ Below base w0 w' := by
  obtain ⟨i, hi, hiz, his, hib⟩ := info_parts3D lnd_info
  cases A with
  | none =>
    have hl : ys = [] := by
      rcases ys with _ | ⟨x, l⟩
      · rfl
      · obtain ⟨b, o, e, _⟩ := hm (by simp)
        cases e
    subst hl
    rcases h.2 with ⟨rfl, rfl⟩ | ⟨g, cap, cur, rfl, _, _, hnc, _⟩
    · refine ⟨none, 0, w, ?_, by simpa using h, hb⟩
      simp [Builtin.append_, run_underlying Tryz.underlying30, sizeOf, typeInfo, hi, Builtin.lenOf, Builtin.firstCells]
    · refine ⟨_, cap, w, ?_, by simpa using h, hb⟩
      simp [Builtin.append_, run_underlying Tryz.underlying30, sizeOf, typeInfo, hi, Builtin.lenOf, Builtin.firstCells, hnc, storeCells]
  | some a =>
    have hcs : ∀ j u, (rowL ys)[j]? = some u → w.cell? (a.add j) = some u := fun j u hj => by
      have hjl : j < (rowL ys).length := (List.getElem?_eq_some_iff.1 hj).1
      rw [rowL_length] at hjl
      obtain ⟨b, o, e, _, hc⟩ := hm (by omega)
      injection e with e
      subst e
      have hd : j = j / 3 * 3 + j % 3 := by omega
      rw [add_eq _ _ rfl]
      have h1 := hc (j / 3) (by omega) (j % 3) (by omega)
      have h2 := rowL_at (List.getElem?_eq_getElem (show j / 3 < ys.length by omega)) (j % 3) (by omega)
      rw [← hd] at h2
      rw [hj] at h2
      rw [← h2] at h1
      rw [← h1]
      simp only
      congr 2
      omega
    obtain ⟨v', w', hr, ho, hg, hnil⟩ := run_append_own (P := Tryz.prog) w base 30 30 38 i _ 3 40 Tryz.underlying30 hi hiz his hib rfl (by omega) v n _ h a ys.length c (rowL ys) (rowL_length ys) hcs (ld_oneR ys) (by unfold maxLen; omega) (by omega) (by have := hb.size; omega)
    obtain ⟨A', c', rfl, _⟩ := Own.slice (show Own w' base _ 3 v' _ _ from ho)
    have hlt := h.lt
    refine ⟨A', c', w', hr, ?_, hb.grown hg (by have := hb.size; omega) (fun k hk => (hlt k hk).1)⟩
    unfold rowL at ho ⊢
    rw [List.flatMap_append]
    exact ho
theorem clnR_yesR {l : List FldT} {xs : List LnD} (h : clnR l = (0, xs)) : (∀ (j : Nat) f, l[j]? = some f → wrongF f = 0) ∧ xs = keepR l := by
  have hall : ∀ (j : Nat) f, l[j]? = some f → wrongF f = 0 := fun j => by
    induction j using Nat.strongRecOn with
    | ind j ih =>
      intro f hf
      apply Classical.byContradiction
      intro h0
      have h1 := clnR_bad hf (fun i g hi hg => ih i hi g hg) h0
      rw [h] at h1
      injection h1 with h2 _
      exact h0 h2.symm
  refine ⟨hall, ?_⟩
  have h1 := clnR_ok (l := l) (fun f hf => by
    obtain ⟨j, hj⟩ := List.getElem?_of_mem hf
    exact hall j f hj)
  rw [h] at h1
  injection h1
def LinP (r : RqV) (w : World) (e : Ending) (w' : World) : Prop :=
  ∃ (n : Nat) (A : Option Addr) (xs : List LnD) (c : Nat), linesR r.m r.s r.p r.a r.fs = (n, xs) ∧ e = .returned (.tuple #[.slice A xs.length c, .int .i64 (n : Int)]) ∧ Own w' w.heap.size 38 3 (.slice A xs.length c) xs.length (rowL xs) ∧ Fresh w w'
/-- While the lines are laid. -/
structure LinI (r : RqV) (w : World) (k : Nat) (A : Option Addr) (n c : Nat) (wr : World) : Prop where
  len : n = ((baseR r.m r.s r.p r.a).take k).length
  own : Own wr w.heap.size 38 3 (.slice A n c) n (rowL ((baseR r.m r.s r.p r.a).take k))
theorem LinI.fresh {r : RqV} {w wr W : World} {k : Nat} {A : Option Addr} {n c : Nat} (h : LinI r w k A n c wr) (hf : Fresh wr W) : LinI r w k A n c W := ⟨h.len, h.own.fresh hf⟩
theorem LinI.skip {r : RqV} {w wr : World} {k : Nat} {A : Option Addr} {n c : Nat} (h : LinI r w k A n c wr) (he : (baseR r.m r.s r.p r.a).take (k + 1) = (baseR r.m r.s r.p r.a).take k) : LinI r w (k + 1) A n c wr := ⟨by rw [he]; exact h.len, by rw [he]; exact h.own⟩
theorem base_len (m s p a : ByteArray) : (baseR m s p a).length ≤ 4 := by
  unfold baseR autL
  split <;> simp
theorem LinI.step {r : RqV} {w wr : World} {k : Nat} {A : Option Addr} {n c : Nat} (h : LinI r w k A n c wr) (hf : Fresh w wr) (x : LnD) (hx : (baseR r.m r.s r.p r.a).take (k + 1) = (baseR r.m r.s r.p r.a).take k ++ [x]) :
    ∃ A' c' w', (Builtin.append_ #[30, 30] 30 #[.slice A n c, .slice (some ⟨wr.drew.heap.size, 0, none⟩) 1 1]).run Tryz.prog (wr.drew.alloc (.cells #[.string x.1.1, .string x.1.2, .bool x.2] 38)) = .ok (.slice A' (n + 1) c') w' ∧ LinI r w (k + 1) A' (n + 1) c' w' ∧ (∀ w2, Fresh w2 wr → (∀ k, (Value.slice A n c).ownBlock = some k → w2.heap.size ≤ k) → Fresh w2 w') ∧ (∀ g, (Value.slice A' (n + 1) c').ownBlock = some g → (Value.slice A n c).ownBlock = some g ∨ wr.heap.size < g) := by
  have hown := h.own
  have hl := base_len r.m r.s r.p r.a
  have hk : ((baseR r.m r.s r.p r.a).take k).length ≤ 4 := by rw [List.length_take]; omega
  rw [h.len] at hown
  obtain ⟨A', c', w', hap, ho', hO, hnw⟩ := ln_push (w := wr.drew) (base := w.heap.size) (hown.fresh (Fresh.drew wr)) (hf.trans (Fresh.drew wr)).size x (by omega) _ rfl
  rw [← h.len] at hap hO ho' hnw
  refine ⟨A', c', w', hap, ⟨by rw [hx, List.length_append, ← h.len]; rfl, ?_⟩, fun w2 hf2 h3 => ?_, fun g hg => ?_⟩
  · rw [hx]
    have := ho'
    rw [List.length_append, ← h.len] at this
    exact this
  · have h1 : Only (fun k => (Value.slice A n c).ownBlock = some k) wr w' := (Only.of_fresh (Fresh.drew wr)).trans hO
    exact hf2.only h1 h3
  · exact hnw g hg
set_option maxHeartbeats 16000000 in
theorem rq_lines (r : RqV) (w : World) (hm : Many fldD 2 w r.FA r.fs) (hl : r.fs.length ≤ 1000000) (hs : ∀ f ∈ r.fs, f.2.size ≤ 1000000) (hz : r.m.size ≤ 4611686018427387904 ∧ r.s.size ≤ 4611686018427387904 ∧ r.p.size ≤ 4611686018427387904 ∧ r.a.size ≤ 4611686018427387904) :
    Calls Tryz.prog 11 #[.agg r.arr] w (LinP r w) := by
  have HPL := Lib.hid (fun b w => rq_places b w)
  have HM := Lib.hid hm
  have HLS := Lib.hid hs
  have HLN := Lib.hid hl
  have HR0 := Lib.hid (fun w => rq_method r.m w (by have := hz.1; omega))
  have HR1 := Lib.hid (fun w => rq_scheme r.s w)
  have HR2 := Lib.hid (fun w => rq_path r.p w (by have := hz.2.2.1; omega))
  have HR3 := Lib.hid (fun w => rq_visible r.a w (by have := hz.2.2.2; omega))
  have HNO : Hid (∀ (w' : World), rightR r.m r.s r.p r.a = false → Fresh w w' → LinP r w (.returned (.tuple #[.slice none 0 0, .int .i64 31])) w') := Lib.hid (fun w' h hf => ⟨31, none, [], 0, by unfold linesR; rw [if_pos h], rfl, Own.nil _ _ _ _, hf⟩)
  have HNF : Hid (∀ (n : Nat) (w' : World), rightR r.m r.s r.p r.a = true → (clnR r.fs).1 = n → n ≠ 0 → Fresh w w' → LinP r w (.returned (.tuple #[.slice none 0 0, .int .i64 (n : Int)])) w') := Lib.hid (fun n w' h h1 h2 hf => ⟨n, none, [], 0, by unfold linesR; rw [if_neg (by simp [h]), h1, if_pos h2], rfl, Own.nil _ _ _ _, hf⟩)
  have HYES : Hid (∀ (A : Option Addr) (xs : List LnD) (N c : Nat) (w' : World), rightR r.m r.s r.p r.a = true → clnR r.fs = (0, xs) → N = (baseR r.m r.s r.p r.a ++ xs).length → Own w' w.heap.size 38 3 (.slice A N c) N (rowL (baseR r.m r.s r.p r.a ++ xs)) → Fresh w w' → LinP r w (.returned (.tuple #[.slice A N c, .int .i64 0])) w') := Lib.hid (fun A xs N c w' h h1 h2 h3 hf => by
    subst h2
    exact ⟨0, A, _, c, by unfold linesR; rw [if_neg (by simp [h]), h1]; simp, rfl, h3, hf⟩)
  have HRT : Hid (rightR r.m r.s r.p r.a = (mthB r.m.data.toList && (schB r.s && (pthB r.p && visB r.a.data.toList)))) := Lib.hid rfl
  obtain ⟨b0, hb0⟩ : ∃ b, mthB r.m.data.toList = b := ⟨_, rfl⟩
  obtain ⟨b1, hb1⟩ : ∃ b, schB r.s = b := ⟨_, rfl⟩
  obtain ⟨b2, hb2⟩ : ∃ b, pthB r.p = b := ⟨_, rfl⟩
  obtain ⟨b3, hb3⟩ : ∃ b, visB r.a.data.toList = b := ⟨_, rfl⟩
  rw [hb0] at HR0 HRT
  rw [hb1] at HR1 HRT
  rw [hb2] at HR2 HRT
  rw [hb3] at HR3 HRT
  clear hm hl hs hz hb0 hb1 hb2 hb3
  generalize LinP r w = PP at *
  unfold RqV.arr
  go_enter Tryz.func11, Tryz.ntmps11
  go_upto_region 1 with fail
  refine wp_gen (fun W => Blk W w.heap.size 25 r.arr ∧ Fresh w W) ⟨Blk.new w _ _, Fresh.alloc _ _⟩ ?_
  rintro W1 ⟨hb1, hf1⟩
  obtain ⟨b, hb⟩ : ∃ b, w.heap.size = b := ⟨_, rfl⟩
  have HB := Lib.hid hb
  rw [hb] at hb1 ⊢
  clear hb
  have HB1 := Lib.hid hb1
  have HF1 := Lib.hid hf1
  clear hb1 hf1
  go_wp2_with fail
  with_reducible refine (HPL.out b _).mono ?_
  rintro e w2 ⟨q, rfl, hq, hqb, hf2⟩
  have HQ2 := Lib.hid hq
  have HB2 := Lib.hid (HB1.out.fresh hf2)
  have HF2 := Lib.hid (HF1.out.trans hf2)
  clear hq hqb hf2 HPL HB1 HF1
  unfold RqV.arr at HB2
  unfold plcA at HQ2
  go_wp2_with fail
  go_loopw [4, 11] (fun ox ix wr => ∃ (k : Nat) (A : Option Addr) (n c : Nat), k ≤ 4 ∧ ix = .int .i64 (k : Int) ∧ ox = .slice A n c ∧ LinI r w k A n c wr ∧ (∀ g, (Value.slice A n c).ownBlock = some g → w2.heap.size ≤ g) ∧ (0 < k → b0 = true) ∧ (1 < k → b1 = true) ∧ (2 < k → b2 = true) ∧ (3 < k → b3 = true) ∧ Fresh w2 wr) (fun _ i _ => 4 - (intOf i).toNat)
  case atStart => exact ⟨0, none, 0, 0, by omega, rfl, rfl, ⟨rfl, Own.nil _ _ _ _⟩, (fun g h => by cases h), (fun h => by omega), (fun h => by omega), (fun h => by omega), (fun h => by omega), Fresh.refl _⟩
  case round =>
    obtain ⟨k, A, n, c, hk, rfl, rfl, hI, hnew, ht0, ht1, ht2, ht3, hfr⟩ := hrel
    have HI := Lib.hid hI
    have HNW := Lib.hid hnew
    have HFR := Lib.hid hfr
    have HT := Lib.hid (And.intro ht0 (And.intro ht1 (And.intro ht2 ht3)))
    clear hI hnew ht0 ht1 ht2 ht3
    rcases (show k = 0 ∨ k = 1 ∨ k = 2 ∨ k = 3 ∨ k = 4 by omega) with rfl | rfl | rfl | rfl | rfl
    · rw [show ((0 : Nat) : Int) = 0 from rfl]
      have hqk := HQ2.out.fresh hfr
      have hbk := HB2.out.fresh hfr
      have e0 := hqk.cell 0
      have e1 := hqk.cell 1
      have e2 := hqk.cell 2
      simp at e0 e1 e2
      clear hfr
      go_upto_region 5 with fail
      refine wp_gen (fun W => Blk W wr.heap.size 72 #[.string mthN, .pointer (some ⟨b, 0, none⟩), .func (.func 47) #[] #[]] ∧ Fresh wr W) ⟨Blk.new wr _ _, Fresh.alloc _ _⟩ ?_
      rintro W ⟨hbw, hfw⟩
      obtain ⟨p, hp⟩ : ∃ p, wr.heap.size = p := ⟨_, rfl⟩
      rw [hp] at hbw ⊢
      clear hp e0 e1 e2 hqk
      have HSK : Hid (∀ w', Fresh W w' → w'.cell? ⟨p, 0, none⟩ = some (.string mthN) ∧ w'.cell? ⟨p, 1, none⟩ = some (.pointer (some ⟨b, 0, none⟩)) ∧ w'.cell? ⟨p, 2, none⟩ = some (.func (.func 47) #[] #[]) ∧ w'.cell? ⟨b, 0, none⟩ = some (.string r.m) ∧ Fresh W w') := Lib.hid (fun w' hw => ⟨(hbw.fresh hw).cell 0, (hbw.fresh hw).cell 1, (hbw.fresh hw).cell 2, (hbk.fresh (hfw.trans hw)).cell 0, hw⟩)
      have HFW := Lib.hid (HFR.out.trans hfw)
      have HIW := Lib.hid (HI.out.fresh hfw)
      clear hbk
      clear hbw hfw HI
      obtain ⟨y0, y1, y2, y3, _⟩ := HSK.out W (Fresh.refl _)
      go_region_held3 (fun w' => w'.cell? ⟨p, 0, none⟩ = some (.string mthN) ∧ w'.cell? ⟨p, 1, none⟩ = some (.pointer (some ⟨b, 0, none⟩)) ∧ w'.cell? ⟨p, 2, none⟩ = some (.func (.func 47) #[] #[]) ∧ w'.cell? ⟨b, 0, none⟩ = some (.string r.m) ∧ Fresh W w')
        ((refine HSK.out _ ?_; first | with_reducible assumption | with_reducible exact Fresh.drew _))
        (first | (go_at_call 47; (with_reducible refine (HR0.out _).mono ?_); rintro e wa ⟨rfl, hwa⟩; have hga : Fresh W wa := by (rw [hwa]; first | with_reducible assumption | with_reducible exact Fresh.drew _)))
      all_goals
        refine wx_gen (fun W2 => Fresh W W2) (by first | exact hga | exact Fresh.drew _) ?_
        clear y0 y1 y2 y3
        rintro W2 hw2
        obtain ⟨y0, y1, y2, y3, _⟩ := HSK.out W2 hw2
        have HFX := Lib.hid (HFW.out.trans hw2)
        have HIX := Lib.hid (HIW.out.fresh hw2)
        clear hw2
        cases b0
        · have HX := Lib.hid (HNO.out W2 (by rw [HRT.out]; simp) (HF2.out.trans HFX.out))
          go_wp2_with fail
          exact HX.out
        · have n1 : (mthN.toList == [58, 97, 117, 116, 104, 111, 114, 105, 116, 121]) = false := by rw [Lib.toList_data]; rfl
          have n2 : (mthN.toList != [58, 97, 117, 116, 104, 111, 114, 105, 116, 121]) = true := by rw [Lib.toList_data]; rfl
          obtain ⟨A', c', w', hap, hI', hfn, hnw⟩ := HIX.out.step (HF2.out.trans HFX.out) ((mthN, r.m), false) (by rfl)
          have HI' := Lib.hid hI'
          have HFN := Lib.hid (hfn w2 HFX.out HNW.out)
          have HNW' : Hid (∀ g, (Value.slice A' (n + 1) c').ownBlock = some g → w2.heap.size ≤ g) := Lib.hid (fun g hg => by
            rcases hnw g hg with h | h
            · exact HNW.out g h
            · have := HFX.out.size
              omega)
          clear hI' hfn hnw
          simp only at hap
          go_upto_region 8 with fail
          go_region_law (with_reducible refine step_app rfl (.tmp 33) (.tmp 42) _ rfl hap rfl (by simp [Act.eval, Act.put]) (by simp [Act.eval, Act.put]) ?_)
          all_goals
            refine wx_gen (fun W => LinI r w (0 + 1) A' (n + 1) c' W ∧ Fresh w2 W) ⟨HI'.out, HFN.out⟩ ?_
            clear HI' HFN hap y0 y1 y2 y3
            rintro W9 ⟨hI9, hF9⟩
            have HI9 := Lib.hid hI9
            have HF9 := Lib.hid hF9
            clear hI9 hF9
            go_wp2_with fail
            go_roundw
            case rel => exact ⟨0 + 1, A', n + 1, c', by omega, by first | rfl | go_num, rfl, HI9.out, HNW'.out, (fun _ => by trivial), (fun h => absurd h (by omega)), (fun h => absurd h (by omega)), (fun h => absurd h (by omega)), HF9.out⟩
            case measure => simp [intOf]

    · rw [show ((1 : Nat) : Int) = 1 from rfl]
      have hqk := HQ2.out.fresh hfr
      have hbk := HB2.out.fresh hfr
      have e0 := hqk.cell 3
      have e1 := hqk.cell 4
      have e2 := hqk.cell 5
      simp at e0 e1 e2
      clear hfr
      go_upto_region 5 with fail
      refine wp_gen (fun W => Blk W wr.heap.size 72 #[.string schN, .pointer (some ⟨b, 1, none⟩), .func (.func 48) #[] #[]] ∧ Fresh wr W) ⟨Blk.new wr _ _, Fresh.alloc _ _⟩ ?_
      rintro W ⟨hbw, hfw⟩
      obtain ⟨p, hp⟩ : ∃ p, wr.heap.size = p := ⟨_, rfl⟩
      rw [hp] at hbw ⊢
      clear hp e0 e1 e2 hqk
      have HSK : Hid (∀ w', Fresh W w' → w'.cell? ⟨p, 0, none⟩ = some (.string schN) ∧ w'.cell? ⟨p, 1, none⟩ = some (.pointer (some ⟨b, 1, none⟩)) ∧ w'.cell? ⟨p, 2, none⟩ = some (.func (.func 48) #[] #[]) ∧ w'.cell? ⟨b, 1, none⟩ = some (.string r.s) ∧ Fresh W w') := Lib.hid (fun w' hw => ⟨(hbw.fresh hw).cell 0, (hbw.fresh hw).cell 1, (hbw.fresh hw).cell 2, (hbk.fresh (hfw.trans hw)).cell 1, hw⟩)
      have HFW := Lib.hid (HFR.out.trans hfw)
      have HIW := Lib.hid (HI.out.fresh hfw)
      clear hbk
      clear hbw hfw HI
      obtain ⟨y0, y1, y2, y3, _⟩ := HSK.out W (Fresh.refl _)
      go_region_held3 (fun w' => w'.cell? ⟨p, 0, none⟩ = some (.string schN) ∧ w'.cell? ⟨p, 1, none⟩ = some (.pointer (some ⟨b, 1, none⟩)) ∧ w'.cell? ⟨p, 2, none⟩ = some (.func (.func 48) #[] #[]) ∧ w'.cell? ⟨b, 1, none⟩ = some (.string r.s) ∧ Fresh W w')
        ((refine HSK.out _ ?_; first | with_reducible assumption | with_reducible exact Fresh.drew _))
        (first | (go_at_call 48; (with_reducible refine (HR1.out _).mono ?_); rintro e wa ⟨rfl, hwa⟩; have hga : Fresh W wa := by (rw [hwa]; first | with_reducible assumption | with_reducible exact Fresh.drew _)))
      all_goals
        refine wx_gen (fun W2 => Fresh W W2) (by first | exact hga | exact Fresh.drew _) ?_
        clear y0 y1 y2 y3
        rintro W2 hw2
        obtain ⟨y0, y1, y2, y3, _⟩ := HSK.out W2 hw2
        have HFX := Lib.hid (HFW.out.trans hw2)
        have HIX := Lib.hid (HIW.out.fresh hw2)
        clear hw2
        cases b1
        · have HX := Lib.hid (HNO.out W2 (by rw [HRT.out]; simp) (HF2.out.trans HFX.out))
          go_wp2_with fail
          exact HX.out
        · have n1 : (schN.toList == [58, 97, 117, 116, 104, 111, 114, 105, 116, 121]) = false := by rw [Lib.toList_data]; rfl
          have n2 : (schN.toList != [58, 97, 117, 116, 104, 111, 114, 105, 116, 121]) = true := by rw [Lib.toList_data]; rfl
          obtain ⟨A', c', w', hap, hI', hfn, hnw⟩ := HIX.out.step (HF2.out.trans HFX.out) ((schN, r.s), false) (by rfl)
          have HI' := Lib.hid hI'
          have HFN := Lib.hid (hfn w2 HFX.out HNW.out)
          have HNW' : Hid (∀ g, (Value.slice A' (n + 1) c').ownBlock = some g → w2.heap.size ≤ g) := Lib.hid (fun g hg => by
            rcases hnw g hg with h | h
            · exact HNW.out g h
            · have := HFX.out.size
              omega)
          clear hI' hfn hnw
          simp only at hap
          go_upto_region 8 with fail
          go_region_law (with_reducible refine step_app rfl (.tmp 33) (.tmp 42) _ rfl hap rfl (by simp [Act.eval, Act.put]) (by simp [Act.eval, Act.put]) ?_)
          all_goals
            refine wx_gen (fun W => LinI r w (1 + 1) A' (n + 1) c' W ∧ Fresh w2 W) ⟨HI'.out, HFN.out⟩ ?_
            clear HI' HFN hap y0 y1 y2 y3
            rintro W9 ⟨hI9, hF9⟩
            have HI9 := Lib.hid hI9
            have HF9 := Lib.hid hF9
            clear hI9 hF9
            go_wp2_with fail
            go_roundw
            case rel => exact ⟨1 + 1, A', n + 1, c', by omega, by first | rfl | go_num, rfl, HI9.out, HNW'.out, (fun _ => HT.out.1 (by omega)), (fun _ => by trivial), (fun h => absurd h (by omega)), (fun h => absurd h (by omega)), HF9.out⟩
            case measure => simp [intOf]

    · rw [show ((2 : Nat) : Int) = 2 from rfl]
      have hqk := HQ2.out.fresh hfr
      have hbk := HB2.out.fresh hfr
      have e0 := hqk.cell 6
      have e1 := hqk.cell 7
      have e2 := hqk.cell 8
      simp at e0 e1 e2
      clear hfr
      go_upto_region 5 with fail
      refine wp_gen (fun W => Blk W wr.heap.size 72 #[.string pthN, .pointer (some ⟨b, 2, none⟩), .func (.func 49) #[] #[]] ∧ Fresh wr W) ⟨Blk.new wr _ _, Fresh.alloc _ _⟩ ?_
      rintro W ⟨hbw, hfw⟩
      obtain ⟨p, hp⟩ : ∃ p, wr.heap.size = p := ⟨_, rfl⟩
      rw [hp] at hbw ⊢
      clear hp e0 e1 e2 hqk
      have HSK : Hid (∀ w', Fresh W w' → w'.cell? ⟨p, 0, none⟩ = some (.string pthN) ∧ w'.cell? ⟨p, 1, none⟩ = some (.pointer (some ⟨b, 2, none⟩)) ∧ w'.cell? ⟨p, 2, none⟩ = some (.func (.func 49) #[] #[]) ∧ w'.cell? ⟨b, 2, none⟩ = some (.string r.p) ∧ Fresh W w') := Lib.hid (fun w' hw => ⟨(hbw.fresh hw).cell 0, (hbw.fresh hw).cell 1, (hbw.fresh hw).cell 2, (hbk.fresh (hfw.trans hw)).cell 2, hw⟩)
      have HFW := Lib.hid (HFR.out.trans hfw)
      have HIW := Lib.hid (HI.out.fresh hfw)
      clear hbk
      clear hbw hfw HI
      obtain ⟨y0, y1, y2, y3, _⟩ := HSK.out W (Fresh.refl _)
      go_region_held3 (fun w' => w'.cell? ⟨p, 0, none⟩ = some (.string pthN) ∧ w'.cell? ⟨p, 1, none⟩ = some (.pointer (some ⟨b, 2, none⟩)) ∧ w'.cell? ⟨p, 2, none⟩ = some (.func (.func 49) #[] #[]) ∧ w'.cell? ⟨b, 2, none⟩ = some (.string r.p) ∧ Fresh W w')
        ((refine HSK.out _ ?_; first | with_reducible assumption | with_reducible exact Fresh.drew _))
        (first | (go_at_call 49; (with_reducible refine (HR2.out _).mono ?_); rintro e wa ⟨rfl, hwa⟩; have hga : Fresh W wa := by (rw [hwa]; first | with_reducible assumption | with_reducible exact Fresh.drew _)))
      all_goals
        refine wx_gen (fun W2 => Fresh W W2) (by first | exact hga | exact Fresh.drew _) ?_
        clear y0 y1 y2 y3
        rintro W2 hw2
        obtain ⟨y0, y1, y2, y3, _⟩ := HSK.out W2 hw2
        have HFX := Lib.hid (HFW.out.trans hw2)
        have HIX := Lib.hid (HIW.out.fresh hw2)
        clear hw2
        cases b2
        · have HX := Lib.hid (HNO.out W2 (by rw [HRT.out]; simp) (HF2.out.trans HFX.out))
          go_wp2_with fail
          exact HX.out
        · have n1 : (pthN.toList == [58, 97, 117, 116, 104, 111, 114, 105, 116, 121]) = false := by rw [Lib.toList_data]; rfl
          have n2 : (pthN.toList != [58, 97, 117, 116, 104, 111, 114, 105, 116, 121]) = true := by rw [Lib.toList_data]; rfl
          obtain ⟨A', c', w', hap, hI', hfn, hnw⟩ := HIX.out.step (HF2.out.trans HFX.out) ((pthN, r.p), false) (by rfl)
          have HI' := Lib.hid hI'
          have HFN := Lib.hid (hfn w2 HFX.out HNW.out)
          have HNW' : Hid (∀ g, (Value.slice A' (n + 1) c').ownBlock = some g → w2.heap.size ≤ g) := Lib.hid (fun g hg => by
            rcases hnw g hg with h | h
            · exact HNW.out g h
            · have := HFX.out.size
              omega)
          clear hI' hfn hnw
          simp only at hap
          go_upto_region 8 with fail
          go_region_law (with_reducible refine step_app rfl (.tmp 33) (.tmp 42) _ rfl hap rfl (by simp [Act.eval, Act.put]) (by simp [Act.eval, Act.put]) ?_)
          all_goals
            refine wx_gen (fun W => LinI r w (2 + 1) A' (n + 1) c' W ∧ Fresh w2 W) ⟨HI'.out, HFN.out⟩ ?_
            clear HI' HFN hap y0 y1 y2 y3
            rintro W9 ⟨hI9, hF9⟩
            have HI9 := Lib.hid hI9
            have HF9 := Lib.hid hF9
            clear hI9 hF9
            go_wp2_with fail
            go_roundw
            case rel => exact ⟨2 + 1, A', n + 1, c', by omega, by first | rfl | go_num, rfl, HI9.out, HNW'.out, (fun _ => HT.out.1 (by omega)), (fun _ => HT.out.2.1 (by omega)), (fun _ => by trivial), (fun h => absurd h (by omega)), HF9.out⟩
            case measure => simp [intOf]

    · rw [show ((3 : Nat) : Int) = 3 from rfl]
      have hqk := HQ2.out.fresh hfr
      have hbk := HB2.out.fresh hfr
      have e0 := hqk.cell 9
      have e1 := hqk.cell 10
      have e2 := hqk.cell 11
      simp at e0 e1 e2
      clear hfr
      go_upto_region 5 with fail
      refine wp_gen (fun W => Blk W wr.heap.size 72 #[.string autN, .pointer (some ⟨b, 3, none⟩), .func (.func 50) #[] #[]] ∧ Fresh wr W) ⟨Blk.new wr _ _, Fresh.alloc _ _⟩ ?_
      rintro W ⟨hbw, hfw⟩
      obtain ⟨p, hp⟩ : ∃ p, wr.heap.size = p := ⟨_, rfl⟩
      rw [hp] at hbw ⊢
      clear hp e0 e1 e2 hqk
      have HSK : Hid (∀ w', Fresh W w' → w'.cell? ⟨p, 0, none⟩ = some (.string autN) ∧ w'.cell? ⟨p, 1, none⟩ = some (.pointer (some ⟨b, 3, none⟩)) ∧ w'.cell? ⟨p, 2, none⟩ = some (.func (.func 50) #[] #[]) ∧ w'.cell? ⟨b, 3, none⟩ = some (.string r.a) ∧ Fresh W w') := Lib.hid (fun w' hw => ⟨(hbw.fresh hw).cell 0, (hbw.fresh hw).cell 1, (hbw.fresh hw).cell 2, (hbk.fresh (hfw.trans hw)).cell 3, hw⟩)
      have HFW := Lib.hid (HFR.out.trans hfw)
      have HIW := Lib.hid (HI.out.fresh hfw)
      clear hbk
      clear hbw hfw HI
      obtain ⟨y0, y1, y2, y3, _⟩ := HSK.out W (Fresh.refl _)
      go_region_held3 (fun w' => w'.cell? ⟨p, 0, none⟩ = some (.string autN) ∧ w'.cell? ⟨p, 1, none⟩ = some (.pointer (some ⟨b, 3, none⟩)) ∧ w'.cell? ⟨p, 2, none⟩ = some (.func (.func 50) #[] #[]) ∧ w'.cell? ⟨b, 3, none⟩ = some (.string r.a) ∧ Fresh W w')
        ((refine HSK.out _ ?_; first | with_reducible assumption | with_reducible exact Fresh.drew _))
        (first | (go_at_call 50; (with_reducible refine (HR3.out _).mono ?_); rintro e wa ⟨rfl, hwa⟩; have hga : Fresh W wa := by (rw [hwa]; first | with_reducible assumption | with_reducible exact Fresh.drew _)))
      all_goals
        refine wx_gen (fun W2 => Fresh W W2) (by first | exact hga | exact Fresh.drew _) ?_
        clear y0 y1 y2 y3
        rintro W2 hw2
        obtain ⟨y0, y1, y2, y3, _⟩ := HSK.out W2 hw2
        have HFX := Lib.hid (HFW.out.trans hw2)
        have HIX := Lib.hid (HIW.out.fresh hw2)
        clear hw2
        cases b3
        · have HX := Lib.hid (HNO.out W2 (by rw [HRT.out]; simp) (HF2.out.trans HFX.out))
          go_wp2_with fail
          exact HX.out
        · have n1 : (autN.toList == [58, 97, 117, 116, 104, 111, 114, 105, 116, 121]) = true := by rw [Lib.toList_data]; rfl
          have n2 : (autN.toList != [58, 97, 117, 116, 104, 111, 114, 105, 116, 121]) = false := by rw [Lib.toList_data]; rfl
          have HTD : Hid (r.a.toList = r.a.data.toList) := Lib.hid (Lib.toList_data r.a)
          by_cases hae : r.a.data.toList = []
          · have m1 : r.a.toList.isEmpty = true := by rw [HTD.out, hae]; rfl
            have HI9 := Lib.hid (HIX.out.skip (by unfold baseR autL; rw [if_pos hae]; rfl))
            clear hae
            go_wp2_with fail
            go_roundw
            case rel => exact ⟨4, A, n, c, by omega, by first | rfl | go_num, rfl, HI9.out, HNW.out, (fun _ => HT.out.1 (by omega)), (fun _ => HT.out.2.1 (by omega)), (fun _ => HT.out.2.2.1 (by omega)), (fun _ => by trivial), HFX.out⟩
            case measure => simp [intOf]
          have m1 : r.a.toList.isEmpty = false := by
            rw [HTD.out]
            cases h : r.a.data.toList with
            | nil => exact absurd h hae
            | cons x t => rfl
          obtain ⟨A', c', w', hap, hI', hfn, hnw⟩ := HIX.out.step (HF2.out.trans HFX.out) ((autN, r.a), false) (by unfold baseR autL; rw [if_neg hae]; rfl)
          have HI' := Lib.hid hI'
          have HFN := Lib.hid (hfn w2 HFX.out HNW.out)
          have HNW' : Hid (∀ g, (Value.slice A' (n + 1) c').ownBlock = some g → w2.heap.size ≤ g) := Lib.hid (fun g hg => by
            rcases hnw g hg with h | h
            · exact HNW.out g h
            · have := HFX.out.size
              omega)
          clear hI' hfn hnw hae
          simp only at hap
          go_upto_region 8 with fail
          go_region_law (with_reducible refine step_app rfl (.tmp 33) (.tmp 42) _ rfl hap rfl (by simp [Act.eval, Act.put]) (by simp [Act.eval, Act.put]) ?_)
          all_goals
            refine wx_gen (fun W => LinI r w (3 + 1) A' (n + 1) c' W ∧ Fresh w2 W) ⟨HI'.out, HFN.out⟩ ?_
            clear HI' HFN hap y0 y1 y2 y3
            rintro W9 ⟨hI9, hF9⟩
            have HI9 := Lib.hid hI9
            have HF9 := Lib.hid hF9
            clear hI9 hF9
            go_wp2_with fail
            go_roundw
            case rel => exact ⟨3 + 1, A', n + 1, c', by omega, by first | rfl | go_num, rfl, HI9.out, HNW'.out, (fun _ => HT.out.1 (by omega)), (fun _ => HT.out.2.1 (by omega)), (fun _ => HT.out.2.2.1 (by omega)), (fun _ => by trivial), HF9.out⟩
            case measure => simp [intOf]

    · rw [show ((4 : Nat) : Int) = 4 from rfl]
      obtain rfl := HT.out.1 (by omega)
      obtain rfl := HT.out.2.1 (by omega)
      obtain rfl := HT.out.2.2.1 (by omega)
      obtain rfl := HT.out.2.2.2 (by omega)
      have e4 := (HB2.out.fresh hfr).cell 4
      simp at e4
      have HRR : Hid (rightR r.m r.s r.p r.a = true) := Lib.hid HRT.out
      have HCL := Lib.hid (cl_fields r.FA r.fc r.fs wr (HM.out.fresh (HF2.out.trans HFR.out)) (by have := HLN.out; omega) (fun f hf => by have := HLS.out f hf; omega))
      have HBL : Hid ((baseR r.m r.s r.p r.a).take 4 = baseR r.m r.s r.p r.a) := Lib.hid (List.take_of_length_le (base_len _ _ _ _))
      clear hfr HRT
      go_wp2_with fail
      with_reducible refine HCL.out.mono ?_
      rintro e w6 ⟨n6, A6, ms, c6, hcl6, rfl, hown6, hf6⟩
      have HF6 := Lib.hid (HF2.out.trans (HFR.out.trans hf6))
      have HI6 := Lib.hid (HI.out.fresh hf6)
      have HM6 := Lib.hid (own_manyL hown6)
      have HC6 := Lib.hid hcl6
      clear hcl6 hown6 hf6 HCL e4
      by_cases h60 : n6 = 0
      rotate_left
      · have d6 : ((n6 : Int) != 0) = true := by simp; omega
        have HX := Lib.hid (HNF.out n6 w6 HRR.out (by rw [HC6.out]) h60 HF6.out)
        clear h60
        go_wp2_with fail
        exact HX.out
      have hms : ms.length ≤ 1000000 := by
        have h1 := HC6.out
        rw [h60] at h1
        rw [(clnR_yesR h1).2]
        have h2 := keepR_len r.fs
        have := HLN.out
        omega
      have ho := HI6.out.own
      have hn := HI6.out.len
      rw [HBL.out] at ho hn
      have hbl := base_len r.m r.s r.p r.a
      obtain ⟨A7, c7, w7, hap, ho7, hb7⟩ := moreLr ho HF6.out (Nat.le_refl _) A6 c6 ms HM6.out (by omega)
      have HX := Lib.hid (HYES.out A7 ms (n + ms.length) c7 w7 HRR.out (by rw [HC6.out, h60]) (by rw [List.length_append, hn]) ho7 hb7)
      clear ho hn hbl ho7 hb7 hms
      have d6 : ((n6 : Int) != 0) = false := by rw [h60]; rfl
      clear h60
      go_wp2_with (at_builtin; refine wp_app rfl _ _ _ rfl hap rfl rfl rfl ?_)
      exact HX.out
end Go.Proofs.YtapikjhfgcbifaaGreatDoor

