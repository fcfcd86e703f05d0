/-
  The law RegPlays: its walk.
-/
import Derived.Test.YtjediikcfhdgiaaDoorRegI
import Derived.Test.YtjediikcfhdgiaaDoorReg8
namespace Go.Proofs.YtjediikcfhdgiaaDoor
set_option maxRecDepth 100000
set_option linter.unusedVariables false
set_option linter.unusedSimpArgs false
open Go.RowKit Go.Maps
theorem StpR.next {w w' : World} {base g mb lb n : Nat} {q last last' : Int} {N : Nat} {K : Int} {X X' : List StD} {A A' : Option Addr} {c c' : Nat} (h : StI w base g mb lb n q last N K X A c) (hs : StpR w w' base g mb lb n q last' N K X A' c' X') (hN : N + 1 < 1000000) (hK : K + 1 ≤ 1000000000) (hl : X.length + 1 ≤ 1000) : StI w' base g mb lb n q last' (N + 1) (K + 1) X' A' c' :=
  ⟨hs.reg, h.tbl.only hs.only (fun e => by have := h.reg.base _ e; have := h.bT; omega), h.bT, Nat.le_trans h.bw hs.only.size, h.n1, h.n2, h.q2, hN, by have := h.k0; omega, hK, Nat.le_trans hs.len hl, hs.doc, hs.cnt⟩
theorem StI.fresh {w w' : World} {base g mb lb n : Nat} {q last : Int} {N : Nat} {K : Int} {X : List StD} {A : Option Addr} {c : Nat} (h : StI w base g mb lb n q last N K X A c) (hf : Fresh w w') : StI w' base g mb lb n q last N K X A c :=
  { h with reg := h.reg.fresh hf, tbl := h.tbl.fresh hf, bw := Nat.le_trans h.bw hf.size, doc := h.doc.fresh hf }
/-- Both, behind k operations. -/
def PlR (w1 : World) (n : Nat) (q : Int) (g mb lb k : Nat) (last : Int) (A : Option Addr) (c m' : Nat) (wr : World) : Prop :=
  Fresh w1 wr ∧ ∃ X : List StD, X.length = m' ∧ m' ≤ k ∧ StI wr w1.heap.size g mb lb n q last k (k : Int) X A c
def RpP (w : World) (e : Ending) (w' : World) : Prop := e = .returned (.bool true) ∧ Fresh w w'
set_option maxHeartbeats 25600000 in
theorem plays_all (z : CaseR) (w : World) (hz : z.Ok w) (hT : Tbl w) : Calls Tryd.prog 3 #[z.v] w (RpP w) := by
  have HFIN : Hid (∀ W, Fresh w W → RpP w (.returned (.bool true)) W) := Lib.hid (fun W h => ⟨rfl, h⟩)
  have HRT := Lib.hid (fun W => l14_right z W)
  have HAW := Lib.hid (fun W (hf : Fresh w W) => rg_awake W (hT.fresh hf))
  have HT := Lib.hid hT
  have HTL := Lib.hid hT.lt
  have HR := Lib.hid hz.rows
  have HIN := Lib.hid hz.ok
  have hle := hz.le
  have hmx := hz.max
  clear hz hT
  generalize RpP w = PP at *
  obtain ⟨a, b, A, cc, xs⟩ := z
  unfold CaseR.v CaseR.arr CrOk at HRT
  unfold CaseR.v CaseR.arr
  simp only at HRT HR HIN hle hmx ⊢
  obtain ⟨m, hm⟩ : ∃ m, xs.length = m := ⟨_, rfl⟩
  have HM := Lib.hid hm
  rw [hm] at HRT hle ⊢
  clear hm
  unfold maxLen at hmx
  go_enter Tryd.func3, Tryd.ntmps3
  go_upto_region 1 with fail
  obtain ⟨b0, hb0⟩ : ∃ b0, w.heap.size = b0 := ⟨_, rfl⟩
  have HB0 := Lib.hid hb0
  rw [hb0]
  refine wp_gen (fun W => Fresh w W ∧ Blk W b0 24 #[.int .i64 a, .int .i64 b, .slice A m cc]) ⟨Fresh.alloc _ _, Blk.mkAt hb0⟩ ?_
  clear hb0
  rintro W ⟨hf0, hz0⟩
  have HF0 := Lib.hid hf0
  have HZ0 := Lib.hid hz0
  obtain ⟨z0, z1, z2⟩ := hz0.c3
  clear hf0 hz0
  go_wp2_with fail
  with_reducible refine (HRT.out _).mono ?_
  rintro e w1 ⟨r, rfl, hr1, hf1⟩
  have HF1 := Lib.hid (HF0.out.trans hf1)
  have HZ1 := Lib.hid (HZ0.out.fresh hf1)
  have HR1 := Lib.hid hr1
  clear hf1 hr1 z0 z1 z2 HRT
  obtain ⟨z0, z1, z2⟩ := HZ1.out.c3
  cases r with
  | false =>
    go_wp2_with fail
    with_reducible refine (HAW.out _ HF1.out).mono ?_
    rintro e w2 ⟨rfl, hf2⟩
    have HX := Lib.hid (HFIN.out _ (HF1.out.trans hf2))
    clear hf2
    go_wp2_with fail
    exact HX.out
  | true =>
    obtain ⟨ha1, ha2, hb1, hb2, hm100⟩ := HR1.out.1 rfl
    obtain ⟨n, rfl⟩ : ∃ n : Nat, a = (n : Int) := ⟨a.toNat, by omega⟩
    have HNM := Lib.hid (show 1 ≤ n ∧ n ≤ 64 ∧ 1 ≤ b ∧ b ≤ 65536 ∧ m ≤ 100 from ⟨by omega, by omega, hb1, hb2, by omega⟩)
    have HN1 := Lib.hid (rg_new n b w1 (by omega) (by omega) hb1 hb2)
    unfold NewRP at HN1
    clear ha1 ha2 hb1 hb2 hm100
    go_wp2_with fail
    with_reducible refine HN1.out.mono ?_
    rintro e w2 ⟨g, mb, lb, rfl, hr2, hf2⟩
    have hX2 : RegX w2 w1.heap.size g mb lb n b 0 0 0 [] := ⟨hr2, by simp, by simp, by simp, by simp, by simp, by simp⟩
    have HPL : Hid (PlR w1 n b g mb lb 0 0 none 0 0 w2) := Lib.hid ⟨hf2, [], rfl, Nat.le_refl _, hX2, HT.out.fresh (HF1.out.trans hf2), by have := HTL.out; have := HF1.out.size; omega, hf2.size, HNM.out.1, HNM.out.2.1, HNM.out.2.2.2.1, by omega, by omega, by omega, by simp, LD.nil _, fun o => by rw [cnt_nil]; have := HNM.out; show (0 : Int) ≤ b; omega⟩
    have HF2 := Lib.hid hf2
    clear hr2 hf2 hX2 z0 z1 z2 HN1
    obtain ⟨z0, z1, z2⟩ := (HZ1.out.fresh HF2.out).c3
    go_upto_region 9 with fail
    clear z0 z1 z2
    go_loopw [5, 6, 34] (fun xv lv iv wr => ∃ (k : Nat) (last : Int) (A' : Option Addr) (c' m' : Nat), k ≤ m ∧ iv = .int .i64 (k : Int) ∧ lv = .int .i64 last ∧ xv = .slice A' m' c' ∧ PlR w1 n b g mb lb k last A' c' m' wr) (fun _ _ iv _ => m - (intOf iv).toNat)
    case atStart => exact ⟨0, 0, none, 0, 0, by omega, rfl, rfl, rfl, HPL.out⟩
    case round =>
      obtain ⟨k, last, A1, c1, m1, hk, rfl, rfl, rfl, hpl⟩ := hrel
      obtain ⟨hfr, X, hXm, hmk, hst⟩ := hpl
      have HST := Lib.hid hst
      have HXM := Lib.hid hXm
      have HMK := Lib.hid hmk
      obtain ⟨z0, z1, z2⟩ := (HZ1.out.fresh hfr).c3
      have HFR := Lib.hid hfr
      clear hst hXm hmk HPL
      by_cases hlt : k < m
      · have hlt' : (k : Int) < (m : Int) := by omega
        obtain ⟨o, hx⟩ : ∃ x, xs[k]? = some x := ⟨_, List.getElem?_eq_getElem (by rw [HM.out]; exact hlt)⟩
        obtain ⟨rb, rf, rfl, hrb, y0, y1, y2⟩ := HR.out.atR k o hx
        have hoin := HIN.out o (List.mem_of_getElem? hx)
        have e0 := ((HF1.out.trans hfr).cell (p := ⟨rb, rf + k * 3, none⟩) hrb).trans y0
        have e1 := ((HF1.out.trans hfr).cell (p := ⟨rb, rf + k * 3 + 1, none⟩) hrb).trans y1
        have e2 := ((HF1.out.trans hfr).cell (p := ⟨rb, rf + k * 3 + 2, none⟩) hrb).trans y2
        obtain ⟨kd, N, ev⟩ := o
        simp only at e0 e1 e2
        obtain ⟨⟨hN0, hN1⟩⟩ := hoin
        simp only at hN0 hN1
        have HNN := Lib.hid (And.intro hN0 hN1)
        clear y0 y1 y2 hrb hx hfr hN0 hN1
        go_upto_region 11 with fail
        obtain ⟨ob, hob⟩ : ∃ ob, wr.heap.size = ob := ⟨_, rfl⟩
        have hobw : wr.heap.size ≤ ob := Nat.le_of_eq hob
        rw [hob]
        refine wp_gen (fun W => Fresh wr W ∧ Blk W ob 34 #[.int .i64 kd, .int .i64 N, .int .i64 ev]) ⟨by repeat (first | with_reducible exact Fresh.alloc _ _ | with_reducible exact Fresh.refl _), by first | exact Blk.mkAt hob | (rw [← hob]; exact Blk.new _ _ _)⟩ ?_
        clear hob e0 e1 e2 z0 z1 z2
        rintro W4 ⟨hf4, hb4⟩
        have HS4 := Lib.hid (HST.out.fresh hf4)
        have HB4 := Lib.hid hb4
        have hno : ¬ blkX g mb lb X ob := fun e => by have := HST.out.reg.lt e; omega
        have HNO := Lib.hid hno
        have HF4 := Lib.hid (HFR.out.trans hf4)
        obtain ⟨z0, z1, z2⟩ := (HZ1.out.fresh HF4.out).c3
        obtain ⟨o0, o1, o2⟩ := hb4.c3
        have HSTP := Lib.hid (l14_step HS4.out kd N ev HNN.out (some ⟨rb, rf, none⟩) m cc)
        rw [HXM.out] at HSTP
        clear hf4 hb4 HFR hobw hno
        go_wp2_with fail
        with_reducible refine HSTP.out.mono ?_
        rintro e w5 ⟨A2, c2, last2, X2, rfl, hs⟩
        have hs5 := StpR.next HS4.out hs (by have := HNM.out; omega) (by have := HNM.out; omega) (by have := HXM.out; have := HMK.out; have := HNM.out; omega)
        obtain ⟨m2, hm2⟩ : ∃ x, X2.length = x := ⟨_, rfl⟩
        have HM2 : Hid (X2.length = m2 ∧ m2 ≤ k + 1) := Lib.hid ⟨hm2, by have := hs.len; have := HXM.out; have := HMK.out; omega⟩
        have HS5 := Lib.hid hs5
        have HF5 := Lib.hid (fresh_only HF4.out hs.only (fun c e => HST.out.reg.base c e))
        have HB5 := Lib.hid (HB4.out.only hs.only HNO.out)
        rw [hm2]
        clear z0 z1 z2 o0 o1 o2 hs hs5 hm2
        obtain ⟨z0, z1, z2⟩ := (HZ1.out.fresh HF5.out).c3
        obtain ⟨o0, o1, o2⟩ := HB5.out.c3
        have HSAM := Lib.hid (l14_same HS5.out.reg HNM.out.1 HNM.out.2.1 HS5.out.xl A2 c2 HS5.out.doc HS5.out.cnt HS5.out.q2 (some ⟨rb, rf, none⟩) m cc)
        rw [HM2.out.1] at HSAM
        go_wp2_with fail
        with_reducible refine HSAM.out.mono ?_
        rintro e w6 ⟨rfl, hf6⟩
        have HF6 := Lib.hid (HF5.out.trans hf6)
        have HS6 := Lib.hid (HS5.out.fresh hf6)
        have HB6 := Lib.hid (HB5.out.fresh hf6)
        clear z0 z1 z2 o0 o1 o2 hf6
        obtain ⟨o0, o1, o2⟩ := HB6.out.c3
        have HFD := Lib.hid (rf_find A2 c2 (docL n X2) N w6 HS6.out.doc (by rw [docL_length]; have := HS6.out.xl; omega))
        rw [docL_length, HM2.out.1] at HFD
        cases hf : X2.find? (fun s => decide (s.id = N)) with
        | none =>
          rw [fd_none hf] at HFD
          go_wp2_with fail
          with_reducible refine HFD.out.mono ?_
          rintro e w7 ⟨rfl, hf7⟩
          have HF7 := Lib.hid (HF6.out.trans hf7)
          have HS7 := Lib.hid (HS6.out.fresh hf7)
          have HB7 := Lib.hid (HB6.out.fresh hf7)
          obtain ⟨o0, o1, o2⟩ := HB7.out.c3
          clear hf7
          have HG7 := Lib.hid (rg_get HS7.out.reg HNM.out.1 HNM.out.2.1 N HNN.out)
          unfold GetP at HG7
          rw [hf] at HG7
          simp only [entV] at HG7
          go_wp2_with fail
          with_reducible refine HG7.out.mono ?_
          rintro e w8 ⟨rfl, hf8⟩
          have HF8 := Lib.hid (HF7.out.trans hf8)
          have HS8 := Lib.hid (HS7.out.fresh hf8)
          clear hf8 o0 o1 o2
          go_upto_region 17 with fail
          obtain ⟨yb, hyb⟩ : ∃ yb, w8.heap.size = yb := ⟨_, rfl⟩
          rw [hyb]
          refine wp_gen (fun W => Fresh w8 W ∧ Blk W yb 41 #[.int .i64 0, .int .i64 0, .int .i64 0]) ⟨by repeat (first | with_reducible exact Fresh.alloc _ _ | with_reducible exact Fresh.refl _), by first | exact Blk.mkAt hyb | (rw [← hyb]; exact Blk.new _ _ _)⟩ ?_
          clear hyb
          rintro W9 ⟨hf9, hb9⟩
          have HF9 := Lib.hid (HF8.out.trans hf9)
          have HS9 := Lib.hid (HS8.out.fresh hf9)
          have HB9 := Lib.hid hb9
          clear hf9 hb9
          have HSK : Hid (∀ w', Fresh W9 w' → (w'.cell? ⟨yb, 0, none⟩ = some (.int .i64 0) ∧ w'.cell? ⟨yb, 1, none⟩ = some (.int .i64 0) ∧ w'.cell? ⟨yb, 2, none⟩ = some (.int .i64 0)) ∧ Fresh W9 w') := Lib.hid (fun w' hw => by
            obtain ⟨u0, u1, u2⟩ := (HB9.out.fresh hw).c3
            exact ⟨⟨u0, u1, u2⟩, hw⟩)
          have hbd : ∀ W, (Instr.build 41 #[]).run Tryd.prog W = .ok (.agg #[.int .i64 0, .int .i64 0, .int .i64 0]) W := fun W => run_build W 41 #[] #[.int .i64 0, .int .i64 0, .int .i64 0] (by kernel_rfl)
          clear hf
          go_wp2_with fail
          refine wp_noPanic ?_
          refine wp_region_held_drew (S := (fun w' => (w'.cell? ⟨yb, 0, none⟩ = some (.int .i64 0) ∧ w'.cell? ⟨yb, 1, none⟩ = some (.int .i64 0) ∧ w'.cell? ⟨yb, 2, none⟩ = some (.int .i64 0)) ∧ Fresh W9 w')) (by kernel_rfl) (HSK.out _ (Fresh.drew _)) (fun hHeld => ?_)
          refine wpAnyH_take (i := 0) (v := ?_) rfl (by kernel_rfl) (by kernel_rfl) (by kernel_rfl) (fun _ _ _ h => h) (Or.inl ⟨by rfl, ?_⟩) (by assumption) ?_; rotate_left; focus (intro w hSw; (try dsimp only at hSw); go_simp; (try with_reducible rfl); done)
          (try simp only [Act.put, List.getElem_toArray, List.getElem_cons_zero, List.getElem_cons_succ, List.setIfInBounds_toArray, List.set_cons_zero, List.set_cons_succ])
          refine wpAnyH_take (i := 1) (v := ?_) rfl (by kernel_rfl) (by kernel_rfl) (by kernel_rfl) (fun _ _ _ h => h) (Or.inl ⟨by rfl, ?_⟩) (by assumption) ?_; rotate_left; focus (intro w hSw; (try dsimp only at hSw); go_simp; (try with_reducible rfl); done)
          (try simp only [Act.put, List.getElem_toArray, List.getElem_cons_zero, List.getElem_cons_succ, List.setIfInBounds_toArray, List.set_cons_zero, List.set_cons_succ])
          refine wpAnyH_take (i := 2) (v := ?_) rfl (by kernel_rfl) (by kernel_rfl) (by kernel_rfl) (fun _ _ _ h => h) (Or.inl ⟨by rfl, ?_⟩) (by assumption) ?_; rotate_left; focus (intro w hSw; (try dsimp only at hSw); go_simp; (try with_reducible rfl); done)
          (try simp only [Act.put, List.getElem_toArray, List.getElem_cons_zero, List.getElem_cons_succ, List.setIfInBounds_toArray, List.set_cons_zero, List.set_cons_succ])
          refine wpAnyH_take (i := 3) (v := ?_) rfl (by kernel_rfl) (by kernel_rfl) (by kernel_rfl) (fun _ _ _ h => h) (Or.inl ⟨by rfl, ?_⟩) (by assumption) ?_; rotate_left; focus (intro w hSw; (try dsimp only at hSw); go_simp; (try with_reducible rfl); done)
          (try simp only [Act.put, List.getElem_toArray, List.getElem_cons_zero, List.getElem_cons_succ, List.setIfInBounds_toArray, List.set_cons_zero, List.set_cons_succ])
          refine wpAnyH_take (i := 4) (v := ?_) rfl (by kernel_rfl) (by kernel_rfl) (by kernel_rfl) (fun _ _ _ h => h) (Or.inl ⟨by rfl, ?_⟩) (by assumption) ?_; rotate_left; focus (intro w hSw; (try dsimp only at hSw); go_simp; (try with_reducible rfl); done)
          (try simp only [Act.put, List.getElem_toArray, List.getElem_cons_zero, List.getElem_cons_succ, List.setIfInBounds_toArray, List.set_cons_zero, List.set_cons_succ])
          refine wpAnyH_take (i := 5) (v := ?_) rfl (by kernel_rfl) (by kernel_rfl) (by kernel_rfl) (fun _ _ _ h => h) (Or.inl ⟨by rfl, ?_⟩) (by assumption) ?_; rotate_left; focus (intro w hSw; (try dsimp only at hSw); go_simp; (try with_reducible rfl); done)
          (try simp only [Act.put, List.getElem_toArray, List.getElem_cons_zero, List.getElem_cons_succ, List.setIfInBounds_toArray, List.set_cons_zero, List.set_cons_succ])
          refine wpAnyH_take (i := 6) (v := ?_) rfl (by kernel_rfl) (by kernel_rfl) (by kernel_rfl) (fun _ _ _ h => h) (Or.inl ⟨by rfl, ?_⟩) (by assumption) ?_; rotate_left; focus (intro w hSw; (try dsimp only at hSw); go_simp; (try with_reducible rfl); done)
          (try simp only [Act.put, List.getElem_toArray, List.getElem_cons_zero, List.getElem_cons_succ, List.setIfInBounds_toArray, List.set_cons_zero, List.set_cons_succ])
          refine wpAnyH_take (i := 7) (v := ?_) rfl (by kernel_rfl) (by kernel_rfl) (by kernel_rfl) (fun _ _ _ h => h) (Or.inl ⟨by rfl, ?_⟩) (by assumption) ?_; rotate_left; focus (intro w hSw; (try dsimp only at hSw); go_simp; (try with_reducible rfl); done)
          (try simp only [Act.put, List.getElem_toArray, List.getElem_cons_zero, List.getElem_cons_succ, List.setIfInBounds_toArray, List.set_cons_zero, List.set_cons_succ])
          refine wpAnyH_take (i := 8) (v := ?_) rfl (by kernel_rfl) (by kernel_rfl) (by kernel_rfl) (fun _ _ _ h => h) (Or.inl ⟨by rfl, ?_⟩) (by assumption) ?_; rotate_left; focus (intro w hSw; (try dsimp only at hSw); go_simp; (try with_reducible rfl); done)
          (try simp only [Act.put, List.getElem_toArray, List.getElem_cons_zero, List.getElem_cons_succ, List.setIfInBounds_toArray, List.set_cons_zero, List.set_cons_succ])
          refine wpAnyH_take (i := 9) (v := ?_) rfl (by kernel_rfl) (by kernel_rfl) (by kernel_rfl) (fun _ _ _ h => h) (Or.inl ⟨by rfl, ?_⟩) (by assumption) ?_; rotate_left; focus (intro w hSw; (try dsimp only at hSw); go_simp; (try with_reducible rfl); done)
          (try simp only [Act.put, List.getElem_toArray, List.getElem_cons_zero, List.getElem_cons_succ, List.setIfInBounds_toArray, List.set_cons_zero, List.set_cons_succ])
          refine wpAnyH_take (i := 10) (v := ?_) rfl (by kernel_rfl) (by kernel_rfl) (by kernel_rfl) (fun _ _ _ h => h) (Or.inl ⟨by rfl, ?_⟩) (by assumption) ?_; rotate_left; focus (intro w hSw; (try dsimp only at hSw); go_simp; (try with_reducible rfl); done)
          (try simp only [Act.put, List.getElem_toArray, List.getElem_cons_zero, List.getElem_cons_succ, List.setIfInBounds_toArray, List.set_cons_zero, List.set_cons_succ])
          refine wpAnyH_take (i := 11) (v := ?_) rfl (by kernel_rfl) (by kernel_rfl) (by kernel_rfl) (fun _ _ _ h => h) (Or.inl ⟨by rfl, ?_⟩) (by assumption) ?_; rotate_left; focus (intro w hSw; (try dsimp only at hSw); go_simp; (try with_reducible rfl); done)
          (try simp only [Act.put, List.getElem_toArray, List.getElem_cons_zero, List.getElem_cons_succ, List.setIfInBounds_toArray, List.set_cons_zero, List.set_cons_succ])
          refine wpAnyH_take (i := 12) (v := ?_) rfl (by kernel_rfl) (by kernel_rfl) (by kernel_rfl) (fun _ _ _ h => h) (Or.inl ⟨by rfl, ?_⟩) (by assumption) ?_; rotate_left; focus (intro w hSw; (try dsimp only at hSw); go_simp; (try with_reducible rfl); done)
          (try simp only [Act.put, List.getElem_toArray, List.getElem_cons_zero, List.getElem_cons_succ, List.setIfInBounds_toArray, List.set_cons_zero, List.set_cons_succ])
          refine wpAnyH_take (i := 13) (v := ?_) rfl (by kernel_rfl) (by kernel_rfl) (by kernel_rfl) (fun _ _ _ h => h) (Or.inl ⟨by rfl, ?_⟩) (by assumption) ?_; rotate_left; focus (intro w hSw; (try dsimp only at hSw); go_simp; (try with_reducible rfl); done)
          (try simp only [Act.put, List.getElem_toArray, List.getElem_cons_zero, List.getElem_cons_succ, List.setIfInBounds_toArray, List.set_cons_zero, List.set_cons_succ])
          refine wpAnyH_take (i := 14) (v := ?_) rfl (by kernel_rfl) (by kernel_rfl) (by kernel_rfl) (fun _ _ _ h => h) (Or.inl ⟨by rfl, ?_⟩) (by assumption) ?_; rotate_left; focus (intro w hSw; (try dsimp only at hSw); go_simp; (try with_reducible rfl); done)
          (try simp only [Act.put, List.getElem_toArray, List.getElem_cons_zero, List.getElem_cons_succ, List.setIfInBounds_toArray, List.set_cons_zero, List.set_cons_succ])
          refine wpAnyH_take (i := 15) (v := undef) rfl (by kernel_rfl) (by kernel_rfl) (by kernel_rfl) (fun _ _ _ h => h) (Or.inr ⟨by rfl, rfl⟩) (by assumption) ?_; (try simp only [Act.put, List.getElem_toArray, List.getElem_cons_zero, List.getElem_cons_succ, List.setIfInBounds_toArray, List.set_cons_zero, List.set_cons_succ])
          refine wpAnyH_take (i := 16) (v := undef) rfl (by kernel_rfl) (by kernel_rfl) (by kernel_rfl) (fun _ _ _ h => h) (Or.inr ⟨by rfl, rfl⟩) (by assumption) ?_; (try simp only [Act.put, List.getElem_toArray, List.getElem_cons_zero, List.getElem_cons_succ, List.setIfInBounds_toArray, List.set_cons_zero, List.set_cons_succ])
          refine wpAnyH_take (i := 17) (v := undef) rfl (by kernel_rfl) (by kernel_rfl) (by kernel_rfl) (fun _ _ _ h => h) (Or.inr ⟨by rfl, rfl⟩) (by assumption) ?_; (try simp only [Act.put, List.getElem_toArray, List.getElem_cons_zero, List.getElem_cons_succ, List.setIfInBounds_toArray, List.set_cons_zero, List.set_cons_succ])
          refine wpAnyH_take (i := 18) (v := undef) rfl (by kernel_rfl) (by kernel_rfl) (by kernel_rfl) (fun _ _ _ h => h) (Or.inr ⟨by rfl, rfl⟩) (by assumption) ?_; (try simp only [Act.put, List.getElem_toArray, List.getElem_cons_zero, List.getElem_cons_succ, List.setIfInBounds_toArray, List.set_cons_zero, List.set_cons_succ])
          refine wpAnyH_take (i := 19) (v := undef) rfl (by kernel_rfl) (by kernel_rfl) (by kernel_rfl) (fun _ _ _ h => h) (Or.inr ⟨by rfl, rfl⟩) (by assumption) ?_; (try simp only [Act.put, List.getElem_toArray, List.getElem_cons_zero, List.getElem_cons_succ, List.setIfInBounds_toArray, List.set_cons_zero, List.set_cons_succ])
          refine wpAnyH_take (i := 20) (v := undef) rfl (by kernel_rfl) (by kernel_rfl) (by kernel_rfl) (fun _ _ _ h => h) (Or.inr ⟨by rfl, rfl⟩) (by assumption) ?_; (try simp only [Act.put, List.getElem_toArray, List.getElem_cons_zero, List.getElem_cons_succ, List.setIfInBounds_toArray, List.set_cons_zero, List.set_cons_succ])
          refine wpAnyH_take (i := 21) (v := undef) rfl (by kernel_rfl) (by kernel_rfl) (by kernel_rfl) (fun _ _ _ h => h) (Or.inr ⟨by rfl, rfl⟩) (by assumption) ?_; (try simp only [Act.put, List.getElem_toArray, List.getElem_cons_zero, List.getElem_cons_succ, List.setIfInBounds_toArray, List.set_cons_zero, List.set_cons_succ])
          refine wpAnyH_take (i := 22) (v := undef) rfl (by kernel_rfl) (by kernel_rfl) (by kernel_rfl) (fun _ _ _ h => h) (Or.inr ⟨by rfl, rfl⟩) (by assumption) ?_; (try simp only [Act.put, List.getElem_toArray, List.getElem_cons_zero, List.getElem_cons_succ, List.setIfInBounds_toArray, List.set_cons_zero, List.set_cons_succ])
          refine wpAnyH_take (i := 23) (v := undef) rfl (by kernel_rfl) (by kernel_rfl) (by kernel_rfl) (fun _ _ _ h => h) (Or.inr ⟨by rfl, rfl⟩) (by assumption) ?_; (try simp only [Act.put, List.getElem_toArray, List.getElem_cons_zero, List.getElem_cons_succ, List.setIfInBounds_toArray, List.set_cons_zero, List.set_cons_succ])
          refine wpAnyH_take (i := 24) (v := undef) rfl (by kernel_rfl) (by kernel_rfl) (by kernel_rfl) (fun _ _ _ h => h) (Or.inr ⟨by rfl, rfl⟩) (by assumption) ?_; (try simp only [Act.put, List.getElem_toArray, List.getElem_cons_zero, List.getElem_cons_succ, List.setIfInBounds_toArray, List.set_cons_zero, List.set_cons_succ])
          refine wpAnyH_take (i := 25) (v := undef) rfl (by kernel_rfl) (by kernel_rfl) (by kernel_rfl) (fun _ _ _ h => h) (Or.inr ⟨by rfl, rfl⟩) (by assumption) ?_; (try simp only [Act.put, List.getElem_toArray, List.getElem_cons_zero, List.getElem_cons_succ, List.setIfInBounds_toArray, List.set_cons_zero, List.set_cons_succ])
          refine wpAnyH_take (i := 26) (v := ?_) rfl (by kernel_rfl) (by kernel_rfl) (by kernel_rfl) (fun _ _ _ h => h) (Or.inl ⟨by rfl, ?_⟩) (by assumption) ?_; rotate_left; focus (intro w hSw; (try dsimp only at hSw); go_simp; (try with_reducible rfl); done)
          (try simp only [Act.put, List.getElem_toArray, List.getElem_cons_zero, List.getElem_cons_succ, List.setIfInBounds_toArray, List.set_cons_zero, List.set_cons_succ])
          refine wpAnyH_take (i := 27) (v := ?_) rfl (by kernel_rfl) (by kernel_rfl) (by kernel_rfl) (fun _ _ _ h => h) (Or.inl ⟨by rfl, ?_⟩) (by assumption) ?_; rotate_left; focus (intro w hSw; (try dsimp only at hSw); go_simp; (try with_reducible rfl); done)
          (try simp only [Act.put, List.getElem_toArray, List.getElem_cons_zero, List.getElem_cons_succ, List.setIfInBounds_toArray, List.set_cons_zero, List.set_cons_succ])
          refine wpAnyH_done (by kernel_rfl) ?_ _
          refine NoPanic.normal ?_
          have HNX : Hid (PlR w1 n b g mb lb (k + 1) last2 A2 c2 m2 W9.drew) := Lib.hid ⟨HF9.out.trans (Fresh.drew W9), X2, HM2.out.1, HM2.out.2, by
            rw [show ((k + 1 : Nat) : Int) = (k : Int) + 1 by omega]
            exact HS9.out.fresh (Fresh.drew W9)⟩
          go_wp2
          go_roundw
          case rel => exact ⟨k + 1, last2, A2, c2, m2, by omega, by go_num, rfl, rfl, HNX.out⟩
          case measure => simp [intOf]; omega
        | some s =>
          obtain ⟨kk, hxk, hsk, hnk⟩ := find_at hf
          rw [fd_some hxk hsk hnk] at HFD
          clear hsk hnk
          go_wp2_with fail
          with_reducible refine HFD.out.mono ?_
          rintro e w7 ⟨rfl, hf7⟩
          have HF7 := Lib.hid (HF6.out.trans hf7)
          have HS7 := Lib.hid (HS6.out.fresh hf7)
          have HB7 := Lib.hid (HB6.out.fresh hf7)
          obtain ⟨o0, o1, o2⟩ := HB7.out.c3
          clear hf7
          have HG7 := Lib.hid (rg_get HS7.out.reg HNM.out.1 HNM.out.2.1 N HNN.out)
          unfold GetP at HG7
          rw [hf] at HG7
          simp only [entV] at HG7
          go_wp2_with fail
          with_reducible refine HG7.out.mono ?_
          rintro e w8 ⟨rfl, hf8⟩
          have HF8 := Lib.hid (HF7.out.trans hf8)
          have HS8 := Lib.hid (HS7.out.fresh hf8)
          clear hf8 o0 o1 o2
          go_upto_region 17 with fail
          obtain ⟨yb, hyb⟩ : ∃ yb, w8.heap.size = yb := ⟨_, rfl⟩
          rw [hyb]
          refine wp_gen (fun W => Fresh w8 W ∧ Blk W yb 41 #[.int .i64 s.id, .int .i64 (ownI n s.id : Int), .int .i64 s.a]) ⟨by repeat (first | with_reducible exact Fresh.alloc _ _ | with_reducible exact Fresh.refl _), by first | exact Blk.mkAt hyb | (rw [← hyb]; exact Blk.new _ _ _)⟩ ?_
          clear hyb
          rintro W9 ⟨hf9, hb9⟩
          have HF9 := Lib.hid (HF8.out.trans hf9)
          have HS9 := Lib.hid (HS8.out.fresh hf9)
          have HB9 := Lib.hid hb9
          clear hf9 hb9
          obtain ⟨db, df, hA, hdb, y0, y1, y2, y3, y4, y5⟩ := HS9.out.doc.at (k := kk) (d := docS n s) (by unfold docL; rw [List.getElem?_map, hxk]; rfl)
          simp only [docS] at y0 y1 y2 y3 y4 y5
          have hkm : kk < m2 := by rw [← HM2.out.1]; exact (List.getElem?_eq_some_iff.1 hxk).1
          have hkm2 : (kk : Int) < (m2 : Int) := by omega
          have hk0 : (0 : Int) ≤ (kk : Int) := by omega
          have dk0 : decide ((kk : Int) < 0) = false := decide_eq_false (by omega)
          have hst := HS9.out.reg.st s (List.mem_of_getElem? hxk)
          have HEN := Lib.hid (fun W => l14_entry n s W hst.1 hst.2)
          unfold entV at HEN
          subst hA
          have HSK : Hid (∀ w', Fresh W9 w' → (w'.cell? ⟨yb, 0, none⟩ = some (.int .i64 s.id) ∧ w'.cell? ⟨yb, 1, none⟩ = some (.int .i64 (ownI n s.id : Int)) ∧ w'.cell? ⟨yb, 2, none⟩ = some (.int .i64 s.a) ∧ w'.cell? ⟨db, df + kk * 6, none⟩ = some (.int .i64 s.id) ∧ w'.cell? ⟨db, df + kk * 6 + 1, none⟩ = some (.int .i64 (ownI n s.id : Int)) ∧ w'.cell? ⟨db, df + kk * 6 + 2, none⟩ = some (.int .i64 (stX s.a).b) ∧ w'.cell? ⟨db, df + kk * 6 + 3, none⟩ = some (.int .i64 (stX s.a).w) ∧ w'.cell? ⟨db, df + kk * 6 + 4, none⟩ = some (.int .i64 (stX s.a).t) ∧ w'.cell? ⟨db, df + kk * 6 + 5, none⟩ = some (.int .i64 (stX s.a).r)) ∧ Fresh W9 w') := Lib.hid (fun w' hw => by
            obtain ⟨u0, u1, u2⟩ := (HB9.out.fresh hw).c3
            exact ⟨⟨u0, u1, u2, (hw.cell (p := ⟨db, df + kk * 6, none⟩) hdb).trans y0, (hw.cell (p := ⟨db, df + kk * 6 + 1, none⟩) hdb).trans y1, (hw.cell (p := ⟨db, df + kk * 6 + 2, none⟩) hdb).trans y2, (hw.cell (p := ⟨db, df + kk * 6 + 3, none⟩) hdb).trans y3, (hw.cell (p := ⟨db, df + kk * 6 + 4, none⟩) hdb).trans y4, (hw.cell (p := ⟨db, df + kk * 6 + 5, none⟩) hdb).trans y5⟩, hw⟩)
          clear hf hxk hst y0 y1 y2 y3 y4 y5 hdb
          go_wp2_with fail
          refine wp_noPanic ?_
          refine wp_region_held_drew (S := (fun w' => (w'.cell? ⟨yb, 0, none⟩ = some (.int .i64 s.id) ∧ w'.cell? ⟨yb, 1, none⟩ = some (.int .i64 (ownI n s.id : Int)) ∧ w'.cell? ⟨yb, 2, none⟩ = some (.int .i64 s.a) ∧ w'.cell? ⟨db, df + kk * 6, none⟩ = some (.int .i64 s.id) ∧ w'.cell? ⟨db, df + kk * 6 + 1, none⟩ = some (.int .i64 (ownI n s.id : Int)) ∧ w'.cell? ⟨db, df + kk * 6 + 2, none⟩ = some (.int .i64 (stX s.a).b) ∧ w'.cell? ⟨db, df + kk * 6 + 3, none⟩ = some (.int .i64 (stX s.a).w) ∧ w'.cell? ⟨db, df + kk * 6 + 4, none⟩ = some (.int .i64 (stX s.a).t) ∧ w'.cell? ⟨db, df + kk * 6 + 5, none⟩ = some (.int .i64 (stX s.a).r)) ∧ Fresh W9 w')) (by kernel_rfl) (HSK.out _ (Fresh.drew _)) (fun hHeld => ?_)
          refine wpAnyH_take (i := 0) (v := ?_) rfl (by kernel_rfl) (by kernel_rfl) (by kernel_rfl) (fun _ _ _ h => h) (Or.inl ⟨by rfl, ?_⟩) (by assumption) ?_; rotate_left; focus (intro w hSw; (try dsimp only at hSw); go_simp; (try with_reducible rfl); done)
          (try simp only [Act.put, List.getElem_toArray, List.getElem_cons_zero, List.getElem_cons_succ, List.setIfInBounds_toArray, List.set_cons_zero, List.set_cons_succ])
          refine wpAnyH_take (i := 1) (v := ?_) rfl (by kernel_rfl) (by kernel_rfl) (by kernel_rfl) (fun _ _ _ h => h) (Or.inl ⟨by rfl, ?_⟩) (by assumption) ?_; rotate_left; focus (intro w hSw; (try dsimp only at hSw); go_simp; (try with_reducible rfl); done)
          (try simp only [Act.put, List.getElem_toArray, List.getElem_cons_zero, List.getElem_cons_succ, List.setIfInBounds_toArray, List.set_cons_zero, List.set_cons_succ])
          refine wpAnyH_take (i := 2) (v := ?_) rfl (by kernel_rfl) (by kernel_rfl) (by kernel_rfl) (fun _ _ _ h => h) (Or.inl ⟨by rfl, ?_⟩) (by assumption) ?_; rotate_left; focus (intro w hSw; (try dsimp only at hSw); go_simp; (try with_reducible rfl); done)
          (try simp only [Act.put, List.getElem_toArray, List.getElem_cons_zero, List.getElem_cons_succ, List.setIfInBounds_toArray, List.set_cons_zero, List.set_cons_succ])
          refine wpAnyH_take (i := 3) (v := undef) rfl (by kernel_rfl) (by kernel_rfl) (by kernel_rfl) (fun _ _ _ h => h) (Or.inr ⟨by rfl, rfl⟩) (by assumption) ?_; (try simp only [Act.put, List.getElem_toArray, List.getElem_cons_zero, List.getElem_cons_succ, List.setIfInBounds_toArray, List.set_cons_zero, List.set_cons_succ])
          refine wpAnyH_take (i := 4) (v := undef) rfl (by kernel_rfl) (by kernel_rfl) (by kernel_rfl) (fun _ _ _ h => h) (Or.inr ⟨by rfl, rfl⟩) (by assumption) ?_; (try simp only [Act.put, List.getElem_toArray, List.getElem_cons_zero, List.getElem_cons_succ, List.setIfInBounds_toArray, List.set_cons_zero, List.set_cons_succ])
          refine wpAnyH_take (i := 5) (v := undef) rfl (by kernel_rfl) (by kernel_rfl) (by kernel_rfl) (fun _ _ _ h => h) (Or.inr ⟨by rfl, rfl⟩) (by assumption) ?_; (try simp only [Act.put, List.getElem_toArray, List.getElem_cons_zero, List.getElem_cons_succ, List.setIfInBounds_toArray, List.set_cons_zero, List.set_cons_succ])
          refine wpAnyH_take (i := 6) (v := undef) rfl (by kernel_rfl) (by kernel_rfl) (by kernel_rfl) (fun _ _ _ h => h) (Or.inr ⟨by rfl, rfl⟩) (by assumption) ?_; (try simp only [Act.put, List.getElem_toArray, List.getElem_cons_zero, List.getElem_cons_succ, List.setIfInBounds_toArray, List.set_cons_zero, List.set_cons_succ])
          refine wpAnyH_take (i := 7) (v := undef) rfl (by kernel_rfl) (by kernel_rfl) (by kernel_rfl) (fun _ _ _ h => h) (Or.inr ⟨by rfl, rfl⟩) (by assumption) ?_; (try simp only [Act.put, List.getElem_toArray, List.getElem_cons_zero, List.getElem_cons_succ, List.setIfInBounds_toArray, List.set_cons_zero, List.set_cons_succ])
          refine wpAnyH_take (i := 8) (v := undef) rfl (by kernel_rfl) (by kernel_rfl) (by kernel_rfl) (fun _ _ _ h => h) (Or.inr ⟨by rfl, rfl⟩) (by assumption) ?_; (try simp only [Act.put, List.getElem_toArray, List.getElem_cons_zero, List.getElem_cons_succ, List.setIfInBounds_toArray, List.set_cons_zero, List.set_cons_succ])
          refine wpAnyH_take (i := 9) (v := undef) rfl (by kernel_rfl) (by kernel_rfl) (by kernel_rfl) (fun _ _ _ h => h) (Or.inr ⟨by rfl, rfl⟩) (by assumption) ?_; (try simp only [Act.put, List.getElem_toArray, List.getElem_cons_zero, List.getElem_cons_succ, List.setIfInBounds_toArray, List.set_cons_zero, List.set_cons_succ])
          refine wpAnyH_take (i := 10) (v := ?_) rfl (by kernel_rfl) (by kernel_rfl) (by kernel_rfl) (fun _ _ _ h => h) (Or.inl ⟨by rfl, ?_⟩) (by assumption) ?_; rotate_left; focus (intro w hSw; (try dsimp only at hSw); go_simp; (try with_reducible rfl); done)
          (try simp only [Act.put, List.getElem_toArray, List.getElem_cons_zero, List.getElem_cons_succ, List.setIfInBounds_toArray, List.set_cons_zero, List.set_cons_succ])
          refine wpAnyH_take (i := 11) (v := ?_) rfl (by kernel_rfl) (by kernel_rfl) (by kernel_rfl) (fun _ _ _ h => h) (Or.inl ⟨by rfl, ?_⟩) (by assumption) ?_; rotate_left; focus (intro w hSw; (try dsimp only at hSw); go_simp; (try with_reducible rfl); done)
          (try simp only [Act.put, List.getElem_toArray, List.getElem_cons_zero, List.getElem_cons_succ, List.setIfInBounds_toArray, List.set_cons_zero, List.set_cons_succ])
          refine wpAnyH_take (i := 12) (v := ?_) rfl (by kernel_rfl) (by kernel_rfl) (by kernel_rfl) (fun _ _ _ h => h) (Or.inl ⟨by rfl, ?_⟩) (by assumption) ?_; rotate_left; focus (intro w hSw; (try dsimp only at hSw); go_simp; (try with_reducible rfl); done)
          (try simp only [Act.put, List.getElem_toArray, List.getElem_cons_zero, List.getElem_cons_succ, List.setIfInBounds_toArray, List.set_cons_zero, List.set_cons_succ])
          refine wpAnyH_take (i := 13) (v := ?_) rfl (by kernel_rfl) (by kernel_rfl) (by kernel_rfl) (fun _ _ _ h => h) (Or.inl ⟨by rfl, ?_⟩) (by assumption) ?_; rotate_left; focus (intro w hSw; (try dsimp only at hSw); go_simp; (try with_reducible rfl); done)
          (try simp only [Act.put, List.getElem_toArray, List.getElem_cons_zero, List.getElem_cons_succ, List.setIfInBounds_toArray, List.set_cons_zero, List.set_cons_succ])
          refine wpAnyH_take (i := 14) (v := ?_) rfl (by kernel_rfl) (by kernel_rfl) (by kernel_rfl) (fun _ _ _ h => h) (Or.inl ⟨by rfl, ?_⟩) (by assumption) ?_; rotate_left; focus (intro w hSw; (try dsimp only at hSw); go_simp; (try with_reducible rfl); done)
          (try simp only [Act.put, List.getElem_toArray, List.getElem_cons_zero, List.getElem_cons_succ, List.setIfInBounds_toArray, List.set_cons_zero, List.set_cons_succ])
          refine wpAnyH_take (i := 15) (v := ?_) rfl (by kernel_rfl) (by kernel_rfl) (by kernel_rfl) (fun _ _ _ h => h) (Or.inl ⟨by rfl, ?_⟩) (by assumption) ?_; rotate_left; focus (intro w hSw; (try dsimp only at hSw); go_simp; (try with_reducible rfl); done)
          (try simp only [Act.put, List.getElem_toArray, List.getElem_cons_zero, List.getElem_cons_succ, List.setIfInBounds_toArray, List.set_cons_zero, List.set_cons_succ])
          refine wpAnyH_take (i := 16) (v := ?_) rfl (by kernel_rfl) (by kernel_rfl) (by kernel_rfl) (fun _ _ _ h => h) (Or.inl ⟨by rfl, ?_⟩) (by assumption) ?_; rotate_left; focus (intro w hSw; (try dsimp only at hSw); go_simp; (try with_reducible rfl); done)
          (try simp only [Act.put, List.getElem_toArray, List.getElem_cons_zero, List.getElem_cons_succ, List.setIfInBounds_toArray, List.set_cons_zero, List.set_cons_succ])
          refine wpAnyH_take (i := 17) (v := ?_) rfl (by kernel_rfl) (by kernel_rfl) (by kernel_rfl) (fun _ _ _ h => h) (Or.inl ⟨by rfl, ?_⟩) (by assumption) ?_; rotate_left; focus (intro w hSw; (try dsimp only at hSw); go_simp; (try with_reducible rfl); done)
          (try simp only [Act.put, List.getElem_toArray, List.getElem_cons_zero, List.getElem_cons_succ, List.setIfInBounds_toArray, List.set_cons_zero, List.set_cons_succ])
          refine wpAnyH_take (i := 18) (v := ?_) rfl (by kernel_rfl) (by kernel_rfl) (by kernel_rfl) (fun _ _ _ h => h) (Or.inl ⟨by rfl, ?_⟩) (by assumption) ?_; rotate_left; focus (intro w hSw; (try dsimp only at hSw); go_simp; (try with_reducible rfl); done)
          (try simp only [Act.put, List.getElem_toArray, List.getElem_cons_zero, List.getElem_cons_succ, List.setIfInBounds_toArray, List.set_cons_zero, List.set_cons_succ])
          refine wpAnyH_take (i := 19) (v := ?_) rfl (by kernel_rfl) (by kernel_rfl) (by kernel_rfl) (fun _ _ _ h => h) (Or.inl ⟨by rfl, ?_⟩) (by assumption) ?_; rotate_left; focus (intro w hSw; (try dsimp only at hSw); go_simp; (try with_reducible rfl); done)
          (try simp only [Act.put, List.getElem_toArray, List.getElem_cons_zero, List.getElem_cons_succ, List.setIfInBounds_toArray, List.set_cons_zero, List.set_cons_succ])
          refine wpAnyH_take (i := 20) (v := ?_) rfl (by kernel_rfl) (by kernel_rfl) (by kernel_rfl) (fun _ _ _ h => h) (Or.inl ⟨by rfl, ?_⟩) (by assumption) ?_; rotate_left; focus (intro w hSw; (try dsimp only at hSw); go_simp; (try with_reducible rfl); done)
          (try simp only [Act.put, List.getElem_toArray, List.getElem_cons_zero, List.getElem_cons_succ, List.setIfInBounds_toArray, List.set_cons_zero, List.set_cons_succ])
          refine wpAnyH_take (i := 21) (v := ?_) rfl (by kernel_rfl) (by kernel_rfl) (by kernel_rfl) (fun _ _ _ h => h) (Or.inl ⟨by rfl, ?_⟩) (by assumption) ?_; rotate_left; focus (intro w hSw; (try dsimp only at hSw); go_simp; (try with_reducible rfl); done)
          (try simp only [Act.put, List.getElem_toArray, List.getElem_cons_zero, List.getElem_cons_succ, List.setIfInBounds_toArray, List.set_cons_zero, List.set_cons_succ])
          refine wpAnyH_take (i := 22) (v := ?_) rfl (by kernel_rfl) (by kernel_rfl) (by kernel_rfl) (fun _ _ _ h => h) (Or.inl ⟨by rfl, ?_⟩) (by assumption) ?_; rotate_left; focus (intro w hSw; (try dsimp only at hSw); go_simp; (try with_reducible rfl); done)
          (try simp only [Act.put, List.getElem_toArray, List.getElem_cons_zero, List.getElem_cons_succ, List.setIfInBounds_toArray, List.set_cons_zero, List.set_cons_succ])
          refine wpAnyH_ready (rs := [23]) (by kernel_rfl) (by simp) ?_
          refine AllReadyH.cons rfl (fun K hK => ?_) AllReadyH.nil
          (go_simp; go_at_call 14; (with_reducible refine (HEN.out _).mono ?_); rintro e wa ⟨rfl, hwa⟩; have hga : Fresh W9 wa := (Fresh.drew W9).trans hwa)
          refine hK.out _ _ (HSK.out _ hga) (fun hHeld => ?_)
          clear hK K
          (try simp only [Act.put, List.getElem_toArray, List.getElem_cons_zero, List.getElem_cons_succ, List.setIfInBounds_toArray, List.set_cons_zero, List.set_cons_succ])
          refine wpAnyH_take (i := 24) (v := ?_) rfl (by kernel_rfl) (by kernel_rfl) (by kernel_rfl) (fun _ _ _ h => h) (Or.inl ⟨by rfl, ?_⟩) (by assumption) ?_; rotate_left; focus (intro w hSw; (try dsimp only at hSw); go_simp; (try with_reducible rfl); done)
          (try simp only [Act.put, List.getElem_toArray, List.getElem_cons_zero, List.getElem_cons_succ, List.setIfInBounds_toArray, List.set_cons_zero, List.set_cons_succ])
          refine wpAnyH_take (i := 25) (v := ?_) rfl (by kernel_rfl) (by kernel_rfl) (by kernel_rfl) (fun _ _ _ h => h) (Or.inl ⟨by rfl, ?_⟩) (by assumption) ?_; rotate_left; focus (intro w hSw; (try dsimp only at hSw); go_simp; (try with_reducible rfl); done)
          (try simp only [Act.put, List.getElem_toArray, List.getElem_cons_zero, List.getElem_cons_succ, List.setIfInBounds_toArray, List.set_cons_zero, List.set_cons_succ])
          refine wpAnyH_take (i := 26) (v := ?_) rfl (by kernel_rfl) (by kernel_rfl) (by kernel_rfl) (fun _ _ _ h => h) (Or.inl ⟨by rfl, ?_⟩) (by assumption) ?_; rotate_left; focus (intro w hSw; (try dsimp only at hSw); go_simp; (try with_reducible rfl); done)
          (try simp only [Act.put, List.getElem_toArray, List.getElem_cons_zero, List.getElem_cons_succ, List.setIfInBounds_toArray, List.set_cons_zero, List.set_cons_succ])
          refine wpAnyH_take (i := 27) (v := ?_) rfl (by kernel_rfl) (by kernel_rfl) (by kernel_rfl) (fun _ _ _ h => h) (Or.inl ⟨by rfl, ?_⟩) (by assumption) ?_; rotate_left; focus (intro w hSw; (try dsimp only at hSw); go_simp; (try with_reducible rfl); done)
          (try simp only [Act.put, List.getElem_toArray, List.getElem_cons_zero, List.getElem_cons_succ, List.setIfInBounds_toArray, List.set_cons_zero, List.set_cons_succ])
          refine wpAnyH_done (by kernel_rfl) ?_ _
          refine NoPanic.normal ?_
          have HNX : Hid (PlR w1 n b g mb lb (k + 1) last2 (some ⟨db, df, none⟩) c2 m2 wa) := Lib.hid ⟨HF9.out.trans hga, X2, HM2.out.1, HM2.out.2, by
            rw [show ((k + 1 : Nat) : Int) = (k : Int) + 1 by omega]
            exact HS9.out.fresh hga⟩
          go_wp2
          go_roundw
          case rel => exact ⟨k + 1, last2, (some ⟨db, df, none⟩), c2, m2, by omega, by go_num, rfl, rfl, HNX.out⟩
          case measure => simp [intOf]; omega
      · obtain rfl : k = m := by omega
        have hnk : ¬ (k : Int) < (k : Int) := by omega
        have HFW := Lib.hid (HF1.out.trans HFR.out)
        clear hfr
        go_wp2_with fail
        with_reducible refine (HAW.out _ HFW.out).mono ?_
        rintro e w5 ⟨rfl, hf5⟩
        have HX := Lib.hid (HFIN.out _ (HFW.out.trans hf5))
        clear hf5
        go_wp2_with fail
        exact HX.out
theorem RegPlays_any (z : CaseR) (w : World) (hz : z.Ok w) (hT : Tbl w) : Calls Tryd.prog 3 #[z.v] w fun e w' => e = .returned (.bool true) ∧ Below w.heap.size w w' := plays_all z w hz hT
end Go.Proofs.YtjediikcfhdgiaaDoor

