/-
  Package queue: QueuePlays.
-/
import Derived.Test.YthfifeclmikbgaaQueV
namespace Go.Proofs.Ythfifeclmikbgaa
set_option linter.unusedVariables false
set_option linter.unusedSimpArgs false
open Go.RowKit
theorem Fresh.only {S : Nat → Prop} {w w1 w2 : World} (hf : Fresh w w1) (ho : Only S w1 w2) (hS : ∀ k, S k → w.heap.size ≤ k) : Fresh w w2 :=
  Only.fresh (S := fun _ => False) ((Only.of_fresh hf).trans' ho (fun i hi e => by have := hS i e; omega)) (fun _ _ h => h)
section
variable {base q R n : Nat} {by_ it : Int} {ro : Rows} {w : World}
theorem step_any (M : Nat) (zA : Option Addr) (zn zc : Nat) (o : OpQ) (h : QAt w base q R n by_ it ro) (hM : MAt w M n ro) (hb : base ≤ w.heap.size) (hx : o.x.In w) (hz : o.x.z ≤ 1000000) :
    Calls Try.prog 10 #[.pointer (some ⟨q, 0, none⟩), .slice (some ⟨M, 0, none⟩) n n, .agg #[.int .i64 (n : Int), .int .i64 by_, .int .i64 it, .slice zA zn zc], o.v] w (StepP base q R M n by_ it ro w) := by
  by_cases h6 : o.k = 6
  · exact step_clear M zA zn zc o h hM h6
  by_cases ht : o.t < 0 ∨ (n : Int) ≤ o.t
  · refine (step_no _ ⟨_, _, _, rfl⟩ zA zn zc o h h6 ht).mono ?_
    rintro e w' ⟨rfl, hf⟩
    have hf' : Fresh w w' := hf
    exact ⟨ro, rfl, h.fresh hf', hM.fresh hf', Only.of_fresh hf', fun t k ht hk => .inl ⟨t, ht, hk⟩⟩
  · obtain ⟨t, hot⟩ : ∃ t : Nat, o.t = (t : Int) := ⟨o.t.toNat, by omega⟩
    refine (step_one M zA t zn zc o h hM hb (by omega) hot h6 hx hz).mono ?_
    rintro e w' ⟨v', xs', rfl, h1, h2, _, h4, h5⟩
    refine ⟨_, rfl, h1, h2, h4.mono (fun k e => ?_), fun j k hj hk => ?_⟩
    · rcases e with e | e | e
      · exact .inl e
      · exact .inr (.inl e)
      · exact .inr (.inr ⟨t, by omega, e⟩)
    · by_cases e : j = t
      · subst e
        rw [updR_same] at hk
        exact (h5 k hk).imp (fun e => ⟨j, hj, e⟩) id
      · rw [updR_ne _ _ e] at hk
        exact .inl ⟨j, hj, hk⟩
theorem StepP.avoid {M g : Nat} {T : TypeId} {cs : Array Value} {w' : World} (h : QAt w base q R n by_ it ro) (hM : MAt w M n ro) (ho : Only (fun k => k = R ∨ k = M ∨ ∃ t, t < n ∧ (ro t).1.ownBlock = some k) w w') (hg : Blk w g T cs) (h1 : T ≠ 63) (h2 : T ≠ 34) (h3 : T ≠ 39) : Blk w' g T cs := by
  refine hg.only ho ?_
  rintro (e | e | ⟨t, ht, e⟩)
  · obtain ⟨cs', h4, _⟩ := h.rows
    exact hg.ne h4 h1 e
  · obtain ⟨cs', h4, _⟩ := hM.row
    exact hg.ne h4 h3 e
  · obtain ⟨cur, h4⟩ := ownQ (h.own t ht) e
    exact hg.ne h4 h2 rfl
theorem StepP.next {M : Nat} {w0 w' : World} (h : QAt w w0.heap.size q R n by_ it ro) (hf : Fresh w0 w) (hR : w0.heap.size ≤ R) (hMM : w0.heap.size ≤ M) (ho : Only (fun k => k = R ∨ k = M ∨ ∃ t, t < n ∧ (ro t).1.ownBlock = some k) w w') : Fresh w0 w' := by
  refine hf.only ho ?_
  rintro k (e | e | ⟨t, ht, e⟩)
  · omega
  · omega
  · exact ((h.own t ht).lt k e).1
end
theorem rows_info : (Try.prog.info? 39).map (fun i => (i.zero, i.size, i.bytes)) = some (some (.slice none 0 0), 1, 24) := by kernel_rfl
theorem MAt.new {w : World} {n : Nat} : MAt (w.alloc (.cells (madeCells #[.slice none 0 0] n) 39)) w.heap.size n nilR := by
  refine ⟨⟨_, Blk.new _ _ _, by simp [size_madeCells], fun t ht => ⟨none, 0, ?_, LS.nil _⟩⟩⟩
  have := toList_madeCells_one (.slice none 0 0) n
  rw [← Array.getElem?_toList, this]
  simp [ht, nilR]
def OpP (o : OpQ) : Array Value := #[.int .i64 o.k, .int .i64 o.t, .int .i64 o.n, .int .i64 o.x.num, .slice o.x.HA o.x.h.length o.x.hc, .slice o.x.BA o.x.b.length o.x.bc]
set_option maxRecDepth 100000 in
set_option maxHeartbeats 6400000 in
theorem QueuePlays_any (z : CaseQ) (w : World) (h : z.ops.Ok w) : Calls Try.prog 3 #[z.v] w fun e w' => e = .returned (.bool true) ∧ Below w.heap.size w w' := by
  show Calls _ _ _ _ (LwP w)
  obtain ⟨a, b, c, s⟩ := z
  have H := Lib.hid h
  have HRT := Lib.hid (fun W (hw : Fresh w W) => qu_right ⟨a, b, c, s⟩ W (h.fresh hw))
  have HAW := Lib.hid (fun W => qu_awake W)
  have hle := h.le
  have hmx := h.max
  simp only at hle hmx
  simp only [maxLen] at hmx
  obtain ⟨A, cc, xs⟩ := s
  simp only [CaseQ.v, OpsQ.v] at HRT ⊢
  obtain ⟨m, hm⟩ : ∃ m, xs.length = m := ⟨_, rfl⟩
  have HM := Lib.hid hm
  simp only at hle hmx
  rw [hm] at HRT hle ⊢
  clear h hm
  go_enter Try.func3, Try.ntmps3
  go_upto_region 1 with fail
  obtain ⟨b0, hb0⟩ : ∃ b0, w.heap.size = b0 := ⟨_, rfl⟩
  have HB0 := Lib.hid hb0
  rw [hb0]
  refine wp_gen (fun W => Fresh w W ∧ Blk W b0 24 #[.int .i64 a, .int .i64 b, .int .i64 c, .slice A m cc]) ⟨Fresh.alloc _ _, Blk.mkAt hb0⟩ ?_
  clear hb0
  rintro W ⟨hf0, hz0⟩
  have HF0 := Lib.hid hf0
  have HZ0 := Lib.hid hz0
  obtain ⟨z0, z1, z2, z3⟩ := hz0.c4
  clear hf0 hz0
  go_wp2_with fail
  with_reducible refine (HRT.out _ HF0.out).mono ?_
  rintro e w1 ⟨r, rfl, hf1, hr1⟩
  have HF1 := Lib.hid (HF0.out.trans hf1)
  have HZ1 := Lib.hid (HZ0.out.fresh hf1)
  have HR1 : Hid (r = true → (1 ≤ a ∧ a ≤ 64 ∧ 0 ≤ b ∧ b ≤ 1048576 ∧ 1 ≤ c ∧ c ≤ 4096) ∧ (∀ o ∈ xs, o.x.z ≤ 4000) ∧ xs.length ≤ 100) := hr1
  clear hf1 hr1 z0 z1 z2 z3
  cases r with
  | false =>
    go_wp2_with fail
    with_reducible refine (HAW.out _).mono ?_
    rintro e w2 ⟨rfl, hf2⟩
    have HF2 := Lib.hid (HF1.out.trans hf2)
    clear hf2
    go_wp2
    go_ret
    exact ⟨rfl, HF2.out⟩
  | true =>
    obtain ⟨⟨n1, n2, n3, n4, n5, n6⟩, hall, hlen⟩ := HR1.out rfl
    obtain ⟨n, rfl⟩ : ∃ n : Nat, a = (n : Int) := ⟨a.toNat, by omega⟩
    have HALL := Lib.hid hall
    have HNW := Lib.hid (fun W => qu_new n b c W (by omega) (by omega) n3 n4 n5 n6)
    have hmk := run_makeZ (P := Try.prog) Try.underlying31 rows_info rfl n (n : Int) rfl (by omega) (by omega)
    have hn64 : n ≤ 64 := by omega
    have hmm : m ≤ 100 := by have := HM.out; omega
    obtain ⟨z0, z1, z2, z3⟩ := HZ1.out.c4
    clear hall hlen n1 n2 n3 n4 n5 n6 HR1
    go_wp2_with fail
    with_reducible refine (HNW.out _).mono ?_
    rintro e w2 ⟨q, R, rfl, hq2, hqq, hqR, hf2⟩
    have HF2 := Lib.hid (HF1.out.trans hf2)
    have HQ2 := Lib.hid (hq2 w.heap.size)
    have HZ2 := Lib.hid (HZ1.out.fresh hf2)
    have HRR : Hid (w.heap.size ≤ R) := Lib.hid (Nat.le_trans HF1.out.size hqR)
    clear hq2 hqq hqR hf2 z0 z1 z2 z3
    obtain ⟨z0, z1, z2, z3⟩ := HZ2.out.c4
    go_upto_region 7 with fail
    obtain ⟨M, hM⟩ : ∃ M, w2.heap.size = M := ⟨_, rfl⟩
    have HMM : Hid (w.heap.size ≤ M) := Lib.hid (by rw [← hM]; exact HF2.out.size)
    rw [hM]
    refine wp_gen (fun W => Fresh w W ∧ QAt W w.heap.size q R n b c nilR ∧ MAt W M n nilR ∧ Blk W b0 24 #[.int .i64 (n : Int), .int .i64 b, .int .i64 c, .slice A m cc]) ⟨HF2.out.allocS _, HQ2.out.fresh (Fresh.alloc _ _), by rw [← hM]; exact MAt.new, HZ2.out.alloc _⟩ ?_
    clear hM hmk z0 z1 z2 z3
    rintro W3 ⟨hf3, hq3, hm3, hz3⟩
    have z3 := hz3.cell 3
    have HX3 := Lib.hid (And.intro hf3 (And.intro hq3 (And.intro hm3 hz3)))
    clear hf3 hq3 hm3 hz3
    go_wp2
    clear z3
    go_loopw [35] (fun i wr => ∃ (k : Nat) (ro : Rows), k ≤ m ∧ i = .int .i64 (k : Int) ∧ Fresh w wr ∧ QAt wr w.heap.size q R n b c ro ∧ MAt wr M n ro ∧ Blk wr b0 24 #[.int .i64 (n : Int), .int .i64 b, .int .i64 c, .slice A m cc]) (fun i _ => m - (intOf i).toNat)
    case atStart => exact ⟨0, nilR, by omega, rfl, HX3.out⟩
    case round =>
      obtain ⟨k, ro, hk, rfl, hf, hq, hM, hz⟩ := hrel
      have HX := Lib.hid (And.intro hf (And.intro hq (And.intro hM hz)))
      by_cases hlt : k < m
      · have hlt' : (k : Int) < (m : Int) := by omega
        obtain ⟨o, hx⟩ : ∃ x, xs[k]? = some x := ⟨_, List.getElem?_eq_getElem (by rw [HM.out]; exact hlt)⟩
        have hin := H.out.ok o (List.mem_of_getElem? hx)
        obtain ⟨bb, ff, hA, hb, y0, y1, y2, y3, y4, y5⟩ := (H.out.rows.fresh hf).at6 k o hx
        simp only at hA
        subst hA
        have HST := Lib.hid (fun W (hW : Fresh wr W) => step_any M (some ⟨bb, ff, none⟩) m cc o (hq.fresh hW) (hM.fresh hW) (Nat.le_trans hf.size hW.size) (hin.fresh (hf.trans hW)) (by have := HALL.out o (List.mem_of_getElem? hx); omega))
        unfold OpQ.v at HST
        have HNX := Lib.hid (fun W (hW : Fresh wr W) W' (ho : Only (fun k => k = R ∨ k = M ∨ ∃ t, t < n ∧ (ro t).1.ownBlock = some k) W W') => And.intro (StepP.next (hq.fresh hW) (hf.trans hW) HRR.out HMM.out ho) (StepP.avoid (hq.fresh hW) (hM.fresh hW) ho (hz.fresh hW) (by decide) (by decide) (by decide)))
        have z3 := hz.cell 3
        have hmk0 : (0 : Int) ≤ (k : Int) := by omega
        clear hx hb hin hf hq hM hz
        go_upto_region 10 with fail
        obtain ⟨b7, hb7⟩ : ∃ b7, wr.heap.size = b7 := ⟨_, rfl⟩
        rw [hb7]
        refine wp_gen (fun W => Fresh wr W ∧ Blk W b7 36 (OpP o)) ⟨?_, ?_⟩ ?_
        · repeat (first | with_reducible exact Fresh.refl _ | with_reducible apply Fresh.drewS | with_reducible apply Fresh.allocS | (with_reducible refine Fresh.step2 ?_ ?_; focus exact Nat.le_of_eq hb7))
        · exact Blk.mkAt hb7
        clear hb7 y0 y1 y2 y3 y4 y5 z3
        rintro W4 ⟨hf4, ho4⟩
        have HF4 := Lib.hid hf4
        unfold OpP at ho4
        obtain ⟨o0, o1, o2, o3, o4, o5⟩ := ho4.c6
        obtain ⟨z0, z1, z2, z3⟩ := (HX.out.2.2.2.fresh hf4).c4
        clear hf4 ho4
        go_wp2_with fail
        with_reducible refine (HST.out _ HF4.out).mono ?_
        rintro e w5 ⟨ro5, rfl, hq5, hm5, ho5, hn5⟩
        have HX5 := Lib.hid (And.intro hq5 hm5)
        have HN5 := Lib.hid (HNX.out _ HF4.out _ ho5)
        have z1 := HN5.out.2.cell 1
        have z2 := HN5.out.2.cell 2
        clear hq5 hm5 ho5 hn5 o0 o1 o2 o3 o4 o5 z0 z3
        go_wp2
        clear z1 z2
        go_loopw [47] (fun i wr2 => ∃ (j : Nat), j ≤ n ∧ i = .int .i64 (j : Int) ∧ Fresh w5 wr2) (fun i _ => n - (intOf i).toNat)
        case atStart => exact ⟨0, by omega, rfl, Fresh.refl _⟩
        case round =>
          obtain ⟨j, hj, rfl, hf6⟩ := hrel
          have HF6 := Lib.hid hf6
          by_cases hjn : j < n
          · have hjn' : (j : Int) < (n : Int) := by omega
            have hj0 : (0 : Int) ≤ (j : Int) := by omega
            obtain ⟨hq5, hm5⟩ := HX5.out
            obtain ⟨csm, hcm, hcn, hcs⟩ := hm5.row
            obtain ⟨Aj, cj, hAt, hLS⟩ := hcs j hjn
            have hqt := hq5.quota j hjn
            have hql := hq5.len hjn
            have HLN := Lib.hid (fun W (hw : Fresh w5 W) => qu_len j (hq5.fresh hw) hjn)
            have HBY := Lib.hid (fun W (hw : Fresh w5 W) => qu_bytes j (hq5.fresh hw) hjn)
            have HSZ := Lib.hid (fun W (hw : Fresh w5 W) => rs_size Aj cj (saidL (ro5 j).2) W (hLS.fresh hw).rows (by rw [saidL_len]; omega) (by rw [saidL_sz]; omega))
            rw [saidL_len, saidL_sz] at HSZ
            have HSK : Hid (∀ W, Fresh w5 W → W.cell? ⟨M, j, none⟩ = some (.slice Aj (ro5 j).2.length cj) ∧ W.cell? ⟨b0, 1, none⟩ = some (.int .i64 b) ∧ W.cell? ⟨b0, 2, none⟩ = some (.int .i64 c) ∧ Fresh w5 W) := Lib.hid (fun W hw => ⟨by rw [(hcm.fresh hw).cell]; exact hAt, (HN5.out.2.fresh hw).cell 1, (HN5.out.2.fresh hw).cell 2, hw⟩)
            obtain ⟨L, hL⟩ : ∃ L, (ro5 j).2.length = L := ⟨_, rfl⟩
            obtain ⟨Z, hZ⟩ : ∃ Z, qz (ro5 j).2 = Z := ⟨_, rfl⟩
            rw [hL] at HLN HSZ HSK hqt hql
            rw [hZ] at HBY HSZ hqt hql
            obtain ⟨q1, q2⟩ := hqt
            have g1 : ((L : Int) != (L : Int)) = false := by simp
            have g2 : ((Z : Int) != (Z : Int)) = false := by simp
            have g3 : decide (b < (Z : Int)) = false := by simp; omega
            have g4 : decide (c < (L : Int)) = false := by simp; omega
            clear hf6 hq5 hm5 hcm hcn hcs hAt hLS hql hL hZ
            go_upto_region 15 with fail
            obtain ⟨v0, v1, v2, _⟩ := HSK.out _ HF6.out
            go_region_held3 (fun W => W.cell? ⟨M, j, none⟩ = some (.slice Aj L cj) ∧ W.cell? ⟨b0, 1, none⟩ = some (.int .i64 b) ∧ W.cell? ⟨b0, 2, none⟩ = some (.int .i64 c) ∧ Fresh w5 W)
              ((refine HSK.out _ ?_; first | with_reducible assumption | with_reducible exact HF6.out.drewS))
              (first
                | (go_at_call 11; (with_reducible refine (HLN.out _ (by first | with_reducible assumption | with_reducible exact HF6.out.drewS)).mono ?_); rintro e w7 ⟨rfl, rfl⟩)
                | (go_at_call 12; (with_reducible refine (HBY.out _ (by first | with_reducible assumption | with_reducible exact HF6.out.drewS)).mono ?_); rintro e w7 ⟨rfl, rfl⟩)
                | (go_at_call 13; (with_reducible refine (HSZ.out _ (by first | with_reducible assumption | with_reducible exact HF6.out.drewS)).mono ?_); rintro e w7 ⟨rfl, hf7⟩; have hg7 : Fresh w5 w7 := Fresh.trans (by first | with_reducible assumption | with_reducible exact HF6.out.drewS) hf7; clear hf7))
            all_goals
              have HG7 := Lib.hid hg7
              clear hg7 v0 v1 v2 g1 g2 g3 g4 HLN HBY HSZ HSK
              go_wp2
              go_roundw
              case rel => exact ⟨j + 1, by omega, by go_num, HG7.out⟩
              case measure => simp [intOf]; omega
          · obtain rfl : j = n := by omega
            clear hf6
            go_wp2
            go_roundw
            case rel => exact ⟨k + 1, ro5, by omega, by go_num, HN5.out.1.trans HF6.out, HX5.out.1.fresh HF6.out, HX5.out.2.fresh HF6.out, HN5.out.2.fresh HF6.out⟩
            case measure => simp [intOf]; omega
      · obtain rfl : k = m := by omega
        clear hf hq hM hz
        go_wp2_with fail
        with_reducible refine (HAW.out _).mono ?_
        rintro e w5 ⟨rfl, hf5⟩
        have HF5 := Lib.hid (HX.out.1.trans hf5)
        clear hf5
        go_wp2
        go_ret
        exact ⟨rfl, HF5.out⟩
end Go.Proofs.Ythfifeclmikbgaa
