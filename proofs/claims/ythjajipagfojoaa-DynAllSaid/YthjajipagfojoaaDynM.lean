/-
  The law DynFinds.
-/
import Derived.Test.YthjajipagfojoaaDynL
namespace Go.Proofs.Ythjajipagfojoaa
set_option linter.unusedVariables false
set_option linter.unusedSimpArgs false
open Go.RowKit
def FR (f : FldT) (l : List FldT) (i : Int) (b : Bool) : Prop := (∃ k : Nat, k < l.length ∧ (∀ g ∈ l.take k, g ≠ f) ∧ l[k]? = some f ∧ i = (k : Int) + 1 ∧ b = true) ∨ ((∀ g ∈ l, g ≠ f) ∧ i = (namF f l : Int) ∧ b = false)
theorem fr_one {f : FldT} {l : List FldT} {i i' : Int} {b b' : Bool} (h : FR f l i b) (h' : FR f l i' b') : i = i' ∧ b = b' := by
  have mem : ∀ k : Nat, l[k]? = some f → f ∈ l := fun k hk => List.mem_of_getElem? hk
  have low : ∀ k k' : Nat, (∀ g ∈ l.take k', g ≠ f) → l[k]? = some f → k' ≤ k := by
    intro k k' hn hk
    by_cases hlt : k < k'
    · exact absurd rfl (hn f (List.mem_of_getElem? (by rw [List.getElem?_take_of_lt hlt]; exact hk)))
    · omega
  rcases h with ⟨k, _, hn, hk, rfl, rfl⟩ | ⟨hn, rfl, rfl⟩ <;> rcases h' with ⟨k', _, hn', hk', rfl, rfl⟩ | ⟨hn', rfl, rfl⟩
  · have := low k k' hn' hk
    have := low k' k hn hk'
    exact ⟨by omega, rfl⟩
  · exact absurd rfl (hn' f (mem k hk))
  · exact absurd rfl (hn f (mem k' hk'))
  · exact ⟨rfl, rfl⟩
theorem findP_r {f : FldT} {l : List FldT} {w w' : World} {e : Ending} (h : FindP f l w e w') : ∃ i b, e = .returned (.tuple #[.int .i64 i, .bool b]) ∧ FR f l i b ∧ Fresh w w' := by
  obtain ⟨hf, ⟨k, h1, h2, h3, rfl⟩ | ⟨h1, rfl⟩⟩ := h
  · exact ⟨_, _, rfl, .inl ⟨k, h1, h2, h3, rfl, rfl⟩, hf⟩
  · exact ⟨_, _, rfl, .inr ⟨h1, rfl, rfl⟩, hf⟩
def oneB (b : Bool) : Int := if b then 1 else 0
theorem rfindP_r {f : FldT} {l : List FldT} {w w' : World} {e : Ending} (h : RFindP f l w e w') : ∃ i b, e = .returned (.tuple #[.int .i64 i, .int .i64 (oneB b)]) ∧ FR f l i b ∧ Fresh w w' := by
  obtain ⟨hf, ⟨k, h1, h2, h3, rfl⟩ | ⟨h1, rfl⟩⟩ := h
  · exact ⟨_, true, rfl, .inl ⟨k, h1, h2, h3, rfl, rfl⟩, hf⟩
  · exact ⟨_, false, rfl, .inr ⟨h1, rfl, rfl⟩, hf⟩
section
variable {w : World}
set_option maxRecDepth 100000 in
set_option maxHeartbeats 3200000 in
theorem finds_long (lim : Int) (s : OpsV) (f : FldT) (h : s.Ok w) (hb : lim < 0 ∨ 65536 < lim ∨ 1000 < f.1.size ∨ 1000 < f.2.size) : Calls Try.prog 4 #[.int .i64 lim, s.v, .agg #[.string f.1, .string f.2]] w (LwP w) := by
  have HSM := Lib.hid (fun W (hw : Fresh w W) => small_any s W (h.fresh hw))
  obtain ⟨A, c, xs⟩ := s
  obtain ⟨f1, f2⟩ := f
  simp only [OpsV.v] at HSM hb ⊢
  clear h
  by_cases h0 : lim < 0
  · clear hb
    go_enter Try.func4, Try.ntmps4
    go_upto_region 1 with fail
    refine wp_gen (fun W => Fresh w W ∧ Blk W w.heap.size 31 #[.string f1, .string f2]) ⟨Fresh.alloc _ _, Blk.new _ _ _⟩ ?_
    rintro W ⟨hf0, hb0⟩
    have HF0 := Lib.hid hf0
    have HB0 := Lib.hid hb0
    clear hf0 hb0
    go_wp2_with fail
    with_reducible refine (HSM.out _ HF0.out).mono ?_
    rintro e w1 ⟨r, rfl, hf1⟩
    have HF1 := Lib.hid (HF0.out.trans hf1)
    obtain ⟨c0, c1⟩ := (HB0.out.fresh hf1).c2
    clear hf1
    cases r
    all_goals
      go_wp2_with fail
      with_reducible refine (dy_awake _).mono ?_
      rintro e w2 ⟨rfl, hf2⟩
      have HF2 := Lib.hid (HF1.out.trans hf2)
      clear hf2
      go_wp2
      go_ret
      exact ⟨rfl, HF2.out⟩
  · by_cases h1 : 65536 < lim
    · clear hb
      go_enter Try.func4, Try.ntmps4
      go_upto_region 1 with fail
      refine wp_gen (fun W => Fresh w W ∧ Blk W w.heap.size 31 #[.string f1, .string f2]) ⟨Fresh.alloc _ _, Blk.new _ _ _⟩ ?_
      rintro W ⟨hf0, hb0⟩
      have HF0 := Lib.hid hf0
      have HB0 := Lib.hid hb0
      clear hf0 hb0
      go_wp2_with fail
      with_reducible refine (HSM.out _ HF0.out).mono ?_
      rintro e w1 ⟨r, rfl, hf1⟩
      have HF1 := Lib.hid (HF0.out.trans hf1)
      obtain ⟨c0, c1⟩ := (HB0.out.fresh hf1).c2
      clear hf1
      cases r
      all_goals
        go_wp2_with fail
        with_reducible refine (dy_awake _).mono ?_
        rintro e w2 ⟨rfl, hf2⟩
        have HF2 := Lib.hid (HF1.out.trans hf2)
        clear hf2
        go_wp2
        go_ret
        exact ⟨rfl, HF2.out⟩
    · by_cases h2 : (1000 : Int) < (f1.size : Int)
      · clear hb
        go_enter Try.func4, Try.ntmps4
        go_upto_region 1 with fail
        refine wp_gen (fun W => Fresh w W ∧ Blk W w.heap.size 31 #[.string f1, .string f2]) ⟨Fresh.alloc _ _, Blk.new _ _ _⟩ ?_
        rintro W ⟨hf0, hb0⟩
        have HF0 := Lib.hid hf0
        have HB0 := Lib.hid hb0
        clear hf0 hb0
        go_wp2_with fail
        with_reducible refine (HSM.out _ HF0.out).mono ?_
        rintro e w1 ⟨r, rfl, hf1⟩
        have HF1 := Lib.hid (HF0.out.trans hf1)
        obtain ⟨c0, c1⟩ := (HB0.out.fresh hf1).c2
        clear hf1
        cases r
        all_goals
          go_wp2_with fail
          with_reducible refine (dy_awake _).mono ?_
          rintro e w2 ⟨rfl, hf2⟩
          have HF2 := Lib.hid (HF1.out.trans hf2)
          clear hf2
          go_wp2
          go_ret
          exact ⟨rfl, HF2.out⟩
      · have h3 : (1000 : Int) < (f2.size : Int) := by omega
        clear hb
        go_enter Try.func4, Try.ntmps4
        go_upto_region 1 with fail
        refine wp_gen (fun W => Fresh w W ∧ Blk W w.heap.size 31 #[.string f1, .string f2]) ⟨Fresh.alloc _ _, Blk.new _ _ _⟩ ?_
        rintro W ⟨hf0, hb0⟩
        have HF0 := Lib.hid hf0
        have HB0 := Lib.hid hb0
        clear hf0 hb0
        go_wp2_with fail
        with_reducible refine (HSM.out _ HF0.out).mono ?_
        rintro e w1 ⟨r, rfl, hf1⟩
        have HF1 := Lib.hid (HF0.out.trans hf1)
        obtain ⟨c0, c1⟩ := (HB0.out.fresh hf1).c2
        clear hf1
        cases r
        all_goals
          go_wp2_with fail
          with_reducible refine (dy_awake _).mono ?_
          rintro e w2 ⟨rfl, hf2⟩
          have HF2 := Lib.hid (HF1.out.trans hf2)
          clear hf2
          go_wp2
          go_ret
          exact ⟨rfl, HF2.out⟩
set_option maxRecDepth 100000 in
set_option maxHeartbeats 6400000 in
theorem finds_ok (lim : Int) (s : OpsV) (f : FldT) (h : s.Ok w) (h0 : 0 ≤ lim) (h1 : lim ≤ 65536) (hf1 : f.1.size ≤ 1000) (hf2 : f.2.size ≤ 1000) : Calls Try.prog 4 #[.int .i64 lim, s.v, .agg #[.string f.1, .string f.2]] w (LwP w) := by
  have HSM := Lib.hid (fun W (hw : Fresh w W) => small_any s W (h.fresh hw))
  obtain ⟨A, c, xs⟩ := s
  obtain ⟨f1, f2⟩ := f
  have H := Lib.hid h
  have hle := h.le
  have hmx := h.max
  simp only at hle hmx hf1 hf2
  simp only [maxLen] at hmx
  simp only [OpsV.v] at HSM ⊢
  obtain ⟨n, hn⟩ : ∃ n, xs.length = n := ⟨_, rfl⟩
  have HN := Lib.hid hn
  rw [hn] at HSM hle ⊢
  clear h hn
  have n0 : ¬ lim < 0 := by omega
  have n1 : ¬ 65536 < lim := by omega
  have n2 : ¬ (1000 : Int) < (f1.size : Int) := by omega
  have n3 : ¬ (1000 : Int) < (f2.size : Int) := by omega
  go_enter Try.func4, Try.ntmps4
  go_upto_region 1 with fail
  refine wp_gen (fun W => Fresh w W ∧ Blk W w.heap.size 31 #[.string f1, .string f2]) ⟨Fresh.alloc _ _, Blk.new _ _ _⟩ ?_
  rintro W ⟨hf0, hb0⟩
  have HF0 := Lib.hid hf0
  have HB0 := Lib.hid hb0
  clear hf0 hb0
  go_wp2_with fail
  with_reducible refine (HSM.out _ HF0.out).mono ?_
  rintro e w1 ⟨r, rfl, hf1'⟩
  have HF1 := Lib.hid hf1'
  obtain ⟨c0, c1⟩ := (HB0.out.fresh hf1').c2
  clear hf1'
  cases r
  · go_wp2_with fail
    with_reducible refine (dy_awake _).mono ?_
    rintro e w2 ⟨rfl, hf2'⟩
    have HF2 := Lib.hid ((HF0.out.trans HF1.out).trans hf2')
    clear hf2'
    go_wp2
    go_ret
    exact ⟨rfl, HF2.out⟩
  · go_wp2_with fail
    with_reducible refine (sd_new lim h0 h1 W _ HF1.out).mono ?_
    rintro e w2 ⟨p, rfl, hs⟩
    have HS := Lib.hid hs
    clear hs c0 c1
    go_wp2_with fail
    clear n0 n1 n2 n3 h0 h1
    go_loopw [0, 9, 53] (fun l x i wr => ∃ (k : Nat) (v : Value) (A' : Option Addr) (c' : Nat) (fs : List FldT) (lm : Int), k ≤ n ∧ i = .int .i64 (k : Int) ∧ l = .int .i64 lm ∧ x = .slice A' fs.length c' ∧ Sd W wr p v A' c' fs lm) (fun _ _ i _ => n - (intOf i).toNat)
    case atStart => exact ⟨0, _, none, 0, [], lim, by omega, rfl, rfl, rfl, HS.out⟩
    case round =>
      obtain ⟨k, v, A', c', fs, lm, hk, rfl, rfl, rfl, hs⟩ := hrel
      have HSD := Lib.hid hs
      by_cases hlt : k < n
      · have hlt' : (k : Int) < (n : Int) := by omega
        obtain ⟨x, hxk⟩ : ∃ x, xs[k]? = some x := ⟨_, List.getElem?_eq_getElem (by rw [HN.out]; exact hlt)⟩
        have hx1 := (H.out.ok x (List.mem_of_getElem? hxk)).f1
        obtain ⟨b, o, hA, hb, y0, y1, y2, y3⟩ := (H.out.rows.fresh (HF0.out.trans hs.fr)).at4 k x hxk
        simp only at hA
        subst hA
        have HST := Lib.hid (fun W2 (hw : Fresh wr W2) => sd_step x (HSD.out.fresh hw) hx1)
        obtain ⟨xk, xn, xf, xg⟩ := x
        simp only at y0 y1 y2 y3 HST
        clear hs hxk hx1
        generalize hfs : (stepF fs lm ⟨xk, xn, (xf, xg)⟩).1 = fs2 at HST
        generalize hlm : (stepF fs lm ⟨xk, xn, (xf, xg)⟩).2 = lm2 at HST
        clear hfs hlm
        go_upto_region 10 with fail
        refine wp_gen (fun W2 => Fresh wr W2 ∧ Blk W2 wr.heap.size 33 #[.int .i64 xk, .int .i64 xn, .string xf, .string xg]) ⟨Fresh.alloc _ _, Blk.new _ _ _⟩ ?_
        rintro W2 ⟨hfW, hbW⟩
        have c0 := hbW.cell 0
        have c1 := hbW.cell 1
        have c2 := hbW.cell 2
        have c3 := hbW.cell 3
        have HX := Lib.hid (HST.out _ hfW)
        clear hfW hbW y0 y1 y2 y3 hb HST
        simp at c0 c1 c2 c3
        generalize fs.length = nf at *
        go_wp2_with fail
        with_reducible refine HX.out.mono ?_
        rintro e w3 ⟨A3, c3', v3, rfl, hs3⟩
        have HS3 := Lib.hid hs3
        clear hs3 c0 c1 c2 c3
        go_wp2_with fail
        go_roundw
        case rel => exact ⟨k + 1, v3, A3, c3', fs2, lm2, by omega, by go_num, rfl, rfl, HS3.out⟩
        case measure => simp [intOf]; omega
      · obtain rfl : k = n := by omega
        clear hs
        obtain ⟨c0, c1⟩ := (HB0.out.fresh HSD.out.fr).c2
        have hlen := HSD.out.sd.len
        have HFI := Lib.hid (tab_find _ p v fs lm (f1, f2) wr HSD.out.sd.tab (by omega))
        have HRF := Lib.hid (fun W2 (hw : Fresh wr W2) => rf_find A' c' fs.reverse (f1, f2) W2 ((HSD.out.sd.li.fresh hw).rows) (by rw [List.length_reverse]; omega))
        rw [List.length_reverse] at HRF
        simp only at HFI HRF
        go_wp2_with fail
        with_reducible refine HFI.out.mono ?_
        intro e w3 hP
        obtain ⟨i1, b1, rfl, hr1, hf3⟩ := findP_r hP
        have HR1 := Lib.hid hr1
        have HF3 := Lib.hid hf3
        clear hP hr1 hf3 c0 c1 HFI
        obtain ⟨c0, c1⟩ := (HB0.out.fresh (HSD.out.fr.trans HF3.out)).c2
        generalize hnf : fs.length = nf at *
        go_wp2_with fail
        with_reducible refine (dy_pair (f1, f2) _).mono ?_
        rintro e w4 ⟨rfl, hf4⟩
        have HF4 := Lib.hid (HF3.out.trans hf4)
        clear hf4 c0 c1
        simp only
        go_wp2_with fail
        with_reducible refine (HRF.out _ HF4.out).mono ?_
        intro e w5 hP
        obtain ⟨i2, b2, rfl, hr2, hf5⟩ := rfindP_r hP
        have HF5 := Lib.hid (HF4.out.trans hf5)
        obtain ⟨rfl, rfl⟩ := fr_one HR1.out hr2
        clear hP hr2 hf5 HRF HR1
        cases b1
        all_goals
          simp only [oneB, if_true, Bool.false_eq_true, if_false]
          go_wp2_with fail
          with_reducible refine (dy_awake _).mono ?_
          rintro e w6 ⟨rfl, hf6⟩
          have HF6 := Lib.hid ((HF0.out.trans HSD.out.fr).trans (HF5.out.trans hf6))
          clear hf6
          go_wp2
          go_ret
          exact ⟨rfl, HF6.out⟩
end
theorem DynFinds_any (lim : Int) (s : OpsV) (f : FldT) (w : World) (_ : -9223372036854775808 ≤ lim ∧ lim ≤ 9223372036854775807) (hs : s.Ok w) (_ : fz f ≤ 1000000000000000) : Calls Try.prog 4 #[.int .i64 lim, s.v, .agg #[.string f.1, .string f.2]] w fun e w' => e = .returned (.bool true) ∧ Below w.heap.size w w' := by
  show Calls _ _ _ _ (LwP w)
  by_cases h : lim < 0 ∨ 65536 < lim ∨ 1000 < f.1.size ∨ 1000 < f.2.size
  · exact finds_long lim s f hs h
  · exact finds_ok lim s f hs (by omega) (by omega) (by omega) (by omega)
end Go.Proofs.Ythjajipagfojoaa
