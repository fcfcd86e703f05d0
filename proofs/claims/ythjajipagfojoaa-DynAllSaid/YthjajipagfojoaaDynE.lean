/-
  A table and the document's list side by side: step, resizing; any step; small.
-/
import Derived.Test.YthjajipagfojoaaDynD
namespace Go.Proofs.Ythjajipagfojoaa
set_option linter.unusedVariables false
set_option linter.unusedSimpArgs false
open Go.RowKit
section
variable {base p c : Nat} {v : Value} {A : Option Addr} {fs : List FldT} {lim : Int} {w : World}
set_option maxHeartbeats 1600000 in
theorem step_bad (o : OpT) (h : Side w base p v A c fs lim) (h1 : o.k = 2) (hn : o.n < 0 ∨ 65536 < o.n) : Calls Try.prog 11 #[.pointer (some ⟨p, 0, none⟩), .slice A fs.length c, .int .i64 lim, .agg #[.int .i64 o.k, .int .i64 o.n, .string o.f.1, .string o.f.2]] w (StP w base p v (stepF fs lim o).1 (stepF fs lim o).2) := by
  have H := Lib.hid h
  have HS : Hid (stepF fs lim o = (fs, lim)) := Lib.hid (by unfold stepF; rw [if_neg (by omega), if_pos h1, if_neg (by omega)])
  obtain ⟨k, n, f⟩ := o
  simp only at h1 hn HS ⊢
  subst h1
  have HR := Lib.hid (fun W => dy_resize_no (p := p) (w := W) n hn)
  clear h
  by_cases h0 : n < 0
  · clear hn
    go_enter Try.func11, Try.ntmps11
    go_wp2_with fail
    with_reducible refine (HR.out _).mono ?_
    rintro e w1 ⟨rfl, rfl⟩
    go_wp2
    refine bodyPost_ret (v := .tuple #[.slice A fs.length c, .int .i64 lim, .bool true]) (by simp [results, Try.results11, go_sem]) rfl ?_
    rw [HS.out]
    exact ⟨A, c, v, rfl, H.out.fresh (Fresh.alloc _ _), fun k hk => .inl hk, Only.of_fresh (Fresh.alloc _ _)⟩
  · have h2 : 65536 < n := by omega
    clear hn
    go_enter Try.func11, Try.ntmps11
    go_wp2_with fail
    with_reducible refine (HR.out _).mono ?_
    rintro e w1 ⟨rfl, rfl⟩
    go_wp2
    refine bodyPost_ret (v := .tuple #[.slice A fs.length c, .int .i64 lim, .bool true]) (by simp [results, Try.results11, go_sem]) rfl ?_
    rw [HS.out]
    exact ⟨A, c, v, rfl, H.out.fresh (Fresh.alloc _ _), fun k hk => .inl hk, Only.of_fresh (Fresh.alloc _ _)⟩
set_option maxHeartbeats 1600000 in
theorem step_size (o : OpT) (h : Side w base p v A c fs lim) (h1 : o.k = 2) (hn0 : 0 ≤ o.n) (hn1 : o.n ≤ 65536) : Calls Try.prog 11 #[.pointer (some ⟨p, 0, none⟩), .slice A fs.length c, .int .i64 lim, .agg #[.int .i64 o.k, .int .i64 o.n, .string o.f.1, .string o.f.2]] w (StP w base p v (stepF fs lim o).1 (stepF fs lim o).2) := by
  have H := Lib.hid h
  have HS : Hid (stepF fs lim o = (fs.drop (goneN fs o.n), o.n)) := Lib.hid (by unfold stepF; rw [if_neg (by omega), if_pos h1, if_pos ⟨hn0, hn1⟩])
  obtain ⟨k, n, f⟩ := o
  simp only at h1 hn0 hn1 HS ⊢
  subst h1
  have hzl : tz fs ≤ 4503599627370496 := by have := h.hz; have := h.l1; omega
  obtain ⟨m, hm⟩ : ∃ m, fs.length = m := ⟨_, rfl⟩
  obtain ⟨gn, hgn⟩ : ∃ gn, goneN fs n = gn := ⟨_, rfl⟩
  have hgm : gn ≤ m := by have := goneN_le fs n; omega
  have hm2 : m ≤ 2048 := by have := h.len; omega
  have HR := Lib.hid (fun W (hw : Fresh w W) => dy_resize n (h.tab.fresh hw) hzl hn0 hn1)
  have HD := Lib.hid (fun W (hw : Fresh w W) => rf_resize A c fs n W ((h.li.fresh hw).rows) h.li.le h.li.max (by have := h.len; omega) hzl)
  have HLE := Lib.hid h.li.le
  rw [hgn] at HR HD HS
  rw [hm] at HD ⊢
  have HM := Lib.hid hm
  have HG := Lib.hid hgn
  clear h hzl hm hgn
  have n0 : ¬ n < 0 := by omega
  have n1 : ¬ 65536 < n := by omega
  go_enter Try.func11, Try.ntmps11
  go_upto_region 1 with fail
  refine wp_gen (fun W => Fresh w W ∧ Blk W w.heap.size 33 #[.int .i64 2, .int .i64 n, .string f.1, .string f.2]) ⟨Fresh.alloc _ _, Blk.new _ _ _⟩ ?_
  rintro W ⟨hfr, hb⟩
  have HF := Lib.hid hfr
  have HB := Lib.hid hb
  obtain ⟨c0, c1⟩ : W.cell? ⟨w.heap.size, 0, none⟩ = some (.int .i64 2) ∧ W.cell? ⟨w.heap.size, 1, none⟩ = some (.int .i64 n) := ⟨hb.cell 0, hb.cell 1⟩
  clear hfr hb
  go_wp2_with fail
  with_reducible refine (HR.out _ HF.out).mono ?_
  rintro e w1 ⟨rfl, v1, ht1, hv1, ho1⟩
  have hb1 := HB.out.only ho1 (fun e => TabAt.apart (H.out.tab.fresh HF.out) (by decide) (by decide) _ _ HB.out e)
  have hl1 := (H.out.li.fresh HF.out).only ho1 (TabAt.apart (H.out.tab.fresh HF.out) (by decide) (by decide))
  have HX := Lib.hid (And.intro ht1 (And.intro hv1 (And.intro ho1 hl1)))
  have HD1 := Lib.hid (rf_resize A c fs n w1 hl1.rows hl1.le hl1.max (by have := H.out.len; omega) (by have := H.out.hz; have := H.out.l1; omega))
  have HB1 := Lib.hid hb1
  rw [HM.out, HG.out] at HD1
  clear c0 c1
  obtain ⟨c0, c1⟩ : w1.cell? ⟨w.heap.size, 0, none⟩ = some (.int .i64 2) ∧ w1.cell? ⟨w.heap.size, 1, none⟩ = some (.int .i64 n) := ⟨hb1.cell 0, hb1.cell 1⟩
  clear ht1 hv1 ho1 hl1 hb1 HR HD
  go_wp2_with fail
  with_reducible refine HD1.out.mono ?_
  rintro e w2 ⟨rfl, hf2⟩
  have hb2 := HB1.out.fresh hf2
  have HF2 := Lib.hid hf2
  clear c0 c1 hf2
  have c1 : w2.cell? ⟨w.heap.size, 1, none⟩ = some (.int .i64 n) := hb2.cell 1
  have hlt := hb2.lt
  clear hb2 HD1
  obtain ⟨m1, hm1⟩ : ∃ m1, m - gn = m1 := ⟨_, rfl⟩
  have e3 : IntKind.i64.wrap ((m : Int) - (m1 : Int)) = (gn : Int) := by rw [IntKind.wrap_i64]; omega
  have HM1 := Lib.hid hm1
  rw [hm1]
  clear hm1
  have HFIN : Hid (∀ W, Fresh w2 W → StP w base p v (stepF fs lim ⟨2, n, f⟩).1 (stepF fs lim ⟨2, n, f⟩).2 (.returned (.tuple #[.slice A m1 c, .int .i64 n, .bool true])) W) := Lib.hid (fun W hw => by
    obtain ⟨g1, g2, g3, g4⟩ := HX.out
    rw [HS.out]
    have hlen : (fs.drop gn).length = m1 := by rw [List.length_drop, HM.out, HM1.out]
    have hf := HF2.out.trans hw
    have hli := g4.fresh hf
    have hsz := g3.size
    refine ⟨A, c, v1, by rw [hlen], ⟨g1.fresh hf, ⟨?_, hli.max, ?_, ?_⟩, ?_, hn0, hn1, ?_⟩, fun k hk => ?_, ?_⟩
    · have := hli.le; simp only [List.length_drop]; omega
    · rw [← take_rev]; exact hli.rows.takeD _
    · intro hpos
      exact hli.row (by rw [List.length_drop] at hpos; omega)
    · have := H.out.hb; have := HF.out.size; have := hf.size; omega
    · rw [← HG.out]; exact tz_gone fs n hn0
    · rw [g2] at hk; exact .inl hk
    · exact ((Only.of_fresh HF.out).trans g3).freshS hf)
  go_upto_region 13 with fail
  go_quiet (fail)
  all_goals
    go_wp2
    refine bodyPost_ret (v := .tuple #[.slice A m1 c, .int .i64 n, .bool true]) (by simp [results, Try.results11, go_sem]) rfl ?_
    exact HFIN.out _ (Fresh.drewN _ _)
theorem step_any (o : OpT) (h : Side w base p v A c fs lim) (hf : fz o.f ≤ 1000000000000000) : Calls Try.prog 11 #[.pointer (some ⟨p, 0, none⟩), .slice A fs.length c, .int .i64 lim, .agg #[.int .i64 o.k, .int .i64 o.n, .string o.f.1, .string o.f.2]] w (StP w base p v (stepF fs lim o).1 (stepF fs lim o).2) := by
  by_cases h1 : o.k = 1
  · exact step_add o h h1 hf
  · by_cases h2 : o.k = 2
    · by_cases hn : 0 ≤ o.n ∧ o.n ≤ 65536
      · exact step_size o h h2 hn.1 hn.2
      · exact step_bad o h h2 (by omega)
    · have h := step_other o h h1 h2
      unfold stepF
      rw [if_neg h1, if_neg h2]
      exact h
end
end Go.Proofs.Ythjajipagfojoaa
