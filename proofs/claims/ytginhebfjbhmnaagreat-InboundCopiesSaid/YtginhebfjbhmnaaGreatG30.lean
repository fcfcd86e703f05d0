/-
  Texts laid together: Dyn6 Dyn7 Dyn8.
-/
import Derived.Test.YtginhebfjbhmnaaGreatG29
import Derived.Test.YtginhebfjbhmnaaGreatG01
/-
  Package dyn: Add.
-/
namespace Go.Proofs.YtginhebfjbhmnaaGreat
set_option maxRecDepth 100000
set_option linter.unusedVariables false
set_option linter.unusedSimpArgs false
open Go.RowKit
def addF (fs : List FldT) (lim : Int) (f : FldT) : List FldT := if (fz f : Int) ≤ lim then fs.drop (goneN fs (lim - fz f)) ++ [f] else fs.drop (goneN fs (lim - fz f))
theorem tz_drop (fs : List FldT) (k : Nat) : tz (fs.drop k) ≤ tz fs := by
  have h := tz_append (fs.take k) (fs.drop k)
  rw [List.take_append_drop] at h
  omega
/-- Behind the beginning: f's box at b, the table as it is by now. -/
structure AdW (w : World) (base p b : Nat) (v : Value) (fs : List FldT) (lim : Int) (f : FldT) (v' : Value) (W : World) : Prop where
  box : Blk W b 62 #[.string f.1, .string f.2]
  tab : TabAt W base p v' fs lim
  own : v'.ownBlock = v.ownBlock
  fr : Only (fun k => k = p ∨ v.ownBlock = some k) w W
theorem AdW.fresh {w W W' : World} {base p b : Nat} {v v' : Value} {fs : List FldT} {lim : Int} {f : FldT} (h : AdW w base p b v fs lim f v' W) (hf : Fresh W W') : AdW w base p b v fs lim f v' W' :=
  ⟨h.box.fresh hf, h.tab.fresh hf, h.own, h.fr.freshS hf⟩
section
variable {base p : Nat} {v : Value} {fs : List FldT} {lim : Int} {w : World}
set_option maxRecDepth 100000 in
set_option maxHeartbeats 6400000 in
theorem dy_add (f : FldT) (h : TabAt w base p v fs lim) (hz : tz fs + fz f ≤ 4503599627370496) (hbase : base ≤ w.heap.size) (h0 : 0 ≤ lim) (h1 : lim ≤ 65536) (hm : fs.length ≤ 1000000) :
    Calls Tryz.prog 89 #[.pointer (some ⟨p, 0, none⟩), .agg #[.string f.1, .string f.2]] w fun e w' => e = .returned (.int .i64 (goneN fs (lim - fz f) : Int)) ∧ ∃ v', TabAt w' base p v' (addF fs lim f) lim ∧ (∀ k, v'.ownBlock = some k → v.ownBlock = some k ∨ w.heap.size ≤ k) ∧ Only (fun k => k = p ∨ v.ownBlock = some k) w w' := by
  have HT := Lib.hid h
  have HZ := Lib.hid hz
  have HBS := Lib.hid hbase
  have HM := Lib.hid hm
  have HSF : Hid (fz f ≤ 4503599627370496) := Lib.hid (by omega)
  have hw1 : IntKind.i64.wrap (lim - (fz f : Int)) = lim - (fz f : Int) := by rw [IntKind.wrap_i64]; omega
  obtain ⟨gn, hgn⟩ : ∃ gn, goneN fs (lim - fz f) = gn := ⟨_, rfl⟩
  have HGN := Lib.hid hgn
  obtain ⟨b, hb⟩ : ∃ b, w.heap.size = b := ⟨_, rfl⟩
  have HB0 := Lib.hid hb
  clear h hz hbase hm
  go_enter Tryz.func89, Tryz.ntmps89
  go_upto_region 1 with fail
  try rw [hb]
  refine wp_gen (AdW w base p b v fs lim f v) ⟨by rw [← hb]; exact Blk.new _ _ _, HT.out.fresh (Fresh.alloc _ _), rfl, Only.of_fresh (Fresh.alloc _ _)⟩ ?_
  rintro W hW
  have HW := Lib.hid hW
  have HSK : Hid (∀ w', Fresh W w' → w'.cell? ⟨p, 2, none⟩ = some (.int .i64 lim) ∧ w'.cell? ⟨b, 0, none⟩ = some (.string f.1) ∧ w'.cell? ⟨b, 1, none⟩ = some (.string f.2)) := Lib.hid (fun w' hf => ⟨(hW.tab.blk.fresh hf).cell 2, (hW.box.fresh hf).cell 0, (hW.box.fresh hf).cell 1⟩)
  have HSH : Hid (∀ w', Fresh W w' → Calls Tryz.prog 90 #[.pointer (some ⟨p, 0, none⟩), .int .i64 (lim - (fz f : Int))] w' fun e w2 => e = .returned (.int .i64 (gn : Int)) ∧ ∃ v', AdW w base p b v (fs.drop gn) lim f v' w2) := Lib.hid (fun w' hf => by
    refine (dy_shrink base p v fs lim (lim - fz f) w' (HW.out.tab.fresh hf) (by have := HZ.out; omega)).mono ?_
    rw [hgn]
    rintro e w2 ⟨rfl, v2, ht, hv, ho⟩
    have hA := HW.out.fresh hf
    refine ⟨rfl, v2, hA.box.only ho ?_, ht, hv, hA.fr.trans ho⟩
    have h3 := HT.out.blk.lt
    have h4 := HB0.out
    rintro (e | e)
    · omega
    · have := (HT.out.ne _ e).2; omega)
  clear hW hgn
  refine wp_region_valsC (by kernel_rfl) (by kernel_rfl) (by kernel_rfl) (by kernel_rfl) (by kernel_rfl) (fun i => ([.pointer (some ⟨p, 0, none⟩), .pointer (some ⟨p, 0, none⟩), .pointer (some ⟨p, 0, none⟩), .pointer (some ⟨p, 2, none⟩), .int .i64 lim, .agg #[.string f.1, .string f.2], .int .i64 (fz f : Int), .int .i64 (lim - (fz f : Int)), .int .i64 (gn : Int), .int .i64 (gn : Int)] : List Value).getD i undef) { tmps := #[.pointer (some ⟨p, 0, none⟩), .agg #[.string f.1, .string f.2], undef, .pointer (some ⟨b, 0, none⟩), .int .i64 0, .int .i64 (gn : Int), .pointer (some ⟨p, 0, none⟩), .pointer (some ⟨p, 0, none⟩), .pointer (some ⟨p, 0, none⟩), .pointer (some ⟨p, 2, none⟩), .int .i64 lim, .agg #[.string f.1, .string f.2], .int .i64 (fz f : Int), .int .i64 (lim - (fz f : Int)), .int .i64 (gn : Int), undef, undef, undef, undef, undef, undef, undef, undef, undef, undef, undef, undef, undef, undef, undef, undef, undef, undef, undef, undef, undef, undef, undef, undef, undef, undef, undef], defers := [] } (by kernel_rfl) (Once 8 (fun w2 => Fresh W w2) (fun w2 => ∃ v2, AdW w base p b v (fs.drop gn) lim f v2 w2)) (Once.start (Fresh.drew _)) ⟨?_, ?_, ?_, ?_, ?_, ?_, ?_, ?_, ?_, ?_, trivial⟩ ?_
  · intro L w2 hs hC hl hD hI
    refine .inl ⟨by kernel_rfl, ?_⟩
    as_aux_lemma =>
      obtain ⟨c2, x0, x1⟩ : w2.cell? ⟨p, 2, none⟩ = some (.int .i64 lim) ∧ w2.cell? ⟨b, 0, none⟩ = some (.string f.1) ∧ w2.cell? ⟨b, 1, none⟩ = some (.string f.2) := hI.any (z := fun w2 => w2.cell? ⟨p, 2, none⟩ = some (.int .i64 lim) ∧ w2.cell? ⟨b, 0, none⟩ = some (.string f.1) ∧ w2.cell? ⟨b, 1, none⟩ = some (.string f.2)) (fun hx => HSK.out _ hx) (fun ⟨v2, hy⟩ => ⟨hy.tab.blk.cell 2, hy.box.cell 0, hy.box.cell 1⟩)
      exact .val _ (by simp [execOp, Act.eval, c2, x0, x1, hw1, go_sem]) (hI.keep hs (by decide) (by decide) id id)
  · intro L w2 hs hC hl hD hI
    refine .inl ⟨by kernel_rfl, ?_⟩
    as_aux_lemma =>
      obtain ⟨c2, x0, x1⟩ : w2.cell? ⟨p, 2, none⟩ = some (.int .i64 lim) ∧ w2.cell? ⟨b, 0, none⟩ = some (.string f.1) ∧ w2.cell? ⟨b, 1, none⟩ = some (.string f.2) := hI.any (z := fun w2 => w2.cell? ⟨p, 2, none⟩ = some (.int .i64 lim) ∧ w2.cell? ⟨b, 0, none⟩ = some (.string f.1) ∧ w2.cell? ⟨b, 1, none⟩ = some (.string f.2)) (fun hx => HSK.out _ hx) (fun ⟨v2, hy⟩ => ⟨hy.tab.blk.cell 2, hy.box.cell 0, hy.box.cell 1⟩)
      exact .val _ (by simp [execOp, Act.eval, c2, x0, x1, hw1, go_sem]) (hI.keep hs (by decide) (by decide) id id)
  · intro L w2 hs hC hl hD hI
    refine .inl ⟨by kernel_rfl, ?_⟩
    as_aux_lemma =>
      obtain ⟨c2, x0, x1⟩ : w2.cell? ⟨p, 2, none⟩ = some (.int .i64 lim) ∧ w2.cell? ⟨b, 0, none⟩ = some (.string f.1) ∧ w2.cell? ⟨b, 1, none⟩ = some (.string f.2) := hI.any (z := fun w2 => w2.cell? ⟨p, 2, none⟩ = some (.int .i64 lim) ∧ w2.cell? ⟨b, 0, none⟩ = some (.string f.1) ∧ w2.cell? ⟨b, 1, none⟩ = some (.string f.2)) (fun hx => HSK.out _ hx) (fun ⟨v2, hy⟩ => ⟨hy.tab.blk.cell 2, hy.box.cell 0, hy.box.cell 1⟩)
      exact .val _ (by simp [execOp, Act.eval, c2, x0, x1, hw1, go_sem]) (hI.keep hs (by decide) (by decide) id id)
  · intro L w2 hs hC hl hD hI
    refine .inl ⟨by kernel_rfl, ?_⟩
    as_aux_lemma =>
      obtain ⟨c2, x0, x1⟩ : w2.cell? ⟨p, 2, none⟩ = some (.int .i64 lim) ∧ w2.cell? ⟨b, 0, none⟩ = some (.string f.1) ∧ w2.cell? ⟨b, 1, none⟩ = some (.string f.2) := hI.any (z := fun w2 => w2.cell? ⟨p, 2, none⟩ = some (.int .i64 lim) ∧ w2.cell? ⟨b, 0, none⟩ = some (.string f.1) ∧ w2.cell? ⟨b, 1, none⟩ = some (.string f.2)) (fun hx => HSK.out _ hx) (fun ⟨v2, hy⟩ => ⟨hy.tab.blk.cell 2, hy.box.cell 0, hy.box.cell 1⟩)
      exact .val _ (by simp [execOp, Act.eval, c2, x0, x1, hw1, go_sem]) (hI.keep hs (by decide) (by decide) id id)
  · intro L w2 hs hC hl hD hI
    refine .inl ⟨by kernel_rfl, ?_⟩
    as_aux_lemma =>
      obtain ⟨c2, x0, x1⟩ : w2.cell? ⟨p, 2, none⟩ = some (.int .i64 lim) ∧ w2.cell? ⟨b, 0, none⟩ = some (.string f.1) ∧ w2.cell? ⟨b, 1, none⟩ = some (.string f.2) := hI.any (z := fun w2 => w2.cell? ⟨p, 2, none⟩ = some (.int .i64 lim) ∧ w2.cell? ⟨b, 0, none⟩ = some (.string f.1) ∧ w2.cell? ⟨b, 1, none⟩ = some (.string f.2)) (fun hx => HSK.out _ hx) (fun ⟨v2, hy⟩ => ⟨hy.tab.blk.cell 2, hy.box.cell 0, hy.box.cell 1⟩)
      exact .val _ (by simp [execOp, Act.eval, c2, x0, x1, hw1, go_sem]) (hI.keep hs (by decide) (by decide) id id)
  · intro L w2 hs hC hl hD hI
    refine .inl ⟨by kernel_rfl, ?_⟩
    as_aux_lemma =>
      obtain ⟨c2, x0, x1⟩ : w2.cell? ⟨p, 2, none⟩ = some (.int .i64 lim) ∧ w2.cell? ⟨b, 0, none⟩ = some (.string f.1) ∧ w2.cell? ⟨b, 1, none⟩ = some (.string f.2) := hI.any (z := fun w2 => w2.cell? ⟨p, 2, none⟩ = some (.int .i64 lim) ∧ w2.cell? ⟨b, 0, none⟩ = some (.string f.1) ∧ w2.cell? ⟨b, 1, none⟩ = some (.string f.2)) (fun hx => HSK.out _ hx) (fun ⟨v2, hy⟩ => ⟨hy.tab.blk.cell 2, hy.box.cell 0, hy.box.cell 1⟩)
      exact .val _ (by simp [execOp, Act.eval, c2, x0, x1, hw1, go_sem]) (hI.keep hs (by decide) (by decide) id id)
  · intro L w2 hs hC hl hD hI
    refine .inl ⟨by kernel_rfl, ?_⟩
    as_aux_lemma =>
      exact .call _ _ w2 (by simp [execOp, Act.eval, go_sem]) ((dy_size f w2 HSF.out).mono fun e w3 h => ⟨h.1, hI.keep hs (by decide) (by decide) (fun hx => hx.trans h.2) (fun ⟨v2, hy⟩ => ⟨v2, hy.fresh h.2⟩)⟩)
  · intro L w2 hs hC hl hD hI
    refine .inl ⟨by kernel_rfl, ?_⟩
    as_aux_lemma =>
      obtain ⟨c2, x0, x1⟩ : w2.cell? ⟨p, 2, none⟩ = some (.int .i64 lim) ∧ w2.cell? ⟨b, 0, none⟩ = some (.string f.1) ∧ w2.cell? ⟨b, 1, none⟩ = some (.string f.2) := hI.any (z := fun w2 => w2.cell? ⟨p, 2, none⟩ = some (.int .i64 lim) ∧ w2.cell? ⟨b, 0, none⟩ = some (.string f.1) ∧ w2.cell? ⟨b, 1, none⟩ = some (.string f.2)) (fun hx => HSK.out _ hx) (fun ⟨v2, hy⟩ => ⟨hy.tab.blk.cell 2, hy.box.cell 0, hy.box.cell 1⟩)
      exact .val _ (by simp [execOp, Act.eval, c2, x0, x1, hw1, go_sem]) (hI.keep hs (by decide) (by decide) id id)
  · intro L w2 hs hC hl hD hI
    refine .inl ⟨by kernel_rfl, ?_⟩
    as_aux_lemma =>
      exact .call _ _ w2 (by simp [execOp, Act.eval, go_sem]) ((HSH.out w2 (hI.ahead hl)).mono fun e w3 h => ⟨h.1, Once.put hs (by decide) h.2⟩)
  · intro L w2 hs hC hl hD hI
    refine .inl ⟨by kernel_rfl, ?_⟩
    as_aux_lemma =>
      obtain ⟨c2, x0, x1⟩ : w2.cell? ⟨p, 2, none⟩ = some (.int .i64 lim) ∧ w2.cell? ⟨b, 0, none⟩ = some (.string f.1) ∧ w2.cell? ⟨b, 1, none⟩ = some (.string f.2) := hI.any (z := fun w2 => w2.cell? ⟨p, 2, none⟩ = some (.int .i64 lim) ∧ w2.cell? ⟨b, 0, none⟩ = some (.string f.1) ∧ w2.cell? ⟨b, 1, none⟩ = some (.string f.2)) (fun hx => HSK.out _ hx) (fun ⟨v2, hy⟩ => ⟨hy.tab.blk.cell 2, hy.box.cell 0, hy.box.cell 1⟩)
      exact .val _ (by simp [execOp, Act.eval, c2, x0, x1, hw1, go_sem]) (hI.keep hs (by decide) (by decide) id id)
  intro L w5 hl hI
  obtain ⟨v5, ha5⟩ := hI.behind (hl 8 (by decide))
  clear hl hI
  refine wx_gen (fun W5 => AdW w base p b v (fs.drop gn) lim f v5 W5) ha5 ?_
  clear HSK HSH HW ha5 L
  intro W5 ha5
  have HA := Lib.hid ha5
  have HSK5 : Hid (∀ w', Fresh W5 w' → w'.cell? ⟨p, 2, none⟩ = some (.int .i64 lim) ∧ w'.cell? ⟨b, 0, none⟩ = some (.string f.1) ∧ w'.cell? ⟨b, 1, none⟩ = some (.string f.2)) := Lib.hid (fun w' hf => ⟨(ha5.tab.blk.fresh hf).cell 2, (ha5.box.fresh hf).cell 0, (ha5.box.fresh hf).cell 1⟩)
  clear ha5
  go_upto_region 2 with fail
  by_cases hfit : (fz f : Int) ≤ lim
  · have HAD : Hid (addF fs lim f = fs.drop gn ++ [f]) := Lib.hid (by unfold addF; rw [if_pos hfit, HGN.out])
    refine wp_region_vals (by kernel_rfl) (by kernel_rfl) (by kernel_rfl) (by kernel_rfl) (by kernel_rfl) (fun i => ([.agg #[.string f.1, .string f.2], .int .i64 (fz f : Int), .pointer (some ⟨p, 0, none⟩), .pointer (some ⟨p, 0, none⟩), .pointer (some ⟨p, 2, none⟩), .int .i64 lim, .bool true] : List Value).getD i undef) { tmps := #[.pointer (some ⟨p, 0, none⟩), .agg #[.string f.1, .string f.2], undef, .pointer (some ⟨b, 0, none⟩), .int .i64 0, .int .i64 (gn : Int), .pointer (some ⟨p, 0, none⟩), .pointer (some ⟨p, 0, none⟩), .pointer (some ⟨p, 0, none⟩), .pointer (some ⟨p, 2, none⟩), .int .i64 lim, .agg #[.string f.1, .string f.2], .int .i64 (fz f : Int), .int .i64 (lim - (fz f : Int)), .int .i64 (gn : Int), .agg #[.string f.1, .string f.2], .int .i64 (fz f : Int), .pointer (some ⟨p, 0, none⟩), .pointer (some ⟨p, 0, none⟩), .pointer (some ⟨p, 2, none⟩), .int .i64 lim, .bool true, undef, undef, undef, undef, undef, undef, undef, undef, undef, undef, undef, undef, undef, undef, undef, undef, undef, undef, undef, undef], defers := [] } (by kernel_rfl) (fun w2 => Fresh W5 w2) (Fresh.drew W5) ⟨?_, ?_, ?_, ?_, ?_, ?_, ?_, trivial⟩ ?_
    · refine .inl ⟨by kernel_rfl, ?_⟩
      as_aux_lemma =>
        intro w2 hf
        obtain ⟨c2, x0, x1⟩ := HSK5.out _ hf
        exact .val _ (by simp [execOp, Act.eval, c2, x0, x1, hfit, go_sem]) hf
    · refine .inl ⟨by kernel_rfl, ?_⟩
      as_aux_lemma =>
        intro w2 hf
        exact .call _ _ w2 (by simp [execOp, Act.eval, go_sem]) ((dy_size f w2 HSF.out).mono fun e w3 h => ⟨h.1, hf.trans h.2⟩)
    · refine .inl ⟨by kernel_rfl, ?_⟩
      as_aux_lemma =>
        intro w2 hf
        obtain ⟨c2, x0, x1⟩ := HSK5.out _ hf
        exact .val _ (by simp [execOp, Act.eval, c2, x0, x1, hfit, go_sem]) hf
    · refine .inl ⟨by kernel_rfl, ?_⟩
      as_aux_lemma =>
        intro w2 hf
        obtain ⟨c2, x0, x1⟩ := HSK5.out _ hf
        exact .val _ (by simp [execOp, Act.eval, c2, x0, x1, hfit, go_sem]) hf
    · refine .inl ⟨by kernel_rfl, ?_⟩
      as_aux_lemma =>
        intro w2 hf
        obtain ⟨c2, x0, x1⟩ := HSK5.out _ hf
        exact .val _ (by simp [execOp, Act.eval, c2, x0, x1, hfit, go_sem]) hf
    · refine .inl ⟨by kernel_rfl, ?_⟩
      as_aux_lemma =>
        intro w2 hf
        obtain ⟨c2, x0, x1⟩ := HSK5.out _ hf
        exact .val _ (by simp [execOp, Act.eval, c2, x0, x1, hfit, go_sem]) hf
    · refine .inl ⟨by kernel_rfl, ?_⟩
      as_aux_lemma =>
        intro w2 hf
        obtain ⟨c2, x0, x1⟩ := HSK5.out _ hf
        exact .val _ (by simp [execOp, Act.eval, c2, x0, x1, hfit, go_sem]) hf
    intro w6 hf
    refine wx_gen (fun W6 => AdW w base p b v (fs.drop gn) lim f v5 W6) (HA.out.fresh hf) ?_
    clear hf HSK5 HA
    intro W6 ha6
    have HA6 := Lib.hid ha6
    obtain ⟨A5, cc5, rfl, _⟩ := ha6.tab.own.slice
    obtain ⟨A7, c7, w7, hap, hO7, hF7, hat7⟩ := fld_push (w := W6.drew) (ha6.tab.own.fresh (Fresh.drew _)) (by have := ha6.fr.size; have := HBS.out; show base ≤ W6.heap.size; omega) f (by have := HM.out; rw [List.length_drop]; omega) W6.heap.size rfl
    have hne : ∀ q, (Value.slice A5 (fs.drop gn).length cc5).ownBlock = some q → ¬ p = q := fun q hq e => (ha6.tab.ne q hq).1 e.symm
    have hb7 := (ha6.tab.blk.drew).only hF7 (fun e => hne _ e rfl)
    have hown := ha6.own
    have hbx : Blk w7 b 62 #[.string f.1, .string f.2] := (ha6.box.drew).only hF7 (fun e => by
      have e' : (Value.slice A5 (fs.drop gn).length cc5).ownBlock = some b := e
      rw [hown] at e'
      have := (HT.out.ne _ e').2
      have := HB0.out
      omega)
    have hfr : Only (fun k => k = p ∨ v.ownBlock = some k) w w7 := (ha6.fr.drewS).trans' hF7 (fun i hi e => by
      have e' : (Value.slice A5 (fs.drop gn).length cc5).ownBlock = some i := e
      rw [hown] at e'
      exact .inr e')
    have hat : ∀ k, (Value.slice A7 ((fs.drop gn).length + 1) c7).ownBlock = some k → v.ownBlock = some k ∨ w.heap.size ≤ k := fun k hk => by
      rcases hat7 k hk with h | h
      · left; rw [← hown]; exact h
      · right; have h1 := ha6.fr.size; have h2 : W6.heap.size < k := h; omega
    have hap' : (Builtin.append_ #[109, 109] 109 #[.slice A5 (fs.drop gn).length cc5, .slice (some ⟨W6.heap.size, 0, none⟩) 1 1]).run Tryz.prog (W6.alloc (.cells #[.string f.1, .string f.2] 62)).drew = .ok (.slice A7 ((fs.drop gn).length + 1) c7) w7 := hap
    have c0 : W6.cell? ⟨p, 0, none⟩ = some (.slice A5 (fs.drop gn).length cc5) := ha6.tab.blk.cell 0
    have hpl := ha6.tab.blk.lt
    have hbl := ha6.box.lt
    obtain ⟨x0, x1⟩ := ha6.box.c2
    obtain ⟨n2, hn2⟩ : ∃ n2, (fs.drop gn).length = n2 := ⟨_, rfl⟩
    have hn3 : (fs.drop gn ++ [f]).length = n2 + 1 := by rw [List.length_append, hn2]; rfl
    rw [hn2] at hap' c0 hb7 hO7 hat
    rw [hn3] at hO7
    have HN3 := Lib.hid hn3
    have c7_0 : w7.cell? ⟨p, 0, none⟩ = some (.slice A5 n2 cc5) := hb7.cell 0
    have q7_0 := hb7.frozen 0
    have HB7 := Lib.hid hb7
    have HX := Lib.hid (And.intro hO7 (And.intro hbx (And.intro hfr hat)))
    clear ha6 hap hO7 hF7 hat7 hne hb7 hbx hfr hat hown hn3
    obtain ⟨hs6, hhs6⟩ : ∃ z, W6.heap.size = z := ⟨_, rfl⟩
    rw [hhs6] at hap' hpl hbl
    have HFIT := Lib.hid hfit
    clear hn2 hfit
    go_upto_region 3 with fail
    go_region_law (with_reducible refine step_app rfl (.tmp 26) (.tmp 28) _ rfl hap' rfl (by simp [Act.eval, Act.put]) (by simp [Act.eval, Act.put]) ?_)
    all_goals
      refine wx_gen (fun W8 => Blk W8 p 111 #[.slice A7 (n2 + 1) c7, .int .i64 (tz (fs.drop gn) : Int), .int .i64 lim] ∧ Own W8 base 62 2 (.slice A7 (n2 + 1) c7) (n2 + 1) (rowD (fs.drop gn ++ [f])) ∧ Blk W8 b 62 #[.string f.1, .string f.2] ∧ Only (fun k => k = p ∨ v.ownBlock = some k) w W8) ?_ ?_
      focus
        obtain ⟨hO7, hbx, hfr, hat⟩ := HX.out
        have hb7 := HB7.out
        refine ⟨hb7.set 0 _, hO7.only (Only.setCell _ _ _) (fun q hq e => ?_), hbx.far (fun e => hbx.ne hb7 (by decide) e) _, hfr.step ⟨p, 0, none⟩ _ (.inl (.inl rfl))⟩
        obtain ⟨cur, hc⟩ := ownBlkD hO7 hq
        exact hc.ne hb7 (by decide) e
      have HAT := Lib.hid HX.out.2.2.2
      clear hap' c7_0 q7_0 c0 x0 x1 HB7 HX HA6 hpl hbl hhs6
      rintro W8 ⟨p1, p2, p3, p4⟩
      have HP1 := Lib.hid p1
      have HP2 := Lib.hid p2
      have HP3 := Lib.hid p3
      have HP4 := Lib.hid p4
      have HBP : Hid (¬ b = p) := Lib.hid (fun e => p3.ne p1 (by decide) e)
      have hw2 : IntKind.i64.wrap ((tz (fs.drop gn) : Int) + (fz f : Int)) = (tz (fs.drop gn) : Int) + (fz f : Int) := by have := HZ.out; have := tz_drop fs gn; rw [IntKind.wrap_i64]; omega
      clear p1 p2 p3 p4
      go_upto_region 4 with fail
      refine wp_region_valsC (by kernel_rfl) (by kernel_rfl) (by kernel_rfl) (by kernel_rfl) (by kernel_rfl) (fun i => ([.pointer (some ⟨p, 0, none⟩), .pointer (some ⟨p, 0, none⟩), .pointer (some ⟨p, 1, none⟩), .int .i64 (tz (fs.drop gn) : Int), .agg #[.string f.1, .string f.2], .int .i64 (fz f : Int), .int .i64 ((tz (fs.drop gn) : Int) + (fz f : Int)), .pointer (some ⟨p, 0, none⟩), .pointer (some ⟨p, 1, none⟩), undef] : List Value).getD i undef) { tmps := #[.pointer (some ⟨p, 0, none⟩), .agg #[.string f.1, .string f.2], undef, .pointer (some ⟨b, 0, none⟩), .int .i64 0, .int .i64 (gn : Int), .pointer (some ⟨p, 0, none⟩), .pointer (some ⟨p, 0, none⟩), .pointer (some ⟨p, 0, none⟩), .pointer (some ⟨p, 2, none⟩), .int .i64 lim, .agg #[.string f.1, .string f.2], .int .i64 (fz f : Int), .int .i64 (lim - (fz f : Int)), .int .i64 (gn : Int), .agg #[.string f.1, .string f.2], .int .i64 (fz f : Int), .pointer (some ⟨p, 0, none⟩), .pointer (some ⟨p, 0, none⟩), .pointer (some ⟨p, 2, none⟩), .int .i64 lim, .bool true, .pointer (some ⟨p, 0, none⟩), .pointer (some ⟨p, 0, none⟩), .pointer (some ⟨p, 0, none⟩), .pointer (some ⟨p, 0, none⟩), .slice A5 n2 cc5, .agg #[.string f.1, .string f.2], .slice (some ⟨hs6, 0, none⟩) 1 1, .slice A7 (n2 + 1) c7, .pointer (some ⟨p, 0, none⟩), .pointer (some ⟨p, 0, none⟩), .pointer (some ⟨p, 0, none⟩), .pointer (some ⟨p, 0, none⟩), .pointer (some ⟨p, 1, none⟩), .int .i64 (tz (fs.drop gn) : Int), .agg #[.string f.1, .string f.2], .int .i64 (fz f : Int), .int .i64 ((tz (fs.drop gn) : Int) + (fz f : Int)), .pointer (some ⟨p, 0, none⟩), .pointer (some ⟨p, 1, none⟩), undef], defers := [] } (by kernel_rfl) (Once 9 (fun w2 => Fresh W8 w2) (fun w2 => Only (· = p) W8 w2 ∧ Blk w2 p 111 #[.slice A7 (n2 + 1) c7, .int .i64 ((tz (fs.drop gn) : Int) + (fz f : Int)), .int .i64 lim])) (Once.start (Fresh.drew _)) ⟨?_, ?_, ?_, ?_, ?_, ?_, ?_, ?_, ?_, ?_, trivial⟩ ?_
      · intro L w2 hs hC hl hD hI
        refine .inl ⟨by kernel_rfl, ?_⟩
        as_aux_lemma =>
          exact .val _ (by simp [execOp, Act.eval, hw2, go_sem]) (hI.keep hs (by decide) (by decide) id id)
      · intro L w2 hs hC hl hD hI
        refine .inl ⟨by kernel_rfl, ?_⟩
        as_aux_lemma =>
          exact .val _ (by simp [execOp, Act.eval, hw2, go_sem]) (hI.keep hs (by decide) (by decide) id id)
      · intro L w2 hs hC hl hD hI
        refine .inl ⟨by kernel_rfl, ?_⟩
        as_aux_lemma =>
          exact .val _ (by simp [execOp, Act.eval, hw2, go_sem]) (hI.keep hs (by decide) (by decide) id id)
      · intro L w2 hs hC hl hD hI
        refine .inl ⟨by kernel_rfl, ?_⟩
        as_aux_lemma =>
          have h9 : L.getD 9 false = false := by
            cases h : L.getD 9 false with
            | false => rfl
            | true => exact absurd (hC.back (j := 6) (i := 3) (by kernel_rfl) (hC.back (j := 9) (i := 6) (by kernel_rfl) h)) (by rw [hl]; exact Bool.false_ne_true)
          exact .val _ (by simp [execOp, Act.eval, (HP1.out.fresh (hI.ahead h9)).cell 1, go_sem]) (hI.keep hs (by decide) (by decide) id id)
      · intro L w2 hs hC hl hD hI
        refine .inl ⟨by kernel_rfl, ?_⟩
        as_aux_lemma =>
          have hx : Blk w2 b 62 #[.string f.1, .string f.2] := hI.any (z := fun w2 => Blk w2 b 62 #[.string f.1, .string f.2]) (fun hx => HP3.out.fresh hx) (fun hy => HP3.out.only hy.1 HBP.out)
          exact .val _ (by simp [execOp, Act.eval, hx.cell 0, hx.cell 1, go_sem]) (hI.keep hs (by decide) (by decide) id id)
      · intro L w2 hs hC hl hD hI
        refine .inl ⟨by kernel_rfl, ?_⟩
        as_aux_lemma =>
          exact .call _ _ w2 (by simp [execOp, Act.eval, go_sem]) ((dy_size f w2 HSF.out).mono fun e w3 h => ⟨h.1, hI.keep hs (by decide) (by decide) (fun hx => hx.trans h.2) (fun hy => ⟨hy.1.freshS h.2, hy.2.fresh h.2⟩)⟩)
      · intro L w2 hs hC hl hD hI
        refine .inl ⟨by kernel_rfl, ?_⟩
        as_aux_lemma =>
          exact .val _ (by simp [execOp, Act.eval, hw2, go_sem]) (hI.keep hs (by decide) (by decide) id id)
      · intro L w2 hs hC hl hD hI
        refine .inl ⟨by kernel_rfl, ?_⟩
        as_aux_lemma =>
          exact .val _ (by simp [execOp, Act.eval, hw2, go_sem]) (hI.keep hs (by decide) (by decide) id id)
      · intro L w2 hs hC hl hD hI
        refine .inl ⟨by kernel_rfl, ?_⟩
        as_aux_lemma =>
          exact .val _ (by simp [execOp, Act.eval, hw2, go_sem]) (hI.keep hs (by decide) (by decide) id id)
      · intro L w2 hs hC hl hD hI
        refine .inl ⟨by kernel_rfl, ?_⟩
        as_aux_lemma =>
          have hx := hI.ahead hl
          have hb := HP1.out.fresh hx
          exact .skip (w2.setCell ⟨p, 1, none⟩ (.int .i64 ((tz (fs.drop gn) : Int) + (fz f : Int)))) rfl (by simp [execOp, Act.eval, hb.cell 1, hb.frozen 1, go_sem]) (Once.put hs (by decide) ⟨(Only.of_fresh hx : Only (· = p) W8 w2).step ⟨p, 1, none⟩ _ (.inl rfl), hb.set 1 _⟩)
      intro L w9 hl hI
      have HY := Lib.hid (hI.behind (hl 9 (by decide)))
      clear hl hI
      go_wp2
      go_ret
      rw [HAD.out]
      refine ⟨by rw [HGN.out]; rfl, .slice A7 (n2 + 1) c7, ⟨?_, ?_⟩, ?_, HP4.out.trans (HY.out.1.mono (fun i e => .inl e))⟩
      · have h := HY.out.2
        rw [show tz (fs.drop gn ++ [f]) = tz (fs.drop gn) + fz f by rw [tz_append]; simp [tz]]
        simpa using h
      · rw [HN3.out]
        refine HP2.out.only HY.out.1 (fun q hq e => ?_)
        obtain ⟨cur, hc⟩ := ownBlkD HP2.out hq
        exact hc.ne HP1.out (by decide) e
      · intro k hk
        have h := HAT.out k hk
        have := HB0.out
        rcases h with h | h
        · exact .inl h
        · right; omega
  · have hgt : ¬ (fz f : Int) ≤ lim := hfit
    have HAD : Hid (addF fs lim f = fs.drop gn) := Lib.hid (by unfold addF; rw [if_neg hfit, HGN.out])
    refine wp_region_vals (by kernel_rfl) (by kernel_rfl) (by kernel_rfl) (by kernel_rfl) (by kernel_rfl) (fun i => ([.agg #[.string f.1, .string f.2], .int .i64 (fz f : Int), .pointer (some ⟨p, 0, none⟩), .pointer (some ⟨p, 0, none⟩), .pointer (some ⟨p, 2, none⟩), .int .i64 lim, .bool false] : List Value).getD i undef) { tmps := #[.pointer (some ⟨p, 0, none⟩), .agg #[.string f.1, .string f.2], undef, .pointer (some ⟨b, 0, none⟩), .int .i64 0, .int .i64 (gn : Int), .pointer (some ⟨p, 0, none⟩), .pointer (some ⟨p, 0, none⟩), .pointer (some ⟨p, 0, none⟩), .pointer (some ⟨p, 2, none⟩), .int .i64 lim, .agg #[.string f.1, .string f.2], .int .i64 (fz f : Int), .int .i64 (lim - (fz f : Int)), .int .i64 (gn : Int), .agg #[.string f.1, .string f.2], .int .i64 (fz f : Int), .pointer (some ⟨p, 0, none⟩), .pointer (some ⟨p, 0, none⟩), .pointer (some ⟨p, 2, none⟩), .int .i64 lim, .bool false, undef, undef, undef, undef, undef, undef, undef, undef, undef, undef, undef, undef, undef, undef, undef, undef, undef, undef, undef, undef], defers := [] } (by kernel_rfl) (fun w2 => Fresh W5 w2) (Fresh.drew W5) ⟨?_, ?_, ?_, ?_, ?_, ?_, ?_, trivial⟩ ?_
    · refine .inl ⟨by kernel_rfl, ?_⟩
      as_aux_lemma =>
        intro w2 hf
        obtain ⟨c2, x0, x1⟩ := HSK5.out _ hf
        exact .val _ (by simp [execOp, Act.eval, c2, x0, x1, hfit, go_sem]) hf
    · refine .inl ⟨by kernel_rfl, ?_⟩
      as_aux_lemma =>
        intro w2 hf
        exact .call _ _ w2 (by simp [execOp, Act.eval, go_sem]) ((dy_size f w2 HSF.out).mono fun e w3 h => ⟨h.1, hf.trans h.2⟩)
    · refine .inl ⟨by kernel_rfl, ?_⟩
      as_aux_lemma =>
        intro w2 hf
        obtain ⟨c2, x0, x1⟩ := HSK5.out _ hf
        exact .val _ (by simp [execOp, Act.eval, c2, x0, x1, hfit, go_sem]) hf
    · refine .inl ⟨by kernel_rfl, ?_⟩
      as_aux_lemma =>
        intro w2 hf
        obtain ⟨c2, x0, x1⟩ := HSK5.out _ hf
        exact .val _ (by simp [execOp, Act.eval, c2, x0, x1, hfit, go_sem]) hf
    · refine .inl ⟨by kernel_rfl, ?_⟩
      as_aux_lemma =>
        intro w2 hf
        obtain ⟨c2, x0, x1⟩ := HSK5.out _ hf
        exact .val _ (by simp [execOp, Act.eval, c2, x0, x1, hfit, go_sem]) hf
    · refine .inl ⟨by kernel_rfl, ?_⟩
      as_aux_lemma =>
        intro w2 hf
        obtain ⟨c2, x0, x1⟩ := HSK5.out _ hf
        exact .val _ (by simp [execOp, Act.eval, c2, x0, x1, hfit, go_sem]) hf
    · refine .inl ⟨by kernel_rfl, ?_⟩
      as_aux_lemma =>
        intro w2 hf
        obtain ⟨c2, x0, x1⟩ := HSK5.out _ hf
        exact .val _ (by simp [execOp, Act.eval, c2, x0, x1, hfit, go_sem]) hf
    intro w6 hf
    refine wx_gen (fun W6 => AdW w base p b v (fs.drop gn) lim f v5 W6) (HA.out.fresh hf) ?_
    clear hf HSK5 HA
    intro W6 ha6
    have HA6 := Lib.hid ha6
    clear ha6
    go_wp2
    go_ret
    rw [HAD.out]
    exact ⟨by rw [HGN.out]; rfl, v5, HA6.out.tab, fun k hk => .inl (by rw [← HA6.out.own]; exact hk), HA6.out.fr⟩
end
end Go.Proofs.YtginhebfjbhmnaaGreat

/-
  The document's Size and Resize of a list of fields.
-/
namespace Go.Proofs.YtginhebfjbhmnaaGreat
set_option maxRecDepth 100000
set_option linter.unusedVariables false
set_option linter.unusedSimpArgs false
open Go.RowKit
theorem Many.atD2 {w : World} {A : Option Addr} {xs : List FldT} (h : Many fldD 2 w A xs) (k : Nat) (x : FldT) (hx : xs[k]? = some x) :
    ∃ b o, A = some ⟨b, o, none⟩ ∧ b < w.heap.size ∧ w.cell? ⟨b, o + k * 2, none⟩ = some (.string x.1) ∧ w.cell? ⟨b, o + k * 2 + 1, none⟩ = some (.string x.2) := by
  obtain ⟨hk, rfl⟩ := List.getElem?_eq_some_iff.1 hx
  obtain ⟨b, o, e, hb, hc⟩ := h (by omega)
  exact ⟨b, o, e, hb, by have := hc k hk 0 (by omega); simpa [fldD] using this, by have := hc k hk 1 (by omega); simpa [fldD] using this⟩
theorem Many.takeD {w : World} {A : Option Addr} {xs : List FldT} (h : Many fldD 2 w A xs) (n : Nat) : Many fldD 2 w A (xs.take n) := by
  intro hn
  have hl : 0 < xs.length := by rw [List.length_take] at hn; omega
  obtain ⟨b, o, e, hb, hc⟩ := h hl
  refine ⟨b, o, e, hb, fun k hk j hj => ?_⟩
  rw [List.length_take] at hk
  rw [hc k (by omega) j hj, List.getElem_take]
theorem tz_take (xs : List FldT) (k : Nat) (f : FldT) (h : xs[k]? = some f) : tz (xs.take (k + 1)) = tz (xs.take k) + fz f := by
  obtain ⟨hk, rfl⟩ := List.getElem?_eq_some_iff.1 h
  rw [List.take_succ_eq_append_getElem hk, tz_append]
  simp [tz]
theorem tz_take_le (xs : List FldT) (k : Nat) : tz (xs.take k) ≤ tz xs := by
  have h := tz_append (xs.take k) (xs.drop k)
  rw [List.take_append_drop] at h
  omega
end Go.Proofs.YtginhebfjbhmnaaGreat

/-
  The document's Resize and Add of a list of fields.
-/
namespace Go.Proofs.YtginhebfjbhmnaaGreat
set_option maxRecDepth 100000
set_option linter.unusedVariables false
set_option linter.unusedSimpArgs false
open Go.RowKit
def lenV (v : Value) : Nat := match v with
  | .slice _ n _ => n
  | _ => 0
theorem tz_reverse (l : List FldT) : tz l.reverse = tz l := by
  simp [tz, List.sum_reverse]
theorem take_rev (fs : List FldT) (k : Nat) : fs.reverse.take (fs.length - k) = (fs.drop k).reverse := by
  rw [List.reverse_drop]
theorem wrap_e64 (n : Int) : IntKind.i64.wrap n = wrap64 n := by
  unfold wrap64
  exact IntKind.wrap_i64 n
end Go.Proofs.YtginhebfjbhmnaaGreat

