/-
  The law InboundChunks: the chunks, as they are cut.
-/
import Derived.Test.YtginhebfjbhmnaaGreatInbCa
namespace Go.Proofs.YtginhebfjbhmnaaGreat
set_option maxRecDepth 100000
set_option linter.unusedVariables false
set_option linter.unusedSimpArgs false
open Go.RowKit
def RowOk (F : List Fr) : Prop := ∀ f ∈ F, f.st ≤ 2147483647 ∧ f.pl.length ≤ 600
theorem allF_whole {F : List Fr} (h : RowOk F) : allF 16384 (rowB F).length (rowB F) = some (F, []) := by
  have := allF_rowI (most := 16384) F (fun q hq => by have := h q hq; omega) [] (by simp) (rowB F).length (by simp)
  rwa [List.append_nil] at this
/-- A chunk of the bytes of whole frames. -/
theorem ck_pure {F : List Fr} (hF : RowOk F) {j n : Nat} (hj : j + n ≤ (rowB F).length) {G : List Fr} {l : List UInt8} {evs : List Ev} {s : Option Part} {bg : Bool} (hA : allF 16384 ((rowB F).take j).length ((rowB F).take j) = some (G, l)) (hR : readAll none false G = (evs, 0, s, bg)) {ev' : List Ev} {co' : Int} {st' : RiSt} (hq : feedQ l s bg (((rowB F).drop j).take n) = (ev', co', st')) :
    (co' = 0 ∧ ∃ G' l' s' bg', st' = some (l', s', bg') ∧ allF 16384 ((rowB F).take (j + n)).length ((rowB F).take (j + n)) = some (G', l') ∧ readAll none false G' = (evs ++ ev', 0, s', bg')) ∨ (co' ≠ 0 ∧ st' = none ∧ ∃ s' bg', readAll none false F = (evs ++ ev', co', s', bg')) := by
  have e1 : (rowB F).take (j + n) = (rowB F).take j ++ ((rowB F).drop j).take n := List.take_add
  have h1 := allF_chunk (most := 16384) _ ((rowB F).take j) (((rowB F).drop j).take n) (Nat.le_refl _)
  rw [← e1, hA] at h1
  simp only [Option.bind_some] at h1
  have h2 := allF_chunk (most := 16384) _ ((rowB F).take (j + n)) ((rowB F).drop (j + n)) (Nat.le_refl _)
  rw [List.take_append_drop, allF_whole hF] at h2
  cases hP : allF 16384 (l ++ ((rowB F).drop j).take n).length (l ++ ((rowB F).drop j).take n) with
  | none =>
    rw [hP] at h1
    simp only [Option.map_none] at h1
    rw [h1] at h2
    cases h2
  | some P =>
    rw [hP] at h1
    simp only [Option.map_some] at h1
    rw [h1] at h2
    simp only [Option.bind_some] at h2
    unfold feedQ at hq
    rw [hP] at hq
    simp only [feedR, Prod.mk.injEq] at hq
    obtain ⟨hq1, hq2, hq3⟩ := hq
    have hRA := readAll_append none false G P.1
    rw [hR] at hRA
    simp only [ne_eq, not_true, if_false] at hRA
    by_cases hc : co' = 0
    · refine .inl ⟨hc, G ++ P.1, P.2, (readAll s bg P.1).2.2.1, (readAll s bg P.1).2.2.2, ?_, h1, ?_⟩
      · rw [hq2, if_pos hc] at hq3
        exact hq3.symm
      · rw [hRA, hq1]
        rw [← hc, ← hq2]
    · refine .inr ⟨hc, ?_, (readAll s bg P.1).2.2.1, (readAll s bg P.1).2.2.2, ?_⟩
      · rw [hq2, if_neg hc] at hq3
        exact hq3.symm
      · cases hH : allF 16384 (P.2 ++ (rowB F).drop (j + n)).length (P.2 ++ (rowB F).drop (j + n)) with
        | none => rw [hH] at h2; cases h2
        | some H =>
          rw [hH] at h2
          simp only [Option.map_some, Option.some.injEq, Prod.mk.injEq] at h2
          rw [h2.1, readAll_append none false (G ++ P.1) H.1, hRA, hq1]
          simp only [hq2]
          rw [if_pos (by simpa using hc)]
          rw [← hq2]
/-- Whole numbers are put behind a row. -/
theorem OwnI.append {w : World} {base n : Nat} {v : Value} {zs ys : List Int} (h : Own w base 3 1 v n (zs.map fun z => .int .i64 z)) (hb : base ≤ w.heap.size) (A : Option Addr) (c m k : Nat) (hy : Many cellI 1 w A ys) (hm : ys.length = m) (hk : n + m = k) (hlen : k * 8 ≤ 140737488355328) :
    ∃ A' c' w', (Builtin.append_ #[23, 23] 23 #[v, .slice A m c]).run Tryz.prog w = .ok (.slice A' k c') w' ∧ Own w' base 3 1 (.slice A' k c') k ((zs ++ ys).map fun z => .int .i64 z) ∧ Only (fun i => v.ownBlock = some i) w w' := by
  subst hm hk
  have hinfo : (Tryz.prog.info? 3).map (fun i => (i.zero, i.size, i.bytes)) = some (some (.int .i64 0), 1, 8) := by kernel_rfl
  obtain ⟨i, hi, hiz, his, hib⟩ := info_parts hinfo
  cases A with
  | none =>
    have hl : ys = [] := by
      rcases ys with _ | ⟨y, r⟩
      · rfl
      · obtain ⟨b, o, e, _⟩ := hy (by simp)
        cases e
    subst hl
    obtain ⟨A', c', rfl, _⟩ := h.slice
    refine ⟨A', c', w, ?_, by simpa using h, Only.refl _ _⟩
    rcases h.2 with ⟨h1, h2⟩ | ⟨g, cap, cur, h1, _, _, hnc, _⟩
    · cases h1
      simp [Builtin.append_, run_underlying Tryz.underlying23, sizeOf, typeInfo, hi, Builtin.lenOf, Builtin.firstCells]
    · cases h1
      simp [Builtin.append_, run_underlying Tryz.underlying23, sizeOf, typeInfo, hi, Builtin.lenOf, Builtin.firstCells, hnc, storeCells]
  | some a =>
    obtain ⟨v', w', hr, ho, hgr, _⟩ := run_append_own (P := Tryz.prog) w base 23 23 3 i _ 1 8 Tryz.underlying23 hi hiz his hib rfl (by omega) v n _ h a ys.length c (ys.map fun z => .int .i64 z) (by simp) (fun j u hj => by
        have hjl : j < ys.length := by have := (List.getElem?_eq_some_iff.1 hj).1; simpa using this
        obtain ⟨b, o, e, _, hc⟩ := hy.one j ys[j] (List.getElem?_eq_getElem hjl)
        injection e with e
        subst e
        rw [add_eq _ _ rfl]
        rw [hc, ← hj, List.getElem?_map, List.getElem?_eq_getElem hjl]
        rfl) (fun u hu => by
        obtain ⟨z, _, rfl⟩ := List.mem_map.1 hu
        rfl) (by unfold maxLen; omega) (by omega) hb
    obtain ⟨A', c', rfl, _⟩ := Own.slice (show Own w' base _ 1 v' _ _ from ho)
    exact ⟨A', c', w', hr, by rw [List.map_append]; exact ho, ⟨hgr.os, hgr.tape, hgr.output, hgr.size, fun k hk hne => hgr.block k hk (fun e => hne e.symm)⟩⟩
/-- Behind j bytes: the second reader, its events; what the first loop left. -/
structure Ck2 (w wr : World) (b0 b1 q : Nat) (F : List Fr) (j : Nat) (RA : Option Addr) (rn rc : Nat) (WV : Value) (xs : List EvV) (co : Int) (cb : Bool) (GV : Value) (ys : List EvV) (st : RiSt) (co2 : Int) (cb2 : Bool) (T : Nat → Prop) (CV : Value) (cm : Nat) (cs : List Int) : Prop where
  fr : Fresh w wr
  bs : BS wr RA ((rowB F).drop j)
  rl : j ≤ (rowB F).length ∧ (rowB F).length - j = rn ∧ rn ≤ rc ∧ rc ≤ maxLen
  ra : 0 < rn → ∀ b o, RA = some ⟨b, o, none⟩ → b0 ≤ b ∧ b < b1
  r : RiS w wr q st T
  tb : ∀ i, T i → i < b0 ∨ b1 ≤ i
  want : OwnE wr (b0 + 1) WV xs
  wv : ∀ i, WV.ownBlock = some i → i < b1
  wx : ∀ x ∈ xs, x.off (fun i => i < b0 ∨ b1 ≤ i)
  got : OwnE wr (b1 + 1) GV ys
  gx : ∀ y ∈ ys, y.off T
  f9 : Blk wr b0 32 #[.int .i64 co, .bool cb]
  f16 : Blk wr b1 32 #[.int .i64 co2, .bool cb2]
  cu : Own wr (b1 + 1) 3 1 CV cm (cs.map fun z => .int .i64 z)
  lo : w.heap.size ≤ b0 ∧ b0 < b1
  hcb : decide (co2 ≠ 0) = cb2
  pre : (co2 = 0 ∧ ∃ G l s bg, st = some (l, s, bg) ∧ allF 16384 ((rowB F).take j).length ((rowB F).take j) = some (G, l) ∧ readAll none false G = (ys.map EvV.e, 0, s, bg)) ∨ (co2 ≠ 0 ∧ st = none ∧ ∃ s bg, readAll none false F = (ys.map EvV.e, co2, s, bg))
theorem Ck2.fresh {w wr wr' : World} {b0 b1 q : Nat} {F : List Fr} {j : Nat} {RA : Option Addr} {rn rc : Nat} {WV : Value} {xs : List EvV} {co : Int} {cb : Bool} {GV : Value} {ys : List EvV} {st : RiSt} {co2 : Int} {cb2 : Bool} {T : Nat → Prop} {CV : Value} {cm : Nat} {cs : List Int} (h : Ck2 w wr b0 b1 q F j RA rn rc WV xs co cb GV ys st co2 cb2 T CV cm cs) (hf : Fresh wr wr') : Ck2 w wr' b0 b1 q F j RA rn rc WV xs co cb GV ys st co2 cb2 T CV cm cs :=
  ⟨h.fr.trans hf, h.bs.fresh hf, h.rl, h.ra, h.r.fresh hf, h.tb, h.want.fresh hf, h.wv, h.wx, h.got.fresh hf, h.gx, h.f9.fresh hf, h.f16.fresh hf, h.cu.fresh hf, h.lo, h.hcb, h.pre⟩
/-- The bytes are cut, nothing else. -/
theorem Ck2.cut {w wr : World} {b0 b1 q : Nat} {F : List Fr} {j : Nat} {RA : Option Addr} {rn rc : Nat} {WV : Value} {xs : List EvV} {co : Int} {cb : Bool} {GV : Value} {ys : List EvV} {st : RiSt} {co2 : Int} {cb2 : Bool} {T : Nat → Prop} {CV : Value} {cm : Nat} {cs : List Int} (h : Ck2 w wr b0 b1 q F j RA rn rc WV xs co cb GV ys st co2 cb2 T CV cm cs) (n : Nat) (hn : n ≤ rn)
    (hpre : (co2 = 0 ∧ ∃ G l s bg, st = some (l, s, bg) ∧ allF 16384 ((rowB F).take (j + n)).length ((rowB F).take (j + n)) = some (G, l) ∧ readAll none false G = (ys.map EvV.e, 0, s, bg)) ∨ (co2 ≠ 0 ∧ st = none ∧ ∃ s bg, readAll none false F = (ys.map EvV.e, co2, s, bg))) : Ck2 w wr b0 b1 q F (j + n) (cutA RA n rc) (rn - n) (rc - n) WV xs co cb GV ys st co2 cb2 T CV cm cs := by
  obtain ⟨h1, h2, h3, h4⟩ := h.rl
  refine ⟨h.fr, ?_, ⟨by omega, by omega, by omega, by omega⟩, fun h0 b o e => ?_, h.r, h.tb, h.want, h.wv, h.wx, h.got, h.gx, h.f9, h.f16, h.cu, h.lo, h.hcb, hpre⟩
  · have := h.bs.cut n rc (by rw [List.length_drop]; omega)
    rwa [List.drop_drop] at this
  · obtain ⟨b', o', e', _⟩ := h.bs.addr (by rw [List.length_drop]; omega)
    have hb := h.ra (by omega) b' o' e'
    rw [e', cutA_some _ _ _ _ (by omega)] at e
    cases e
    exact hb
/-- The second reader took a chunk, its fault and its events were put down. -/
theorem Ck2.feed {w W W1 W2 : World} {b0 b1 q : Nat} {F : List Fr} {j : Nat} {RA : Option Addr} {rn rc : Nat} {WV : Value} {xs : List EvV} {co : Int} {cb : Bool} {GV : Value} {ys : List EvV} {st : RiSt} {cb2 : Bool} {T : Nat → Prop} {CV : Value} {cm : Nat} {cs : List Int} (h : Ck2 w W b0 b1 q F j RA rn rc WV xs co cb GV ys st 0 cb2 T CV cm cs) {zs : List EvV} {YA : Option Addr} {yn yc : Nat} {st' : RiSt} {co' : Int} {cb' : Bool} {T' : Nat → Prop}
    (hy : OwnE W1 W.heap.size (.slice YA yn yc) zs) (ho : Only T W W1) (hr : RiS w W1 q st' T') (hg : ∀ i, T' i → T i ∨ W.heap.size ≤ i) (hyo : ∀ y ∈ zs, y.off T') (hb9 : Blk W2 b1 32 #[.int .i64 co', .bool cb']) (ho9 : Only (· = b1) W1 W2) (hcb : decide (co' ≠ 0) = cb') (n2 : Nat) (hn2 : n2 ≤ rn)
    (hpre : (co' = 0 ∧ ∃ G l s bg, st' = some (l, s, bg) ∧ allF 16384 ((rowB F).take (j + n2)).length ((rowB F).take (j + n2)) = some (G, l) ∧ readAll none false G = (ys.map EvV.e ++ zs.map EvV.e, 0, s, bg)) ∨ (co' ≠ 0 ∧ st' = none ∧ ∃ s bg, readAll none false F = (ys.map EvV.e ++ zs.map EvV.e, co', s, bg))) (n m : Nat) (hn : ys.length = n) (hm : n + yn = m) (hlen : m * 112 ≤ 140737488355328) :
    ∃ A' c' W3, (Builtin.append_ #[29, 29] 29 #[GV, .slice YA yn yc]).run Tryz.prog W2 = .ok (.slice A' m c') W3 ∧ Ck2 w W3 b0 b1 q F (j + n2) (cutA RA n2 rc) (rn - n2) (rc - n2) WV xs co cb (.slice A' m c') (ys ++ zs) st' co' cb' T' CV cm cs := by
  have hlo := h.lo
  have hz1 := ho.size
  have hz2 := ho9.size
  have hf16 := h.f16.lt
  have hk16 := h.f16.only ho (h.r.odd h.f16 (by decide))
  have hodd9 : ∀ i t cs, Blk W1 i t cs → t ≠ 32 → ¬ i = b1 := fun i t cs hb ht e => by
    subst e
    exact hb.ne hk16 ht rfl
  -- behind Feed
  obtain ⟨hgot1, hgx1⟩ := h.got.feedT h.r h.gx ho hg
  have hwant1 : OwnE W1 (b0 + 1) WV xs := h.want.only ho (fun i hi => by
    obtain ⟨_, _, cs, hb⟩ := h.want.blk hi
    exact h.r.odd hb (by decide)) (fun g cs hb => h.r.odd hb (by decide)) (fun x hx => (h.wx x hx).mono h.tb)
  have hbs1 : BS W1 RA ((rowB F).drop j) := by
    by_cases h0 : 0 < ((rowB F).drop j).length
    · refine h.bs.only ho (fun b o e hT => ?_)
      have := h.ra (by rw [List.length_drop] at h0; have := h.rl.2.1; omega) b o e
      rcases h.tb b hT with h5 | h5 <;> omega
    · rw [List.eq_nil_of_length_eq_zero (by omega : ((rowB F).drop j).length = 0)]
      exact BS.nil _ _
  have hcu1 := h.cu.only ho (fun i hi => by
    obtain ⟨cs', hb⟩ := h.cu.blk hi
    exact h.r.odd hb (by decide))
  have hf91 := h.f9.only ho (h.r.odd h.f9 (by decide))
  -- behind the store
  have hgot2 : OwnE W2 (b1 + 1) GV ys := hgot1.only ho9 (fun i hi => by
    obtain ⟨_, _, cs, hb⟩ := hgot1.blk hi
    exact hodd9 _ _ _ hb (by decide)) (fun g cs hg => hodd9 _ _ _ hg (by decide)) (fun x hx => (hgot1.2.1 x hx).low.mono (fun i e => by omega))
  have hwant2 : OwnE W2 (b0 + 1) WV xs := hwant1.only ho9 (fun i hi => by
    obtain ⟨_, _, cs, hb⟩ := hwant1.blk hi
    exact hodd9 _ _ _ hb (by decide)) (fun g cs hg => hodd9 _ _ _ hg (by decide)) (fun x hx => (h.wx x hx).mono (fun i e => .inr (by omega)))
  have hy2 : OwnE W2 W.heap.size (.slice YA yn yc) zs := hy.only ho9 (fun i hi => by
    obtain ⟨_, _, cs, hb⟩ := hy.blk hi
    exact hodd9 _ _ _ hb (by decide)) (fun g cs hg => hodd9 _ _ _ hg (by decide)) (fun x hx => (hy.2.1 x hx).low.mono (fun i e => by omega))
  have hr2 : RiS w W2 q st' T' := hr.only ho9 (fun i hi e => by
    subst e
    exact hr.odd hk16 (by decide) hi) (fun i e => by omega)
  have hcu2 := hcu1.only ho9 (fun i hi => by
    obtain ⟨cs', hb⟩ := hcu1.blk hi
    exact hodd9 _ _ _ hb (by decide))
  have hf92 := hf91.only ho9 (by omega)
  have hbs2 : BS W2 RA ((rowB F).drop j) := by
    by_cases h0 : 0 < ((rowB F).drop j).length
    · refine hbs1.only ho9 (fun b o e hT => ?_)
      have := h.ra (by rw [List.length_drop] at h0; have := h.rl.2.1; omega) b o e
      omega
    · rw [List.eq_nil_of_length_eq_zero (by omega : ((rowB F).drop j).length = 0)]
      exact BS.nil _ _
  -- behind the append
  have hgv : ∀ i, GV.ownBlock = some i → b1 + 1 ≤ i ∧ i < W.heap.size := fun i hi => ⟨(h.got.blk hi).1, (h.got.blk hi).2.1⟩
  obtain ⟨A', c', W3, hrun, hgot3, hO3, hn3⟩ := hgot2.append (by omega) hy2 (by omega) (fun y hys => (hy.2.1 y hys).low.mono (fun i e => (hgv i e).2)) n m hn hm hlen
  have hz3 := hO3.size
  have hoddw : ∀ i t cs, Blk W2 i t cs → t ≠ 42 → ¬ GV.ownBlock = some i := fun i t cs hb ht e => by
    obtain ⟨_, _, cs', hc⟩ := hgot2.blk e
    exact hb.ne hc ht rfl
  have hfr1 : Fresh w W1 := Only.fresh ((Only.of_fresh h.fr).trans ho) (fun i hi e => by have := (h.r.lo i e).1; omega)
  have hfr2 : Fresh w W2 := Only.fresh ((Only.of_fresh hfr1).trans ho9) (fun i hi e => by omega)
  have hbs3 : BS W3 RA ((rowB F).drop j) := by
    by_cases h0 : 0 < ((rowB F).drop j).length
    · refine hbs2.only hO3 (fun b o e hT => ?_)
      have := h.ra (by rw [List.length_drop] at h0; have := h.rl.2.1; omega) b o e
      have := hgv b hT
      omega
    · rw [List.eq_nil_of_length_eq_zero (by omega : ((rowB F).drop j).length = 0)]
      exact BS.nil _ _
  obtain ⟨hl1, hl2, hl3, hl4⟩ := h.rl
  refine ⟨A', c', W3, hrun, ⟨Only.fresh ((Only.of_fresh hfr2).trans hO3) (fun i hi e => by have := hgv i e; omega), ?_, ⟨by omega, by omega, by omega, by omega⟩, fun h0 b o e => ?_, hr2.only hO3 (fun i hi e => ?_) (fun i e => by have := hgv i e; omega), fun i hT => ?_, hwant2.only hO3 (fun i hi e => by have := h.wv i hi; have := hgv i e; omega) (fun g cs hb => hoddw _ _ _ hb (by decide)) (fun x hx => (h.wx x hx).mono (fun i e => .inr (by have := hgv i e; omega))), h.wv, h.wx, hgot3, fun x hx => ?_, hf92.only hO3 (hoddw _ _ _ hf92 (by decide)), hb9.only hO3 (hoddw _ _ _ hb9 (by decide)), hcu2.only hO3 (fun i hi => ?_), hlo, hcb, by rw [List.map_append]; exact hpre⟩⟩
  · have := hbs3.cut n2 rc (by rw [List.length_drop]; omega)
    rwa [List.drop_drop] at this
  · obtain ⟨b', o', e', _⟩ := h.bs.addr (by rw [List.length_drop]; omega)
    have hb := h.ra (by omega) b' o' e'
    rw [e', cutA_some _ _ _ _ (by omega)] at e
    cases e
    exact hb
  · obtain ⟨_, _, cs, hb⟩ := hgot2.blk e
    exact hr2.odd hb (by decide) hi
  · rcases hg i hT with e | e
    · exact h.tb i e
    · exact .inr (by omega)
  · rcases List.mem_append.1 hx with hx | hx
    · exact hgx1 x hx
    · exact hyo x hx
  · obtain ⟨cs', hb⟩ := hcu2.blk hi
    exact hoddw _ _ _ hb (by decide)
end Go.Proofs.YtginhebfjbhmnaaGreat

