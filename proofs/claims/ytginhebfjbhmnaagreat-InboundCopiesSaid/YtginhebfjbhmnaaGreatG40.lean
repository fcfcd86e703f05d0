/-
  Texts laid together: OctetL FrameL FrameR FrameR2 ReasmL ReasmC FrameE InbX InbW.
-/
import Derived.Test.YtginhebfjbhmnaaGreatG02
import Derived.Lib.SmallJoins
import Derived.Test.YtginhebfjbhmnaaGreatG12
import Derived.StillTailTactics
import Derived.Test.YtginhebfjbhmnaaGreatG14
import Derived.Test.YtginhebfjbhmnaaGreatG17
import Derived.Test.YtginhebfjbhmnaaGreatG13
import Derived.Test.YtginhebfjbhmnaaGreatInbV
import Derived.Test.YtginhebfjbhmnaaGreatG36
/-
  The document's answers for octet, and the law's own fixed answers.
-/
namespace Go.Proofs.YtginhebfjbhmnaaGreat
set_option maxRecDepth 100000
set_option linter.unusedVariables false
open Go.RowKit
end Go.Proofs.YtginhebfjbhmnaaGreat

/-
  The fixed answers of the laws of layer 9.
-/
namespace Go.Proofs.YtginhebfjbhmnaaGreat
set_option maxRecDepth 100000
set_option linter.unusedVariables false
open Go.RowKit

end Go.Proofs.YtginhebfjbhmnaaGreat

/-
  The document's answers for layer 9.
-/
namespace Go.Proofs.YtginhebfjbhmnaaGreat
set_option maxRecDepth 100000
set_option linter.unusedVariables false
open Go.RowKit

end Go.Proofs.YtginhebfjbhmnaaGreat

/-
  The document's answer for layer 9: Parse.
-/
namespace Go.Proofs.YtginhebfjbhmnaaGreat
set_option maxRecDepth 100000
set_option linter.unusedVariables false
open Go.RowKit

end Go.Proofs.YtginhebfjbhmnaaGreat

/-
  The fixed answers of the laws of layer 11; small; the document's cut.
-/
namespace Go.Proofs.YtginhebfjbhmnaaGreat
set_option maxRecDepth 100000
set_option linter.unusedVariables false
open Go.RowKit

end Go.Proofs.YtginhebfjbhmnaaGreat

/-
  Chunks: what is cut of bytes in parts; rows of frames put together.
-/
namespace Go.Proofs.YtginhebfjbhmnaaGreat
set_option maxRecDepth 100000
set_option linter.unusedVariables false
open Go.RowKit

theorem allF_fuel {most : Int} : ∀ (n : Nat) (l : List UInt8), l.length ≤ n → ∀ m, l.length ≤ m → allF most n l = allF most m l := by
  intro n
  induction n with
  | zero =>
    intro l hl m hm
    have : l = [] := List.eq_nil_of_length_eq_zero (by omega)
    subst this
    rw [allF_16 rfl, allF_16 rfl]
  | succ n ih =>
    intro l hl m hm
    rcases parseK_cases l most with h | h | h
    · rw [allF_16 h, allF_16 h]
    · rw [allF_106 hl h, allF_106 hm h]
    · have h9 := parseK_long (l := l) (most := most) (by omega)
      obtain ⟨m', rfl⟩ : ∃ m', m = m' + 1 := ⟨m - 1, by omega⟩
      have hd : (l.drop (lenF l)).length ≤ n ∧ (l.drop (lenF l)).length ≤ m' := by simp [lenF]; omega
      have e := ih _ hd.1 m' hd.2
      conv => lhs; unfold allF
      conv => rhs; unfold allF
      rw [if_neg (by omega), if_pos h, if_neg (by omega), if_pos h, e]

theorem parse_more {l : List UInt8} {most : Int} (y : List UInt8) (h : parseK l most ≠ 16) : parseK (l ++ y) most = parseK l most ∧ (parseK l most = 0 → headF (l ++ y) = headF l ∧ lenF (l ++ y) = lenF l ∧ (l ++ y).drop (lenF l) = l.drop (lenF l) ++ y) := by
  have h9 := parseK_long h
  have ht : (l ++ y).take 3 = l.take 3 := List.take_append_of_le_length (by omega)
  have hlen : (l ++ y).length = l.length + y.length := List.length_append
  constructor
  · have h' := h
    unfold parseK at h' ⊢
    rw [if_neg (show ¬ l.length < 9 by omega)] at h' ⊢
    rw [if_neg (show ¬ (l ++ y).length < 9 by omega), ht]
    split
    · rfl
    · rename_i hm
      rw [if_neg hm] at h'
      split at h'
      · exact absurd rfl h'
      · rename_i h3
        rw [if_neg h3, if_neg (by omega)]
  · intro h0
    obtain ⟨_, _, h3⟩ := parseK_ok h0
    have hL : lenF (l ++ y) = lenF l := by unfold lenF; rw [ht]
    refine ⟨?_, hL, List.drop_append_of_le_length (by unfold lenF; omega)⟩
    unfold headF
    rw [ht]
    have g3 : (l ++ y).getD 3 0 = l.getD 3 0 := by simp [List.getD, List.getElem?_append_left (show 3 < l.length by omega)]
    have g4 : (l ++ y).getD 4 0 = l.getD 4 0 := by simp [List.getD, List.getElem?_append_left (show 4 < l.length by omega)]
    have g5 : ((l ++ y).drop 5).take 4 = (l.drop 5).take 4 := by
      rw [List.drop_append_of_le_length (by omega), List.take_append_of_le_length (by simp; omega)]
    have g6 : (l ++ y).take (9 + numL (l.take 3)) = l.take (9 + numL (l.take 3)) := List.take_append_of_le_length h3
    rw [g3, g4, g5, g6]

/-- What is cut of bytes in two parts. -/
theorem allF_chunk {most : Int} : ∀ (n : Nat) (l y : List UInt8), l.length ≤ n → allF most (l ++ y).length (l ++ y) = (allF most n l).bind fun P => (allF most (P.2 ++ y).length (P.2 ++ y)).map fun p => (P.1 ++ p.1, p.2) := by
  intro n
  induction n with
  | zero =>
    intro l y hl
    have : l = [] := List.eq_nil_of_length_eq_zero (by omega)
    subst this
    rw [allF_16 (r := []) (n := 0) rfl]
    simp only [List.nil_append, Option.bind_some]
    cases allF most y.length y <;> simp
  | succ n ih =>
    intro l y hl
    rcases parseK_cases l most with h | h | h
    · rw [allF_16 h]
      simp only [Option.bind_some]
      cases allF most (l ++ y).length (l ++ y) <;> simp
    · obtain ⟨h1, _⟩ := parse_more (l := l) (most := most) y (by omega)
      rw [allF_106 hl h, allF_106 (Nat.le_refl _) (h1.trans h)]
      try rfl
    · have h9 := parseK_long (l := l) (most := most) (by omega)
      obtain ⟨h1, h2⟩ := parse_more (l := l) (most := most) y (by omega)
      obtain ⟨e1, e2, e3⟩ := h2 h
      obtain ⟨m, hm, hA⟩ := allF_0 (Nat.le_refl _) (h1.trans h)
      rw [e1, e2, e3] at hA
      rw [e2, e3] at hm
      have hd : (l.drop (lenF l)).length ≤ n := by simp [lenF]; omega
      rw [hA, allF_fuel m _ hm _ (Nat.le_refl _), ih _ y hd]
      have e : allF most (n + 1) l = (allF most n (l.drop (lenF l))).map fun p => (headF l :: p.1, p.2) := by
        conv => lhs; unfold allF
        rw [if_neg (by omega), if_pos h]
      rw [e]
      cases allF most n (l.drop (lenF l)) with
      | none => rfl
      | some p =>
        simp only [Option.map_some, Option.bind_some]
        cases allF most (p.2 ++ y).length (p.2 ++ y) <;> simp

theorem OwnF.slice {w : World} {base : Nat} {v : Value} {fs : List (Fr × Option Addr)} (h : OwnF w base v fs) : ∃ A c, v = .slice A fs.length c := by
  obtain ⟨A, c, e, _⟩ := h.1.slice
  exact ⟨A, c, e⟩
/-- A row of frames is put behind another one. -/
theorem OwnF.appendF {w : World} {base base2 n2 c2 : Nat} {v : Value} {A2 : Option Addr} {fs fs2 : List (Fr × Option Addr)} (h : OwnF w base v fs) (hb : base ≤ w.heap.size) (h2 : OwnF w base2 (.slice A2 n2 c2) fs2) (hb2 : base ≤ base2) (hn : fs2.length = n2) (m : Nat) (hm : fs.length + n2 = m) (hlen : m * 48 ≤ 140737488355328) :
    ∃ A' c' w', (Builtin.append_ #[22, 22] 22 #[v, .slice A2 n2 c2]).run Tryz.prog w = .ok (.slice A' m c') w' ∧ OwnF w' base (.slice A' m c') (fs ++ fs2) ∧ Only (fun k => v.ownBlock = some k) w w' := by
  subst hn hm
  obtain ⟨i, hi, hiz, his, hib⟩ := info_parts fr_info
  have hFall : FsOk w base (fs ++ fs2) := fun q hq => by
    rcases List.mem_append.1 hq with hq | hq
    · exact h.2 q hq
    · exact ⟨(h2.2 q hq).1.base_le hb2, (h2.2 q hq).2⟩
  rcases h2.1.form with ⟨e, h0, _⟩ | ⟨g, cap, e, hbg, hlt, _, _, hc⟩
  · have hl : fs2 = [] := List.eq_nil_of_length_eq_zero h0
    subst hl
    obtain ⟨A', c', rfl, _⟩ := h.1.slice
    cases e
    refine ⟨A', c', w, ?_, by simpa using h, Only.refl _ _⟩
    rcases h.1.2 with ⟨h1, h2⟩ | ⟨g, cap, cur, h1, _, _, hnc, _⟩
    · injection h1 with h1 h3 h4
      subst h1 h4
      rw [h3]
      simp [Builtin.append_, run_underlying Tryz.underlying22, sizeOf, typeInfo, hi, Builtin.lenOf, Builtin.firstCells]
    · injection h1 with h1 h3 h4
      subst h1 h4
      simp [Builtin.append_, run_underlying Tryz.underlying22, sizeOf, typeInfo, hi, Builtin.lenOf, Builtin.firstCells, hnc, storeCells]
  · injection e with e1 e3 e4
    subst e1
    obtain ⟨v', w', hr, ho, hg, _⟩ := run_append_own (P := Tryz.prog) w base 22 22 34 i _ 4 48 Tryz.underlying22 hi hiz his hib rfl (by omega) v fs.length _ h.1 ⟨g, 0, none⟩ fs2.length c2 (fs2.flatMap cellsF) h2.1.1
      (fun j u hj => by
        rw [add_eq _ _ rfl]
        simp only [Nat.zero_add]
        have hjl := (List.getElem?_eq_some_iff.1 hj).1
        rw [(hc j hjl).1, hj])
      (fun u hu => by
        obtain ⟨q, _, hq⟩ := List.mem_flatMap.1 hu
        simp only [cellsF, List.mem_cons, List.not_mem_nil, or_false] at hq
        rcases hq with rfl | rfl | rfl | rfl <;> rfl) (by unfold maxLen; omega) (by omega) hb
    obtain ⟨A', c', rfl, _⟩ := Own.slice (show Own w' base _ 4 v' _ _ from ho)
    have hO : Only (fun k => v.ownBlock = some k) w w' := ⟨hg.os, hg.tape, hg.output, hg.size, fun k hk hne => hg.block k hk (fun e => hne e.symm)⟩
    refine ⟨A', c', w', hr, ⟨by rw [List.length_append, List.flatMap_append]; exact ho, hFall.only hO ?_⟩, hO⟩
    intro g' cs' hb' hS
    obtain ⟨cur, hcur⟩ := h.1.blk hS
    exact hb'.ne hcur (by decide) rfl
end Go.Proofs.YtginhebfjbhmnaaGreat

/-
  Rows of frames, cell by cell.
-/
namespace Go.Proofs.YtginhebfjbhmnaaGreat
set_option maxRecDepth 100000
set_option linter.unusedVariables false
open Go.RowKit

theorem flat4_length (fs : List (Fr × Option Addr)) : (fs.flatMap cellsF).length = fs.length * 4 := by
  induction fs with
  | nil => rfl
  | cons p fs ih => rw [List.flatMap_cons, List.length_append, ih, List.length_cons]; show 4 + _ = _; omega
theorem flat4_get (fs : List (Fr × Option Addr)) (k j : Nat) (hj : j < 4) : (fs.flatMap cellsF)[k * 4 + j]? = (fs[k]?).bind fun p => (cellsF p)[j]? := by
  induction fs generalizing k with
  | nil => simp
  | cons p fs ih =>
    rw [List.flatMap_cons]
    have h4 : (cellsF p).length = 4 := rfl
    cases k with
    | zero => rw [List.getElem?_append_left (by omega)]; simp
    | succ k =>
      rw [List.getElem?_append_right (by omega), h4, show (k + 1) * 4 + j - 4 = k * 4 + j by omega, ih k]
      simp
/-- The cells of frame k. -/
theorem OwnF.cells {w : World} {base n c : Nat} {A : Option Addr} {fs : List (Fr × Option Addr)} (h : OwnF w base (.slice A n c) fs) (k : Nat) (p : Fr × Option Addr) (hp : fs[k]? = some p) :
    ∃ g, A = some ⟨g, 0, none⟩ ∧ g < w.heap.size ∧ base ≤ g ∧ w.cell? ⟨g, k * 4, none⟩ = some (.int .i64 (p.1.x.toNat : Int)) ∧ w.cell? ⟨g, k * 4 + 1, none⟩ = some (.int .i64 (p.1.y.toNat : Int)) ∧ w.cell? ⟨g, k * 4 + 2, none⟩ = some (.int .i64 (p.1.st : Int)) ∧ w.cell? ⟨g, k * 4 + 3, none⟩ = some (.slice p.2 p.1.pl.length p.1.pl.length) := by
  have hk : k < fs.length := (List.getElem?_eq_some_iff.1 hp).1
  rcases h.1.form with ⟨e, h0, _⟩ | ⟨g, cap, e, hb, hlt, _, _, hc⟩
  · omega
  · injection e with e1
    have key : ∀ j, j < 4 → w.cell? ⟨g, k * 4 + j, none⟩ = (cellsF p)[j]? := fun j hj => by
      rw [(hc (k * 4 + j) (by rw [flat4_length]; omega)).1, flat4_get fs k j hj, hp]
      rfl
    exact ⟨g, e1, hlt, hb, key 0 (by omega), key 1 (by omega), key 2 (by omega), key 3 (by omega)⟩

/-- Two rows of four cells, as they stand. -/
abbrev EightS (w0 : World) (g o : Nat) (g' o' : Nat) (a b c d a' b' c' d' : Value) (w' : World) : Prop :=
  w'.cell? ⟨g, o, none⟩ = some a ∧ w'.cell? ⟨g, o + 1, none⟩ = some b ∧ w'.cell? ⟨g, o + 2, none⟩ = some c ∧ w'.cell? ⟨g, o + 3, none⟩ = some d ∧
  w'.cell? ⟨g', o', none⟩ = some a' ∧ w'.cell? ⟨g', o' + 1, none⟩ = some b' ∧ w'.cell? ⟨g', o' + 2, none⟩ = some c' ∧ w'.cell? ⟨g', o' + 3, none⟩ = some d' ∧
  g < w'.heap.size ∧ g' < w'.heap.size ∧ Fresh w0 w'
theorem EightS.fresh {w0 W W' : World} {g o g' o' : Nat} {a b c d a' b' c' d' : Value} (h : EightS w0 g o g' o' a b c d a' b' c' d' W) (hf : Fresh W W') : EightS w0 g o g' o' a b c d a' b' c' d' W' := by
  obtain ⟨c0, c1, c2, c3, d0, d1, d2, d3, hg, hg', hF⟩ := h
  have k0 : ∀ o, W'.cell? ⟨g, o, none⟩ = W.cell? ⟨g, o, none⟩ := fun o => hf.cell (p := ⟨g, o, none⟩) hg
  have k1 : ∀ o, W'.cell? ⟨g', o, none⟩ = W.cell? ⟨g', o, none⟩ := fun o => hf.cell (p := ⟨g', o, none⟩) hg'
  exact ⟨(k0 _).trans c0, (k0 _).trans c1, (k0 _).trans c2, (k0 _).trans c3, (k1 _).trans d0, (k1 _).trans d1, (k1 _).trans d2, (k1 _).trans d3, by have := hf.size; omega, by have := hf.size; omega, hF.trans hf⟩
theorem EightS.fr {w0 W : World} {g o g' o' : Nat} {a b c d a' b' c' d' : Value} (h : EightS w0 g o g' o' a b c d a' b' c' d' W) : Fresh w0 W := h.2.2.2.2.2.2.2.2.2.2

end Go.Proofs.YtginhebfjbhmnaaGreat

/-
  Package inbound: what Feed keeps between two frames.
-/
namespace Go.Proofs.YtginhebfjbhmnaaGreat
set_option maxRecDepth 100000
set_option linter.unusedVariables false
set_option linter.unusedSimpArgs false
open Go.RowKit
theorem allF_pl {most : Int} : ∀ (n : Nat) (l : List UInt8) (P : List Fr × List UInt8), allF most n l = some P → ∀ f ∈ P.1, (f.pl.length : Int) ≤ most := by
  intro n
  induction n with
  | zero =>
    intro l P h f hf
    simp only [allF, Option.some.injEq] at h
    subst h
    cases hf
  | succ n ih =>
    intro l P h f hf
    unfold allF at h
    by_cases h16 : parseK l most = 16
    · rw [if_pos h16] at h
      simp only [Option.some.injEq] at h
      subst h
      cases hf
    · rw [if_neg h16] at h
      by_cases h0 : parseK l most = 0
      · rw [if_pos h0] at h
        cases hq : allF most n (l.drop (lenF l)) with
        | none => rw [hq] at h; simp at h
        | some p =>
          rw [hq] at h
          simp only [Option.map_some, Option.some.injEq] at h
          subst h
          rcases List.mem_cons.1 hf with rfl | hf
          · obtain ⟨_, h1, _⟩ := parseK_ok h0
            simp only [headF, List.length_drop, List.length_take]
            omega
          · exact ih _ p hq f hf
      · rw [if_neg h0] at h
        cases h
/-- What a chunk does to a reader. -/
def feedR (s : Option Part) (bg : Bool) (r : Option (List Fr × List UInt8)) : List Ev × Int × Option (List UInt8 × Option Part × Bool) :=
  match r with
  | none => ([], 106, none)
  | some P => ((readAll s bg P.1).1, (readAll s bg P.1).2.1, if (readAll s bg P.1).2.1 = 0 then some (P.2, (readAll s bg P.1).2.2.1, (readAll s bg P.1).2.2.2) else none)
def feedQ (l : List UInt8) (s : Option Part) (bg : Bool) (b : List UInt8) : List Ev × Int × Option (List UInt8 × Option Part × Bool) := feedR s bg (allF 16384 (l ++ b).length (l ++ b))
/-- The frames behind the first k. -/
theorem readAll_at {s : Option Part} {bg : Bool} {F : List Fr} {k : Nat} {evs : List Ev} {si : Option Part} {bgi : Bool} (h : readAll s bg (F.take k) = (evs, 0, si, bgi)) (f : Fr) (hf : F[k]? = some f) (q : Int × Option Part × Ev) (hq : readP si bgi f.x.toNat f.y.toNat f.st f.pl = q) :
    (q.1 = 0 → readAll s bg (F.take (k + 1)) = (evs ++ (if q.2.2.k ≠ 0 then [q.2.2] else []), 0, q.2.1, true)) ∧ (q.1 ≠ 0 → readAll s bg F = (evs, q.1, si, true)) := by
  obtain ⟨hk, he⟩ := List.getElem?_eq_some_iff.1 hf
  constructor
  · intro h0
    rw [List.take_succ_eq_append_getElem hk, he, readAll_append, h]
    simp only [ne_eq, not_true, if_false, readAll, hq, h0]
  · intro h0
    have e : F = F.take k ++ (f :: F.drop (k + 1)) := by
      rw [← he, List.getElem_cons_drop, List.take_append_drop]
    rw [e, readAll_append, h]
    simp only [ne_eq, not_true, if_false, readAll, hq, h0, not_false_eq_true, if_true, List.append_nil]
/-- Behind a chunk that came to the reassembler. -/
theorem IbAt.fed {w0 w w' : World} {B : InB} {l l' : List UInt8} {s : Option Part} {bg : Bool} {v : Value} (h : IbAt w0 w B l s bg) (hr : RsAt w' B.rp 16384 l' v) (ho : Only (fun k => k = B.rp ∨ B.v1.ownBlock = some k) w w') (hg : ∀ k, v.ownBlock = some k → B.v1.ownBlock = some k ∨ w.heap.size ≤ k) : IbAt w0 w' { B with v1 := v } l' s bg := by
  obtain ⟨cs, hcs⟩ := h.asm.blk5
  have hn : ∀ k t cs, Blk w k t cs → t ≠ 81 → t ≠ 5 → ¬ (k = B.rp ∨ B.v1.ownBlock = some k) := fun k t cs hb h1 h2 hh => by
    rcases hh with e | e
    · subst e; exact hb.ne h.rs.blk h1 rfl
    · obtain ⟨cur, hc⟩ := h.rs.own.blk e
      exact hb.ne hc h2 rfl
  have hl0 := h.de.fr.size
  refine ⟨h.blk.only ho (hn _ _ _ h.blk (by decide) (by decide)), hr, h.asm.only ho (hn _ _ _ hcs (by decide) (by decide)) (fun k hk => ?_), h.de.apart ho (fun k hk => ?_) (hn _ _ _ h.de.dec.blk (by decide) (by decide)) (hn _ _ _ h.de.dec.tab.blk (by decide) (by decide)) (fun k hk => ?_), h.lp, ⟨fun k hk => ?_, h.lv.2⟩, fun k hk e => ?_⟩
  · rintro (e | e)
    · obtain ⟨cur, hc⟩ := h.asm.own8 hk
      subst e
      exact hc.ne h.rs.blk (by decide) rfl
    · exact h.dis k e hk
  · rcases hk with e | e
    · subst e; exact h.lp.2.1
    · exact h.lv.1 k e
  · obtain ⟨cur, hc⟩ := ownBlkD h.de.dec.tab.own hk
    exact hn _ _ _ hc (by decide) (by decide)
  · rcases hg k hk with e | e
    · exact h.lv.1 k e
    · omega
  · rcases hg k hk with e1 | e1
    · exact h.dis k e1 e
    · have := (h.asm.lt.2 k e).2; omega
theorem InB.rs_has {B : InB} {k : Nat} (h : k = B.rp ∨ B.v1.ownBlock = some k) : B.has k := by
  rcases h with e | e
  · exact .inr (.inl e)
  · exact .inr (.inr (.inr (.inr (.inr (.inl e)))))
theorem InB.has1 {B : InB} {v : Value} {k : Nat} (h : ({ B with v1 := v } : InB).has k) : B.has k ∨ v.ownBlock = some k := by
  rcases h with e | e | e | e | e | e | e | e
  · exact .inl (.inl e)
  · exact .inl (.inr (.inl e))
  · exact .inl (.inr (.inr (.inl e)))
  · exact .inl (.inr (.inr (.inr (.inl e))))
  · exact .inl (.inr (.inr (.inr (.inr (.inl e)))))
  · exact .inr e
  · exact .inl (.inr (.inr (.inr (.inr (.inr (.inr (.inl e)))))))
  · exact .inl (.inr (.inr (.inr (.inr (.inr (.inr (.inr e)))))))
/-- Between two frames: the reader, the events so far, the frames, the fault's cells. -/
structure FdM (w0 w : World) (B : InB) (fv : Value) (fs : List (Fr × Option Addr)) (l : List UInt8) (b5 : Nat) (xs : List EvV) (Bi : InB) (si : Option Part) (bgi : Bool) (ov : Value) (W : World) : Prop where
  ib : IbAt w0 W Bi l si bgi
  same : Bi.p = B.p
  has : ∀ k, Bi.has k → B.has k ∨ w.heap.size ≤ k
  out : OwnE W (b5 + 1) ov xs
  offs : ∀ x ∈ xs, x.off Bi.has
  fr : OwnF W w.heap.size fv fs
  fo : ∀ p ∈ fs, ∀ g, p.2 = some ⟨g, 0, none⟩ → ¬ Bi.has g
  z5 : Blk W b5 32 #[.int .i64 0, .bool false]
  on : Only B.has w W
  lw : w0.heap.size ≤ w.heap.size
  b5l : w.heap.size ≤ b5
theorem FdM.fresh {w0 w : World} {B : InB} {fv : Value} {fs : List (Fr × Option Addr)} {l : List UInt8} {b5 : Nat} {xs : List EvV} {Bi : InB} {si : Option Part} {bgi : Bool} {ov : Value} {W W' : World} (h : FdM w0 w B fv fs l b5 xs Bi si bgi ov W) (hf : Fresh W W') : FdM w0 w B fv fs l b5 xs Bi si bgi ov W' :=
  ⟨h.ib.fresh hf, h.same, h.has, h.out.fresh hf, h.offs, h.fr.fresh hf, h.fo, h.z5.fresh hf, h.on.trans (Only.of_fresh hf), h.lw, h.b5l⟩
theorem OwnE.has {w0 w : World} {B : InB} {l : List UInt8} {s : Option Part} {bg : Bool} {base : Nat} {v : Value} {xs : List EvV} (h : OwnE w base v xs) (hi : IbAt w0 w B l s bg) : ∀ k, v.ownBlock = some k → ¬ B.has k := fun k hk => by
  obtain ⟨_, _, cs, hb⟩ := h.blk hk
  exact hi.odd hb (by decide)
theorem OwnF.has {w0 w : World} {B : InB} {l : List UInt8} {s : Option Part} {bg : Bool} {base : Nat} {v : Value} {fs : List (Fr × Option Addr)} (h : OwnF w base v fs) (hi : IbAt w0 w B l s bg) : ∀ k, v.ownBlock = some k → ¬ B.has k := fun k hk => by
  obtain ⟨cs, hb⟩ := h.1.blk hk
  exact hi.odd hb (by decide)
theorem IbAt.ln {w0 w : World} {B : InB} {l : List UInt8} {s : Option Part} {bg : Bool} (hi : IbAt w0 w B l s bg) : ∀ g cs, Blk w g 64 cs → ¬ B.has g := fun g cs hg => hi.odd hg (by decide)
/-- A frame was read. -/
theorem FdM.read {w0 w : World} {B : InB} {fv : Value} {fs : List (Fr × Option Addr)} {l : List UInt8} {b5 : Nat} {xs : List EvV} {Bi : InB} {si : Option Part} {bgi : Bool} {ov : Value} {W W' : World} (h : FdM w0 w B fv fs l b5 xs Bi si bgi ov W) {s2 : Option Part} {x : EvV} {B' : InB} (hr : RdOk w0 W Bi l s2 x B' W') (ho : Only Bi.has W W') :
    FdM w0 w B fv fs l b5 xs B' s2 true ov W' ∧ EvIn W' (b5 + 1) x ∧ x.off B'.has ∧ x.off (fun k => ov.ownBlock = some k) := by
  have hsz := h.on.size
  have hpay : ∀ p ∈ fs, ∃ g, p.2 = some ⟨g, 0, none⟩ ∧ w.heap.size ≤ g ∧ Blk W g 5 (bytesA p.1.pl) := fun p hp => (h.fr.2 p hp).1
  refine ⟨⟨hr.ib, hr.same.1.trans h.same, fun k hk => ?_, h.out.only ho (h.out.has h.ib) h.ib.ln h.offs, fun y hy => ?_, ⟨h.fr.1.only ho (h.fr.has h.ib), fun p hp => ?_⟩, fun p hp g hg hk => ?_, h.z5.only ho (h.ib.odd h.z5 (by decide)), ?_, h.lw, h.b5l⟩, hr.ev.base_le h.z5.lt, hr.off, hr.ev.low.mono (fun k hk => (h.out.blk hk).2.1)⟩
  · rcases hr.has k hk with e | e
    · exact h.has k e
    · exact .inr (by omega)
  · exact ((h.offs y hy).or (h.out.2.1 y hy).lt).mono hr.has
  · obtain ⟨g, e, hg, hb⟩ := hpay p hp
    exact ⟨⟨g, e, hg, hb.only ho (h.fo p hp g e)⟩, (h.fr.2 p hp).2⟩
  · obtain ⟨g', e, hg', hb⟩ := hpay p hp
    rw [e] at hg
    cases hg
    rcases hr.has g hk with e1 | e1
    · exact h.fo p hp g e e1
    · have := hb.lt; omega
  · exact h.on.trans' ho (fun i hi hk => by
      rcases h.has i hk with e | e
      · exact e
      · omega)
/-- An event was put behind the others. -/
theorem FdM.push {w0 w : World} {B : InB} {fv : Value} {fs : List (Fr × Option Addr)} {l : List UInt8} {b5 : Nat} {xs : List EvV} {Bi : InB} {si : Option Part} {bgi : Bool} {ov : Value} {W : World} (h : FdM w0 w B fv fs l b5 xs Bi si bgi ov W) {x : EvV} (hx : EvIn W (b5 + 1) x) (hxb : x.off Bi.has) (hxo : x.off (fun k => ov.ownBlock = some k)) (n m : Nat) (hn : xs.length = n) (hm : n + 1 = m) (hlen : m * 112 ≤ 140737488355328) (cs : Array Value) (hcs : cs.toList = evCells x) (g : Nat) (hg : W.heap.size = g) :
    ∃ A' c' W', (Builtin.append_ #[29, 29] 29 #[ov, .slice (some ⟨g, 0, none⟩) 1 1]).run Tryz.prog (W.alloc (.cells cs 42)) = .ok (.slice A' m c') W' ∧ FdM w0 w B fv fs l b5 (xs ++ [x]) Bi si bgi (.slice A' m c') W' := by
  have hsz := h.on.size
  obtain ⟨A', c', W', h1, h2, h3, h4⟩ := h.out.push h.z5.lt x hx hxo n m hn hm hlen cs hcs g hg
  have hodd : ∀ k t cs, Blk W k t cs → t ≠ 42 → ¬ ov.ownBlock = some k := fun k t cs hb ht e => by
    obtain ⟨_, _, cs', hc⟩ := h.out.blk e
    exact hb.ne hc ht rfl
  have hlo : ∀ k, ov.ownBlock = some k → w.heap.size ≤ k := fun k hk => by have := (h.out.blk hk).1; have := h.b5l; omega
  refine ⟨A', c', W', h1, ⟨h.ib.only h3 (fun k hk e => h.out.has h.ib k e hk) (fun k hk => Nat.le_trans h.lw (hlo k hk)), h.same, h.has, h2, fun y hy => ?_, ⟨h.fr.1.only h3 (fun k hk => ?_), fun p hp => ?_⟩, h.fo, h.z5.only h3 (hodd _ _ _ h.z5 (by decide)), h.on.trans' h3 (fun i hi e => by have := hlo i e; omega), h.lw, h.b5l⟩⟩
  · rcases List.mem_append.1 hy with hy | hy
    · exact h.offs y hy
    · rw [List.mem_singleton] at hy
      subst hy
      exact hxb
  · obtain ⟨cs', hb⟩ := h.fr.1.blk hk
    exact hodd _ _ _ hb (by decide)
  · obtain ⟨⟨g', e, hg', hb⟩, h5⟩ := h.fr.2 p hp
    exact ⟨⟨g', e, hg', hb.only h3 (hodd _ _ _ hb (by decide))⟩, h5⟩
end Go.Proofs.YtginhebfjbhmnaaGreat

/-
  Package inbound: Dead, Waiting.
-/
namespace Go.Proofs.YtginhebfjbhmnaaGreat
set_option maxRecDepth 100000
set_option linter.unusedVariables false
set_option linter.unusedSimpArgs false
open Go.RowKit
theorem in_dead_at {w : World} {p : Nat} {a b c : Value} {bg d : Bool} (h : Blk w p 54 #[a, b, c, .bool bg, .bool d]) : Calls Tryz.prog 14 #[.pointer (some ⟨p, 0, none⟩)] w fun e w' => e = .returned (.bool d) ∧ w' = w := by
  obtain ⟨c0, c1, c2, c3, c4⟩ := h.c5
  clear h
  go_enter Tryz.func14, Tryz.ntmps14
  go_wp2
  go_ret
  exact ⟨rfl, rfl⟩
theorem in_dead_no {w0 w : World} {B : InB} {l : List UInt8} {s : Option Part} {bg : Bool} (h : IbAt w0 w B l s bg) : Calls Tryz.prog 14 #[.pointer (some ⟨B.p, 0, none⟩)] w fun e w' => e = .returned (.bool false) ∧ w' = w := in_dead_at h.blk
theorem in_dead_yes {w : World} {p : Nat} (h : InDead w p) : Calls Tryz.prog 14 #[.pointer (some ⟨p, 0, none⟩)] w fun e w' => e = .returned (.bool true) ∧ w' = w := in_dead_at h
theorem in_wait_dead {w : World} {p : Nat} (h : InDead w p) : Calls Tryz.prog 15 #[.pointer (some ⟨p, 0, none⟩)] w fun e w' => e = .returned (.int .i64 0) ∧ w' = w := by
  obtain ⟨c0, c1, c2, c3, c4⟩ := Blk.c5 h
  clear h
  go_enter Tryz.func15, Tryz.ntmps15
  go_wp2
  go_ret
  exact ⟨rfl, rfl⟩
set_option maxHeartbeats 1600000 in
theorem in_wait {w0 w : World} {B : InB} {l : List UInt8} {s : Option Part} {bg : Bool} (h : IbAt w0 w B l s bg) : Calls Tryz.prog 15 #[.pointer (some ⟨B.p, 0, none⟩)] w fun e w' => e = .returned (.int .i64 ((l.length : Int) + (lenS s : Int))) ∧ Fresh w w' := by
  have HR := Lib.hid (rwaiting B.rp 16384 l B.v1 w.drew (h.rs.fresh (Fresh.drew _)))
  have HA := Lib.hid (asWaiting B.ap 16384 s B.v2 w.drew (h.asm.fresh (Fresh.drew _)))
  have hb : Blk w B.p 54 #[.pointer (some ⟨B.rp, 0, none⟩), .pointer (some ⟨B.ap, 0, none⟩), .pointer (some ⟨B.dp, 0, none⟩), .bool bg, .bool false] := h.blk
  obtain ⟨c0, c1, c2, c3, c4⟩ := hb.c5
  have h1 := h.rs.len
  have h2 : lenS s ≤ 16384 := by
    cases s with
    | none => simp [lenS]
    | some x => obtain ⟨a, t, e⟩ := x; have := (h.asm.part a t e rfl).2.2; simp only [lenS]; omega
  have w1 : IntKind.i64.wrap ((l.length : Int) + (lenS s : Int)) = (l.length : Int) + (lenS s : Int) := IntWalk.i64_in _ (by omega)
  clear h hb h1 h2
  generalize lenS s = ns at *
  generalize l.length = nl at *
  go_enter Tryz.func15, Tryz.ntmps15
  go_wp2_with fail
  go_region_law (first | (go_simp; go_at_call 30; (with_reducible refine HR.out.mono ?_); rintro e w2 ⟨rfl, rfl⟩) | (go_simp; go_at_call 31; (with_reducible refine HA.out.mono ?_); rintro e w2 ⟨rfl, rfl⟩))
  all_goals
    go_wp2
    go_ret
    exact ⟨rfl, Fresh.drew _⟩
end Go.Proofs.YtginhebfjbhmnaaGreat

