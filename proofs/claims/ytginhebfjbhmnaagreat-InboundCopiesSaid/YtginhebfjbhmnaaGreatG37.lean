/-
  Texts laid together: InbT InbP InbH InbE.
-/
import Derived.Test.YtginhebfjbhmnaaGreatG36
import Derived.Maps.AppendAt
import Derived.Test.YtginhebfjbhmnaaGreatInb
/-
  Package inbound: events that were made, and rows of them.
-/
namespace Go.Proofs.YtginhebfjbhmnaaGreat
set_option maxRecDepth 100000
set_option linter.unusedVariables false
set_option linter.unusedSimpArgs false
open Go.RowKit
/-- An event whose memory is its own, from base on. -/
structure EvIn (w : World) (base : Nat) (x : EvV) : Prop where
  lns : Lns w x.LA x.lc x.e.xs
  text : BS w x.TA x.e.l
  pairs : Many pairC 2 w x.PA x.e.ps
  tle : x.e.l.length ≤ x.tc
  tmax : x.tc ≤ maxLen
  tb : 0 < x.e.l.length → ∀ b o, x.TA = some ⟨b, o, none⟩ → base ≤ b
  pb : 0 < x.e.ps.length → ∀ b o, x.PA = some ⟨b, o, none⟩ → base ≤ b
/-- Neither its text nor its pairs lie there. -/
def EvV.off (x : EvV) (S : Nat → Prop) : Prop := (0 < x.e.l.length → ∀ b o, x.TA = some ⟨b, o, none⟩ → ¬ S b) ∧ (0 < x.e.ps.length → ∀ b o, x.PA = some ⟨b, o, none⟩ → ¬ S b)
theorem EvIn.ok {w : World} {base : Nat} {x : EvV} (h : EvIn w base x) : x.Ok w := ⟨h.lns.rows, h.text, h.pairs, h.tle, h.tmax⟩
theorem EvIn.fresh {w w' : World} {base : Nat} {x : EvV} (h : EvIn w base x) (hf : Fresh w w') : EvIn w' base x := ⟨h.lns.fresh hf, h.text.fresh hf, h.pairs.fresh hf, h.tle, h.tmax, h.tb, h.pb⟩
theorem EvIn.base_le {w : World} {base base' : Nat} {x : EvV} (h : EvIn w base x) (hb : base' ≤ base) : EvIn w base' x := ⟨h.lns, h.text, h.pairs, h.tle, h.tmax, fun h0 b o e => Nat.le_trans hb (h.tb h0 b o e), fun h0 b o e => Nat.le_trans hb (h.pb h0 b o e)⟩
theorem EvIn.only {S : Nat → Prop} {w w' : World} {base : Nat} {x : EvV} (h : EvIn w base x) (ho : Only S w w') (hl : ∀ g cs, Blk w g 64 cs → ¬ S g) (hx : x.off S) : EvIn w' base x := by
  refine ⟨h.lns.only ho hl, ?_, ?_, h.tle, h.tmax, h.tb, h.pb⟩
  · by_cases h0 : 0 < x.e.l.length
    · exact h.text.only ho (hx.1 h0)
    · rw [List.eq_nil_of_length_eq_zero (by omega : x.e.l.length = 0)]
      exact BS.nil _ _
  · by_cases h0 : 0 < x.e.ps.length
    · exact h.pairs.only ho (hx.2 h0)
    · rw [List.eq_nil_of_length_eq_zero (by omega : x.e.ps.length = 0)]
      exact Many.nil _ _ _ _
theorem EvIn.lt {w : World} {base : Nat} {x : EvV} (h : EvIn w base x) : x.off (fun k => w.heap.size ≤ k) := by
  refine ⟨fun h0 b o e hk => ?_, fun h0 b o e hk => ?_⟩
  · obtain ⟨b', o', e', hb, _⟩ := h.text.addr h0
    rw [e'] at e
    cases e
    omega
  · obtain ⟨b', o', e', hb, _⟩ := h.pairs h0
    rw [e'] at e
    cases e
    omega
theorem EvIn.low {w : World} {base : Nat} {x : EvV} (h : EvIn w base x) : x.off (fun k => k < base) :=
  ⟨fun h0 b o e hk => by have := h.tb h0 b o e; omega, fun h0 b o e hk => by have := h.pb h0 b o e; omega⟩
theorem EvV.off.mono {x : EvV} {S T : Nat → Prop} (h : x.off T) (hs : ∀ k, S k → T k) : x.off S := ⟨fun h0 b o e hk => h.1 h0 b o e (hs _ hk), fun h0 b o e hk => h.2 h0 b o e (hs _ hk)⟩
theorem EvV.off.or {x : EvV} {S T : Nat → Prop} (h : x.off S) (h' : x.off T) : x.off (fun k => S k ∨ T k) := ⟨fun h0 b o e hk => hk.elim (h.1 h0 b o e) (h'.1 h0 b o e), fun h0 b o e hk => hk.elim (h.2 h0 b o e) (h'.2 h0 b o e)⟩
/-- Behind changes below base, or of memory that is new. -/
theorem EvIn.kept {S : Nat → Prop} {w w' : World} {base : Nat} {x : EvV} (h : EvIn w base x) (ho : Only S w w') (hl : ∀ g cs, Blk w g 64 cs → ¬ S g) (hs : ∀ k, S k → k < base ∨ w.heap.size ≤ k) : EvIn w' base x :=
  h.only ho hl ((h.low.or h.lt).mono hs)
def evCells (x : EvV) : List Value := x.arr.toList
/-- A row of events, all of its own memory. -/
def OwnE (w : World) (base : Nat) (v : Value) (xs : List EvV) : Prop :=
  Own w base 42 8 v xs.length (xs.flatMap evCells) ∧ (∀ x ∈ xs, EvIn w base x) ∧ ∀ x ∈ xs, x.off (fun k => v.ownBlock = some k)
theorem OwnE.nil (w : World) (base : Nat) : OwnE w base (.slice none 0 0) [] := ⟨Own.nil _ _ _ _, fun x hx => (by cases hx), fun x hx => (by cases hx)⟩
theorem OwnE.fresh {w w' : World} {base : Nat} {v : Value} {xs : List EvV} (h : OwnE w base v xs) (hf : Fresh w w') : OwnE w' base v xs := ⟨h.1.fresh hf, fun x hx => (h.2.1 x hx).fresh hf, h.2.2⟩
theorem OwnE.base_le {w : World} {base base' : Nat} {v : Value} {xs : List EvV} (h : OwnE w base v xs) (hb : base' ≤ base) : OwnE w base' v xs := ⟨h.1.base_le hb, fun x hx => (h.2.1 x hx).base_le hb, h.2.2⟩
theorem OwnE.only {S : Nat → Prop} {w w' : World} {base : Nat} {v : Value} {xs : List EvV} (h : OwnE w base v xs) (ho : Only S w w') (hv : ∀ k, v.ownBlock = some k → ¬ S k) (hl : ∀ g cs, Blk w g 64 cs → ¬ S g) (hx : ∀ x ∈ xs, x.off S) : OwnE w' base v xs :=
  ⟨h.1.only ho hv, fun x hxs => (h.2.1 x hxs).only ho hl (hx x hxs), h.2.2⟩
theorem OwnE.slice {w : World} {base : Nat} {v : Value} {xs : List EvV} (h : OwnE w base v xs) : ∃ A c, v = .slice A xs.length c := by
  obtain ⟨A, c, e, _⟩ := h.1.slice
  exact ⟨A, c, e⟩
theorem OwnE.blk {w : World} {base : Nat} {v : Value} {xs : List EvV} (h : OwnE w base v xs) {k : Nat} (hk : v.ownBlock = some k) : base ≤ k ∧ k < w.heap.size ∧ ∃ cs, Blk w k 42 cs := by
  obtain ⟨cs, hb⟩ := own_blk h.1 hk
  exact ⟨(h.1.lt k hk).1, hb.lt, cs, hb⟩
theorem evCells_len (xs : List EvV) : (xs.flatMap evCells).length = xs.length * 8 := by
  induction xs with
  | nil => rfl
  | cons p fs ih => rw [List.flatMap_cons, List.length_append, ih, List.length_cons]; show 8 + _ = _; omega
theorem evCells_get (xs : List EvV) (k j : Nat) (hj : j < 8) : (xs.flatMap evCells)[k * 8 + j]? = (xs[k]?).bind fun p => (evCells p)[j]? := by
  induction xs generalizing k with
  | nil => simp
  | cons p fs ih =>
    rw [List.flatMap_cons]
    have h8 : (evCells p).length = 8 := rfl
    cases k with
    | zero => rw [List.getElem?_append_left (by omega)]; simp
    | succ k =>
      rw [List.getElem?_append_right (by omega), h8, show (k + 1) * 8 + j - 8 = k * 8 + j by omega, ih k]
      simp
/-- The cells of event k. -/
theorem OwnE.cells {w : World} {base n c : Nat} {A : Option Addr} {xs : List EvV} (h : OwnE w base (.slice A n c) xs) (k : Nat) (x : EvV) (hx : xs[k]? = some x) :
    ∃ g, A = some ⟨g, 0, none⟩ ∧ g < w.heap.size ∧ base ≤ g ∧ ∀ j, j < 8 → w.cell? ⟨g, k * 8 + j, none⟩ = (evCells x)[j]? := by
  have hk : k < xs.length := (List.getElem?_eq_some_iff.1 hx).1
  rcases h.1.form with ⟨e, h0, _⟩ | ⟨g, cap, e, hb, hlt, _, _, hc⟩
  · omega
  · injection e with e1
    refine ⟨g, e1, hlt, hb, fun j hj => ?_⟩
    rw [(hc (k * 8 + j) (by rw [evCells_len]; omega)).1, evCells_get xs k j hj, hx]
    rfl
theorem ev_info : (Tryz.prog.info? 42).map (fun i => (i.zero, i.size, i.bytes)) = some (some (.agg #[.int .i64 0, .int .i64 0, .slice none 0 0, .slice none 0 0, .slice none 0 0, .bool false, .int .i64 0, .int .i64 0]), 8, 112) := by kernel_rfl
theorem evCells_one (x : EvV) : ∀ u ∈ evCells x, u.oneCell' = true := by
  intro u hu
  simp only [evCells, EvV.arr, List.mem_cons, List.not_mem_nil, or_false] at hu
  rcases hu with rfl | rfl | rfl | rfl | rfl | rfl | rfl | rfl <;> rfl
/-- Elements are put behind a row of events. -/
theorem OwnE.put {w : World} {base : Nat} {v : Value} {xs : List EvV} (h : OwnE w base v xs) (hbase : base ≤ w.heap.size) (ys : List EvV) (hy : ∀ y ∈ ys, EvIn w base y) (hyo : ∀ y ∈ ys, y.off (fun k => v.ownBlock = some k)) (g n2 c2 : Nat) (hg : ∀ j, j < (ys.flatMap evCells).length → w.cell? ⟨g, j, none⟩ = (ys.flatMap evCells)[j]?) (hn2 : ys.length = n2) (m : Nat) (hm : xs.length + n2 = m) (hlen : m * 112 ≤ 140737488355328) :
    ∃ A' c' w', (Builtin.append_ #[29, 29] 29 #[v, .slice (some ⟨g, 0, none⟩) n2 c2]).run Tryz.prog w = .ok (.slice A' m c') w' ∧ OwnE w' base (.slice A' m c') (xs ++ ys) ∧ Only (fun k => v.ownBlock = some k) w w' ∧
      ∀ k, (Value.slice A' m c').ownBlock = some k → v.ownBlock = some k ∨ w.heap.size ≤ k := by
  subst hn2 hm
  obtain ⟨i, hi, hiz, his, hib⟩ := info_parts ev_info
  obtain ⟨v', w', hr, ho, hgr, _, hat⟩ := run_append_own_at (P := Tryz.prog) w base 29 29 42 i _ 8 112 Tryz.underlying29 hi hiz his hib rfl (by omega) v xs.length _ h.1 ⟨g, 0, none⟩ ys.length c2 (ys.flatMap evCells) (evCells_len ys)
    (fun j u hj => by
      rw [add_eq _ _ rfl]
      simp only [Nat.zero_add]
      have hjl := (List.getElem?_eq_some_iff.1 hj).1
      rw [hg j hjl, hj])
    (fun u hu => by
      obtain ⟨q, _, hq⟩ := List.mem_flatMap.1 hu
      exact evCells_one q u hq) (by unfold maxLen; omega) (by omega) hbase
  obtain ⟨A', c', rfl, _⟩ := Own.slice (show Own w' base _ 8 v' _ _ from ho)
  have hO : Only (fun k => v.ownBlock = some k) w w' := ⟨hgr.os, hgr.tape, hgr.output, hgr.size, fun k hk hne => hgr.block k hk (fun e => hne e.symm)⟩
  have hnew : ∀ k, (Value.slice A' (xs.length + ys.length) c').ownBlock = some k → v.ownBlock = some k ∨ w.heap.size ≤ k := fun k hk => by
    rcases hat with e | e
    · rw [e] at hk; exact .inl hk
    · rw [e] at hk; injection hk with hk; omega
  have hoff : ∀ x ∈ xs ++ ys, EvIn w base x ∧ x.off (fun k => v.ownBlock = some k) := fun x hx => by
    rcases List.mem_append.1 hx with hx | hx
    · exact ⟨h.2.1 x hx, h.2.2 x hx⟩
    · exact ⟨hy x hx, hyo x hx⟩
  refine ⟨A', c', w', hr, ⟨by rw [List.length_append, List.flatMap_append]; exact ho, fun x hx => ?_, fun x hx => ?_⟩, hO, hnew⟩
  · refine (hoff x hx).1.only hO ?_ (hoff x hx).2
    intro g' cs' hb' hS
    obtain ⟨_, _, cur, hc⟩ := h.blk hS
    exact hb'.ne hc (by decide) rfl
  · exact ((hoff x hx).2.or (hoff x hx).1.lt).mono hnew
/-- An event is put behind a row. -/
theorem OwnE.push {w : World} {base : Nat} {v : Value} {xs : List EvV} (h : OwnE w base v xs) (hbase : base ≤ w.heap.size) (x : EvV) (hx : EvIn w base x) (hxo : x.off (fun k => v.ownBlock = some k)) (n m : Nat) (hn : xs.length = n) (hm : n + 1 = m) (hlen : m * 112 ≤ 140737488355328) (cs : Array Value) (hcs : cs.toList = evCells x) (g : Nat) (hg : w.heap.size = g) :
    ∃ A' c' w', (Builtin.append_ #[29, 29] 29 #[v, .slice (some ⟨g, 0, none⟩) 1 1]).run Tryz.prog (w.alloc (.cells cs 42)) = .ok (.slice A' m c') w' ∧ OwnE w' base (.slice A' m c') (xs ++ [x]) ∧ Only (fun k => v.ownBlock = some k) w w' ∧
      ∀ k, (Value.slice A' m c').ownBlock = some k → v.ownBlock = some k ∨ w.heap.size ≤ k := by
  subst hg hn hm
  have hf : Fresh w (w.alloc (.cells cs 42)) := Fresh.alloc _ _
  have hsz := hf.size
  obtain ⟨A', c', w', h1, h2, h3, h4⟩ := (h.fresh hf).put (by omega) [x] (fun y hy => by rw [List.mem_singleton] at hy; subst hy; exact hx.fresh hf) (fun y hy => by rw [List.mem_singleton] at hy; subst hy; exact hxo) w.heap.size 1 1 (fun j hj => by
    rw [(Blk.new w _ cs).cell, ← Array.getElem?_toList, hcs]
    simp) rfl (xs.length + 1) rfl hlen
  exact ⟨A', c', w', h1, h2, (Only.of_fresh hf).trans h3, fun k hk => (h4 k hk).imp id (fun e => by omega)⟩
/-- A row of events is put behind another one. -/
theorem OwnE.append {w : World} {base base2 n2 c2 : Nat} {v : Value} {A2 : Option Addr} {xs ys : List EvV} (h : OwnE w base v xs) (hb : base ≤ w.heap.size) (h2 : OwnE w base2 (.slice A2 n2 c2) ys) (hb2 : base ≤ base2) (hyo : ∀ y ∈ ys, y.off (fun k => v.ownBlock = some k)) (n m : Nat) (hn : xs.length = n) (hm : n + n2 = m) (hlen : m * 112 ≤ 140737488355328) :
    ∃ A' c' w', (Builtin.append_ #[29, 29] 29 #[v, .slice A2 n2 c2]).run Tryz.prog w = .ok (.slice A' m c') w' ∧ OwnE w' base (.slice A' m c') (xs ++ ys) ∧ Only (fun k => v.ownBlock = some k) w w' ∧
      ∀ k, (Value.slice A' m c').ownBlock = some k → v.ownBlock = some k ∨ w.heap.size ≤ k := by
  have hn2 : ys.length = n2 := by
    obtain ⟨A, c, e⟩ := h2.slice
    injection e with _ e _
    exact_mod_cast e.symm
  subst hn hm
  rcases h2.1.form with ⟨e, h0, _⟩ | ⟨g, cap, e, hbg, hlt, _, _, hc⟩
  · have hl : ys = [] := List.eq_nil_of_length_eq_zero h0
    subst hl
    obtain ⟨i, hi, hiz, his, hib⟩ := info_parts ev_info
    obtain ⟨A', c', rfl, _⟩ := h.1.slice
    cases e
    refine ⟨A', c', w, ?_, by simpa using h, Only.refl _ _, fun k hk => .inl hk⟩
    rcases h.1.2 with ⟨h1, h2⟩ | ⟨g, cap, cur, h1, _, _, hnc, _⟩
    · injection h1 with h1 h3 h4
      subst h1 h4
      rw [h3]
      simp [Builtin.append_, run_underlying Tryz.underlying29, sizeOf, typeInfo, hi, Builtin.lenOf, Builtin.firstCells]
    · injection h1 with h1 h3 h4
      subst h1 h4
      simp [Builtin.append_, run_underlying Tryz.underlying29, sizeOf, typeInfo, hi, Builtin.lenOf, Builtin.firstCells, hnc, storeCells]
  · injection e with e1 e3 e4
    subst e1
    exact h.put hb ys (fun y hy => (h2.2.1 y hy).base_le hb2) hyo g n2 c2 (fun j hj => (hc j hj).1) hn2 _ rfl hlen
end Go.Proofs.YtginhebfjbhmnaaGreat

/-
  Package inbound: what a frame does to a reader. No Go in sight.
-/
namespace Go.Proofs.YtginhebfjbhmnaaGreat
set_option maxRecDepth 100000
set_option linter.unusedVariables false
set_option linter.unusedSimpArgs false
open Go.RowKit
/-- The number of a frame's first fault; 6: it has none. -/
def fkOf (ty fl st : Int) (l : List UInt8) : Nat := ((List.range 6).find? (fun j => lookB ty fl st l j)).getD 6
theorem fkOf_first (ty fl st : Int) (l : List UInt8) : FirstB ty fl st l (fkOf ty fl st l) := by
  unfold fkOf
  cases h : (List.range 6).find? (fun j => lookB ty fl st l j) with
  | none =>
    rw [List.find?_eq_none] at h
    refine ⟨Nat.le_refl _, fun j hj => ?_, fun h => absurd h (by decide)⟩
    simpa using h j (List.mem_range.2 hj)
  | some k =>
    rw [List.find?_range_eq_some] at h
    obtain ⟨h1, h2, h3⟩ := h
    have hk := List.mem_range.1 h2
    refine ⟨by simp only [Option.getD_some]; omega, fun j hj => by simpa using h3 j (by simpa using hj), fun _ => by simpa using h1⟩
/-- The event of what is said. -/
def evP (ty st f0 : Int) (r : PR) : Ev :=
  if ty = 0 then ⟨2, st, [], r.l, [], r.en, f0, 0⟩
  else if ty = 3 then ⟨3, st, [], [], [], false, 0, r.co⟩
  else if ty = 8 then ⟨4, st, [], [], [], false, r.inc, 0⟩
  else if ty = 4 then ⟨if r.ak then 6 else 5, 0, [], [], r.ps, false, 0, 0⟩
  else if ty = 6 then ⟨if r.ak then 8 else 7, 0, [], r.l, [], false, 0, 0⟩
  else if ty = 7 then ⟨9, 0, [], r.l, [], false, r.la, r.co⟩
  else Ev0
theorem evX_ev {x : ItV} {r : PR} (h : Says x r) : (evX x).e = evP x.ty x.st x.fl r := by
  obtain ⟨h1, ⟨m1, m2, m3, m4, m5⟩, ⟨n1, n2, n3, n4, n5⟩, h4⟩ := h
  unfold evX evP
  rw [← h1, ← h4, ← m1, ← m3, ← n1, ← n2, ← n3]
  repeat (split; · rfl)
  rfl
/-- What a frame does: the connection's fault (0: none), the part then, the event. -/
def readP (s : Option Part) (bg : Bool) (ty fl st : Int) (l : List UInt8) : Int × Option Part × Ev :=
  if bg = false ∧ (ty ≠ 4 ∨ hasB fl 1 = true) then (101, s, Ev0)
  else if s.isSome = true ∧ (ty ≠ 9 ∨ st ≠ atS s) then (101, s, Ev0)
  else if (prsF ty fl st l (fkOf ty fl st l)).2.1 ≠ 0 then
    if (prsF ty fl st l (fkOf ty fl st l)).2.2 = true ∨ ty = 1 then ((prsF ty fl st l (fkOf ty fl st l)).2.1, s, Ev0)
    else (0, s, ⟨10, st, [], [], [], false, flowN ty l.length, (prsF ty fl st l (fkOf ty fl st l)).2.1⟩)
  else if (onS 16384 s ty st (prsF ty fl st l (fkOf ty fl st l)).1.l (prsF ty fl st l (fkOf ty fl st l)).1.en (prsF ty fl st l (fkOf ty fl st l)).1.eh).2.2 = true then (101, s, Ev0)
  else match (onS 16384 s ty st (prsF ty fl st l (fkOf ty fl st l)).1.l (prsF ty fl st l (fkOf ty fl st l)).1.en (prsF ty fl st l (fkOf ty fl st l)).1.eh).2.1 with
    | some (a, t, e) => if (rd7 0 16384 false [] 0 t).1 ≠ 0 then (109, s, Ev0) else (0, (onS 16384 s ty st (prsF ty fl st l (fkOf ty fl st l)).1.l (prsF ty fl st l (fkOf ty fl st l)).1.en (prsF ty fl st l (fkOf ty fl st l)).1.eh).1, ⟨1, a, (rd7 0 16384 false [] 0 t).2.1, [], [], e, 0, 0⟩)
    | none => (0, (onS 16384 s ty st (prsF ty fl st l (fkOf ty fl st l)).1.l (prsF ty fl st l (fkOf ty fl st l)).1.en (prsF ty fl st l (fkOf ty fl st l)).1.eh).1, evP ty st (flowN ty l.length) (prsF ty fl st l (fkOf ty fl st l)).1)
/-- All frames: the events, the fault, the part then, whether one came. -/
def readAll (s : Option Part) (bg : Bool) : List Fr → List Ev × Int × Option Part × Bool
  | [] => ([], 0, s, bg)
  | f :: r =>
    if (readP s bg f.x.toNat f.y.toNat f.st f.pl).1 ≠ 0 then ([], (readP s bg f.x.toNat f.y.toNat f.st f.pl).1, s, true)
    else
      let q := readAll (readP s bg f.x.toNat f.y.toNat f.st f.pl).2.1 true r
      (if (readP s bg f.x.toNat f.y.toNat f.st f.pl).2.2.k ≠ 0 then (readP s bg f.x.toNat f.y.toNat f.st f.pl).2.2 :: q.1 else q.1, q.2)
theorem readAll_append (s : Option Part) (bg : Bool) (a b : List Fr) : readAll s bg (a ++ b) = (if (readAll s bg a).2.1 ≠ 0 then readAll s bg a else ((readAll s bg a).1 ++ (readAll (readAll s bg a).2.2.1 (readAll s bg a).2.2.2 b).1, (readAll (readAll s bg a).2.2.1 (readAll s bg a).2.2.2 b).2)) := by
  induction a generalizing s bg with
  | nil => simp [readAll]
  | cons f r ih =>
    simp only [List.cons_append, readAll]
    by_cases h : (readP s bg f.x.toNat f.y.toNat f.st f.pl).1 ≠ 0
    · rw [if_pos h, if_pos h]
      simp [h]
    · rw [if_neg h, if_neg h, ih]
      simp only
      by_cases h2 : (readAll (readP s bg f.x.toNat f.y.toNat f.st f.pl).2.1 true r).2.1 ≠ 0
      · rw [if_pos h2, if_pos h2]
      · rw [if_neg h2, if_neg h2]
        split <;> simp
end Go.Proofs.YtginhebfjbhmnaaGreat

/-
  Package inbound: head.
-/
namespace Go.Proofs.YtginhebfjbhmnaaGreat
set_option maxRecDepth 100000
set_option linter.unusedVariables false
set_option linter.unusedSimpArgs false
open Go.RowKit
def InB.dec (B : InB) (k : Nat) : Prop := k = B.dp ∨ k = B.pp ∨ B.v3.ownBlock = some k
theorem own8 {w : World} {t : TypeId} {cs : Array Value} {k : Nat} {w0 : World} {d p : Nat} {v : Value} {fs : List FldT} {lim most bound : Int} {dead : Bool} (h : S7 w0 w d p v fs lim most bound dead) (hb : Blk w k t cs) (h1 : t ≠ 90) (h2 : t ≠ 111) (h3 : t ≠ 62) : ¬ (k = d ∨ k = p ∨ v.ownBlock = some k) := by
  rintro (e | e | e)
  · exact hb.ne h.dec.blk h1 e
  · exact hb.ne h.dec.tab.blk h2 e
  · obtain ⟨cs', hb'⟩ := ownBlkD h.dec.tab.own e
    exact hb.ne hb' h3 rfl
/-- Behind a block that was read. -/
theorem IbAt.decoded {w0 w w' : World} {B : InB} {l : List UInt8} {s : Option Part} {bg : Bool} (h : IbAt w0 w B l s bg) {v : Value} (ho : Only B.dec w w') (hs : S7 w0 w' B.dp B.pp v [] 0 0 16384 false) : IbAt w0 w' { B with v3 := v } l s bg := by
  have hn : ∀ k t cs, Blk w k t cs → t ≠ 90 → t ≠ 111 → t ≠ 62 → ¬ B.dec k := fun k t cs hb h1 h2 h3 => own8 h.de hb h1 h2 h3
  obtain ⟨cs, hcs⟩ := h.asm.blk5
  refine ⟨h.blk.only ho (hn _ _ _ h.blk (by decide) (by decide) (by decide)), h.rs.only ho (hn _ _ _ h.rs.blk (by decide) (by decide) (by decide)) (fun k hk => ?_), h.asm.only ho (hn _ _ _ hcs (by decide) (by decide) (by decide)) (fun k hk => ?_), hs, h.lp, h.lv, h.dis⟩
  · obtain ⟨cur, hc⟩ := h.rs.own.blk hk
    exact hn _ _ _ hc (by decide) (by decide) (by decide)
  · obtain ⟨cur, hc⟩ := h.asm.own8 hk
    exact hn _ _ _ hc (by decide) (by decide) (by decide)
def evHead (st : Int) (xs : List LnD) (en : Bool) (LA : Option Addr) (lc : Nat) : EvV := ⟨⟨1, st, xs, [], [], en, 0, 0⟩, LA, lc, none, 0, none, 0⟩
def HeadP (w0 w : World) (B : InB) (l : List UInt8) (s : Option Part) (bg : Bool) (st : Int) (en : Bool) (t : List UInt8) (e : Ending) (w' : World) : Prop :=
  Only B.dec w w' ∧ ((rd7 0 16384 false [] 0 t).1 ≠ 0 → e = .returned (.tuple #[.agg (Ev.bare Ev0).arr, .agg #[.int .i64 109, .bool true]])) ∧
    ((rd7 0 16384 false [] 0 t).1 = 0 → ∃ v LA lc, e = .returned (.tuple #[.agg (evHead st (rd7 0 16384 false [] 0 t).2.1 en LA lc).arr, .agg #[.int .i64 0, .bool false]]) ∧ IbAt w0 w' { B with v3 := v } l s bg ∧ Lns w' LA lc (rd7 0 16384 false [] 0 t).2.1 ∧ ∀ k, v.ownBlock = some k → B.v3.ownBlock = some k ∨ w.heap.size ≤ k)
set_option maxHeartbeats 6400000 in
theorem in_head (w0 w : World) (B : InB) (l : List UInt8) (s : Option Part) (bg : Bool) (st : Int) (en : Bool) (A : Option Addr) (c n : Nat) (t : List UInt8) (h : IbAt w0 w B l s bg) (hB : BS w A t) (hn : t.length = n) (hlc : n ≤ c) (hcm : c ≤ maxLen) (hl : n ≤ 1000000) (hni : NotIn B.pp B.v3 A t) :
    Calls Tryz.prog 42 #[.pointer (some ⟨B.p, 0, none⟩), .agg #[.int .i64 st, .slice A n c, .bool en]] w (HeadP w0 w B l s bg st en t) := by
  have HIB := Lib.hid h
  have HD := Lib.hid (fun W (hf : Fresh w W) => s7_decodeQ (h.de.fresh hf) A c t (by rw [hn]; exact hlc) hcm (hB.fresh hf) hni (by omega))
  have HIV := Lib.hid (rd7_inv h.de t)
  unfold Dec7Q at HD
  rw [hn] at HD
  have i2 := h.blk.cell 2
  have i2x : w.cell? ⟨B.p, 2, none⟩ = some (.pointer (some ⟨B.dp, 0, none⟩)) := i2
  have HI2 := Lib.hid i2x
  have hplt := h.blk.lt
  have HPL := Lib.hid hplt
  clear h hB hn hlc hcm hl hni i2 i2x hplt
  obtain ⟨R, hR⟩ : ∃ R, rd7 0 16384 false [] 0 t = R := ⟨_, rfl⟩
  have HR := Lib.hid hR
  have HPP : Hid (∀ e W, Only B.dec w W → (R.1 ≠ 0 → e = .returned (.tuple #[.agg (Ev.bare Ev0).arr, .agg #[.int .i64 109, .bool true]])) → (R.1 = 0 → ∃ v LA lc, e = .returned (.tuple #[.agg (evHead st R.2.1 en LA lc).arr, .agg #[.int .i64 0, .bool false]]) ∧ IbAt w0 W { B with v3 := v } l s bg ∧ Lns W LA lc R.2.1 ∧ ∀ k, v.ownBlock = some k → B.v3.ownBlock = some k ∨ w.heap.size ≤ k) → HeadP w0 w B l s bg st en t e W) := Lib.hid (fun e W h1 h2 h3 => ⟨h1, by rw [hR]; exact h2, by rw [hR]; exact h3⟩)
  rw [hR] at HD HIV
  clear hR
  generalize HeadP w0 w B l s bg st en t = PP at *
  obtain ⟨er, xs, fs, lm⟩ := R
  simp only at HD HPP
  go_enter Tryz.func42, Tryz.ntmps42
  go_upto_region 1 with fail
  refine wp_gen (fun W => Blk W w.heap.size 83 #[.int .i64 st, .slice A n c, .bool en] ∧ Blk W (w.heap.size + 1) 42 (Ev.bare Ev0).arr ∧ Blk W (w.heap.size + 1 + 1) 32 #[.int .i64 0, .bool false] ∧ Fresh w W) ⟨((Blk.new _ _ _).alloc _).alloc _, (Blk.mkAt (by simp)).alloc _, Blk.mkAt (by simp), ((Fresh.alloc _ _).allocS _).allocS _⟩ ?_
  rintro W1 ⟨hb1, hb2, hb3, hf1⟩
  obtain ⟨b, hb⟩ : ∃ b, w.heap.size = b := ⟨_, rfl⟩
  have HB := Lib.hid hb
  rw [hb] at hb1 hb2 hb3 ⊢
  have HX1 := Lib.hid hb1
  have HX2 := Lib.hid hb2
  have HX3 := Lib.hid hb3
  have HF1 := Lib.hid hf1
  have i2 : W1.cell? ⟨B.p, 2, none⟩ = some (.pointer (some ⟨B.dp, 0, none⟩)) := (hf1.cell (p := ⟨B.p, 2, none⟩) HPL.out).trans HI2.out
  obtain ⟨x0, x1, x2⟩ := HX1.out.c3
  clear hb1 hb2 hb3 hf1 hb
  have HNO : Hid (∀ k, b ≤ k → ¬ (k = B.dp ∨ k = B.pp ∨ B.v3.ownBlock = some k)) := Lib.hid (fun k hk hh => by
    have h1 : k < w.heap.size := (HIB.out.lt (by
      rcases hh with e | e | e
      · exact .inr (.inr (.inr (.inl e)))
      · exact .inr (.inr (.inr (.inr (.inl e))))
      · exact .inr (.inr (.inr (.inr (.inr (.inr (.inr e)))))))).1
    have := HB.out
    omega)
  go_region_law (go_simp; go_at_call 52; (with_reducible refine (HD.out _ (HF1.out.trans (Fresh.drew _))).mono ?_); rintro e W2 ⟨LA, lc, v', rfl, hln, hs7, _, ho, hgr⟩)
  all_goals
    have HX1 := Lib.hid (HX1.out.drew.only ho (HNO.out _ (by omega)))
    have HX2 := Lib.hid (HX2.out.drew.only ho (HNO.out _ (by omega)))
    have HX3 := Lib.hid (HX3.out.drew.only ho (HNO.out _ (by omega)))
    have HOD : Hid (Only B.dec w W2) := Lib.hid ((Only.of_fresh (HF1.out.trans (Fresh.drew _))).trans ho)
    have HLN := Lib.hid hln
    have HS7 := Lib.hid hs7
    have HGR : Hid (∀ k, v'.ownBlock = some k → B.v3.ownBlock = some k ∨ w.heap.size ≤ k) := Lib.hid (fun k hk => (hgr k hk).imp id (fun h => Nat.le_trans HF1.out.size h))
    clear ho hln hs7 hgr x0 x1 x2 i2
    have HBW : Hid (∀ k W, b ≤ k → Only (· = k) W2 W → Only B.dec w W) := Lib.hid (fun k W hk h => HOD.out.trans' h (fun i hi e => by have := HB.out; omega))
    by_cases h0 : er = 0
    · subst h0
      obtain ⟨rfl, rfl⟩ := rd7_zero t HR.out (by rw [HR.out]; exact HIV.out)
      have HIN : Hid (IbAt w0 W2 { B with v3 := v' } l s bg) := Lib.hid (HIB.out.decoded HOD.out (by simpa using HS7.out))
      have HX3B := HX3
      have HOWN : Hid (∀ k, ({ B with v3 := v' } : InB).has k → ¬ (k = b + 1 ∨ k = b + 1 + 1)) := Lib.hid (fun k hk hh => by
        have hk' : B.has k ∨ v'.ownBlock = some k := by
          rcases hk with e | e | e | e | e | e | e | e
          · exact .inl (.inl e)
          · exact .inl (.inr (.inl e))
          · exact .inl (.inr (.inr (.inl e)))
          · exact .inl (.inr (.inr (.inr (.inl e))))
          · exact .inl (.inr (.inr (.inr (.inr (.inl e)))))
          · exact .inl (.inr (.inr (.inr (.inr (.inr (.inl e))))))
          · exact .inl (.inr (.inr (.inr (.inr (.inr (.inr (.inl e)))))))
          · exact .inr e
        rcases hk' with hk' | hk'
        · have := (HIB.out.lt hk').1
          have := HB.out
          omega
        · obtain ⟨cs, hb⟩ := ownBlkD HS7.out.dec.tab.own hk'
          rcases hh with rfl | rfl
          · exact HX2.out.ne hb (by decide) rfl
          · exact HX3B.out.ne hb (by decide) rfl)
      obtain ⟨x0, x1, x2⟩ := HX1.out.c3
      rw [show ((0 : Nat) : Int) = 0 from rfl]
      obtain ⟨nx, hnx⟩ : ∃ nx, xs.length = nx := ⟨_, rfl⟩
      have HNX := Lib.hid hnx
      rw [hnx]
      clear hnx
      go_wp2_with (first | (refine wp_storeB (ds := #[.int .i64 1, .int .i64 st, .slice LA nx lc, .slice none 0 0, .slice none 0 0, .bool en, .int .i64 0, .int .i64 0]) rfl (.tmp 4) (.tmp 27) _ rfl rfl rfl HX2.out (by kernel_rfl) rfl (by simp [Value.oneCell']) ?_) | fail)
      intro W4 hb4 ho4
      have HX3 := Lib.hid (HX3.out.only ho4 (by omega))
      have HB4 := Lib.hid hb4
      have HO4 := Lib.hid ho4
      clear hb4 ho4 x0 x1 x2
      go_wp2_with (first | (refine wp_storeB (ds := #[.int .i64 0, .bool false]) rfl (.tmp 5) (.tmp 28) _ rfl rfl rfl HX3.out (by kernel_rfl) rfl (by simp [Value.oneCell']) ?_) | fail)
      intro W5 hb5 ho5
      have HB5 := Lib.hid hb5
      have HB4 := Lib.hid (HB4.out.only ho5 (by omega))
      have HO5 : Hid (Only (fun k => k = b + 1 ∨ k = b + 1 + 1) W2 W5) := Lib.hid ((HO4.out.mono (fun i e => .inl e)).trans (ho5.mono (fun i e => .inr e)))
      clear hb5 ho5
      go_wp2
      refine bodyPost_ret (results_cc (fn := Tryz.f42) rfl rfl rfl HB4.out (by kernel_rfl) (fun w => by simp [isAgg, go_sem]) HB5.out (by kernel_rfl) (fun w => by simp [isAgg, go_sem])) rfl ?_
      have hlow : ∀ k, (k = b + 1 ∨ k = b + 1 + 1) → w.heap.size ≤ k := fun k hk => by have := HB.out; omega
      have hown : ∀ k, ({ B with v3 := v' } : InB).has k → ¬ (k = b + 1 ∨ k = b + 1 + 1) := HOWN.out
      refine HPP.out _ _ (HOD.out.trans' HO5.out (fun i hi e => by have := hlow i e; omega)) (fun h => absurd rfl h) (fun _ => ⟨v', LA, lc, by rw [← HNX.out]; rfl, HIN.out.only HO5.out hown (fun k hk => by have := hlow k hk; have := HIB.out.de.fr.size; omega), ?_, HGR.out⟩)
      exact Lns.only HO5.out (fun g cs hg hh => by
        rcases hh with rfl | rfl
        · exact absurd rfl ((HX2.out.ne hg (by decide)))
        · exact absurd rfl ((HX3B.out.ne hg (by decide)))) HLN.out
    · have d0 : ((er : Int) != 0) = true := by simp; omega
      go_wp2_with fail
      with_reducible refine (in_ofConn 109 _).mono ?_
      rintro e W3 ⟨rfl, hf3⟩
      have HX2 := Lib.hid (HX2.out.fresh hf3)
      have HX3 := Lib.hid (HX3.out.fresh hf3)
      have HF3 := Lib.hid hf3
      clear hf3
      go_wp2_with (first | (refine wp_storeB (ds := (Ev.bare Ev0).arr) rfl (.tmp 4) (.tmp 20) _ rfl rfl rfl HX2.out (by kernel_rfl) rfl (by simp [Ev.bare, Ev0, EvV.arr, Value.oneCell']) ?_) | fail)
      intro W4 hb4 ho4
      have HX3 := Lib.hid (HX3.out.only ho4 (by omega))
      have HB4 := Lib.hid hb4
      have HO4 := Lib.hid ho4
      clear hb4 ho4
      go_wp2_with (first | (refine wp_storeB (ds := #[.int .i64 109, .bool true]) rfl (.tmp 5) (.tmp 21) _ rfl rfl rfl HX3.out (by kernel_rfl) rfl (by simp [Value.oneCell']) ?_) | fail)
      intro W5 hb5 ho5
      have HB5 := Lib.hid hb5
      have HB4 := Lib.hid (HB4.out.only ho5 (by omega))
      have HO5 : Hid (Only (fun k => k = b + 1 ∨ k = b + 1 + 1) W2 W5) := Lib.hid (((Only.of_fresh HF3.out).trans (HO4.out.mono (fun i e => .inl e))).trans (ho5.mono (fun i e => .inr e)))
      clear hb5 ho5
      go_wp2
      refine bodyPost_ret (results_cc (fn := Tryz.f42) rfl rfl rfl HB4.out (by kernel_rfl) (fun w => by simp [isAgg, go_sem]) HB5.out (by kernel_rfl) (fun w => by simp [isAgg, go_sem])) rfl ?_
      exact HPP.out _ _ (HOD.out.trans' HO5.out (fun i hi e => by have := HB.out; omega)) (fun _ => rfl) (fun h => absurd h h0)
end Go.Proofs.YtginhebfjbhmnaaGreat

/-
  Package inbound: event, whatever the item.
-/
namespace Go.Proofs.YtginhebfjbhmnaaGreat
set_option maxRecDepth 100000
set_option linter.unusedVariables false
set_option linter.unusedSimpArgs false
open Go.RowKit
theorem in_event (x : ItV) (w : World) : Calls Tryz.prog 43 #[x.agg] w fun e w' => e = .returned (.agg (evX x).arr) ∧ Fresh w w' := by
  obtain ⟨ty, st, A, c, l, en, eh, ak, fl, co, la, inc, de, we, wd, ex, PA, pc, ps⟩ := x
  by_cases h0 : ty = 0
  · have := ev_0 ty st A c l en eh ak fl co la inc de we wd ex PA pc ps h0 w
    subst h0
    exact this
  by_cases h3 : ty = 3
  · have := ev_3 ty st A c l en eh ak fl co la inc de we wd ex PA pc ps h3 w
    subst h3
    exact this
  by_cases h8 : ty = 8
  · have := ev_8 ty st A c l en eh ak fl co la inc de we wd ex PA pc ps h8 w
    subst h8
    exact this
  by_cases h4 : ty = 4
  · have := ev_4 ty st A c l en eh ak fl co la inc de we wd ex PA pc ps h4 w
    subst h4
    exact this
  by_cases h6 : ty = 6
  · have := ev_6 ty st A c l en eh ak fl co la inc de we wd ex PA pc ps h6 w
    subst h6
    exact this
  by_cases h7 : ty = 7
  · have := ev_7 ty st A c l en eh ak fl co la inc de we wd ex PA pc ps h7 w
    subst h7
    exact this
  have := ev_x ty st A c l en eh ak fl co la inc de we wd ex PA pc ps h0 h3 h8 h4 h6 h7 w
  unfold evX
  rw [if_neg h0, if_neg h3, if_neg h8, if_neg h4, if_neg h6, if_neg h7]
  exact this
end Go.Proofs.YtginhebfjbhmnaaGreat

