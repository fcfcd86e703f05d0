/-
  Layer 12: header blocks: what an assembler has; its contracts.
-/
import Derived.Test.YtginhebfjbhmnaaGreatG06
import Derived.Test.YtginhebfjbhmnaaGreatG13
import Derived.Test.YtginhebfjbhmnaaGreatG03
import Derived.StillTailTactics
namespace Go.Proofs.YtginhebfjbhmnaaGreat
set_option maxRecDepth 100000
set_option linter.unusedVariables false
open Go.RowKit Go.ChangeShapes Go.WideShapes Go.Deep

/-- A part of a block: its stream, its text, whether the stream ends. -/
abbrev Part := Int × List UInt8 × Bool
/-- What an item does: the part then, the whole block, whether it is a fault. -/
def onS (lim : Int) (s : Option Part) (ty st : Int) (t : List UInt8) (e h : Bool) : Option Part × Option Part × Bool :=
  match s with
  | none => if ty = 9 then (none, none, true) else if ty ≠ 1 then (none, none, false) else if lim < (t.length : Int) then (none, none, true) else if h = true then (none, some (st, t, e), false) else (some (st, t, e), none, false)
  | some (a, l, b) => if ty ≠ 9 then (some (a, l, b), none, true) else if st ≠ a then (some (a, l, b), none, true) else if lim - (l.length : Int) < (t.length : Int) then (some (a, l, b), none, true) else if h = true then (none, some (a, l ++ t, b), false) else (some (a, l ++ t, b), none, false)
/-- Is it taken in? -/
def takes (lim : Int) (s : Option Part) (ty st : Int) (t : List UInt8) : Prop :=
  match s with
  | none => ty = 1 ∧ (t.length : Int) ≤ lim
  | some (a, l, _) => ty = 9 ∧ st = a ∧ (t.length : Int) ≤ lim - (l.length : Int)
def fltV (f : Bool) : Value := if f then .agg #[.int .i64 101, .bool true] else .agg #[.int .i64 0, .bool false]
def blkV (o : Option Part) (v : Value) : Value :=
  match o with
  | none => .agg #[.int .i64 0, .slice none 0 0, .bool false]
  | some (st, l, b) => .agg #[.int .i64 st, v, .bool b]
theorem own_blk {w : World} {base sz n : Nat} {E : TypeId} {v : Value} {xs : List Value} (h : Own w base E sz v n xs) {g : Nat} (hg : v.ownBlock = some g) : ∃ cur, Blk w g E cur := by
  rcases h.2 with ⟨rfl, _⟩ | ⟨g', cap, cur, rfl, _, hh, _⟩
  · cases hg
  · simp [Value.ownBlock] at hg
    subst hg
    exact ⟨cur, hh⟩
/-- An assembler at p; the text of its part lies in the row v. -/
structure AsAt (w : World) (p : Nat) (lim : Int) (s : Option Part) (v : Value) : Prop where
  l0 : 0 ≤ lim
  l1 : lim ≤ 1048576
  idle : s = none → Blk w p 85 #[.int .i64 lim, .bool false, .int .i64 0, .slice none 0 0, .bool false] ∧ v = .slice none 0 0
  part : ∀ st l b, s = some (st, l, b) → Blk w p 85 #[.int .i64 lim, .bool true, .int .i64 st, v, .bool b] ∧ Own w 0 5 1 v l.length (l.map byteV) ∧ (l.length : Int) ≤ lim
theorem AsAt.only {S : Nat → Prop} {w w' : World} {p : Nat} {lim : Int} {s : Option Part} {v : Value} (h : AsAt w p lim s v) (ho : Only S w w') (hp : ¬ S p) (hv : ∀ k, v.ownBlock = some k → ¬ S k) : AsAt w' p lim s v :=
  ⟨h.l0, h.l1, fun e => ⟨(h.idle e).1.only ho hp, (h.idle e).2⟩, fun st l b e => ⟨(h.part st l b e).1.only ho hp, (h.part st l b e).2.1.only ho hv, (h.part st l b e).2.2⟩⟩
theorem AsAt.fresh {w w' : World} {p : Nat} {lim : Int} {s : Option Part} {v : Value} (h : AsAt w p lim s v) (hf : Fresh w w') : AsAt w' p lim s v :=
  ⟨h.l0, h.l1, fun e => ⟨(h.idle e).1.fresh hf, (h.idle e).2⟩, fun st l b e => ⟨(h.part st l b e).1.fresh hf, (h.part st l b e).2.1.fresh hf, (h.part st l b e).2.2⟩⟩
theorem AsAt.lt {w : World} {p : Nat} {lim : Int} {s : Option Part} {v : Value} (h : AsAt w p lim s v) : p < w.heap.size ∧ ∀ k, v.ownBlock = some k → k ≠ p ∧ k < w.heap.size := by
  cases s with
  | none =>
    obtain ⟨h1, rfl⟩ := h.idle rfl
    exact ⟨h1.lt, fun k hk => by cases hk⟩
  | some x =>
    obtain ⟨st, l, b⟩ := x
    obtain ⟨h1, h2, _⟩ := h.part st l b rfl
    refine ⟨h1.lt, fun k hk => ?_⟩
    obtain ⟨cur, hc⟩ := own_blk h2 hk
    exact ⟨fun e => by subst e; exact hc.ne h1 (by decide) rfl, hc.lt⟩

def OnR (p : Nat) (lim : Int) (r : Option Part × Option Part × Bool) (v : Value) (w : World) (en : Ending) (w' : World) : Prop :=
  ∃ v' vb, en = .returned (.tuple #[blkV r.2.1 vb, .bool r.2.1.isSome, fltV r.2.2]) ∧ AsAt w' p lim r.1 v' ∧ Only (fun k => k = p ∨ v.ownBlock = some k) w w' ∧ (∀ k, v'.ownBlock = some k → v.ownBlock = some k ∨ w.heap.size ≤ k) ∧
    (∀ st l b, r.2.1 = some (st, l, b) → Own w' 0 5 1 vb l.length (l.map byteV) ∧ (∀ k, vb.ownBlock = some k → v.ownBlock = some k ∨ w.heap.size ≤ k))

/-- Behind the beginning of On: the item's box at g, the results' cells, the fault. -/
structure OnW (S : Nat → Prop) (w : World) (g : Nat) (x : ItV) (W : World) : Prop where
  fr : Only S w W
  bx : Blk W g 98 x.cells.toArray
  b1 : Blk W (g + 1) 83 #[.int .i64 0, .slice none 0 0, .bool false]
  b2 : Blk W (g + 1 + 1) 32 #[.int .i64 0, .bool false]
  b3 : Blk W (g + 1 + 1 + 1) 32 #[.int .i64 101, .bool true]
theorem OnW.fresh {w : World} {g : Nat} {x : ItV} {W : World} (h : OnW (fun _ => False) w g x W) : Fresh w W := h.fr.fresh (fun _ _ e => e)
theorem OnW.only {S T : Nat → Prop} {w : World} {g : Nat} {x : ItV} {W W' : World} (h : OnW S w g x W) (ho : Only T W W') (hT : ∀ k, T k → k < g) (hg : w.heap.size ≤ g) (hST : ∀ k, S k → T k) : OnW T w g x W' :=
  ⟨(h.fr.mono hST).trans ho, h.bx.only ho (fun e => by have := hT _ e; omega), h.b1.only ho (fun e => by have := hT _ e; omega), h.b2.only ho (fun e => by have := hT _ e; omega), h.b3.only ho (fun e => by have := hT _ e; omega)⟩
theorem OnW.mk' (w : World) (x : ItV) : OnW (fun _ => False) w w.heap.size x ((((w.alloc (.cells x.cells.toArray 98)).alloc (.cells #[.int .i64 0, .slice none 0 0, .bool false] 83)).alloc (.cells #[.int .i64 0, .bool false] 32)).alloc (.cells #[.int .i64 101, .bool true] 32)) := by
  refine ⟨Only.of_fresh ((((Fresh.alloc _ _).allocS _).allocS _).allocS _), (((Blk.new _ _ _).alloc _).alloc _).alloc _, ?_, ?_, ?_⟩
  · have := ((Blk.new (w.alloc (.cells x.cells.toArray 98)) 83 #[.int .i64 0, .slice none 0 0, .bool false]).alloc (.cells #[.int .i64 0, .bool false] 32)).alloc (.cells #[.int .i64 101, .bool true] 32)
    simpa using this
  · have := (Blk.new ((w.alloc (.cells x.cells.toArray 98)).alloc (.cells #[.int .i64 0, .slice none 0 0, .bool false] 83)) 32 #[.int .i64 0, .bool false]).alloc (.cells #[.int .i64 101, .bool true] 32)
    simpa using this
  · have := Blk.new (((w.alloc (.cells x.cells.toArray 98)).alloc (.cells #[.int .i64 0, .slice none 0 0, .bool false] 83)).alloc (.cells #[.int .i64 0, .bool false] 32)) 32 #[.int .i64 101, .bool true]
    simpa using this

set_option maxRecDepth 100000 in
set_option maxHeartbeats 3200000 in
/-- Nothing is taken in. -/
theorem on_same (p : Nat) (lim : Int) (s : Option Part) (v : Value) (x : ItV) (w : World) (h : AsAt w p lim s v) (hx : x.Ok w) (f : Bool) (hr : onS lim s x.ty x.st x.l x.en x.eh = (s, none, f)) (hnt : ¬ takes lim s x.ty x.st x.l) :
    Calls Tryz.prog 41 #[.pointer (some ⟨p, 0, none⟩), .agg #[.int .i64 x.ty, .int .i64 x.st, .slice x.A x.l.length x.c, .bool x.en, .bool x.eh, .bool x.ak, .int .i64 x.fl, .int .i64 x.co, .int .i64 x.la, .int .i64 x.inc, .int .i64 x.de, .int .i64 x.we, .bool x.wd, .bool x.ex, .slice x.PA x.ps.length x.pc]] w
      (OnR p lim (s, none, f) v w) := by
  obtain ⟨ty, st, A, c, t, e, eh, ak, fl, co, la, inc, de, we, wd, ex, PA, pc, ps⟩ := x
  have hmax := hx.max
  have hle := hx.le
  unfold maxLen at hmax
  simp only at hmax hle
  have HH := Lib.hid h
  have HR := Lib.hid hr
  have HNT := Lib.hid hnt
  have hplt := h.lt.1
  have hl0 := h.l0
  have hl1 := h.l1
  clear hx hnt
  have fin : ∀ w', Fresh w w' → OnR p lim (s, none, f) v w (.returned (.tuple #[blkV none (.int .i64 0), .bool false, fltV f])) w' := fun w' hf =>
    ⟨v, .int .i64 0, rfl, HH.out.fresh hf, Only.of_fresh hf, fun k hk => .inl hk, fun st l b e => by cases e⟩
  have HFIN := Lib.hid fin
  clear fin
  cases s with
  | none =>
    obtain ⟨hb, rfl⟩ := h.idle rfl
    obtain ⟨c0, c1, c2, c3, c4⟩ := hb.c5
    clear h hr
    by_cases h9 : ty = 9
    · subst h9
      have hf : f = true := by
        have := HR.out
        unfold onS at this
        simp [] at this
        simp [this]
      subst hf
      go_enter Tryz.func41, Tryz.ntmps41
      go_wp2
      refine wp_gen (OnW (fun _ => False) w w.heap.size ⟨9, st, A, c, t, e, eh, ak, fl, co, la, inc, de, we, wd, ex, PA, pc, ps⟩) (OnW.mk' w _) ?_
      intro W hW
      have HW := Lib.hid hW
      have x0 := hW.bx.cell 0
      have x1 := hW.bx.cell 1
      have x2 := hW.bx.cell 2
      simp only [ItV.cells, List.getElem?_toArray, List.getElem?_cons_zero, List.getElem?_cons_succ] at x0 x1 x2
      obtain ⟨p0, p1, p2, p3, p4⟩ := (hb.fresh hW.fresh).c5
      obtain ⟨d0, d1⟩ := hW.b3.c2
      obtain ⟨r0, r1, r2⟩ := hW.b1.c3
      obtain ⟨f0, f1⟩ := hW.b2.c2
      have z0 := hW.b1.frozen 0
      have z1 := hW.b1.frozen 1
      have z2 := hW.b1.frozen 2
      have y0 := hW.b2.frozen 0
      have y1 := hW.b2.frozen 1
      clear hW c0 c1 c2 c3 c4 hb
      go_region
      go_wp2
      go_region
      go_wp2
      refine bodyPost_ret (v := .tuple #[.agg #[.int .i64 0, .slice none 0 0, .bool false], .bool false, .agg #[.int .i64 101, .bool true]]) (by simp [results, Tryz.results41, go_sem, r0, r1, r2, f0, f1]) rfl (HFIN.out _ ?_)
      repeat (first | with_reducible exact HW.out.fresh | with_reducible apply Fresh.drewS | with_reducible apply Fresh.allocS | (with_reducible refine Fresh.step2 ?_ ?_; focus (simp only []; omega)))
    · by_cases h1 : ty = 1
      · subst h1
        by_cases hl : lim < (t.length : Int)
        · have hf : f = true := by
            have := HR.out
            unfold onS at this
            simp [hl] at this
            simp [this]
          subst hf
          go_enter Tryz.func41, Tryz.ntmps41
          go_wp2
          refine wp_gen (OnW (fun _ => False) w w.heap.size ⟨1, st, A, c, t, e, eh, ak, fl, co, la, inc, de, we, wd, ex, PA, pc, ps⟩) (OnW.mk' w _) ?_
          intro W hW
          have HW := Lib.hid hW
          have x0 := hW.bx.cell 0
          have x1 := hW.bx.cell 1
          have x2 := hW.bx.cell 2
          simp only [ItV.cells, List.getElem?_toArray, List.getElem?_cons_zero, List.getElem?_cons_succ] at x0 x1 x2
          obtain ⟨p0, p1, p2, p3, p4⟩ := (hb.fresh hW.fresh).c5
          obtain ⟨d0, d1⟩ := hW.b3.c2
          obtain ⟨r0, r1, r2⟩ := hW.b1.c3
          obtain ⟨f0, f1⟩ := hW.b2.c2
          have z0 := hW.b1.frozen 0
          have z1 := hW.b1.frozen 1
          have z2 := hW.b1.frozen 2
          have y0 := hW.b2.frozen 0
          have y1 := hW.b2.frozen 1
          clear hW c0 c1 c2 c3 c4 hb
          go_region
          go_wp2
          have hw1 : IntKind.i64.wrap lim = lim := IntWalk.i64_in _ (by omega)
          have hw2 : IntKind.i64.wrap (lim - 0) = lim := by rw [Int.sub_zero]; exact IntWalk.i64_in _ (by omega)
          go_region
          go_wp2
          go_region
          go_wp2
          refine bodyPost_ret (v := .tuple #[.agg #[.int .i64 0, .slice none 0 0, .bool false], .bool false, .agg #[.int .i64 101, .bool true]]) (by simp [results, Tryz.results41, go_sem, r0, r1, r2, f0, f1]) rfl (HFIN.out _ ?_)
          repeat (first | with_reducible exact HW.out.fresh | with_reducible apply Fresh.drewS | with_reducible apply Fresh.allocS | (with_reducible refine Fresh.step2 ?_ ?_; focus (simp only []; omega)))
        · exact absurd ⟨rfl, show (t.length : Int) ≤ lim by omega⟩ HNT.out
      · have h9' : (ty == 9) = false := by simpa using h9
        have h1' : (ty != 1) = true := by simpa using h1
        have hf : f = false := by
          have := HR.out
          unfold onS at this
          simp [h9, h1] at this
          simp [this]
        subst hf
        go_enter Tryz.func41, Tryz.ntmps41
        go_wp2
        refine wp_gen (OnW (fun _ => False) w w.heap.size ⟨ty, st, A, c, t, e, eh, ak, fl, co, la, inc, de, we, wd, ex, PA, pc, ps⟩) (OnW.mk' w _) ?_
        intro W hW
        have HW := Lib.hid hW
        have x0 := hW.bx.cell 0
        have x1 := hW.bx.cell 1
        have x2 := hW.bx.cell 2
        simp only [ItV.cells, List.getElem?_toArray, List.getElem?_cons_zero, List.getElem?_cons_succ] at x0 x1 x2
        obtain ⟨p0, p1, p2, p3, p4⟩ := (hb.fresh hW.fresh).c5
        obtain ⟨d0, d1⟩ := hW.b3.c2
        obtain ⟨r0, r1, r2⟩ := hW.b1.c3
        obtain ⟨f0, f1⟩ := hW.b2.c2
        have z0 := hW.b1.frozen 0
        have z1 := hW.b1.frozen 1
        have z2 := hW.b1.frozen 2
        have y0 := hW.b2.frozen 0
        have y1 := hW.b2.frozen 1
        clear hW c0 c1 c2 c3 c4 hb
        go_region
        go_wp2
        refine bodyPost_ret (v := .tuple #[.agg #[.int .i64 0, .slice none 0 0, .bool false], .bool false, .agg #[.int .i64 0, .bool false]]) (by simp [results, Tryz.results41, go_sem, r0, r1, r2, f0, f1]) rfl (HFIN.out _ ?_)
        repeat (first | with_reducible exact HW.out.fresh | with_reducible apply Fresh.drewS | with_reducible apply Fresh.allocS | (with_reducible refine Fresh.step2 ?_ ?_; focus (simp only []; omega)))
  | some s =>
    obtain ⟨a, l, b⟩ := s
    obtain ⟨hb, hown, hll⟩ := h.part a l b rfl
    obtain ⟨VA, vc, rfl, hvlc, hvc, _⟩ := hown.slice
    have hlb : l.length ≤ 1048576 := by omega
    obtain ⟨c0, c1, c2, c3, c4⟩ := hb.c5
    clear h hr hown
    by_cases h9 : ty = 9
    · subst h9
      by_cases hst : st = a
      · subst hst
        by_cases hl : lim - (l.length : Int) < (t.length : Int)
        · have hf : f = true := by
            have := HR.out
            unfold onS at this
            simp [hl] at this
            simp [this]
          subst hf
          go_enter Tryz.func41, Tryz.ntmps41
          go_wp2
          refine wp_gen (OnW (fun _ => False) w w.heap.size ⟨9, st, A, c, t, e, eh, ak, fl, co, la, inc, de, we, wd, ex, PA, pc, ps⟩) (OnW.mk' w _) ?_
          intro W hW
          have HW := Lib.hid hW
          have x0 := hW.bx.cell 0
          have x1 := hW.bx.cell 1
          have x2 := hW.bx.cell 2
          simp only [ItV.cells, List.getElem?_toArray, List.getElem?_cons_zero, List.getElem?_cons_succ] at x0 x1 x2
          obtain ⟨p0, p1, p2, p3, p4⟩ := (hb.fresh hW.fresh).c5
          obtain ⟨d0, d1⟩ := hW.b3.c2
          obtain ⟨r0, r1, r2⟩ := hW.b1.c3
          obtain ⟨f0, f1⟩ := hW.b2.c2
          have z0 := hW.b1.frozen 0
          have z1 := hW.b1.frozen 1
          have z2 := hW.b1.frozen 2
          have y0 := hW.b2.frozen 0
          have y1 := hW.b2.frozen 1
          clear hW c0 c1 c2 c3 c4 hb
          have hq : (st != st) = false := by simp
          go_region
          go_wp2
          have hw2 : IntKind.i64.wrap (lim - (l.length : Int)) = lim - (l.length : Int) := IntWalk.i64_in _ (by omega)
          go_region
          go_wp2
          go_region
          go_wp2
          refine bodyPost_ret (v := .tuple #[.agg #[.int .i64 0, .slice none 0 0, .bool false], .bool false, .agg #[.int .i64 101, .bool true]]) (by simp [results, Tryz.results41, go_sem, r0, r1, r2, f0, f1]) rfl (HFIN.out _ ?_)
          repeat (first | with_reducible exact HW.out.fresh | with_reducible apply Fresh.drewS | with_reducible apply Fresh.allocS | (with_reducible refine Fresh.step2 ?_ ?_; focus (simp only []; omega)))
        · exact absurd ⟨rfl, rfl, show (t.length : Int) ≤ lim - (l.length : Int) by omega⟩ HNT.out
      · have hst' : (st != a) = true := by simpa using hst
        have hf : f = true := by
          have := HR.out
          unfold onS at this
          simp [hst] at this
          simp [this]
        subst hf
        go_enter Tryz.func41, Tryz.ntmps41
        go_wp2
        refine wp_gen (OnW (fun _ => False) w w.heap.size ⟨9, st, A, c, t, e, eh, ak, fl, co, la, inc, de, we, wd, ex, PA, pc, ps⟩) (OnW.mk' w _) ?_
        intro W hW
        have HW := Lib.hid hW
        have x0 := hW.bx.cell 0
        have x1 := hW.bx.cell 1
        have x2 := hW.bx.cell 2
        simp only [ItV.cells, List.getElem?_toArray, List.getElem?_cons_zero, List.getElem?_cons_succ] at x0 x1 x2
        obtain ⟨p0, p1, p2, p3, p4⟩ := (hb.fresh hW.fresh).c5
        obtain ⟨d0, d1⟩ := hW.b3.c2
        obtain ⟨r0, r1, r2⟩ := hW.b1.c3
        obtain ⟨f0, f1⟩ := hW.b2.c2
        have z0 := hW.b1.frozen 0
        have z1 := hW.b1.frozen 1
        have z2 := hW.b1.frozen 2
        have y0 := hW.b2.frozen 0
        have y1 := hW.b2.frozen 1
        clear hW c0 c1 c2 c3 c4 hb
        go_region
        go_wp2
        go_region
        go_wp2
        refine bodyPost_ret (v := .tuple #[.agg #[.int .i64 0, .slice none 0 0, .bool false], .bool false, .agg #[.int .i64 101, .bool true]]) (by simp [results, Tryz.results41, go_sem, r0, r1, r2, f0, f1]) rfl (HFIN.out _ ?_)
        repeat (first | with_reducible exact HW.out.fresh | with_reducible apply Fresh.drewS | with_reducible apply Fresh.allocS | (with_reducible refine Fresh.step2 ?_ ?_; focus (simp only []; omega)))
    · have h9' : (ty == 9) = false := by simpa using h9
      have hf : f = true := by
        have := HR.out
        unfold onS at this
        simp [h9] at this
        simp [this]
      subst hf
      go_enter Tryz.func41, Tryz.ntmps41
      go_wp2
      refine wp_gen (OnW (fun _ => False) w w.heap.size ⟨ty, st, A, c, t, e, eh, ak, fl, co, la, inc, de, we, wd, ex, PA, pc, ps⟩) (OnW.mk' w _) ?_
      intro W hW
      have HW := Lib.hid hW
      have x0 := hW.bx.cell 0
      have x1 := hW.bx.cell 1
      have x2 := hW.bx.cell 2
      simp only [ItV.cells, List.getElem?_toArray, List.getElem?_cons_zero, List.getElem?_cons_succ] at x0 x1 x2
      obtain ⟨p0, p1, p2, p3, p4⟩ := (hb.fresh hW.fresh).c5
      obtain ⟨d0, d1⟩ := hW.b3.c2
      obtain ⟨r0, r1, r2⟩ := hW.b1.c3
      obtain ⟨f0, f1⟩ := hW.b2.c2
      have z0 := hW.b1.frozen 0
      have z1 := hW.b1.frozen 1
      have z2 := hW.b1.frozen 2
      have y0 := hW.b2.frozen 0
      have y1 := hW.b2.frozen 1
      clear hW c0 c1 c2 c3 c4 hb
      go_region
      go_wp2
      go_region
      go_wp2
      refine bodyPost_ret (v := .tuple #[.agg #[.int .i64 0, .slice none 0 0, .bool false], .bool false, .agg #[.int .i64 101, .bool true]]) (by simp [results, Tryz.results41, go_sem, r0, r1, r2, f0, f1]) rfl (HFIN.out _ ?_)
      repeat (first | with_reducible exact HW.out.fresh | with_reducible apply Fresh.drewS | with_reducible apply Fresh.allocS | (with_reducible refine Fresh.step2 ?_ ?_; focus (simp only []; omega)))

/-- What is taken in: the part behind it. -/
def addP (s : Option Part) (st : Int) (t : List UInt8) (e : Bool) : Part :=
  match s with
  | none => (st, t, e)
  | some (a, l, b) => (a, l ++ t, b)
theorem onS_takes {lim : Int} {s : Option Part} {ty st : Int} {t : List UInt8} {e h : Bool} (ht : takes lim s ty st t) : onS lim s ty st t e h = if h = true then (none, some (addP s st t e), false) else (some (addP s st t e), none, false) := by
  cases s with
  | none =>
    obtain ⟨rfl, h2⟩ := ht
    unfold onS
    simp only [if_neg (show ¬ (1 : Int) = 9 by omega), if_neg (show ¬ (1 : Int) ≠ 1 by omega), if_neg (show ¬ lim < (t.length : Int) by omega)]
    rfl
  | some x =>
    obtain ⟨a, l, b⟩ := x
    obtain ⟨rfl, rfl, h2⟩ := ht
    unfold onS
    simp only [if_neg (show ¬ (9 : Int) ≠ 9 by omega), ne_eq, not_true_eq_false, if_false, if_neg (show ¬ lim - (l.length : Int) < (t.length : Int) by omega)]
    rfl

end Go.Proofs.YtginhebfjbhmnaaGreat

