/-
  The law StateRuns: its walk.
-/
import Derived.Test.YtdmcinndpkcjjaaDoorStateA
import Derived.Test.YtdmcinndpkcjjaaDoorShapeW
import Derived.Deep.RegionHeld3
namespace Go.Proofs.YtdmcinndpkcjjaaDoor
set_option linter.unusedVariables false
open Go.RowKit Go.ChangeShapes Go.WideShapes Go.Deep
section
variable {H : Type} {enc : TypeId × Value → H} {w : World} {base : Nat} {spare : Nat → Bool} {held : Bool} {v : Value} {d : DataW H} {p : List MemPlace} {r : Reach} {b0 : Nat}
theorem open_events (hv : Value.okWide Tryd.prog w r b0 40 v) (hd : DataW.Trod enc Tryd.prog w base spare held 40 v d p) :
    ∃ s : IntsV, v = .slice s.A s.zs.length s.c ∧ s.Ok w := by
  have h := (opens_slice (sz := 1) Tryd.underlying40 (opens_int Tryd.underlying23) (by kernel_rfl) (by omega)).sl Tryd.underlying40 hv hd
  obtain ⟨A, xs, c, e, h1, h2, h3, h4⟩ := h.rows (R := fun _ (z : Int) => -9223372036854775808 ≤ z ∧ z ≤ 9223372036854775807) (f := cellI) (fun _ ⟨z, e, hz⟩ => ⟨z, e, wf_i64_bd hz⟩)
  simp at e
  exact ⟨⟨A, c, xs⟩, e, h1, h2, h3, h4⟩
end
theorem do_out {a e : Int} {cs : List Int} (h : e < 0 ∨ 8 < e) : doE a e = 11 ∧ doC a e = 0 ∧ doB a e = false ∧ doA a e = a ∧ doL a e cs = cs := by
  have hs : ¬ (0 ≤ e ∧ e ≤ 3) := by omega
  have hg : ¬ (4 ≤ e ∧ e ≤ 8) := by omega
  refine ⟨?_, ?_, ?_, ?_, ?_⟩
  · unfold doE; rw [if_neg hs, if_neg hg]
  · unfold doC; rw [if_neg hg]
  · unfold doB; rw [if_neg hg]
  · unfold doA; rw [if_neg hs, if_neg hg]
  · unfold doL doGood; rw [if_neg hs, if_neg hg]; rfl
theorem runs_fits : ∀ x ∈ rsL, ∀ e : Fin 9, doA x.N e.val = (refX x e.val).N ∧ ((refW x e.val = 0 ∧ doE x.N e.val = 0 ∧ doC x.N e.val = 0 ∧ doB x.N e.val = false ∧ doGood x.N e.val = true) ∨ (refW x e.val = 1 ∧ doE x.N e.val = 25 ∧ doC x.N e.val = 0 ∧ doB x.N e.val = false ∧ doGood x.N e.val = false) ∨
    (refW x e.val = 2 ∧ doE x.N e.val = 0 ∧ doC x.N e.val = 101 ∧ doB x.N e.val = true ∧ doGood x.N e.val = false) ∨ (refW x e.val = 3 ∧ doE x.N e.val = 0 ∧ doC x.N e.val = 105 ∧ doB x.N e.val = false ∧ doGood x.N e.val = false)) := by decide
theorem ref_doV (x : RS) (e : Int) (w : World) (hx : x ∈ rsL) (h0 : 0 ≤ e) (h8 : e ≤ 8) (n : Int) (hn : refW x e = n) :
    Calls Tryd.prog 11 #[.agg #[.int .i64 x.b, .int .i64 x.w, .int .i64 x.t, .int .i64 x.r], .int .i64 e] w fun en w' => en = .returned (.tuple #[.agg #[.int .i64 (refX x e).b, .int .i64 (refX x e).w, .int .i64 (refX x e).t, .int .i64 (refX x e).r], .int .i64 n]) ∧ Fresh w w' := by
  subst hn
  exact ref_do x e w hx h0 h8
theorem ref_numV2 (x : RS) (n : Int) (w : World) (hx : x ∈ rsL) (hn : x.N = n) : Calls Tryd.prog 13 #[.agg #[.int .i64 x.b, .int .i64 x.w, .int .i64 x.t, .int .i64 x.r]] w fun en w' => en = .returned (.int .i64 n) ∧ Fresh w w' := by
  subst hn
  exact ref_num x w hx
theorem ref_newV (w : World) : Calls Tryd.prog 17 #[] w fun en w' => en = .returned (.agg #[.int .i64 0, .int .i64 1, .int .i64 1, .int .i64 0]) ∧ Fresh w w' := ref_new w
theorem run_countV (p : Nat) (a e : Int) (cs : List Int) (w : World) (n : Int) (h : RunAt w p a cs) (hn : cntI cs e = n) : Calls Tryd.prog 19 #[.pointer (some ⟨p, 0, none⟩), .int .i64 e] w fun en w' => en = .returned (.int .i64 n) ∧ w = w' := by
  subst hn
  exact run_count p a e cs w h

theorem run_atV (p : Nat) (a n : Int) (cs : List Int) (w : World) (h : RunAt w p a cs) (hn : a = n) : Calls Tryd.prog 20 #[.pointer (some ⟨p, 0, none⟩)] w fun en w' => en = .returned (.int .i64 n) ∧ w = w' := by
  subst hn
  exact run_at p a cs w h
/-- What the loop keeps. -/
structure RunsSt (w wr : World) (p g4 g5 k : Nat) (x : RS) (cs : List Int) : Prop where
  run : RunAt wr p x.N cs
  ref : Blk wr g4 34 #[.int .i64 x.b, .int .i64 x.w, .int .i64 x.t, .int .i64 x.r]
  cnt : Blk wr g5 44 (cs.map (Value.int .i64)).toArray
  mem : x ∈ rsL
  bd : ∀ c ∈ cs, c ≤ (k : Int)
  fr : Only (· = p) w wr
  n4 : g4 ≠ p
  n5 : g5 ≠ p
  b4 : w.heap.size ≤ g4
  b5 : w.heap.size ≤ g5
  n45 : g4 ≠ g5
theorem RunsSt.fresh {w wr wr' : World} {p g4 g5 k : Nat} {x : RS} {cs : List Int} (h : RunsSt w wr p g4 g5 k x cs) (hf : Fresh wr wr') : RunsSt w wr' p g4 g5 k x cs :=
  ⟨h.run.fresh hf, h.ref.fresh hf, h.cnt.fresh hf, h.mem, h.bd, h.fr.freshS hf, h.n4, h.n5, h.b4, h.b5, h.n45⟩
/-- A step that is not all right. -/
theorem RunsSt.same {w wr wr' : World} {p g4 g5 k : Nat} {x : RS} {cs : List Int} (h : RunsSt w wr p g4 g5 k x cs) (hr : RunAt wr' p x.N cs) (ho : Only (· = p) wr wr') : RunsSt w wr' p g4 g5 k x cs :=
  ⟨hr, h.ref.only ho h.n4, h.cnt.only ho h.n5, h.mem, h.bd, h.fr.trans ho, h.n4, h.n5, h.b4, h.b5, h.n45⟩
theorem RunsSt.next {w wr : World} {p g4 g5 k : Nat} {x : RS} {cs : List Int} (h : RunsSt w wr p g4 g5 k x cs) : RunsSt w wr p g4 g5 (k + 1) x cs :=
  ⟨h.run, h.ref, h.cnt, h.mem, fun c hc => by have := h.bd c hc; omega, h.fr, h.n4, h.n5, h.b4, h.b5, h.n45⟩
theorem RunsSt.cells {w wr : World} {p g4 g5 k : Nat} {x : RS} {cs : List Int} (h : RunsSt w wr p g4 g5 k x cs) (j : Nat) (hj : j < 9) : wr.cell? ⟨g5, j, none⟩ = some (.int .i64 (cs.getD j 0)) ∧ wr.frozen? ⟨g5, j, none⟩ = false ∧ cs.length = 9 := by
  refine ⟨?_, h.cnt.frozen _, h.run.len⟩
  rw [h.cnt.cell]
  simp [List.getD, List.getElem?_eq_getElem (show j < cs.length by rw [h.run.len]; exact hj)]

theorem five_blk {w4 : World} {g4 g5 g9 j : Nat} {t : TypeId} {cs : Array Value} (h : Blk w4 g9 t cs) (n4 : g9 ≠ g4) (n5 : g9 ≠ g5) (v0 v1 v2 v3 v4 : Value) :
    Blk (((((w4.setCell ⟨g4, 0, none⟩ v0).setCell ⟨g4, 1, none⟩ v1).setCell ⟨g4, 2, none⟩ v2).setCell ⟨g4, 3, none⟩ v3).setCell ⟨g5, j, none⟩ v4) g9 t cs :=
  ((((h.far (p := ⟨g4, 0, none⟩) n4 v0).far (p := ⟨g4, 1, none⟩) n4 v1).far (p := ⟨g4, 2, none⟩) n4 v2).far (p := ⟨g4, 3, none⟩) n4 v3).far (p := ⟨g5, j, none⟩) n5 v4
/-- The world ahead of some code, by what is known of it alone. -/
theorem wp_gen {P : Program} {c : Code} {Q : Exit → Act → World → Prop} {a : Act} {w : World} (S : World → Prop) (hS : S w) (h : ∀ w', S w' → c.wp P Q a w') : c.wp P Q a w := h w hS
/-- What the last test of a round reads. -/
def RunsH (w : World) (p g4 g5 g9 k j : Nat) (x : RS) (cs : List Int) (c d : Int) (b : Bool) (w' : World) : Prop :=
  w'.cell? ⟨g4, 0, none⟩ = some (.int .i64 x.b) ∧ w'.cell? ⟨g4, 1, none⟩ = some (.int .i64 x.w) ∧ w'.cell? ⟨g4, 2, none⟩ = some (.int .i64 x.t) ∧ w'.cell? ⟨g4, 3, none⟩ = some (.int .i64 x.r) ∧
    w'.cell? ⟨g9, 0, none⟩ = some (.int .i64 d) ∧ w'.cell? ⟨g9, 1, none⟩ = some (.bool b) ∧ w'.cell? ⟨g5, j, none⟩ = some (.int .i64 c) ∧ RunsSt w w' p g4 g5 k x cs
theorem RunsH.fresh {w w' w'' : World} {p g4 g5 g9 k j : Nat} {x : RS} {cs : List Int} {c d : Int} {b : Bool} (h : RunsH w p g4 g5 g9 k j x cs c d b w') (hf : Fresh w' w'') : RunsH w p g4 g5 g9 k j x cs c d b w'' := by
  obtain ⟨h0, h1, h2, h3, h4, h5, h6, h7⟩ := h
  exact ⟨(hf.cell (cell_lt h0)).trans h0, (hf.cell (cell_lt h1)).trans h1, (hf.cell (cell_lt h2)).trans h2, (hf.cell (cell_lt h3)).trans h3, (hf.cell (cell_lt h4)).trans h4, (hf.cell (cell_lt h5)).trans h5, (hf.cell (cell_lt h6)).trans h6, h7.fresh hf⟩
theorem RunsH.st {w w' : World} {p g4 g5 g9 k j : Nat} {x : RS} {cs : List Int} {c d : Int} {b : Bool} (h : RunsH w p g4 g5 g9 k j x cs c d b w') : RunsSt w w' p g4 g5 k x cs := h.2.2.2.2.2.2.2
theorem RunsSt.held {w wr : World} {p g4 g5 k : Nat} {x : RS} {cs : List Int} (h : RunsSt w wr p g4 g5 k x cs) (j : Nat) (hj : j < 9) (g9 : Nat) (c d : Int) (b : Bool) (hc : cs.getD j 0 = c) (h0 : wr.cell? ⟨g9, 0, none⟩ = some (.int .i64 d)) (h1 : wr.cell? ⟨g9, 1, none⟩ = some (.bool b)) :
    RunsH w p g4 g5 g9 k j x cs c d b wr := by
  obtain ⟨c0, c1, c2, c3⟩ := h.ref.c4
  subst hc
  exact ⟨c0, c1, c2, c3, h0, h1, (h.cells j hj).1, h⟩
/-- A step that is all right. -/
theorem RunsSt.good {w wr w3 w4 : World} {p g4 g5 k : Nat} {x y : RS} {cs : List Int} (h : RunsSt w wr p g4 g5 k x cs) (j : Nat) (hj : j < 9) (c : Int) (hc : cs.getD j 0 = c) (hy : y ∈ rsL) (hr : RunAt w3 p y.N (cs.set j (c + 1))) (ho : Only (· = p) wr w3) (hf : Fresh w3 w4) :
    RunsSt w (((((w4.setCell ⟨g4, 0, none⟩ (.int .i64 y.b)).setCell ⟨g4, 1, none⟩ (.int .i64 y.w)).setCell ⟨g4, 2, none⟩ (.int .i64 y.t)).setCell ⟨g4, 3, none⟩ (.int .i64 y.r)).setCell ⟨g5, j, none⟩ (.int .i64 (c + 1))) p g4 g5 (k + 1) y (cs.set j (c + 1)) := by
  have n4 := h.n4
  have n5 := h.n5
  have n45 := h.n45
  have hO : Only (· = p) w (((((w4.setCell ⟨g4, 0, none⟩ (.int .i64 y.b)).setCell ⟨g4, 1, none⟩ (.int .i64 y.w)).setCell ⟨g4, 2, none⟩ (.int .i64 y.t)).setCell ⟨g4, 3, none⟩ (.int .i64 y.r)).setCell ⟨g5, j, none⟩ (.int .i64 (c + 1))) :=
    (((((h.fr.trans ho).freshS hf).step _ _ (.inr h.b4)).step _ _ (.inr h.b4)).step _ _ (.inr h.b4)).step _ _ (.inr h.b4) |>.step _ _ (.inr h.b5)
  refine ⟨(((((hr.fresh hf).far _ _ (fun e => n4 e.symm)).far _ _ (fun e => n4 e.symm)).far _ _ (fun e => n4 e.symm)).far _ _ (fun e => n4 e.symm)).far _ _ (fun e => n5 e.symm), ?_, ?_, hy, ?_, hO, n4, n5, h.b4, h.b5, n45⟩
  · have h1 := (((((h.ref.only ho n4).fresh hf).set 0 (.int .i64 y.b)).set 1 (.int .i64 y.w)).set 2 (.int .i64 y.t)).set 3 (.int .i64 y.r)
    have h2 := h1.far (p := ⟨g5, j, none⟩) n45 (.int .i64 (c + 1))
    simpa using h2
  · have h1 := ((((h.cnt.only ho n5).fresh hf).far (p := ⟨g4, 0, none⟩) (fun e => n45 e.symm) (.int .i64 y.b)).far (p := ⟨g4, 1, none⟩) (fun e => n45 e.symm) (.int .i64 y.w)).far (p := ⟨g4, 2, none⟩) (fun e => n45 e.symm) (.int .i64 y.t) |>.far (p := ⟨g4, 3, none⟩) (fun e => n45 e.symm) (.int .i64 y.r)
    have h2 := h1.set j (.int .i64 (c + 1))
    simpa [List.map_set] using h2
  · intro z hz
    have hcb : c ≤ (k : Int) := by
      rw [← hc, List.getD_eq_getElem?_getD, List.getElem?_eq_getElem (show j < cs.length by rw [h.run.len]; exact hj)]
      exact h.bd _ (List.getElem_mem _)
    rcases List.mem_or_eq_of_mem_set hz with h' | rfl
    · have := h.bd z h'; omega
    · omega

/-- A step that is not. -/
theorem RunsSt.bad {w wr w3 w4 : World} {p g4 g5 k : Nat} {x y : RS} {cs : List Int} (h : RunsSt w wr p g4 g5 k x cs) (hy : y ∈ rsL) (hr : RunAt w3 p y.N cs) (ho : Only (· = p) wr w3) (hf : Fresh w3 w4) :
    RunsSt w ((((w4.setCell ⟨g4, 0, none⟩ (.int .i64 y.b)).setCell ⟨g4, 1, none⟩ (.int .i64 y.w)).setCell ⟨g4, 2, none⟩ (.int .i64 y.t)).setCell ⟨g4, 3, none⟩ (.int .i64 y.r)) p g4 g5 (k + 1) y cs := by
  have n4 := h.n4
  have n5 := h.n5
  have n45 := h.n45
  have hO : Only (· = p) w ((((w4.setCell ⟨g4, 0, none⟩ (.int .i64 y.b)).setCell ⟨g4, 1, none⟩ (.int .i64 y.w)).setCell ⟨g4, 2, none⟩ (.int .i64 y.t)).setCell ⟨g4, 3, none⟩ (.int .i64 y.r)) :=
    (((((h.fr.trans ho).freshS hf).step _ _ (.inr h.b4)).step _ _ (.inr h.b4)).step _ _ (.inr h.b4)).step _ _ (.inr h.b4)
  refine ⟨((((hr.fresh hf).far _ _ (fun e => n4 e.symm)).far _ _ (fun e => n4 e.symm)).far _ _ (fun e => n4 e.symm)).far _ _ (fun e => n4 e.symm), ?_, ?_, hy, fun c hc => by have := h.bd c hc; omega, hO, n4, n5, h.b4, h.b5, n45⟩
  · have h1 := (((((h.ref.only ho n4).fresh hf).set 0 (.int .i64 y.b)).set 1 (.int .i64 y.w)).set 2 (.int .i64 y.t)).set 3 (.int .i64 y.r)
    simpa using h1
  · exact ((((h.cnt.only ho n5).fresh hf).far (p := ⟨g4, 0, none⟩) (fun e => n45 e.symm) (.int .i64 y.b)).far (p := ⟨g4, 1, none⟩) (fun e => n45 e.symm) (.int .i64 y.w)).far (p := ⟨g4, 2, none⟩) (fun e => n45 e.symm) (.int .i64 y.t) |>.far (p := ⟨g4, 3, none⟩) (fun e => n45 e.symm) (.int .i64 y.r)
theorem four_blk {w4 : World} {g4 g9 : Nat} {t : TypeId} {cs : Array Value} (h : Blk w4 g9 t cs) (n4 : g9 ≠ g4) (v0 v1 v2 v3 : Value) :
    Blk ((((w4.setCell ⟨g4, 0, none⟩ v0).setCell ⟨g4, 1, none⟩ v1).setCell ⟨g4, 2, none⟩ v2).setCell ⟨g4, 3, none⟩ v3) g9 t cs :=
  (((h.far (p := ⟨g4, 0, none⟩) n4 v0).far (p := ⟨g4, 1, none⟩) n4 v1).far (p := ⟨g4, 2, none⟩) n4 v2).far (p := ⟨g4, 3, none⟩) n4 v3

set_option maxRecDepth 100000 in
set_option maxHeartbeats 12800000 in
theorem StateRuns_any (s : IntsV) (w : World) (hs : s.Ok w) (hT : Tbl w) :
    Calls Tryd.prog 4 #[.slice s.A s.zs.length s.c] w fun en w' => en = .returned (.bool true) ∧ Below w.heap.size w w' := by
  obtain ⟨A, c, zs⟩ := s
  have hTT := Lib.hid hT
  have hlc := hs.le
  have hm := hs.max
  have HROW := Lib.hid hs.rows
  have hg0 := hT.lt
  clear hT hs
  simp only at hlc hm HROW ⊢
  unfold maxLen at hm
  by_cases h200 : 200 < zs.length
  · have h200' : (200 : Int) < (zs.length : Int) := by omega
    go_enter Tryd.func4, Tryd.ntmps4
    go_wp2_with fail
    with_reducible refine (run_new _).mono ?_
    rintro en w1 ⟨p, rfl, hp, hr, hf⟩
    have HF := Lib.hid hf
    have HT := Lib.hid (hTT.out.fresh hf)
    clear hr hf hTT
    go_wp2_with fail
    with_reducible refine (state_awake _ HT.out).mono ?_
    rintro en w2 ⟨rfl, hf2⟩
    have HF2 := Lib.hid (HF.out.trans hf2)
    clear hf2
    go_wp2
    go_ret
    exact ⟨rfl, HF2.out⟩
  · have h200' : ¬ (200 : Int) < (zs.length : Int) := by omega
    go_enter Tryd.func4, Tryd.ntmps4
    go_wp2_with fail
    with_reducible refine (run_new _).mono ?_
    rintro en w1 ⟨p, rfl, hp, hr, hf⟩
    have HF := Lib.hid hf
    have HR := Lib.hid hr
    have HT := Lib.hid (hTT.out.fresh hf)
    have hpg : p ≠ 0 := by omega
    have HP : Hid (w.heap.size ≤ p ∧ p < w1.heap.size) := Lib.hid ⟨hp, hr.blk.lt⟩
    clear hr hf hTT hp hg0
    go_wp2_with fail
    with_reducible refine (ref_newV _).mono ?_
    rintro en w2 ⟨rfl, hf2⟩
    have HF2 := Lib.hid (HF.out.trans hf2)
    have HR2 := Lib.hid (HR.out.fresh hf2)
    have HT2 := Lib.hid (HT.out.fresh hf2)
    have HP2 : Hid (p < w2.heap.size) := Lib.hid (by have := hf2.size; have := HP.out; omega)
    clear hf2
    have hne : (w2.heap.size == w2.heap.size + 1) = false := by simp
    go_wp2
    go_loopw [27] (fun i wr => ∃ (k : Nat) (x : RS) (cs : List Int), k ≤ zs.length ∧ i = .int .i64 (k : Int) ∧ RunsSt w2 wr p w2.heap.size (w2.heap.size + 1) k x cs) (fun i _ => zs.length - (intOf i).toNat)
    case atStart =>
      exact ⟨0, ⟨0, 1, 1, 0⟩, [0, 0, 0, 0, 0, 0, 0, 0, 0], Nat.zero_le _, rfl, ⟨(HR2.out.fresh (Fresh.alloc _ _)).fresh (Fresh.alloc _ _), (Blk.new _ _ _).fresh (Fresh.alloc _ _), by have := Blk.new (w2.alloc (.cells #[.int .i64 0, .int .i64 1, .int .i64 1, .int .i64 0] 34)) 44 #[.int .i64 0, .int .i64 0, .int .i64 0, .int .i64 0, .int .i64 0, .int .i64 0, .int .i64 0, .int .i64 0, .int .i64 0]; simpa using this, by decide, by decide, Only.of_fresh ((Fresh.alloc _ _).allocS _), by have := HP2.out; omega, by have := HP2.out; omega, by omega, by omega, by omega⟩⟩
    case round =>
      obtain ⟨k, x, cs, hk, rfl, hst⟩ := hrel
      have HST := Lib.hid hst
      have hr := hst.run
      have HTr := Lib.hid (HT2.out.only hst.fr (fun e => hpg e.symm))
      have hszr := hst.fr.size
      clear hst hne
      by_cases hlt : k < zs.length
      · have hlt' : (k : Int) < (zs.length : Int) := by omega
        obtain ⟨e, he⟩ : ∃ e, zs[k]? = some e := ⟨_, List.getElem?_eq_getElem hlt⟩
        obtain ⟨b, o, rfl, hbw, k0⟩ := HROW.out.one k e he
        have hbp : b ≠ p := by have := HP.out; omega
        have j0 := (HST.out.fr.cell (p := ⟨b, o + k, none⟩) (by show b < w2.heap.size; have := HF2.out.size; omega) hbp).trans ((HF2.out.cell (p := ⟨b, o + k, none⟩) hbw).trans k0)
        simp only [cellI, List.getElem?_cons_zero] at j0
        clear he k0
        by_cases hin : e < 0 ∨ 8 < e
        · obtain ⟨q1, q2, q3, q4, q5⟩ := do_out (a := x.N) (cs := cs) hin
          have HD := Lib.hid (rdoV p x.N e cs wr _ _ _ _ _ hr HTr.out (fun c hc => by have := HST.out.bd c hc; omega) hpg q1 q2 q3 q4 q5)
          have HC : Hid (cntI cs e = 0) := Lib.hid (if_neg (by omega))
          clear q1 q2 q3 q4 q5 hr
          have key : e < 0 ∨ (0 ≤ e ∧ 8 < e) := by omega
          clear hin
          rcases key with h | ⟨h, h'⟩
          all_goals
            go_wp2_with fail
            with_reducible refine HD.out.mono ?_
            rintro en w3 ⟨rfl, hr3, ho3⟩
            have HS3 := Lib.hid (HST.out.same hr3 ho3)
            clear hr3 ho3
            go_wp2_with (first | (go_at_call 15; go_in))
            with_reducible refine (run_countV p _ e cs _ 0 (by first | exact HS3.out.run.fresh ((Fresh.alloc _ _).allocS _) | exact HS3.out.run.fresh (Fresh.alloc _ _)) HC.out).mono ?_
            rintro en w4 ⟨rfl, rfl⟩
            go_wp2
            go_roundw
            case rel => exact ⟨k + 1, x, cs, by omega, by go_num, (HS3.out.next.fresh (Fresh.alloc _ _)).fresh (Fresh.alloc _ _)⟩
            case measure => simp [intOf]; omega
        · obtain ⟨j, rfl⟩ : ∃ j : Nat, e = (j : Int) := ⟨e.toNat, by omega⟩
          have hj8 : j ≤ 8 := by omega
          obtain ⟨fA, fits⟩ := runs_fits x HST.out.mem ⟨j, by omega⟩
          have hxm : refX x j ∈ rsL := rs_closed x HST.out.mem ⟨j, by omega⟩
          have HXM := Lib.hid hxm
          have h0j : ¬ (j : Int) < 0 := by omega
          have h8j : ¬ 8 < (j : Int) := by omega
          simp only at fA fits
          clear hin hxm
          rcases fits with ⟨f1, f2, f3, f4, f5⟩ | ⟨f1, f2, f3, f4, f5⟩ | ⟨f1, f2, f3, f4, f5⟩ | ⟨f1, f2, f3, f4, f5⟩
          · have hL : doL x.N (j : Int) cs = cs.set j (cs.getD j 0 + 1) := by unfold doL; rw [if_pos f5, Int.toNat_natCast]
            have HD := Lib.hid (rdoV p x.N j cs wr _ _ _ _ _ hr HTr.out (fun c hc => by have := HST.out.bd c hc; omega) hpg f2 f3 f4 fA hL)
            have HW := Lib.hid f1
            clear f1 f2 f3 f4 f5 fA hL hr
            go_wp2_with fail
            with_reducible refine HD.out.mono ?_
            rintro en w3 ⟨rfl, hr3, ho3⟩
            have HR3 := Lib.hid hr3
            have HO3 := Lib.hid ho3
            have HB3 := Lib.hid (HST.out.ref.only ho3 HST.out.n4)
            have HC3 := Lib.hid (HST.out.cnt.only ho3 HST.out.n5)
            clear hr3 ho3
            obtain ⟨r0, r1, r2, r3⟩ := HB3.out.c4
            have hz3 : w2.heap.size < w3.heap.size := HB3.out.lt
            go_wp2_with fail
            with_reducible refine (ref_doV x j _ HST.out.mem (by omega) (by omega) 0 HW.out).mono ?_
            rintro en w4 ⟨rfl, hf4⟩
            have HF4 := Lib.hid ((Fresh.alloc _ _).trans hf4)
            have hz4 : w3.heap.size < w4.heap.size := ((Blk.new w3 28 _).fresh hf4).lt
            have HD4 := Lib.hid ((Blk.new w3 28 #[.int .i64 0, .bool false]).fresh hf4)
            obtain ⟨z0, z1, z2, z3⟩ := (HB3.out.fresh HF4.out).z4
            obtain ⟨s0, s1, s2, s3⟩ := (HB3.out.fresh HF4.out).c4
            obtain ⟨u0, u1, u2⟩ := HST.out.cells j (by omega)
            have u3 : w4.cell? ⟨w2.heap.size + 1, j, none⟩ = some (.int .i64 (cs.getD j 0)) := by
              have hlt5 := HST.out.cnt.lt
              refine (HF4.out.cell (p := ⟨_, _, none⟩) HC3.out.lt).trans ?_
              rw [HC3.out.cell, ← HST.out.cnt.cell]
              exact u0
            have u4 := (HC3.out.fresh HF4.out).frozen j
            clear hf4 r0 r1 r2 r3 u0 u1
            obtain ⟨cc, hcc⟩ : ∃ cc, cs.getD j 0 = cc := ⟨_, rfl⟩
            rw [hcc] at u3 HR3
            have hcb : 0 ≤ cc ∧ cc ≤ 1000000000000 := by
              rw [← hcc, List.getD_eq_getElem?_getD, List.getElem?_eq_getElem (show j < cs.length by rw [u2]; omega)]
              exact HST.out.run.bd _ (List.getElem_mem _)
            have HS5 := Lib.hid (HST.out.good j (by omega) cc hcc HXM.out HR3.out HO3.out HF4.out)
            have hgs : (cs.set j (cc + 1)).getD j 0 = cc + 1 := by simp [List.getD, show j < cs.length by omega]
            have HK := Lib.hid (HS5.out.held j (by omega) w3.heap.size (cc + 1) 0 false hgs (five_blk HD4.out (by omega) (by have := HST.out.cnt.lt; have := HO3.out.size; omega) _ _ _ _ _).c2.1 (five_blk HD4.out (by omega) (by have := HST.out.cnt.lt; have := HO3.out.size; omega) _ _ _ _ _).c2.2)
            have HC5 : Hid (cntI (cs.set j (cc + 1)) (j : Int) = cc + 1) := Lib.hid (by unfold cntI; rw [if_pos (by omega), Int.toNat_natCast]; exact hgs)
            have hw1 : IntKind.i64.wrap (cc + 1) = cc + 1 := IntWalk.i64_in _ (by omega)
            obtain ⟨hc0, hc1⟩ := hcb
            clear hcc hgs u2
            generalize hnn : (refX x (j : Int)).N = nn at *
            have HNN := Lib.hid hnn
            clear hnn
            go_wp2_with fail
            refine wp_gen (fun W => RunsH w2 p w2.heap.size (w2.heap.size + 1) w3.heap.size (k + 1) j (refX x (j : Int)) (cs.set j (cc + 1)) (cc + 1) 0 false W) HK.out ?_
            intro w5 hk5
            have HKd := Lib.hid (hk5.fresh (Fresh.drew _))
            clear HK HS5 hk5 HD4 HF4 HB3 HC3 HO3 HR3 s0 s1 s2 s3 z0 z1 z2 z3 u3 u4 hz3 hz4
            have hq1 : (nn != nn) = false := by simp
            have hq3 : (0 : Int) ≤ (j : Int) := by omega
            have hq4 : (j : Int) < 9 := by omega
            have hq5 : (j : Int) ≤ 8 := by omega
            have hq2 : ((cc + 1) != (cc + 1)) = false := by simp
            first
            | (go_region_held3 (fun w' => w'.cell? ⟨w2.heap.size, 0, none⟩ = some (.int .i64 (refX x (j : Int)).b) ∧ w'.cell? ⟨w2.heap.size, 1, none⟩ = some (.int .i64 (refX x (j : Int)).w) ∧ w'.cell? ⟨w2.heap.size, 2, none⟩ = some (.int .i64 (refX x (j : Int)).t) ∧ w'.cell? ⟨w2.heap.size, 3, none⟩ = some (.int .i64 (refX x (j : Int)).r) ∧
                w'.cell? ⟨w3.heap.size, 0, none⟩ = some (.int .i64 0) ∧ w'.cell? ⟨w3.heap.size, 1, none⟩ = some (.bool false) ∧ w'.cell? ⟨w2.heap.size + 1, j, none⟩ = some (.int .i64 (cc + 1)) ∧ RunsSt w2 w' p w2.heap.size (w2.heap.size + 1) (k + 1) (refX x (j : Int)) (cs.set j (cc + 1)))
              (first | assumption | exact HKd.out | exact RunsH.fresh (by assumption) hfk)
              (first
                | (go_at_call 20; have hh := RunsH.st (by assumption : RunsH w2 p w2.heap.size (w2.heap.size + 1) w3.heap.size (k + 1) j (refX x (j : Int)) (cs.set j (cc + 1)) (cc + 1) 0 false _); with_reducible refine (run_atV p _ _ _ _ hh.run HNN.out).mono ?_; rintro en w6 ⟨rfl, rfl⟩)
                | (go_at_call 13; with_reducible refine (ref_numV2 _ _ _ HXM.out HNN.out).mono ?_; rintro en w6 ⟨rfl, hfk⟩)
                | (go_at_call 15; with_reducible refine (fok _ _ _).mono ?_; rintro en w6 ⟨rfl, hfk⟩)
                | (go_at_call 19; have hh := RunsH.st (by assumption : RunsH w2 p w2.heap.size (w2.heap.size + 1) w3.heap.size (k + 1) j (refX x (j : Int)) (cs.set j (cc + 1)) (cc + 1) 0 false _); with_reducible refine (run_countV p _ _ _ _ _ hh.run HC5.out).mono ?_; rintro en w6 ⟨rfl, rfl⟩)))
            | fail
            have HE := Lib.hid (RunsH.st (by assumption : RunsH w2 p w2.heap.size (w2.heap.size + 1) w3.heap.size (k + 1) j (refX x (j : Int)) (cs.set j (cc + 1)) (cc + 1) 0 false _))
            go_wp2
            go_roundw
            case rel => exact ⟨k + 1, refX x j, cs.set j (cc + 1), by omega, by go_num, HE.out⟩
            case measure => simp [intOf]; omega
          · have HW := Lib.hid f1
            have hL : doL x.N (j : Int) cs = cs := by unfold doL; rw [if_neg (by rw [f5]; simp)]
            have HD := Lib.hid (rdoV p x.N j cs wr _ _ _ _ _ hr HTr.out (fun c hc => by have := HST.out.bd c hc; omega) hpg f2 f3 f4 fA hL)
            clear f1 f2 f3 f4 f5 fA hL hr
            go_wp2_with fail
            with_reducible refine HD.out.mono ?_
            rintro en w3 ⟨rfl, hr3, ho3⟩
            have HR3 := Lib.hid hr3
            have HO3 := Lib.hid ho3
            have HB3 := Lib.hid (HST.out.ref.only ho3 HST.out.n4)
            clear hr3 ho3
            obtain ⟨r0, r1, r2, r3⟩ := HB3.out.c4
            have hz3 : w2.heap.size < w3.heap.size := HB3.out.lt
            go_wp2_with fail
            with_reducible refine (ref_doV x j _ HST.out.mem (by omega) (by omega) 1 HW.out).mono ?_
            rintro en w4 ⟨rfl, hf4⟩
            have HF4 := Lib.hid ((Fresh.alloc _ _).trans hf4)
            have hz4 : w3.heap.size < w4.heap.size := ((Blk.new w3 28 _).fresh hf4).lt
            have HD4 := Lib.hid ((Blk.new w3 28 #[.int .i64 0, .bool false]).fresh hf4)
            obtain ⟨z0, z1, z2, z3⟩ := (HB3.out.fresh HF4.out).z4
            obtain ⟨s0, s1, s2, s3⟩ := (HB3.out.fresh HF4.out).c4
            clear hf4 r0 r1 r2 r3
            obtain ⟨cc, hcc⟩ : ∃ cc, cs.getD j 0 = cc := ⟨_, rfl⟩
            have HS5 := Lib.hid (HST.out.bad HXM.out HR3.out HO3.out HF4.out)
            have HK := Lib.hid (HS5.out.held j (by omega) w3.heap.size cc 0 false hcc (four_blk HD4.out (by omega) _ _ _ _).c2.1 (four_blk HD4.out (by omega) _ _ _ _).c2.2)
            have HC5 : Hid (cntI cs (j : Int) = cc) := Lib.hid (by unfold cntI; rw [if_pos (by omega), Int.toNat_natCast]; exact hcc)
            clear hcc
            generalize hnn : (refX x (j : Int)).N = nn at *
            have HNN := Lib.hid hnn
            clear hnn
            go_wp2_with fail
            refine wp_gen (fun W => RunsH w2 p w2.heap.size (w2.heap.size + 1) w3.heap.size (k + 1) j (refX x (j : Int)) cs cc 0 false W) HK.out ?_
            intro w5 hk5
            have HKd := Lib.hid (hk5.fresh (Fresh.drew _))
            clear HK HS5 hk5 HD4 HF4 HB3 HO3 HR3 s0 s1 s2 s3 z0 z1 z2 z3 hz3 hz4
            have hq1 : (nn != nn) = false := by simp
            have hq3 : (0 : Int) ≤ (j : Int) := by omega
            have hq4 : (j : Int) < 9 := by omega
            have hq5 : (j : Int) ≤ 8 := by omega
            have hq2 : (cc != cc) = false := by simp
            first
            | (go_region_held3 (fun w' => w'.cell? ⟨w2.heap.size, 0, none⟩ = some (.int .i64 (refX x (j : Int)).b) ∧ w'.cell? ⟨w2.heap.size, 1, none⟩ = some (.int .i64 (refX x (j : Int)).w) ∧ w'.cell? ⟨w2.heap.size, 2, none⟩ = some (.int .i64 (refX x (j : Int)).t) ∧ w'.cell? ⟨w2.heap.size, 3, none⟩ = some (.int .i64 (refX x (j : Int)).r) ∧
                w'.cell? ⟨w3.heap.size, 0, none⟩ = some (.int .i64 0) ∧ w'.cell? ⟨w3.heap.size, 1, none⟩ = some (.bool false) ∧ w'.cell? ⟨w2.heap.size + 1, j, none⟩ = some (.int .i64 cc) ∧ RunsSt w2 w' p w2.heap.size (w2.heap.size + 1) (k + 1) (refX x (j : Int)) cs)
              (first | assumption | exact HKd.out | exact RunsH.fresh (by assumption) hfk)
              (first
                | (go_at_call 20; have hh := RunsH.st (by assumption : RunsH w2 p w2.heap.size (w2.heap.size + 1) w3.heap.size (k + 1) j (refX x (j : Int)) cs cc 0 false _); with_reducible refine (run_atV p _ _ _ _ hh.run HNN.out).mono ?_; rintro en w6 ⟨rfl, rfl⟩)
                | (go_at_call 13; with_reducible refine (ref_numV2 _ _ _ HXM.out HNN.out).mono ?_; rintro en w6 ⟨rfl, hfk⟩)
                | (go_at_call 15; with_reducible refine (fok _ _ _).mono ?_; rintro en w6 ⟨rfl, hfk⟩)
                | (go_at_call 19; have hh := RunsH.st (by assumption : RunsH w2 p w2.heap.size (w2.heap.size + 1) w3.heap.size (k + 1) j (refX x (j : Int)) cs cc 0 false _); with_reducible refine (run_countV p _ _ _ _ _ hh.run HC5.out).mono ?_; rintro en w6 ⟨rfl, rfl⟩)))
            | fail
            have HE := Lib.hid (RunsH.st (by assumption : RunsH w2 p w2.heap.size (w2.heap.size + 1) w3.heap.size (k + 1) j (refX x (j : Int)) cs cc 0 false _))
            go_wp2
            go_roundw
            case rel => exact ⟨k + 1, refX x j, cs, by omega, by go_num, HE.out⟩
            case measure => simp [intOf]; omega
          · have HW := Lib.hid f1
            have hL : doL x.N (j : Int) cs = cs := by unfold doL; rw [if_neg (by rw [f5]; simp)]
            have HD := Lib.hid (rdoV p x.N j cs wr _ _ _ _ _ hr HTr.out (fun c hc => by have := HST.out.bd c hc; omega) hpg f2 f3 f4 fA hL)
            clear f1 f2 f3 f4 f5 fA hL hr
            go_wp2_with fail
            with_reducible refine HD.out.mono ?_
            rintro en w3 ⟨rfl, hr3, ho3⟩
            have HR3 := Lib.hid hr3
            have HO3 := Lib.hid ho3
            have HB3 := Lib.hid (HST.out.ref.only ho3 HST.out.n4)
            clear hr3 ho3
            obtain ⟨r0, r1, r2, r3⟩ := HB3.out.c4
            have hz3 : w2.heap.size < w3.heap.size := HB3.out.lt
            go_wp2_with fail
            with_reducible refine (ref_doV x j _ HST.out.mem (by omega) (by omega) 2 HW.out).mono ?_
            rintro en w4 ⟨rfl, hf4⟩
            have HF4 := Lib.hid ((Fresh.alloc _ _).trans hf4)
            have hz4 : w3.heap.size < w4.heap.size := ((Blk.new w3 28 _).fresh hf4).lt
            have HD4 := Lib.hid ((Blk.new w3 28 #[.int .i64 101, .bool true]).fresh hf4)
            obtain ⟨z0, z1, z2, z3⟩ := (HB3.out.fresh HF4.out).z4
            obtain ⟨s0, s1, s2, s3⟩ := (HB3.out.fresh HF4.out).c4
            clear hf4 r0 r1 r2 r3
            obtain ⟨cc, hcc⟩ : ∃ cc, cs.getD j 0 = cc := ⟨_, rfl⟩
            have HS5 := Lib.hid (HST.out.bad HXM.out HR3.out HO3.out HF4.out)
            have HK := Lib.hid (HS5.out.held j (by omega) w3.heap.size cc 101 true hcc (four_blk HD4.out (by omega) _ _ _ _).c2.1 (four_blk HD4.out (by omega) _ _ _ _).c2.2)
            have HC5 : Hid (cntI cs (j : Int) = cc) := Lib.hid (by unfold cntI; rw [if_pos (by omega), Int.toNat_natCast]; exact hcc)
            clear hcc
            generalize hnn : (refX x (j : Int)).N = nn at *
            have HNN := Lib.hid hnn
            clear hnn
            go_wp2_with fail
            refine wp_gen (fun W => RunsH w2 p w2.heap.size (w2.heap.size + 1) w3.heap.size (k + 1) j (refX x (j : Int)) cs cc 101 true W) HK.out ?_
            intro w5 hk5
            have HKd := Lib.hid (hk5.fresh (Fresh.drew _))
            clear HK HS5 hk5 HD4 HF4 HB3 HO3 HR3 s0 s1 s2 s3 z0 z1 z2 z3 hz3 hz4
            have hq1 : (nn != nn) = false := by simp
            have hq3 : (0 : Int) ≤ (j : Int) := by omega
            have hq4 : (j : Int) < 9 := by omega
            have hq5 : (j : Int) ≤ 8 := by omega
            have hq2 : (cc != cc) = false := by simp
            first
            | (go_region_held3 (fun w' => w'.cell? ⟨w2.heap.size, 0, none⟩ = some (.int .i64 (refX x (j : Int)).b) ∧ w'.cell? ⟨w2.heap.size, 1, none⟩ = some (.int .i64 (refX x (j : Int)).w) ∧ w'.cell? ⟨w2.heap.size, 2, none⟩ = some (.int .i64 (refX x (j : Int)).t) ∧ w'.cell? ⟨w2.heap.size, 3, none⟩ = some (.int .i64 (refX x (j : Int)).r) ∧
                w'.cell? ⟨w3.heap.size, 0, none⟩ = some (.int .i64 101) ∧ w'.cell? ⟨w3.heap.size, 1, none⟩ = some (.bool true) ∧ w'.cell? ⟨w2.heap.size + 1, j, none⟩ = some (.int .i64 cc) ∧ RunsSt w2 w' p w2.heap.size (w2.heap.size + 1) (k + 1) (refX x (j : Int)) cs)
              (first | assumption | exact HKd.out | exact RunsH.fresh (by assumption) hfk)
              (first
                | (go_at_call 20; have hh := RunsH.st (by assumption : RunsH w2 p w2.heap.size (w2.heap.size + 1) w3.heap.size (k + 1) j (refX x (j : Int)) cs cc 101 true _); with_reducible refine (run_atV p _ _ _ _ hh.run HNN.out).mono ?_; rintro en w6 ⟨rfl, rfl⟩)
                | (go_at_call 13; with_reducible refine (ref_numV2 _ _ _ HXM.out HNN.out).mono ?_; rintro en w6 ⟨rfl, hfk⟩)
                | (go_at_call 15; with_reducible refine (fok _ _ _).mono ?_; rintro en w6 ⟨rfl, hfk⟩)
                | (go_at_call 19; have hh := RunsH.st (by assumption : RunsH w2 p w2.heap.size (w2.heap.size + 1) w3.heap.size (k + 1) j (refX x (j : Int)) cs cc 101 true _); with_reducible refine (run_countV p _ _ _ _ _ hh.run HC5.out).mono ?_; rintro en w6 ⟨rfl, rfl⟩)))
            | fail
            have HE := Lib.hid (RunsH.st (by assumption : RunsH w2 p w2.heap.size (w2.heap.size + 1) w3.heap.size (k + 1) j (refX x (j : Int)) cs cc 101 true _))
            go_wp2
            go_roundw
            case rel => exact ⟨k + 1, refX x j, cs, by omega, by go_num, HE.out⟩
            case measure => simp [intOf]; omega
          · have HW := Lib.hid f1
            have hL : doL x.N (j : Int) cs = cs := by unfold doL; rw [if_neg (by rw [f5]; simp)]
            have HD := Lib.hid (rdoV p x.N j cs wr _ _ _ _ _ hr HTr.out (fun c hc => by have := HST.out.bd c hc; omega) hpg f2 f3 f4 fA hL)
            clear f1 f2 f3 f4 f5 fA hL hr
            go_wp2_with fail
            with_reducible refine HD.out.mono ?_
            rintro en w3 ⟨rfl, hr3, ho3⟩
            have HR3 := Lib.hid hr3
            have HO3 := Lib.hid ho3
            have HB3 := Lib.hid (HST.out.ref.only ho3 HST.out.n4)
            clear hr3 ho3
            obtain ⟨r0, r1, r2, r3⟩ := HB3.out.c4
            have hz3 : w2.heap.size < w3.heap.size := HB3.out.lt
            go_wp2_with fail
            with_reducible refine (ref_doV x j _ HST.out.mem (by omega) (by omega) 3 HW.out).mono ?_
            rintro en w4 ⟨rfl, hf4⟩
            have HF4 := Lib.hid ((Fresh.alloc _ _).trans hf4)
            have hz4 : w3.heap.size < w4.heap.size := ((Blk.new w3 28 _).fresh hf4).lt
            have HD4 := Lib.hid ((Blk.new w3 28 #[.int .i64 105, .bool false]).fresh hf4)
            obtain ⟨z0, z1, z2, z3⟩ := (HB3.out.fresh HF4.out).z4
            obtain ⟨s0, s1, s2, s3⟩ := (HB3.out.fresh HF4.out).c4
            clear hf4 r0 r1 r2 r3
            obtain ⟨cc, hcc⟩ : ∃ cc, cs.getD j 0 = cc := ⟨_, rfl⟩
            have HS5 := Lib.hid (HST.out.bad HXM.out HR3.out HO3.out HF4.out)
            have HK := Lib.hid (HS5.out.held j (by omega) w3.heap.size cc 105 false hcc (four_blk HD4.out (by omega) _ _ _ _).c2.1 (four_blk HD4.out (by omega) _ _ _ _).c2.2)
            have HC5 : Hid (cntI cs (j : Int) = cc) := Lib.hid (by unfold cntI; rw [if_pos (by omega), Int.toNat_natCast]; exact hcc)
            clear hcc
            generalize hnn : (refX x (j : Int)).N = nn at *
            have HNN := Lib.hid hnn
            clear hnn
            go_wp2_with fail
            refine wp_gen (fun W => RunsH w2 p w2.heap.size (w2.heap.size + 1) w3.heap.size (k + 1) j (refX x (j : Int)) cs cc 105 false W) HK.out ?_
            intro w5 hk5
            have HKd := Lib.hid (hk5.fresh (Fresh.drew _))
            clear HK HS5 hk5 HD4 HF4 HB3 HO3 HR3 s0 s1 s2 s3 z0 z1 z2 z3 hz3 hz4
            have hq1 : (nn != nn) = false := by simp
            have hq3 : (0 : Int) ≤ (j : Int) := by omega
            have hq4 : (j : Int) < 9 := by omega
            have hq5 : (j : Int) ≤ 8 := by omega
            have hq2 : (cc != cc) = false := by simp
            first
            | (go_region_held3 (fun w' => w'.cell? ⟨w2.heap.size, 0, none⟩ = some (.int .i64 (refX x (j : Int)).b) ∧ w'.cell? ⟨w2.heap.size, 1, none⟩ = some (.int .i64 (refX x (j : Int)).w) ∧ w'.cell? ⟨w2.heap.size, 2, none⟩ = some (.int .i64 (refX x (j : Int)).t) ∧ w'.cell? ⟨w2.heap.size, 3, none⟩ = some (.int .i64 (refX x (j : Int)).r) ∧
                w'.cell? ⟨w3.heap.size, 0, none⟩ = some (.int .i64 105) ∧ w'.cell? ⟨w3.heap.size, 1, none⟩ = some (.bool false) ∧ w'.cell? ⟨w2.heap.size + 1, j, none⟩ = some (.int .i64 cc) ∧ RunsSt w2 w' p w2.heap.size (w2.heap.size + 1) (k + 1) (refX x (j : Int)) cs)
              (first | assumption | exact HKd.out | exact RunsH.fresh (by assumption) hfk)
              (first
                | (go_at_call 20; have hh := RunsH.st (by assumption : RunsH w2 p w2.heap.size (w2.heap.size + 1) w3.heap.size (k + 1) j (refX x (j : Int)) cs cc 105 false _); with_reducible refine (run_atV p _ _ _ _ hh.run HNN.out).mono ?_; rintro en w6 ⟨rfl, rfl⟩)
                | (go_at_call 13; with_reducible refine (ref_numV2 _ _ _ HXM.out HNN.out).mono ?_; rintro en w6 ⟨rfl, hfk⟩)
                | (go_at_call 15; with_reducible refine (fok _ _ _).mono ?_; rintro en w6 ⟨rfl, hfk⟩)
                | (go_at_call 19; have hh := RunsH.st (by assumption : RunsH w2 p w2.heap.size (w2.heap.size + 1) w3.heap.size (k + 1) j (refX x (j : Int)) cs cc 105 false _); with_reducible refine (run_countV p _ _ _ _ _ hh.run HC5.out).mono ?_; rintro en w6 ⟨rfl, rfl⟩)))
            | fail
            have HE := Lib.hid (RunsH.st (by assumption : RunsH w2 p w2.heap.size (w2.heap.size + 1) w3.heap.size (k + 1) j (refX x (j : Int)) cs cc 105 false _))
            go_wp2
            go_roundw
            case rel => exact ⟨k + 1, refX x j, cs, by omega, by go_num, HE.out⟩
            case measure => simp [intOf]; omega
      · have hlt' : ¬ (k : Int) < (zs.length : Int) := by omega
        have HFE : Hid (Fresh w wr) := Lib.hid (Below.trans HF2.out (Only.below HST.out.fr HF2.out.size (fun i e => by have := HP.out; omega)))
        clear hr
        go_wp2_with fail
        with_reducible refine (state_awake _ HTr.out).mono ?_
        rintro en w3 ⟨rfl, hf3⟩
        have HF3 := Lib.hid (HFE.out.trans hf3)
        clear hf3
        go_wp2
        go_ret
        exact ⟨rfl, HF3.out⟩
end Go.Proofs.YtdmcinndpkcjjaaDoor
