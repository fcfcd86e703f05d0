/-
  Texts laid together: Block2 Block3.
-/
import Derived.Test.YtginhebfjbhmnaaGreatBlock
import Derived.Deep.Cut
/-
  Layer 12: an item that is taken in.
-/
namespace Go.Proofs.YtginhebfjbhmnaaGreat
set_option maxRecDepth 100000
set_option linter.unusedVariables false
open Go.RowKit Go.ChangeShapes Go.WideShapes Go.Deep
theorem bs_only {w w' : World} {S : Nat → Prop} {A : Option Addr} {l : List UInt8} (h : BS w A l) (hf : Only S w w') (hs : 0 < l.length → ∀ b o, A = some ⟨b, o, none⟩ → ¬ S b) : BS w' A l := fun hn => (h.only hf (hs hn)) hn
theorem onR_part {p : Nat} {lim st : Int} {l : List UInt8} {b : Bool} {v v0 : Value} {w w' : World} (hl0 : 0 ≤ lim) (hl1 : lim ≤ 1048576) (hl : (l.length : Int) ≤ lim)
    (hb : Blk w' p 85 #[.int .i64 lim, .bool true, .int .i64 st, v, .bool b]) (ho : Own w' 0 5 1 v l.length (l.map byteV)) (hO : Only (fun k => k = p ∨ v0.ownBlock = some k) w w') (hv : ∀ k, v.ownBlock = some k → v0.ownBlock = some k ∨ w.heap.size ≤ k) :
    OnR p lim (some (st, l, b), none, false) v0 w (.returned (.tuple #[.agg #[.int .i64 0, .slice none 0 0, .bool false], .bool false, .agg #[.int .i64 0, .bool false]])) w' :=
  ⟨v, .int .i64 0, rfl, ⟨hl0, hl1, (fun e => by cases e), fun st' l' b' e => by cases e; exact ⟨hb, ho, hl⟩⟩, hO, hv, fun st' l' b' e => by cases e⟩
theorem onR_whole {p : Nat} {lim st : Int} {l : List UInt8} {b : Bool} {v v0 : Value} {w w' : World} (hl0 : 0 ≤ lim) (hl1 : lim ≤ 1048576)
    (hb : Blk w' p 85 #[.int .i64 lim, .bool false, .int .i64 0, .slice none 0 0, .bool false]) (ho : Own w' 0 5 1 v l.length (l.map byteV)) (hO : Only (fun k => k = p ∨ v0.ownBlock = some k) w w') (hv : ∀ k, v.ownBlock = some k → v0.ownBlock = some k ∨ w.heap.size ≤ k) :
    OnR p lim (none, some (st, l, b), false) v0 w (.returned (.tuple #[.agg #[.int .i64 st, v, .bool b], .bool true, .agg #[.int .i64 0, .bool false]])) w' :=
  ⟨.slice none 0 0, v, rfl, ⟨hl0, hl1, fun _ => ⟨hb, rfl⟩, fun st' l' b' e => by cases e⟩, hO, (fun k hk => by cases hk), fun st' l' b' e => by cases e; exact ⟨ho, hv⟩⟩

set_option maxRecDepth 100000 in
set_option maxHeartbeats 6400000 in
theorem on_take_new (p : Nat) (lim : Int) (v : Value) (x : ItV) (w : World) (h : AsAt w p lim none v) (hx : x.Ok w) (hty : x.ty = 1) (hl : (x.l.length : Int) ≤ lim) (hp : 0 < x.l.length → ∀ b o, x.A = some ⟨b, o, none⟩ → ¬ b = p) (r : Option Part × Option Part × Bool) (hr : r = if x.eh = true then (none, some (x.st, x.l, x.en), false) else (some (x.st, x.l, x.en), none, false)) :
    Calls Tryz.prog 41 #[.pointer (some ⟨p, 0, none⟩), .agg #[.int .i64 x.ty, .int .i64 x.st, .slice x.A x.l.length x.c, .bool x.en, .bool x.eh, .bool x.ak, .int .i64 x.fl, .int .i64 x.co, .int .i64 x.la, .int .i64 x.inc, .int .i64 x.de, .int .i64 x.we, .bool x.wd, .bool x.ex, .slice x.PA x.ps.length x.pc]] w
      (OnR p lim r v w) := by
  obtain ⟨ty, st, A, c, t, e, eh, ak, fl, co, la, inc, de, we, wd, ex, PA, pc, ps⟩ := x
  simp only at hty hl hp hr ⊢
  subst hty
  have HR := Lib.hid hr
  clear hr
  obtain ⟨hb, rfl⟩ := h.idle rfl
  obtain ⟨c0, c1, c2, c3, c4⟩ := hb.c5
  have hmax := hx.max
  have hle := hx.le
  unfold maxLen at hmax
  simp only at hmax hle
  have hplt := h.lt.1
  have hl0 := h.l0
  have hl1 := h.l1
  have HBS := Lib.hid hx.bs
  have HPA := Lib.hid hp
  clear hx h hp
  have hl' : ¬ lim < (t.length : Int) := by omega
  go_enter Tryz.func41, Tryz.ntmps41
  go_wp2
  refine wp_gen (OnW (fun _ => False) w w.heap.size ⟨1, st, A, c, t, e, eh, ak, fl, co, la, inc, de, we, wd, ex, PA, pc, ps⟩) (OnW.mk' w _) ?_
  intro W hW
  have HW := Lib.hid hW
  have x0 := hW.bx.cell 0
  have x1 := hW.bx.cell 1
  have x2 := hW.bx.cell 2
  have x3 := hW.bx.cell 3
  have x4 := hW.bx.cell 4
  simp only [ItV.cells, List.getElem?_toArray, List.getElem?_cons_zero, List.getElem?_cons_succ] at x0 x1 x2 x3 x4
  have hbW := hb.fresh hW.fresh
  have HBW := Lib.hid hbW
  obtain ⟨p0, p1, p2, p3, p4⟩ := hbW.c5
  have q0 := hbW.frozen 0
  have q1 := hbW.frozen 1
  have q2 := hbW.frozen 2
  have q3 := hbW.frozen 3
  have q4 := hbW.frozen 4
  clear hW hbW c0 c1 c2 c3 c4 hb
  go_region
  go_wp2
  have hw1 : IntKind.i64.wrap lim = lim := IntWalk.i64_in _ (by omega)
  have hw2 : IntKind.i64.wrap (lim - 0) = lim := by rw [Int.sub_zero]; exact IntWalk.i64_in _ (by omega)
  go_region
  go_wp2
  refine wp_gen (fun W3 => Blk W3 p 85 #[.int .i64 lim, .bool true, .int .i64 st, .slice none 0 0, .bool e] ∧ OnW (· = p) w w.heap.size ⟨1, st, A, c, t, e, eh, ak, fl, co, la, inc, de, we, wd, ex, PA, pc, ps⟩ W3) ?hS ?_
  case hS =>
    have h1 := (((HBW.out.set 2 (.int .i64 st)).set 3 (.slice none 0 0)).set 4 (.bool e)).set 1 (.bool true)
    refine ⟨(by simpa using h1.drew.drew), ?_⟩
    refine HW.out.only (T := (· = p)) ?_ (fun k e => by omega) (Nat.le_refl _) (fun k e => e.elim)
    exact (((((Only.setCell W ⟨p, 2, none⟩ _).trans (Only.setCell _ ⟨p, 3, none⟩ _)).trans (Only.setCell _ ⟨p, 4, none⟩ _)).trans (Only.setCell _ ⟨p, 1, none⟩ _)).drewS).drewS
  clear x0 x1 x2 x3 x4 p0 p1 p2 p3 p4 q0 q1 q2 q3 q4 hw1 hw2 HBW HW
  intro W3 ⟨hb3, hW3⟩
  have hbs3 : BS W3.drew A t := (bs_only HBS.out hW3.fr HPA.out).drew_
  have x2 := hW3.bx.cell 2
  simp only [ItV.cells, List.getElem?_toArray, List.getElem?_cons_zero, List.getElem?_cons_succ] at x2
  obtain ⟨A2, c2, w4, hap, ho4, hO4, hat⟩ := Own.moreX (P := Tryz.prog) (w := W3.drew) (X := []) Tryz.underlying28 u8_info 28 (Own.nil W3.drew 0 5 1) (Nat.zero_le _) A c t t.length t.length rfl (by omega) hbs3 (by omega)
  rw [List.nil_append] at ho4
  obtain ⟨p0, p1, p2, p3, p4⟩ := hb3.c5
  have hb4 := hb3.drew.only hO4 (fun e => by cases e)
  have k3 := hb4.cell 3
  have y3 := hb4.frozen 3
  have hs3 := hW3.b3.lt
  have HB4 := Lib.hid hb4
  have HW3 := Lib.hid hW3
  have HO4 := Lib.hid ho4
  have HOO4 := Lib.hid hO4
  have HAT : Hid (∀ k, (Value.slice A2 t.length c2).ownBlock = some k → (Value.slice none 0 0).ownBlock = some k ∨ w.heap.size ≤ k) := Lib.hid (fun k hk => by
    rcases hat with e | e
    · rw [e] at hk; exact .inl hk
    · rw [e] at hk; have h3 : W3.heap.size = k := Option.some.inj hk; have := hW3.fr.size; right; omega)
  clear hb3 hW3 hbs3 ho4 hO4 hat hb4
  go_region_law (with_reducible refine step_app rfl (.tmp 79) (.tmp 81) _ rfl hap rfl (by simp [Act.eval, Act.put]) (by simp [Act.eval, Act.put]) ?_)
  all_goals
    refine wx_gen (fun W5 => Blk W5 p 85 #[.int .i64 lim, .bool true, .int .i64 st, .slice A2 t.length c2, .bool e] ∧ OnW (· = p) w w.heap.size ⟨1, st, A, c, t, e, eh, ak, fl, co, la, inc, de, we, wd, ex, PA, pc, ps⟩ W5 ∧ Own W5 0 5 1 (.slice A2 t.length c2) t.length (t.map byteV)) ?_ ?_
    focus
      have h1 := HB4.out.set 3 (.slice A2 t.length c2)
      have hs4 : Only (· = p) W3.drew w4 := HOO4.out.mono (fun k e => by cases e)
      have hown : ∀ k, (Value.slice A2 t.length c2).ownBlock = some k → k ≠ p := fun k hk e => by
        obtain ⟨cur, hc⟩ := own_blk HO4.out hk
        subst e
        exact hc.ne HB4.out (by decide) rfl
      refine ⟨by simpa using h1, ?_, HO4.out.only (Only.setCell w4 ⟨p, 3, none⟩ _) (fun k hk e => hown k hk e)⟩
      exact HW3.out.only (T := (· = p)) ((Only.drewS (Only.refl _ _)).trans (hs4.trans (Only.setCell w4 ⟨p, 3, none⟩ _))) (fun k e => by omega) (Nat.le_refl _) (fun k e => e)
    clear x2 p0 p1 p2 p3 p4 k3 y3 HB4 HW3 HO4 HOO4 hap
    intro W5 ⟨hb5, hW5, ho5⟩
    obtain ⟨p0, p1, p2, p3, p4⟩ := hb5.c5
    have x4 := hW5.bx.cell 4
    simp only [ItV.cells, List.getElem?_toArray, List.getElem?_cons_zero, List.getElem?_cons_succ] at x4
    have q0 := hb5.frozen 0
    have q1 := hb5.frozen 1
    have q2 := hb5.frozen 2
    have q3 := hb5.frozen 3
    have q4 := hb5.frozen 4
    obtain ⟨r0, r1, r2⟩ := hW5.b1.c3
    obtain ⟨f0, f1⟩ := hW5.b2.c2
    have z0 := hW5.b1.frozen 0
    have z1 := hW5.b1.frozen 1
    have z2 := hW5.b1.frozen 2
    have y0 := hW5.b2.frozen 0
    have y1 := hW5.b2.frozen 1
    have hs5 := hW5.b3.lt
    have hpl5 := hb5.lt
    have hpn : p ≠ w.heap.size + 1 := by omega
    have hpn2 : p ≠ w.heap.size + 1 + 1 := by omega
    have hnp : w.heap.size + 1 ≠ p := by omega
    have hnp2 : w.heap.size + 1 + 1 ≠ p := by omega
    have HB5 := Lib.hid hb5
    have HW5 := Lib.hid hW5
    have HO5 := Lib.hid ho5
    clear hb5 hW5 ho5
    cases eh with
    | false =>
      have hr := HR.out
      simp only [Bool.false_eq_true, if_false] at hr
      subst hr
      go_wp2
      refine wx_gen (fun W6 => Only (fun k => k = w.heap.size + 1 ∨ k = w.heap.size + 1 + 1) W5 W6 ∧ Blk W6 (w.heap.size + 1) 83 #[.int .i64 0, .slice none 0 0, .bool false] ∧ Blk W6 (w.heap.size + 1 + 1) 32 #[.int .i64 0, .bool false]) ?_ ?_
      focus
        have n12 : w.heap.size + 1 ≠ w.heap.size + 1 + 1 := by omega
        have n21 : w.heap.size + 1 + 1 ≠ w.heap.size + 1 := by omega
        refine ⟨?_, ?_, ?_⟩
        · repeat (first | with_reducible exact Only.refl _ _ | (with_reducible refine Only.step2 ?_ ?_; focus (first | exact .inl (.inl rfl) | exact .inl (.inr rfl))))
        · have h1 := ((((HW5.out.b1.set 0 (.int .i64 0)).set 1 (.slice none 0 0)).set 2 (.bool false)).far (p := ⟨w.heap.size + 1 + 1, 0, none⟩) n12 (.int .i64 0)).far (p := ⟨w.heap.size + 1 + 1, 1, none⟩) n12 (.bool false)
          simpa using h1
        · have h1 := ((((HW5.out.b2.far (p := ⟨w.heap.size + 1, 0, none⟩) n21 (.int .i64 0)).far (p := ⟨w.heap.size + 1, 1, none⟩) n21 (.slice none 0 0)).far (p := ⟨w.heap.size + 1, 2, none⟩) n21 (.bool false)).set 0 (.int .i64 0)).set 1 (.bool false)
          simpa using h1
      clear r0 r1 r2 f0 f1 p0 p1 p2 p3 p4 q0 q1 q2 q3 q4 z0 z1 z2 y0 y1 x4
      intro W6 ⟨ho6, hb6, hf6⟩
      obtain ⟨r0, r1, r2⟩ := hb6.c3
      obtain ⟨f0, f1⟩ := hf6.c2
      refine bodyPost_ret (v := .tuple #[.agg #[.int .i64 0, .slice none 0 0, .bool false], .bool false, .agg #[.int .i64 0, .bool false]]) (by simp [results, Tryz.results41, go_sem, r0, r1, r2, f0, f1]) rfl ?_
      exact onR_part hl0 hl1 hl ((HB5.out).only ho6 (by omega)) (HO5.out.only ho6 (fun k hk e => by
        obtain ⟨cur, hc⟩ := own_blk HO5.out hk
        rcases e with rfl | rfl
        · exact hc.ne HW5.out.b1 (by decide) rfl
        · exact hc.ne HW5.out.b2 (by decide) rfl)) ((HW5.out.fr.mono (fun k e => .inl e)).trans' ho6 (fun i hi e => by omega)) HAT.out
    | true =>
      have hr := HR.out
      simp only [if_true] at hr
      subst hr
      go_upto_region 16 with (fail)
      refine wp_gen (fun W6 => Fresh W5 W6 ∧ Blk W6 W5.heap.size 83 #[.int .i64 st, .slice A2 t.length c2, .bool e]) ?_ ?_
      focus
        exact ⟨Fresh.alloc _ _, Blk.new _ _ _⟩
      clear r0 r1 r2 f0 f1 p0 p1 p2 p3 p4 q0 q1 q2 q3 q4 z0 z1 z2 y0 y1 x4
      intro W6 ⟨hf6, hb9⟩
      obtain ⟨p0, p1, p2, p3, p4⟩ := (HB5.out.fresh hf6).c5
      have q0 := (HB5.out.fresh hf6).frozen 0
      have q1 := (HB5.out.fresh hf6).frozen 1
      have q2 := (HB5.out.fresh hf6).frozen 2
      have q3 := (HB5.out.fresh hf6).frozen 3
      have q4 := (HB5.out.fresh hf6).frozen 4
      have HF6 := Lib.hid hf6
      have HB9 := Lib.hid hb9
      clear hf6 hb9
      go_upto_region 17 with (fail)
      refine wp_gen (fun W7 => Only (· = p) W6 W7 ∧ Blk W7 p 85 #[.int .i64 lim, .bool false, .int .i64 0, .slice none 0 0, .bool false]) ?_ ?_
      focus
        refine ⟨?_, ?_⟩
        · repeat (first | with_reducible exact Only.refl _ _ | (with_reducible refine Only.step2 ?_ ?_; focus (exact .inl rfl)))
        · have h1 := ((((((HB5.out.fresh HF6.out).set 0 (.int .i64 lim)).set 1 (.bool false)).set 2 (.int .i64 0)).set 3 (.slice none 0 0)).set 4 (.bool false))
          simpa using h1
      clear p0 p1 p2 p3 p4 q0 q1 q2 q3 q4
      intro W7 ⟨ho7, hb7⟩
      have HO7 := Lib.hid ho7
      have HB7 := Lib.hid hb7
      have hc9 := HB9.out.only ho7 (by omega)
      have hc1 := (HW5.out.b1.fresh HF6.out).only ho7 hnp
      have hc2 := (HW5.out.b2.fresh HF6.out).only ho7 hnp2
      obtain ⟨s0, s1, s2⟩ := hc9.c3
      obtain ⟨r0, r1, r2⟩ := hc1.c3
      obtain ⟨f0, f1⟩ := hc2.c2
      have z0 := hc1.frozen 0
      have z1 := hc1.frozen 1
      have z2 := hc1.frozen 2
      have y0 := hc2.frozen 0
      have y1 := hc2.frozen 1
      have HC1 := Lib.hid hc1
      have HC2 := Lib.hid hc2
      have h91 : W5.heap.size ≠ w.heap.size + 1 := by omega
      have h92 : W5.heap.size ≠ w.heap.size + 1 + 1 := by omega
      clear ho7 hb7 hc9 hc1 hc2
      go_wp2
      refine wx_gen (fun W8 => Only (fun k => k = w.heap.size + 1 ∨ k = w.heap.size + 1 + 1) W7 W8 ∧ Blk W8 (w.heap.size + 1) 83 #[.int .i64 st, .slice A2 t.length c2, .bool e] ∧ Blk W8 (w.heap.size + 1 + 1) 32 #[.int .i64 0, .bool false]) ?_ ?_
      focus
        have n12 : w.heap.size + 1 ≠ w.heap.size + 1 + 1 := by omega
        have n21 : w.heap.size + 1 + 1 ≠ w.heap.size + 1 := by omega
        refine ⟨?_, ?_, ?_⟩
        · repeat (first | with_reducible exact Only.refl _ _ | (with_reducible refine Only.step2 ?_ ?_; focus (first | exact .inl (.inl rfl) | exact .inl (.inr rfl))))
        · have h1 := ((((HC1.out.set 0 (.int .i64 st)).set 1 (.slice A2 t.length c2)).set 2 (.bool e)).far (p := ⟨w.heap.size + 1 + 1, 0, none⟩) n12 (.int .i64 0)).far (p := ⟨w.heap.size + 1 + 1, 1, none⟩) n12 (.bool false)
          simpa using h1
        · have h1 := ((((HC2.out.far (p := ⟨w.heap.size + 1, 0, none⟩) n21 (.int .i64 st)).far (p := ⟨w.heap.size + 1, 1, none⟩) n21 (.slice A2 t.length c2)).far (p := ⟨w.heap.size + 1, 2, none⟩) n21 (.bool e)).set 0 (.int .i64 0)).set 1 (.bool false)
          simpa using h1
      clear r0 r1 r2 f0 f1 s0 s1 s2 z0 z1 z2 y0 y1
      intro W8 ⟨ho8, hb8, hf8⟩
      obtain ⟨r0, r1, r2⟩ := hb8.c3
      obtain ⟨f0, f1⟩ := hf8.c2
      refine bodyPost_ret (v := .tuple #[.agg #[.int .i64 st, .slice A2 t.length c2, .bool e], .bool true, .agg #[.int .i64 0, .bool false]]) (by simp [results, Tryz.results41, go_sem, r0, r1, r2, f0, f1]) rfl ?_
      have HO57 : Only (· = p) W5 W7 := (Only.of_fresh HF6.out).trans HO7.out
      exact onR_whole hl0 hl1 (HB7.out.only ho8 (by omega)) ((HO5.out.only HO57 (fun k hk e => by
        obtain ⟨cur, hc⟩ := own_blk HO5.out hk
        subst e
        exact hc.ne HB5.out (by decide) rfl)).only ho8 (fun k hk e => by
        obtain ⟨cur, hc⟩ := own_blk HO5.out hk
        rcases e with rfl | rfl
        · exact hc.ne HW5.out.b1 (by decide) rfl
        · exact hc.ne HW5.out.b2 (by decide) rfl)) (((HW5.out.fr.trans HO57).mono (fun k e => .inl e)).trans' ho8 (fun i hi e => by omega)) HAT.out
end Go.Proofs.YtginhebfjbhmnaaGreat

/-
  Layer 12: an item that goes on; all items.
-/
namespace Go.Proofs.YtginhebfjbhmnaaGreat
set_option maxRecDepth 100000
set_option linter.unusedVariables false
open Go.RowKit Go.ChangeShapes Go.WideShapes Go.Deep
set_option maxRecDepth 100000 in
set_option maxHeartbeats 6400000 in
theorem on_take_more (p : Nat) (lim a : Int) (l : List UInt8) (b : Bool) (v : Value) (x : ItV) (w : World) (h : AsAt w p lim (some (a, l, b)) v) (hx : x.Ok w) (hty : x.ty = 9) (hst : x.st = a) (hl : (x.l.length : Int) ≤ lim - (l.length : Int)) (hp : 0 < x.l.length → ∀ b o, x.A = some ⟨b, o, none⟩ → ¬ b = p) (r : Option Part × Option Part × Bool)
    (hr : r = if x.eh = true then (none, some (a, l ++ x.l, b), false) else (some (a, l ++ x.l, b), none, false)) :
    Calls Tryz.prog 41 #[.pointer (some ⟨p, 0, none⟩), .agg #[.int .i64 x.ty, .int .i64 x.st, .slice x.A x.l.length x.c, .bool x.en, .bool x.eh, .bool x.ak, .int .i64 x.fl, .int .i64 x.co, .int .i64 x.la, .int .i64 x.inc, .int .i64 x.de, .int .i64 x.we, .bool x.wd, .bool x.ex, .slice x.PA x.ps.length x.pc]] w
      (OnR p lim r v w) := by
  obtain ⟨ty, st, A, c, t, e, eh, ak, fl, co, la, inc, de, we, wd, ex, PA, pc, ps⟩ := x
  simp only at hty hl hp hr hst ⊢
  subst hty hst
  have HR := Lib.hid hr
  clear hr
  obtain ⟨hb, hown, hll⟩ := h.part st l b rfl
  obtain ⟨VA, vc, rfl, hvlc, hvc, _⟩ := hown.slice
  have hlb : l.length ≤ 1048576 := by have := h.l1; omega
  obtain ⟨c0, c1, c2, c3, c4⟩ := hb.c5
  have hmax := hx.max
  have hle := hx.le
  unfold maxLen at hmax
  simp only at hmax hle
  have hplt := h.lt.1
  have hl0 := h.l0
  have hl1 := h.l1
  have HBS := Lib.hid hx.bs
  have HPA := Lib.hid hp
  have HOW := Lib.hid hown
  have HVP : Hid (∀ k, (Value.slice VA l.length vc).ownBlock = some k → k ≠ p ∧ k < w.heap.size) := Lib.hid h.lt.2
  clear hx h hp hown
  have hl' : ¬ lim - (l.length : Int) < (t.length : Int) := by omega
  have hq : (st != st) = false := by simp
  obtain ⟨N, hN⟩ : ∃ N, l.length + t.length = N := ⟨_, rfl⟩
  go_enter Tryz.func41, Tryz.ntmps41
  go_wp2
  refine wp_gen (OnW (fun _ => False) w w.heap.size ⟨9, st, A, c, t, e, eh, ak, fl, co, la, inc, de, we, wd, ex, PA, pc, ps⟩) (OnW.mk' w _) ?_
  intro W hW
  have HW := Lib.hid hW
  have x0 := hW.bx.cell 0
  have x1 := hW.bx.cell 1
  have x2 := hW.bx.cell 2
  have x3 := hW.bx.cell 3
  have x4 := hW.bx.cell 4
  simp only [ItV.cells, List.getElem?_toArray, List.getElem?_cons_zero, List.getElem?_cons_succ] at x0 x1 x2 x3 x4
  have hbW := hb.fresh hW.fresh
  have HBW := Lib.hid hbW
  obtain ⟨p0, p1, p2, p3, p4⟩ := hbW.c5
  have q0 := hbW.frozen 0
  have q1 := hbW.frozen 1
  have q2 := hbW.frozen 2
  have q3 := hbW.frozen 3
  have q4 := hbW.frozen 4
  clear hW hbW c0 c1 c2 c3 c4 hb
  go_region
  go_wp2
  have hw2 : IntKind.i64.wrap (lim - (l.length : Int)) = lim - (l.length : Int) := IntWalk.i64_in _ (by omega)
  go_region
  go_wp2
  refine wp_gen (fun W3 => Blk W3 p 85 #[.int .i64 lim, .bool true, .int .i64 st, .slice VA l.length vc, .bool b] ∧ OnW (· = p) w w.heap.size ⟨9, st, A, c, t, e, eh, ak, fl, co, la, inc, de, we, wd, ex, PA, pc, ps⟩ W3) ?hS ?_
  case hS =>
    have h1 := HBW.out.set 1 (.bool true)
    refine ⟨(by simpa using h1.drew.drew), ?_⟩
    refine HW.out.only (T := (· = p)) ?_ (fun k e => by omega) (Nat.le_refl _) (fun k e => e.elim)
    exact ((Only.setCell W ⟨p, 1, none⟩ _).drewS).drewS
  clear x0 x1 x2 x3 x4 p0 p1 p2 p3 p4 q0 q1 q2 q3 q4 hw2 HBW HW
  intro W3 ⟨hb3, hW3⟩
  have hbs3 : BS W3.drew A t := (bs_only HBS.out hW3.fr HPA.out).drew_
  have x2 := hW3.bx.cell 2
  simp only [ItV.cells, List.getElem?_toArray, List.getElem?_cons_zero, List.getElem?_cons_succ] at x2
  obtain ⟨A2, c2, w4, hap, ho4, hO4, hat⟩ := Own.moreX (P := Tryz.prog) (w := W3.drew) (X := l) Tryz.underlying28 u8_info 28 ((HOW.out.only hW3.fr (fun k hk e => (HVP.out k hk).1 e)).fresh (Fresh.drew _)) (Nat.zero_le _) A c t t.length N rfl hN hbs3 (by omega)
  obtain ⟨p0, p1, p2, p3, p4⟩ := hb3.c5
  have hb4 := hb3.drew.only hO4 (fun e => (HVP.out p e).1 rfl)
  have k3 := hb4.cell 3
  have y3 := hb4.frozen 3
  have hs3 := hW3.b3.lt
  have HB4 := Lib.hid hb4
  have HW3 := Lib.hid hW3
  have HO4 := Lib.hid ho4
  have HOO4 := Lib.hid hO4
  have HAT : Hid (∀ k, (Value.slice A2 N c2).ownBlock = some k → (Value.slice VA l.length vc).ownBlock = some k ∨ w.heap.size ≤ k) := Lib.hid (fun k hk => by
    rcases hat with e | e
    · rw [e] at hk; exact .inl hk
    · rw [e] at hk; have h3 : W3.heap.size = k := Option.some.inj hk; have := hW3.fr.size; right; omega)
  clear hb3 hW3 hbs3 ho4 hO4 hat hb4
  go_region_law (with_reducible refine step_app rfl (.tmp 79) (.tmp 81) _ rfl hap rfl (by simp [Act.eval, Act.put]) (by simp [Act.eval, Act.put]) ?_)
  all_goals
    refine wx_gen (fun W5 => Blk W5 p 85 #[.int .i64 lim, .bool true, .int .i64 st, .slice A2 N c2, .bool b] ∧ OnW (fun k => k = p ∨ (Value.slice VA l.length vc).ownBlock = some k) w w.heap.size ⟨9, st, A, c, t, e, eh, ak, fl, co, la, inc, de, we, wd, ex, PA, pc, ps⟩ W5 ∧ Own W5 0 5 1 (.slice A2 N c2) N ((l ++ t).map byteV)) ?_ ?_
    focus
      have h1 := HB4.out.set 3 (.slice A2 N c2)
      have hs4 : Only (fun k => k = p ∨ (Value.slice VA l.length vc).ownBlock = some k) W3.drew w4 := HOO4.out.mono (fun k e => .inr e)
      have hown : ∀ k, (Value.slice A2 N c2).ownBlock = some k → k ≠ p := fun k hk e => by
        obtain ⟨cur, hc⟩ := own_blk HO4.out hk
        subst e
        exact hc.ne HB4.out (by decide) rfl
      refine ⟨by simpa using h1, ?_, HO4.out.only (Only.setCell w4 ⟨p, 3, none⟩ _) (fun k hk e => hown k hk e)⟩
      exact HW3.out.only (T := fun k => k = p ∨ (Value.slice VA l.length vc).ownBlock = some k) ((Only.drewS (Only.refl _ _)).trans (hs4.trans ((Only.setCell w4 ⟨p, 3, none⟩ _).mono (fun k e => .inl e)))) (fun k e => by
        rcases e with e | e
        · omega
        · exact (HVP.out k e).2) (Nat.le_refl _) (fun k e => .inl e)
    clear x2 p0 p1 p2 p3 p4 k3 y3 HB4 HW3 HO4 HOO4 hap
    intro W5 ⟨hb5, hW5, ho5⟩
    obtain ⟨p0, p1, p2, p3, p4⟩ := hb5.c5
    have x4 := hW5.bx.cell 4
    simp only [ItV.cells, List.getElem?_toArray, List.getElem?_cons_zero, List.getElem?_cons_succ] at x4
    have q0 := hb5.frozen 0
    have q1 := hb5.frozen 1
    have q2 := hb5.frozen 2
    have q3 := hb5.frozen 3
    have q4 := hb5.frozen 4
    obtain ⟨r0, r1, r2⟩ := hW5.b1.c3
    obtain ⟨f0, f1⟩ := hW5.b2.c2
    have z0 := hW5.b1.frozen 0
    have z1 := hW5.b1.frozen 1
    have z2 := hW5.b1.frozen 2
    have y0 := hW5.b2.frozen 0
    have y1 := hW5.b2.frozen 1
    have hs5 := hW5.b3.lt
    have hpl5 := hb5.lt
    have hpn : p ≠ w.heap.size + 1 := by omega
    have hpn2 : p ≠ w.heap.size + 1 + 1 := by omega
    have hnp : w.heap.size + 1 ≠ p := by omega
    have hnp2 : w.heap.size + 1 + 1 ≠ p := by omega
    have HB5 := Lib.hid hb5
    have HW5 := Lib.hid hW5
    have HO5 := Lib.hid ho5
    have HO5N : Hid (Own W5 0 5 1 (.slice A2 N c2) (l ++ t).length ((l ++ t).map byteV)) := Lib.hid (by rw [List.length_append, hN]; exact ho5)
    clear hb5 hW5 ho5
    cases eh with
    | false =>
      have hr := HR.out
      simp only [Bool.false_eq_true, if_false] at hr
      subst hr
      go_wp2
      refine wx_gen (fun W6 => Only (fun k => k = w.heap.size + 1 ∨ k = w.heap.size + 1 + 1) W5 W6 ∧ Blk W6 (w.heap.size + 1) 83 #[.int .i64 0, .slice none 0 0, .bool false] ∧ Blk W6 (w.heap.size + 1 + 1) 32 #[.int .i64 0, .bool false]) ?_ ?_
      focus
        have n12 : w.heap.size + 1 ≠ w.heap.size + 1 + 1 := by omega
        have n21 : w.heap.size + 1 + 1 ≠ w.heap.size + 1 := by omega
        refine ⟨?_, ?_, ?_⟩
        · repeat (first | with_reducible exact Only.refl _ _ | (with_reducible refine Only.step2 ?_ ?_; focus (first | exact .inl (.inl rfl) | exact .inl (.inr rfl))))
        · have h1 := ((((HW5.out.b1.set 0 (.int .i64 0)).set 1 (.slice none 0 0)).set 2 (.bool false)).far (p := ⟨w.heap.size + 1 + 1, 0, none⟩) n12 (.int .i64 0)).far (p := ⟨w.heap.size + 1 + 1, 1, none⟩) n12 (.bool false)
          simpa using h1
        · have h1 := ((((HW5.out.b2.far (p := ⟨w.heap.size + 1, 0, none⟩) n21 (.int .i64 0)).far (p := ⟨w.heap.size + 1, 1, none⟩) n21 (.slice none 0 0)).far (p := ⟨w.heap.size + 1, 2, none⟩) n21 (.bool false)).set 0 (.int .i64 0)).set 1 (.bool false)
          simpa using h1
      clear r0 r1 r2 f0 f1 p0 p1 p2 p3 p4 q0 q1 q2 q3 q4 z0 z1 z2 y0 y1 x4
      intro W6 ⟨ho6, hb6, hf6⟩
      obtain ⟨r0, r1, r2⟩ := hb6.c3
      obtain ⟨f0, f1⟩ := hf6.c2
      refine bodyPost_ret (v := .tuple #[.agg #[.int .i64 0, .slice none 0 0, .bool false], .bool false, .agg #[.int .i64 0, .bool false]]) (by simp [results, Tryz.results41, go_sem, r0, r1, r2, f0, f1]) rfl ?_
      exact onR_part hl0 hl1 (show (((l ++ t).length : Nat) : Int) ≤ lim by rw [List.length_append]; omega) ((HB5.out).only ho6 (by omega)) (HO5N.out.only ho6 (fun k hk e => by
        obtain ⟨cur, hc⟩ := own_blk HO5.out hk
        rcases e with rfl | rfl
        · exact hc.ne HW5.out.b1 (by decide) rfl
        · exact hc.ne HW5.out.b2 (by decide) rfl)) (HW5.out.fr.trans' ho6 (fun i hi e => by omega)) HAT.out
    | true =>
      have hr := HR.out
      simp only [if_true] at hr
      subst hr
      go_upto_region 16 with (fail)
      refine wp_gen (fun W6 => Fresh W5 W6 ∧ Blk W6 W5.heap.size 83 #[.int .i64 st, .slice A2 N c2, .bool b]) ?_ ?_
      focus
        exact ⟨Fresh.alloc _ _, Blk.new _ _ _⟩
      clear r0 r1 r2 f0 f1 p0 p1 p2 p3 p4 q0 q1 q2 q3 q4 z0 z1 z2 y0 y1 x4
      intro W6 ⟨hf6, hb9⟩
      obtain ⟨p0, p1, p2, p3, p4⟩ := (HB5.out.fresh hf6).c5
      have q0 := (HB5.out.fresh hf6).frozen 0
      have q1 := (HB5.out.fresh hf6).frozen 1
      have q2 := (HB5.out.fresh hf6).frozen 2
      have q3 := (HB5.out.fresh hf6).frozen 3
      have q4 := (HB5.out.fresh hf6).frozen 4
      have HF6 := Lib.hid hf6
      have HB9 := Lib.hid hb9
      clear hf6 hb9
      go_upto_region 17 with (fail)
      refine wp_gen (fun W7 => Only (· = p) W6 W7 ∧ Blk W7 p 85 #[.int .i64 lim, .bool false, .int .i64 0, .slice none 0 0, .bool false]) ?_ ?_
      focus
        refine ⟨?_, ?_⟩
        · repeat (first | with_reducible exact Only.refl _ _ | (with_reducible refine Only.step2 ?_ ?_; focus (exact .inl rfl)))
        · have h1 := ((((((HB5.out.fresh HF6.out).set 0 (.int .i64 lim)).set 1 (.bool false)).set 2 (.int .i64 0)).set 3 (.slice none 0 0)).set 4 (.bool false))
          simpa using h1
      clear p0 p1 p2 p3 p4 q0 q1 q2 q3 q4
      intro W7 ⟨ho7, hb7⟩
      have HO7 := Lib.hid ho7
      have HB7 := Lib.hid hb7
      have hc9 := HB9.out.only ho7 (by omega)
      have hc1 := (HW5.out.b1.fresh HF6.out).only ho7 hnp
      have hc2 := (HW5.out.b2.fresh HF6.out).only ho7 hnp2
      obtain ⟨s0, s1, s2⟩ := hc9.c3
      obtain ⟨r0, r1, r2⟩ := hc1.c3
      obtain ⟨f0, f1⟩ := hc2.c2
      have z0 := hc1.frozen 0
      have z1 := hc1.frozen 1
      have z2 := hc1.frozen 2
      have y0 := hc2.frozen 0
      have y1 := hc2.frozen 1
      have HC1 := Lib.hid hc1
      have HC2 := Lib.hid hc2
      have h91 : W5.heap.size ≠ w.heap.size + 1 := by omega
      have h92 : W5.heap.size ≠ w.heap.size + 1 + 1 := by omega
      clear ho7 hb7 hc9 hc1 hc2
      go_wp2
      refine wx_gen (fun W8 => Only (fun k => k = w.heap.size + 1 ∨ k = w.heap.size + 1 + 1) W7 W8 ∧ Blk W8 (w.heap.size + 1) 83 #[.int .i64 st, .slice A2 N c2, .bool b] ∧ Blk W8 (w.heap.size + 1 + 1) 32 #[.int .i64 0, .bool false]) ?_ ?_
      focus
        have n12 : w.heap.size + 1 ≠ w.heap.size + 1 + 1 := by omega
        have n21 : w.heap.size + 1 + 1 ≠ w.heap.size + 1 := by omega
        refine ⟨?_, ?_, ?_⟩
        · repeat (first | with_reducible exact Only.refl _ _ | (with_reducible refine Only.step2 ?_ ?_; focus (first | exact .inl (.inl rfl) | exact .inl (.inr rfl))))
        · have h1 := ((((HC1.out.set 0 (.int .i64 st)).set 1 (.slice A2 N c2)).set 2 (.bool b)).far (p := ⟨w.heap.size + 1 + 1, 0, none⟩) n12 (.int .i64 0)).far (p := ⟨w.heap.size + 1 + 1, 1, none⟩) n12 (.bool false)
          simpa using h1
        · have h1 := ((((HC2.out.far (p := ⟨w.heap.size + 1, 0, none⟩) n21 (.int .i64 st)).far (p := ⟨w.heap.size + 1, 1, none⟩) n21 (.slice A2 N c2)).far (p := ⟨w.heap.size + 1, 2, none⟩) n21 (.bool b)).set 0 (.int .i64 0)).set 1 (.bool false)
          simpa using h1
      clear r0 r1 r2 f0 f1 s0 s1 s2 z0 z1 z2 y0 y1
      intro W8 ⟨ho8, hb8, hf8⟩
      obtain ⟨r0, r1, r2⟩ := hb8.c3
      obtain ⟨f0, f1⟩ := hf8.c2
      refine bodyPost_ret (v := .tuple #[.agg #[.int .i64 st, .slice A2 N c2, .bool b], .bool true, .agg #[.int .i64 0, .bool false]]) (by simp [results, Tryz.results41, go_sem, r0, r1, r2, f0, f1]) rfl ?_
      have HO57 : Only (· = p) W5 W7 := (Only.of_fresh HF6.out).trans HO7.out
      exact onR_whole hl0 hl1 (HB7.out.only ho8 (by omega)) ((HO5N.out.only HO57 (fun k hk e => by
        obtain ⟨cur, hc⟩ := own_blk HO5.out hk
        subst e
        exact hc.ne HB5.out (by decide) rfl)).only ho8 (fun k hk e => by
        obtain ⟨cur, hc⟩ := own_blk HO5.out hk
        rcases e with rfl | rfl
        · exact hc.ne HW5.out.b1 (by decide) rfl
        · exact hc.ne HW5.out.b2 (by decide) rfl)) ((HW5.out.fr.trans (HO57.mono (fun k e => .inl e))).trans' ho8 (fun i hi e => by omega)) HAT.out
/-- Any item. -/
theorem on_any (p : Nat) (lim : Int) (s : Option Part) (v : Value) (x : ItV) (w : World) (r : Option Part × Option Part × Bool) (h : AsAt w p lim s v) (hx : x.Ok w) (hp : 0 < x.l.length → ∀ b o, x.A = some ⟨b, o, none⟩ → ¬ b = p) (hr : onS lim s x.ty x.st x.l x.en x.eh = r) :
    Calls Tryz.prog 41 #[.pointer (some ⟨p, 0, none⟩), .agg #[.int .i64 x.ty, .int .i64 x.st, .slice x.A x.l.length x.c, .bool x.en, .bool x.eh, .bool x.ak, .int .i64 x.fl, .int .i64 x.co, .int .i64 x.la, .int .i64 x.inc, .int .i64 x.de, .int .i64 x.we, .bool x.wd, .bool x.ex, .slice x.PA x.ps.length x.pc]] w
      (OnR p lim r v w) := by
  by_cases ht : takes lim s x.ty x.st x.l
  · rw [onS_takes ht] at hr
    cases s with
    | none => exact on_take_new p lim v x w h hx ht.1 ht.2 hp r hr.symm
    | some y =>
      obtain ⟨a, l, b⟩ := y
      exact on_take_more p lim a l b v x w h hx ht.1 ht.2.1 ht.2.2 hp r hr.symm
  · have key : ∃ f, onS lim s x.ty x.st x.l x.en x.eh = (s, none, f) := by
      cases s with
      | none =>
        unfold onS
        by_cases h9 : x.ty = 9
        · exact ⟨true, by simp [h9]⟩
        · by_cases h1 : x.ty = 1
          · have : lim < (x.l.length : Int) := by
              by_cases h : lim < (x.l.length : Int)
              · exact h
              · exact absurd ⟨h1, by omega⟩ ht
            exact ⟨true, by simp [h9, h1, this]⟩
          · exact ⟨false, by simp [h9, h1]⟩
      | some y =>
        obtain ⟨a, l, b⟩ := y
        unfold onS
        by_cases h9 : x.ty = 9
        · by_cases h1 : x.st = a
          · have : lim - (l.length : Int) < (x.l.length : Int) := by
              by_cases h : lim - (l.length : Int) < (x.l.length : Int)
              · exact h
              · exact absurd ⟨h9, h1, by omega⟩ ht
            exact ⟨true, by simp [h9, h1, this]⟩
          · exact ⟨true, by simp [h9, h1]⟩
        · exact ⟨true, by simp [h9]⟩
    obtain ⟨f, hf⟩ := key
    rw [hf] at hr
    subst hr
    exact on_same p lim s v x w h hx f hf ht
end Go.Proofs.YtginhebfjbhmnaaGreat

