/-
  The law StaticAll: its walk.
-/
import Derived.Test.YtgbnppnpikncpaaStatA
import Derived.RangeFuncBox
import Derived.RangeFuncWrites
namespace Go.Proofs.Ytgbnppnpikncpaa
set_option linter.unusedVariables false
open Go.RowKit Go.Shelf

attribute [local go_sem] Oper.semAt_some

def BadF (pre : List (Nat × Fld)) : Prop := ∃ ini last, pre = ini ++ [last] ∧ ¬ (last.1 = ini.length ∧ last.2 = fldAt ini.length)
set_option maxRecDepth 100000 in
set_option maxHeartbeats 4000000 in
theorem all_ok (s : Int) (w : World) : Calls Try.prog 5 #[.int .i64 s] w (LwP w) := by
  refine (callsIn_wide (n := 6)).1 ?_
  refine callsIn_of_wp_marks Try.func5 rfl trivial ?_ rfl
  simp only [Try.ntmps5, List.size_toArray, List.length_cons, List.length_nil, Nat.reduceAdd, Nat.reduceSub, Array.replicate_succ, Array.replicate_zero, List.push_toArray, List.append_toArray, List.nil_append, List.cons_append]
  have HA := Lib.hid (fun W => st_awake (w := W))
  have b1 := Boxed.new w 3 (.int .i64 s)
  have b2 := Boxed.new (w.alloc (.cells #[.int .i64 s] 3)) 4 (.bool false)
  have b1' := b1.alloc (.cells #[.bool false] 4)
  rw [World.size_alloc] at b2
  have HB : Hid (Below w.heap.size w ((w.alloc (.cells #[.int .i64 s] 3)).alloc (.cells #[.bool false] 4))) := Lib.hid (((Below.refl _ w).alloc (Nat.le_refl _) _).alloc (by simp) _)
  have HB12 := Lib.hid (And.intro b1' b2)
  clear b1 b2 b1'
  gi_wp2_with (refine ⟨trivial, ?_⟩; gi_at_call 9; refine (callsIn_wide.2 (st_awake _)).mono ?_; rintro e w1 ⟨rfl, hf1⟩; have HB1 : Hid ((Boxed w1 w.heap.size 3 (.int .i64 s) ∧ Boxed w1 (w.heap.size + 1) 4 (.bool false)) ∧ Below w.heap.size w w1) := Lib.hid ⟨⟨(Below.block hf1 _ HB12.out.1.lt).trans HB12.out.1, (Below.block hf1 _ HB12.out.2.lt).trans HB12.out.2⟩, Below.trans HB.out (hf1.mono HB.out.size)⟩; clear hf1)
  refine ⟨trivial, ?_⟩
  gi_at_call 15
  refine (callsIn_wide.2 (st_all _)).mono ?_
  rintro e w2 ⟨rfl, rfl⟩
  gi_wp2
  obtain ⟨⟨c1, c2⟩, hB1⟩ := HB1.out
  have c3 := Boxed.new w1 3 (.int .i64 0)
  have hg : w.heap.size + 2 ≤ w1.heap.size := by have := c2.lt; omega
  have hB2 : Below w.heap.size w (w1.alloc (.cells #[.int .i64 0] 3)) := hB1.alloc (by omega) _
  have hsz2 : (w1.alloc (.cells #[.int .i64 0] 3)).heap.size = w1.heap.size + 1 := by simp
  have c1' := c1.alloc (.cells #[.int .i64 0] 3)
  have c2' := c2.alloc (.cells #[.int .i64 0] 3)
  clear HB1 c1 c2 HB HB12 HA hB1
  generalize (w1.alloc (.cells #[.int .i64 0] 3)) = W0 at *
  generalize w1.heap.size = g at *
  refine wpIn_rangeFunc_ownH rfl (by omega) (gf := 22) (lb := #[]) rfl trivial (enters_of Try.func22 (by kernel_rfl) rfl)
    (st_all1 5 (by omega) _) (fun _ _ => trivial) (fun _ _ _ _ _ _ _ _ => trivial) (Below.refl _ _) (fun _ => rfl)
    (fun pre W => (Boxed W w.heap.size 3 (.int .i64 s) ∧ Boxed W (w.heap.size + 1) 4 (.bool false) ∧ Boxed W g 3 (.int .i64 (pre.length : Int))) ∧ Below w.heap.size w W)
    (fun c pre W => ((c = .ret ∧ BadF pre) ∨ (c = .exit 0 ∧ Boxed W w.heap.size 3 (.int .i64 s) ∧ Boxed W (w.heap.size + 1) 4 (.bool false) ∧ Boxed W g 3 (.int .i64 s))) ∧ Below w.heap.size w W)
    (OwnFrom.and (OwnFrom.and (Own.from (boxed_own _ _ _) _) (OwnFrom.and (Own.from (boxed_own _ _ _) _) (Own.from (boxed_own g 3 (fun pre : List (Nat × Fld) => .int .i64 (pre.length : Int))) _))) (ownFrom_below (Nat.le_refl _) (by omega)))
    (fun c => OwnFrom.and (fun s' A B row hs hg hr => by
      rcases hs with h | ⟨hc, e1, e2, e3⟩
      · exact .inl h
      · exact .inr ⟨hc, boxed_own (β := Unit) _ _ (fun _ => .int .i64 s) () A B row e1 hg (fun r e => (hr r e).2), boxed_own (β := Unit) _ _ (fun _ => .bool false) () A B row e2 hg (fun r e => (hr r e).2), boxed_own (β := Unit) _ _ (fun _ => .int .i64 s) () A B row e3 hg (fun r e => (hr r e).2)⟩) (ownFrom_below (Nat.le_refl _) (by omega)))
    ⟨⟨c1', c2', c3⟩, hB2⟩
    (fun x a' W => ∃ Bx, g + 1 ≤ Bx ∧ Blk W Bx 23 #[.string x.2.1, .string x.2.2] ∧ a' = { tmps := #[.int .i64 s, .pointer (some ⟨w.heap.size, 0, none⟩), .pointer (some ⟨w.heap.size + 1, 0, none⟩), .pointer (some ⟨g, 0, none⟩), .int .i64 ((x.1 : Int) + 1), .pointer (some ⟨Bx, 0, none⟩), undef, .bool true, .bool false, .func (.func 22) #[] #[], .int .i64 ((x.1 : Int) + 1), fldV x.2, undef, undef, undef, undef, undef, undef, undef, undef, undef, undef, undef, undef, undef, undef, undef, undef, undef, undef, undef, undef, undef, undef, undef, undef, undef, undef, undef, undef, undef, undef, undef], defers := [] })
    (fun x a' => fun s' A B row hs hg hr => by
      obtain ⟨Bx, h1, h2, h3⟩ := hs
      refine ⟨Bx, h1, ?_, h3⟩
      refine (hg.block Bx h2.lt (fun e => ?_)).trans h2
      obtain ⟨_, o, ho, hc⟩ := hr Bx e.symm
      rw [show A.heap[Bx]? = _ from h2] at ho
      cases ho
      cases hc)
    ?assign ?body ?done ?stop
  case assign =>
    rintro l pre x W K ⟨⟨hb1, hb2, hb3⟩, hB⟩ hK
    have hsz := hb3.lt
    dsimp only [encF, fldV]
    gi_wp2
    exact hK _ _ ((KeepsOthers.alloc _ _).from _) trivial ⟨⟨hb1.alloc _, hb2.alloc _, hb3.alloc _⟩, hB.alloc hB.size _⟩ ⟨W.heap.size, by omega, Blk.new _ _ _, rfl⟩
  case body =>
    rintro l pre ⟨i, fa, fb⟩ a' W hl ⟨r, hr⟩ ⟨⟨hb1, hb2, hb3⟩, hB⟩ ⟨Bx, hBx, hbx, rfl⟩ hlt
    have HS : Hid (∀ w2, Fresh (W.setCell ⟨g, 0, none⟩ (.int .i64 ((pre.length : Int) + 1))) w2 → Boxed w2 w.heap.size 3 (.int .i64 s) ∧ Boxed w2 (w.heap.size + 1) 4 (.bool false) ∧ Boxed w2 g 3 (.int .i64 ((pre.length : Int) + 1)) ∧ Blk w2 Bx 23 #[.string fa, .string fb] ∧ Below w.heap.size w w2 ∧ KeepsOthers W w2) := Lib.hid (fun w2 hf2 => by
      have a1 := hb1.other (B' := g) (by omega) (.int .i64 ((pre.length : Int) + 1))
      have a2 := hb2.other (B' := g) (by omega) (.int .i64 ((pre.length : Int) + 1))
      have a3 := hb3.set (.int .i64 ((pre.length : Int) + 1))
      have a4 : Blk (W.setCell ⟨g, 0, none⟩ (.int .i64 ((pre.length : Int) + 1))) Bx 23 #[.string fa, .string fb] := ((grownBy_setCell' W g _).block Bx hbx.lt (fun e => by cases e; omega)).trans hbx
      have a5 := hB.setCell (p := ⟨g, 0, none⟩) (by simp; omega) (.int .i64 ((pre.length : Int) + 1))
      exact ⟨(Below.block hf2 _ a1.lt).trans a1, (Below.block hf2 _ a2.lt).trans a2, (Below.block hf2 _ a3.lt).trans a3, (Below.block hf2 _ a4.lt).trans a4, Below.trans a5 (hf2.mono a5.size), (KeepsOthers.setCell _ _ _).trans (KeepsOthers.of_grownBy hf2.grown (fun j o e => by cases e))⟩)
    have k1 := hb1.cell
    have k2 := hb2.cell
    have k3 := hb3.cell
    have q3 := hb3.frozen
    have hw : IntKind.i64.wrap ((pre.length : Int) + 1) = (pre.length : Int) + 1 := by rw [IntKind.wrap_i64]; omega
    dsimp only [fldV]
    gi_wp2
    · have HM : Hid (¬ (i = pre.length ∧ (fa, fb) = fldAt pre.length)) := Lib.hid (fun e => by omega)
      have m1 : (((i : Int) + 1) == ((pre.length : Int) + 1)) = false := by simp; omega
      have m2 : ((i : Int) == (pre.length : Int)) = false := by simp; omega
      have m3 : ¬ i = pre.length := by omega
      rename_i h
      clear h
      refine ⟨trivial, ?_⟩
      refine (CallsIn.inRound l (callsIn_wide.2 (st_entry 60 61 _ rfl (by omega)))).mono ?_
      rintro e w2 ⟨rfl, hf2⟩
      obtain ⟨d1, d2, d3, d4, d5, d6⟩ := HS.out w2 hf2
      have D1 := Lib.hid d1
      have D2 := Lib.hid d2
      have D3 := Lib.hid d3
      have HD := Lib.hid (And.intro d5 d6)
      have p1 := d1.cell
      have p2 := d2.cell
      have p3 := d3.cell
      have p4 := d2.frozen
      have p5 := d3.lt
      have p6 := d2.lt
      have p7 := d1.lt
      have p8 := d4.lt
      obtain ⟨p9, p10⟩ := d4.c2
      clear hf2 d1 d2 d3 d4 d5 d6 HS
      generalize fldAt 60 = fe at *
      gi_wp2
      exact ⟨((HD.out.2.trans (KeepsOthers.setCell _ _ _)).trans (KeepsOthers.alloc _ _)).from _, .inl ⟨rfl, pre, _, rfl, by first | exact HM.out | exact fun e => HM.out e.2⟩, (HD.out.1.setCell (p := ⟨w.heap.size + 1, 0, none⟩) (by simp) _).alloc (HD.out.1.setCell (p := ⟨w.heap.size + 1, 0, none⟩) (by simp) _).size _⟩
    · rename_i h
      have hi : i < 61 := by omega
      clear h
      by_cases m3 : i = pre.length
      · subst m3
        obtain ⟨e1, he1⟩ : ∃ b, (fa.toList == (fldAt pre.length).1.toList) = b := ⟨_, rfl⟩
        obtain ⟨e2, he2⟩ : ∃ b, (fb.toList == (fldAt pre.length).2.toList) = b := ⟨_, rfl⟩
        have m1 : (((pre.length : Int) + 1) == ((pre.length : Int) + 1)) = true := by simp
        refine ⟨trivial, ?_⟩
        refine (CallsIn.inRound l (callsIn_wide.2 (st_entry pre.length ((pre.length : Int) + 1) _ rfl (by omega)))).mono ?_
        rintro e w2 ⟨rfl, hf2⟩
        obtain ⟨d1, d2, d3, d4, d5, d6⟩ := HS.out w2 hf2
        have D1 := Lib.hid d1
        have D2 := Lib.hid d2
        have D3 := Lib.hid d3
        have HD := Lib.hid (And.intro d5 d6)
        have p1 := d1.cell
        have p2 := d2.cell
        have p3 := d3.cell
        have p4 := d2.frozen
        have p5 := d3.lt
        have p6 := d2.lt
        have p7 := d1.lt
        have p8 := d4.lt
        obtain ⟨p9, p10⟩ := d4.c2
        clear hf2 d1 d2 d3 d4 d5 d6 HS
        have HFE : Hid (∀ f, f = fldAt pre.length → (e1 && e2) = false → (fa.toList == f.1.toList) = e1 → (fb.toList == f.2.toList) = e2 → ¬ (fa, fb) = fldAt pre.length) := Lib.hid (by
          rintro f rfl hn h1 h2 h
          rw [← h] at h1 h2
          simp at h1 h2
          subst h1 h2
          cases hn)
        have HM := Lib.hid (fun h => HFE.out _ rfl h he1 he2)
        clear HFE
        generalize fldAt pre.length = fe at he1 he2 ⊢
        cases e1
        · have HM := Lib.hid (HM.out rfl)
          gi_wp2
          exact ⟨((HD.out.2.trans (KeepsOthers.setCell _ _ _)).trans (KeepsOthers.alloc _ _)).from _, .inl ⟨rfl, pre, _, rfl, by first | exact HM.out | exact fun e => HM.out e.2⟩, (HD.out.1.setCell (p := ⟨w.heap.size + 1, 0, none⟩) (by simp) _).alloc (HD.out.1.setCell (p := ⟨w.heap.size + 1, 0, none⟩) (by simp) _).size _⟩
        · cases e2
          · have HM := Lib.hid (HM.out rfl)
            gi_wp2
            exact ⟨((HD.out.2.trans (KeepsOthers.setCell _ _ _)).trans (KeepsOthers.alloc _ _)).from _, .inl ⟨rfl, pre, _, rfl, by first | exact HM.out | exact fun e => HM.out e.2⟩, (HD.out.1.setCell (p := ⟨w.heap.size + 1, 0, none⟩) (by simp) _).alloc (HD.out.1.setCell (p := ⟨w.heap.size + 1, 0, none⟩) (by simp) _).size _⟩
          · clear HM
            by_cases hs : s = (pre.length : Int) + 1
            · subst hs
              gi_wp2
              exact ⟨(HD.out.2.trans (KeepsOthers.alloc _ _)).from _, .inr ⟨rfl, D1.out.alloc _, D2.out.alloc _, D3.out.alloc _⟩, HD.out.1.alloc HD.out.1.size _⟩
            · have m4 : (((pre.length : Int) + 1) == s) = false := by simp; omega
              clear hs
              gi_wp2
              exact ⟨(HD.out.2.trans (KeepsOthers.alloc _ _)).from _, trivial, ⟨D1.out.alloc _, D2.out.alloc _, by simp only [List.length_append, List.length_cons, List.length_nil, Nat.zero_add, Int.natCast_add, Int.natCast_one]; exact D3.out.alloc _⟩, HD.out.1.alloc HD.out.1.size _⟩
      · have HM : Hid (¬ (i = pre.length ∧ (fa, fb) = fldAt pre.length)) := Lib.hid (fun e => m3 e.1)
        have m1 : (((i : Int) + 1) == ((pre.length : Int) + 1)) = false := by simp; omega
        have m2 : ((i : Int) == (pre.length : Int)) = false := by simp; omega
        refine ⟨trivial, ?_⟩
        refine (CallsIn.inRound l (callsIn_wide.2 (st_entry i ((i : Int) + 1) _ rfl (by omega)))).mono ?_
        rintro e w2 ⟨rfl, hf2⟩
        obtain ⟨d1, d2, d3, d4, d5, d6⟩ := HS.out w2 hf2
        have D1 := Lib.hid d1
        have D2 := Lib.hid d2
        have D3 := Lib.hid d3
        have HD := Lib.hid (And.intro d5 d6)
        have p1 := d1.cell
        have p2 := d2.cell
        have p3 := d3.cell
        have p4 := d2.frozen
        have p5 := d3.lt
        have p6 := d2.lt
        have p7 := d1.lt
        have p8 := d4.lt
        obtain ⟨p9, p10⟩ := d4.c2
        clear hf2 d1 d2 d3 d4 d5 d6 HS
        generalize fldAt i = fe at *
        gi_wp2
        exact ⟨((HD.out.2.trans (KeepsOthers.setCell _ _ _)).trans (KeepsOthers.alloc _ _)).from _, .inl ⟨rfl, pre, _, rfl, by first | exact HM.out | exact fun e => HM.out e.2⟩, (HD.out.1.setCell (p := ⟨w.heap.size + 1, 0, none⟩) (by simp) _).alloc (HD.out.1.setCell (p := ⟨w.heap.size + 1, 0, none⟩) (by simp) _).size _⟩
  case done =>
    rintro D ys W hD rfl ⟨⟨hb1, hb2, hb3⟩, hB⟩ hK
    rw [upF_length] at hb3
    have k1 := hb1.cell
    have k2 := hb2.cell
    have k3 := hb3.cell
    have HS : Hid (∀ w2, Fresh W w2 → Boxed w2 (w.heap.size + 1) 4 (.bool false) ∧ Below w.heap.size w w2 ∧ w2.heap[D]? = some (.deferred (some []))) := Lib.hid (fun w2 hf2 => ⟨(Below.block hf2 _ hb2.lt).trans hb2, Below.trans hB (hf2.mono hB.size), (Below.block hf2 D (Array.getElem?_eq_some_iff.1 hK).1).trans hK⟩)
    have hsz := hb3.lt
    gi_wp2_with (refine ⟨trivial, ?_⟩; gi_at_call 9; refine (callsIn_wide.2 (st_awake _)).mono ?_; rintro e w2 ⟨rfl, hf2⟩; obtain ⟨d1, d2, d3⟩ := HS.out _ (by first | with_reducible assumption | with_reducible exact Fresh.drewS hf2); have p1 := d1.cell; have p2 := d1.frozen; clear hf2)
    all_goals
      have hb4 := d1.set (.bool true)
      have hK' := (KeepsOthers.setCell w2 ⟨w.heap.size + 1, 0, none⟩ (.bool true)).same D _ d3 rfl
      refine ⟨by simp, .inl ⟨_, _, rfl, run_takeDeferred hK', ?_⟩⟩
      have hc5 := cell_kept hb4.cell (grownBy_putObj' _ D (.deferred none)) (fun r e => by cases e; exact ⟨_, hK', rfl⟩)
      refine ⟨.bool true, ?_, rfl, (d2.setCell (p := ⟨w.heap.size + 1, 0, none⟩) (by simp) _).trans (belowK_b (w := w) (Nat.le_refl _) _ D _ _ (by omega) hK' rfl rfl)⟩
      simp [results, Try.f5, go_sem, hc5]
  case stop =>
    rintro D c pre W hD ⟨k, hk, rfl⟩ ⟨⟨rfl, ini, last, e1, e2⟩ | ⟨rfl, hb1, hb2, hb3⟩, hB⟩ hK
    · exfalso
      apply e2
      cases k with
      | zero => simp [upF] at e1
      | succ k =>
        rw [upF_succ] at e1
        obtain ⟨rfl, e5⟩ := List.append_inj' e1 rfl
        obtain rfl : (k, fldAt k) = last := by simpa using e5
        rw [upF_length]
        exact ⟨rfl, rfl⟩
    have ks : (s == s) = true := by simp
    have k1 := hb1.cell
    have k2 := hb2.cell
    have k3 := hb3.cell
    have HS : Hid (∀ w2, Fresh W w2 → Boxed w2 (w.heap.size + 1) 4 (.bool false) ∧ Below w.heap.size w w2 ∧ w2.heap[D]? = some (.deferred (some []))) := Lib.hid (fun w2 hf2 => ⟨(Below.block hf2 _ hb2.lt).trans hb2, Below.trans hB (hf2.mono hB.size), (Below.block hf2 D (Array.getElem?_eq_some_iff.1 hK).1).trans hK⟩)
    have hsz := hb3.lt
    gi_wp2_with (refine ⟨trivial, ?_⟩; gi_at_call 9; refine (callsIn_wide.2 (st_awake _)).mono ?_; rintro e w2 ⟨rfl, hf2⟩; obtain ⟨d1, d2, d3⟩ := HS.out _ (by first | with_reducible assumption | with_reducible exact Fresh.drewS hf2); have p1 := d1.cell; have p2 := d1.frozen; clear hf2)
    all_goals
      have hb4 := d1.set (.bool true)
      have hK' := (KeepsOthers.setCell w2 ⟨w.heap.size + 1, 0, none⟩ (.bool true)).same D _ d3 rfl
      refine ⟨by simp, .inl ⟨_, _, rfl, run_takeDeferred hK', ?_⟩⟩
      have hc5 := cell_kept hb4.cell (grownBy_putObj' _ D (.deferred none)) (fun r e => by cases e; exact ⟨_, hK', rfl⟩)
      refine ⟨.bool true, ?_, rfl, (d2.setCell (p := ⟨w.heap.size + 1, 0, none⟩) (by simp) _).trans (belowK_b (w := w) (Nat.le_refl _) _ D _ _ (by omega) hK' rfl rfl)⟩
      simp [results, Try.f5, go_sem, hc5]
theorem StaticAll_any (s : Int) (w : World) (hi : (Lit.int .i64 s).wf = true) :
    Calls Try.prog 5 #[.int .i64 s] w fun e w' => e = .returned (.bool true) ∧ Below w.heap.size w w' := all_ok s w
end Go.Proofs.Ytgbnppnpikncpaa
