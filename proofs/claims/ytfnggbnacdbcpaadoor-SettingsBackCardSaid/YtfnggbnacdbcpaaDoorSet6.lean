/-
  Layer 16: the law SettingsApply.
-/
import Derived.Test.YtfnggbnacdbcpaaDoorSet5
import Derived.Test.YtfnggbnacdbcpaaDoorEq
import Derived.Deep.RegionHeld3
import Derived.Deep.DrawnRows
import Derived.StillTailTactics
namespace Go.Proofs.YtfnggbnacdbcpaaDoor
set_option linter.unusedVariables false
open Go.RowKit Go.ChangeShapes Go.WideShapes Go.Deep
attribute [local go_sem ↓] Go.wp_at_zero Go.wp_at_succ
def psCell (x : PsV) : List Value := [.slice x.A x.ps.length x.c]
/-- Rows of pairs that came in. -/
structure PssV where
  (A : Option Addr) (c : Nat) (xs : List PsV)
structure PssV.Ok (w : World) (x : PssV) : Prop where
  le : x.xs.length ≤ x.c
  max : x.c ≤ maxLen
  row : Many psCell 1 w x.A x.xs
  ok : ∀ y ∈ x.xs, y.Ok w
section
variable {H : Type} {enc : TypeId × Value → H} {w : World} {base : Nat} {spare : Nat → Bool} {held : Bool} {v : Value} {d : DataW H} {p : List MemPlace} {r : Reach} {b0 : Nat}
theorem opens_pairs : Opens Tryd.prog 23 (fun w cs => ∃ x : PsV, cs = psCell x ∧ x.Ok w) :=
  (opens_slice (sz := 2) Tryd.underlying23 (opens_array (sz := 1) Tryd.underlying31 (by kernel_rfl) (by kernel_rfl) (opens_int Tryd.underlying3)) (by kernel_rfl) (by omega)).mono (fun w cs h => by
    obtain ⟨A, ps, c, e, h1, h2, h3, h4⟩ := h.rows (R := fun _ (p : Int × Int) => (Lit.int .i64 p.1).wf = true ∧ (Lit.int .i64 p.2).wf = true) (f := pairC) (fun cs ⟨hl, hq⟩ => by
      match cs, hl with
      | [a, b], _ =>
        obtain ⟨x, ex, wx⟩ := hq 0 (by omega)
        obtain ⟨y, ey, wy⟩ := hq 1 (by omega)
        simp at ex ey
        subst ex ey
        exact ⟨(x, y), rfl, wx, wy⟩)
    exact ⟨⟨A, c, ps⟩, e, h1, h2, h3, fun p hp => ⟨wf_i64_bd (h4 p hp).1, wf_i64_bd (h4 p hp).2⟩⟩)
theorem open_pairss (hv : Value.okWide Tryd.prog w r b0 22 v) (hd : DataW.Trod enc Tryd.prog w base spare held 22 v d p) :
    ∃ x : PssV, v = .slice x.A x.xs.length x.c ∧ x.Ok w := by
  have h := (opens_slice (sz := 1) Tryd.underlying22 opens_pairs (by kernel_rfl) (by omega)).sl Tryd.underlying22 hv hd
  obtain ⟨A, xs, c, e, h1, h2, h3, h4⟩ := h.rows (R := fun w (x : PsV) => x.Ok w) (f := psCell) (fun _ hq => hq)
  simp at e
  exact ⟨⟨A, c, xs⟩, e, h1, h2, h3, h4⟩
end
theorem codeS_take {ps : List (Int × Int)} {k : Nat} {p : Int × Int} (h : ps[k]? = some p) : (codeS (ps.take k) = 0 → codeS (ps.take (k + 1)) = wrongC p.1 p.2) ∧ (codeS (ps.take k) ≠ 0 → codeS (ps.take (k + 1)) = codeS (ps.take k)) := by
  obtain ⟨hk, rfl⟩ := List.getElem?_eq_some_iff.1 h
  rw [List.take_succ_eq_append_getElem hk]
  constructor
  · intro h0
    have hg := codeS_good.1 h0
    by_cases hc : wrongC ps[k].1 ps[k].2 = 0
    · rw [hc, codeS_good]
      intro q hq
      rcases List.mem_append.1 hq with hq | hq
      · exact hg q hq
      · simp at hq; rw [hq]; exact hc
    · have e : (ps.take k ++ [ps[k]])[k]? = some ps[k] := by
        rw [List.getElem?_append_right (by simp; omega)]
        simp [List.length_take, Nat.min_eq_left (Nat.le_of_lt hk)]
      refine codeS_at e ?_ hc
      rw [List.take_append_of_le_length (by simp; omega), List.take_take, Nat.min_self]
      exact hg
  · intro h0
    unfold codeS at h0 ⊢
    rw [List.find?_append]
    cases hf : (ps.take k).find? (fun p => wrongC p.1 p.2 != 0) with
    | none => rw [hf] at h0; exact absurd rfl h0
    | some q => rfl
theorem arr6 (a b c d e f : Int) (W : World) : (Op.equalIn 10000 28 (.agg #[.int .i64 a, .int .i64 b, .int .i64 c, .int .i64 d, .int .i64 e, .int .i64 f]) (.agg #[.int .i64 a, .int .i64 b, .int .i64 c, .int .i64 d, .int .i64 e, .int .i64 f])).run Tryd.prog W = .ok true W :=
  (run_equalIn_ints (P := Tryd.prog) Tryd.underlying28 Tryd.underlying3 (by kernel_rfl) 9998 [a, b, c, d, e, f] [a, b, c, d, e, f] rfl rfl W).trans (by rw [decide_eq_true rfl])
set_option maxHeartbeats 1600000 in
theorem Blk.put6 {W : World} {g : Nat} {t : TypeId} {a0 b0 c0 d0 e0 f0 : Value} (hb : Blk W g t #[a0, b0, c0, d0, e0, f0]) (a b c d e f : Value) :
    Blk ((((((W.setCell ⟨g, 0, none⟩ a).setCell ⟨g, 1, none⟩ b).setCell ⟨g, 2, none⟩ c).setCell ⟨g, 3, none⟩ d).setCell ⟨g, 4, none⟩ e).setCell ⟨g, 5, none⟩ f) g t #[a, b, c, d, e, f] := by
  have h := (((((hb.set 0 a).set 1 b).set 2 c).set 3 d).set 4 e).set 5 f
  simpa using h
theorem Only.put6 {W : World} {g : Nat} (a b c d e f : Value) :
    Only (· = g) W ((((((W.setCell ⟨g, 0, none⟩ a).setCell ⟨g, 1, none⟩ b).setCell ⟨g, 2, none⟩ c).setCell ⟨g, 3, none⟩ d).setCell ⟨g, 4, none⟩ e).setCell ⟨g, 5, none⟩ f) :=
  Only.step2 (.inl rfl) (Only.step2 (.inl rfl) (Only.step2 (.inl rfl) (Only.step2 (.inl rfl) (Only.step2 (.inl rfl) (Only.step2 (.inl rfl) (Only.refl _ _))))))
/-- The law's two sets: the code's at g, the document's at k. -/
structure SaW (w : World) (g k : Nat) (s : SetV) (W : World) : Prop where
  fr : Fresh w W
  a : Blk W g 26 s.cells
  b : Blk W k 28 s.cells
theorem SaW.fresh {w W W' : World} {g k : Nat} {s : SetV} (h : SaW w g k s W) (hf : Fresh W W') : SaW w g k s W' := ⟨h.fr.trans hf, h.a.fresh hf, h.b.fresh hf⟩
theorem SaW.only {w W W' : World} {g k : Nat} {s : SetV} {S : Nat → Prop} (h : SaW w g k s W) (ho : Only S W W') (hS : ∀ i, S i → w.heap.size ≤ i) (hg : ¬ S g) (hk : ¬ S k) : SaW w g k s W' :=
  ⟨Below.trans h.fr (Only.below ho h.fr.size hS), h.a.only ho hg, h.b.only ho hk⟩
theorem SaW.store {w W : World} {g k : Nat} {s : SetV} (h : SaW w g k s W) (hg : w.heap.size ≤ g) (hk : w.heap.size ≤ k) (hne : g ≠ k) (a b c d e f : Int) :
    SaW w g k ⟨a, b, c, d, e, f⟩ ((((((((((((W.setCell ⟨g, 0, none⟩ (.int .i64 a)).setCell ⟨g, 1, none⟩ (.int .i64 b)).setCell ⟨g, 2, none⟩ (.int .i64 c)).setCell ⟨g, 3, none⟩ (.int .i64 d)).setCell ⟨g, 4, none⟩ (.int .i64 e)).setCell ⟨g, 5, none⟩ (.int .i64 f)).setCell ⟨k, 0, none⟩ (.int .i64 a)).setCell ⟨k, 1, none⟩ (.int .i64 b)).setCell ⟨k, 2, none⟩ (.int .i64 c)).setCell ⟨k, 3, none⟩ (.int .i64 d)).setCell ⟨k, 4, none⟩ (.int .i64 e)).setCell ⟨k, 5, none⟩ (.int .i64 f)) := by
  have O1 : Only (· = g) W _ := Only.put6 (.int .i64 a) (.int .i64 b) (.int .i64 c) (.int .i64 d) (.int .i64 e) (.int .i64 f)
  have F1 := Below.trans h.fr (Only.below O1 h.fr.size (fun i e => by omega))
  have O2 : Only (· = k) _ _ := Only.put6 (W := (((((W.setCell ⟨g, 0, none⟩ (.int .i64 a)).setCell ⟨g, 1, none⟩ (.int .i64 b)).setCell ⟨g, 2, none⟩ (.int .i64 c)).setCell ⟨g, 3, none⟩ (.int .i64 d)).setCell ⟨g, 4, none⟩ (.int .i64 e)).setCell ⟨g, 5, none⟩ (.int .i64 f)) (g := k) (.int .i64 a) (.int .i64 b) (.int .i64 c) (.int .i64 d) (.int .i64 e) (.int .i64 f)
  refine ⟨Below.trans F1 (Only.below O2 (Below.size F1) (fun i e => by omega)), ?_, ?_⟩
  · exact (Blk.put6 h.a _ _ _ _ _ _).only O2 hne
  · exact Blk.put6 (h.b.only O1 (fun e => hne e.symm)) _ _ _ _ _ _
set_option maxRecDepth 100000 in
set_option maxHeartbeats 6400000 in
theorem SettingsApply_any (x : PssV) (w : World) (hx : x.Ok w) (hR : Rul w) :
    Calls Tryd.prog 3 #[.slice x.A x.xs.length x.c] w fun en w' => en = .returned (.bool true) ∧ Below w.heap.size w w' := by
  obtain ⟨A, c, xs⟩ := x
  have hle := hx.le
  have hmax := hx.max
  have HX := Lib.hid hx
  have HR := Lib.hid hR
  simp only at hle hmax ⊢
  unfold maxLen at hmax
  have fin : ∀ W, Fresh w W → Calls Tryd.prog 8 #[] W fun en w' => en = .returned (.bool true) ∧ Fresh w w' := fun W h => (set_awake W (HR.out.fresh h)).mono fun e w' h2 => ⟨h2.1, h.trans h2.2⟩
  have FIN := Lib.hid fin
  clear fin hx hR
  go_enter Tryd.func3, Tryd.ntmps3
  go_wp2
  go_loopw [3, 20] (fun t i wr => ∃ (k : Nat) (z : Int), k ≤ xs.length ∧ i = .int .i64 (k : Int) ∧ t = .int .i64 z ∧ w = wr) (fun _ i _ => xs.length - (intOf i).toNat)
  case atStart => exact ⟨0, 0, by omega, rfl, rfl, rfl⟩
  case round =>
    obtain ⟨k, z, hk, rfl, rfl, rfl⟩ := hrel
    by_cases hlt : k < xs.length
    · have hlt' : (k : Int) < (xs.length : Int) := by omega
      obtain ⟨y, hy⟩ : ∃ y, xs[k]? = some y := ⟨_, List.getElem?_eq_getElem hlt⟩
      obtain ⟨b, o, rfl, hbw, hcc⟩ := HX.out.row.at k y hy
      have e0 := hcc 0 (by omega)
      simp only [psCell, List.getElem?_cons_zero, Nat.add_zero, Nat.mul_one] at e0
      clear hy hcc
      go_wp2
      go_roundw
      case rel => exact ⟨k + 1, _, by omega, by go_num, rfl, trivial⟩
      case measure => simp [intOf]; omega
    · have hlt' : ¬ (k : Int) < (xs.length : Int) := by omega
      have key : 200 < z ∨ (¬ 200 < z ∧ (200 : Int) < (xs.length : Int)) ∨ (¬ 200 < z ∧ ¬ (200 : Int) < (xs.length : Int)) := by omega
      rcases key with q1 | ⟨q1, q2⟩ | ⟨q1, q2⟩
      · go_wp2_with fail
        with_reducible refine (FIN.out _ (Fresh.refl _)).mono ?_
        rintro e w1 ⟨rfl, hf1⟩
        have HF1 := Lib.hid hf1
        clear hf1
        go_wp2
        go_ret
        exact ⟨rfl, HF1.out⟩
      · go_wp2_with fail
        with_reducible refine (FIN.out _ (Fresh.refl _)).mono ?_
        rintro e w1 ⟨rfl, hf1⟩
        have HF1 := Lib.hid hf1
        clear hf1
        go_wp2
        go_ret
        exact ⟨rfl, HF1.out⟩
      go_wp2_with fail
      with_reducible refine (set_first _).mono ?_
      rintro e w1 ⟨rfl, hf1⟩
      have HF1 := Lib.hid hf1
      clear hf1
      dsimp only [firstV, SetV.val]
      go_wp2_with fail
      with_reducible refine (ref_first _).mono ?_
      rintro e w2 ⟨rfl, hf2⟩
      dsimp only [firstV, SetV.val]
      have hb0 := (Blk.new w1 26 firstV.cells).fresh hf2
      have HF2 := Lib.hid (HF1.out.trans ((Fresh.alloc _ _).trans hf2))
      have hwg : w1.heap.size < w2.heap.size := hb0.lt
      have HB0 := Lib.hid hb0
      clear hf2 hb0
      go_upto_region 11 with fail
      refine wp_gen (fun W => Fresh w W ∧ Blk W w1.heap.size 26 firstV.cells ∧ Blk W w2.heap.size 28 firstV.cells) ⟨HF2.out.allocS _, HB0.out.alloc _, Blk.mkAt rfl⟩ ?_
      intro W ⟨hf, hb6, hb7⟩
      have HFW := Lib.hid hf
      have HB6 := Lib.hid hb6
      have HB7 := Lib.hid hb7
      have HS := Lib.hid (fun w' (hW : Fresh W w') => (show (fun w' => w'.cell? ⟨w1.heap.size, 0, none⟩ = some (.int .i64 4096) ∧ w'.cell? ⟨w1.heap.size, 1, none⟩ = some (.int .i64 1) ∧ w'.cell? ⟨w1.heap.size, 2, none⟩ = some (.int .i64 4294967295) ∧ w'.cell? ⟨w1.heap.size, 3, none⟩ = some (.int .i64 65535) ∧ w'.cell? ⟨w1.heap.size, 4, none⟩ = some (.int .i64 16384) ∧ w'.cell? ⟨w1.heap.size, 5, none⟩ = some (.int .i64 4294967295) ∧ w'.cell? ⟨w2.heap.size, 0, none⟩ = some (.int .i64 4096) ∧ w'.cell? ⟨w2.heap.size, 1, none⟩ = some (.int .i64 1) ∧ w'.cell? ⟨w2.heap.size, 2, none⟩ = some (.int .i64 4294967295) ∧ w'.cell? ⟨w2.heap.size, 3, none⟩ = some (.int .i64 65535) ∧ w'.cell? ⟨w2.heap.size, 4, none⟩ = some (.int .i64 16384) ∧ w'.cell? ⟨w2.heap.size, 5, none⟩ = some (.int .i64 4294967295) ∧ Fresh W w') w' from
        ⟨(hb6.fresh hW).cell 0, (hb6.fresh hW).cell 1, (hb6.fresh hW).cell 2, (hb6.fresh hW).cell 3, (hb6.fresh hW).cell 4, (hb6.fresh hW).cell 5, (hb7.fresh hW).cell 0, (hb7.fresh hW).cell 1, (hb7.fresh hW).cell 2, (hb7.fresh hW).cell 3, (hb7.fresh hW).cell 4, (hb7.fresh hW).cell 5, hW⟩))
      have hS0 := HS.out W (Fresh.refl _)
      obtain ⟨g0, g1, g2, g3, g4, g5, g6, g7, g8, g9, g10, g11, g12⟩ := hS0
      have HNU := Lib.hid (fun W => set_numbers firstV W)
      dsimp only [firstV, SetV.val] at HNU
      clear hf hb6 hb7
      have hEQ := arr6 4096 1 4294967295 65535 16384 4294967295
      go_region_held3 (fun w' => w'.cell? ⟨w1.heap.size, 0, none⟩ = some (.int .i64 4096) ∧ w'.cell? ⟨w1.heap.size, 1, none⟩ = some (.int .i64 1) ∧ w'.cell? ⟨w1.heap.size, 2, none⟩ = some (.int .i64 4294967295) ∧ w'.cell? ⟨w1.heap.size, 3, none⟩ = some (.int .i64 65535) ∧ w'.cell? ⟨w1.heap.size, 4, none⟩ = some (.int .i64 16384) ∧ w'.cell? ⟨w1.heap.size, 5, none⟩ = some (.int .i64 4294967295) ∧ w'.cell? ⟨w2.heap.size, 0, none⟩ = some (.int .i64 4096) ∧ w'.cell? ⟨w2.heap.size, 1, none⟩ = some (.int .i64 1) ∧ w'.cell? ⟨w2.heap.size, 2, none⟩ = some (.int .i64 4294967295) ∧ w'.cell? ⟨w2.heap.size, 3, none⟩ = some (.int .i64 65535) ∧ w'.cell? ⟨w2.heap.size, 4, none⟩ = some (.int .i64 16384) ∧ w'.cell? ⟨w2.heap.size, 5, none⟩ = some (.int .i64 4294967295) ∧ Fresh W w')
        (first | assumption | (refine HS.out _ ?_; repeat (first | with_reducible assumption | with_reducible refine Fresh.trans ?_ hf6 | with_reducible exact Fresh.refl _ | with_reducible apply Fresh.drewS | with_reducible apply Fresh.allocS)))
        (first
          | (go_at_call 11; with_reducible refine (HNU.out _).mono ?_; rintro e w6 ⟨rfl, hf6⟩))
      have hW6 : Fresh W w6 := by first | exact hf6 | exact (Fresh.drew _).trans hf6
      obtain ⟨g, hg⟩ : ∃ g, g = w1.heap.size := ⟨_, rfl⟩
      obtain ⟨q, hq⟩ : ∃ q, q = w2.heap.size := ⟨_, rfl⟩
      have HSA : Hid (SaW w g q firstV w6) := Lib.hid (by rw [hg, hq]; exact ⟨HFW.out.trans hW6, HB6.out.fresh hW6, HB7.out.fresh hW6⟩)
      have HGQ : Hid (w.heap.size ≤ g ∧ w.heap.size ≤ q ∧ g ≠ q) := Lib.hid (by have := HF1.out.size; omega)
      rw [← hg, ← hq]
      clear hg hq hW6 hf6 HB6 HB7 HFW HF1 HF2 HB0 HS HNU hwg g0 g1 g2 g3 g4 g5 g6 g7 g8 g9 g10 g11 g12 hEQ
      go_wp2
      go_loopw [46] (fun i wr => ∃ (j : Nat) (s : SetV), j ≤ xs.length ∧ i = .int .i64 (j : Int) ∧ SaW w g q s wr) (fun i _ => xs.length - (intOf i).toNat)
      case atStart => exact ⟨0, firstV, by omega, rfl, HSA.out⟩
      case round =>
        obtain ⟨j, s, hj, rfl, hsa⟩ := hrel
        have HSA := Lib.hid hsa
        by_cases hlt : j < xs.length
        · have hlt' : (j : Int) < (xs.length : Int) := by omega
          obtain ⟨y, hy⟩ : ∃ y, xs[j]? = some y := ⟨_, List.getElem?_eq_getElem hlt⟩
          obtain ⟨b, o, rfl, hbw, hcc⟩ := HX.out.row.at j y hy
          have e0 := (hsa.fr.cell (p := ⟨b, o + j * 1 + 0, none⟩) hbw).trans (hcc 0 (by omega))
          simp only [psCell, List.getElem?_cons_zero, Nat.add_zero, Nat.mul_one] at e0
          have HY := Lib.hid (HX.out.ok y (List.mem_of_getElem? hy))
          obtain ⟨yA, yc, ps⟩ := y
          have hyl := HY.out.le
          have hym := HY.out.max
          simp only at e0 hyl hym
          unfold maxLen at hym
          obtain ⟨s0, s1, s2, s3, s4, s5⟩ := s
          have k0 := hsa.b.cell 0
          have k1 := hsa.b.cell 1
          have k2 := hsa.b.cell 2
          have k3 := hsa.b.cell 3
          have k4 := hsa.b.cell 4
          have k5 := hsa.b.cell 5
          simp only [SetV.cells, List.getElem?_toArray, List.getElem?_cons_zero, List.getElem?_cons_succ] at k0 k1 k2 k3 k4 k5
          have hql := hsa.b.lt
          clear hy hcc hsa
          go_wp2
          obtain ⟨h, hh⟩ : ∃ h, h = wr.heap.size := ⟨_, rfl⟩
          have HH : Hid (h ≠ g ∧ h ≠ q ∧ w.heap.size ≤ h) := Lib.hid (by have h1 := HSA.out.a.lt; have h2 := HSA.out.b.lt; have h3 := HSA.out.fr.size; omega)
          have HB := Lib.hid (Blk.mkAt (w := wr) (t := 28) (cs := (SetV.mk s0 s1 s2 s3 s4 s5).cells) hh.symm)
          rw [← hh]
          have HSA1 := Lib.hid (HSA.out.fresh (Fresh.alloc wr (.cells (SetV.mk s0 s1 s2 s3 s4 s5).cells 28)))
          clear k0 k1 k2 k3 k4 k5
          clear hh hql e0
          go_loopw [53, 11] (fun i cdv wr => ∃ (m : Nat) (cd : Int) (yv : SetV), m ≤ ps.length ∧ i = .int .i64 (m : Int) ∧ cdv = .int .i64 cd ∧ codeS (ps.take m) = cd ∧ (cd = 0 → yv = setsS ⟨s0, s1, s2, s3, s4, s5⟩ (ps.take m)) ∧ SaW w g q ⟨s0, s1, s2, s3, s4, s5⟩ wr ∧ Blk wr h 28 yv.cells) (fun i _ _ => ps.length - (intOf i).toNat)
          case atStart => exact ⟨0, 0, _, by omega, rfl, rfl, rfl, fun _ => rfl, HSA1.out, HB.out⟩
          case round =>
            obtain ⟨m, cd, yv, hm, rfl, rfl, hcd, hyv, hsa, hb⟩ := hrel
            have HSA2 := Lib.hid hsa
            have HB2 := Lib.hid hb
            have HCD := Lib.hid hcd
            have HYV := Lib.hid hyv
            obtain ⟨y0, y1, y2, y3, y4, y5⟩ := yv
            by_cases hlt : m < ps.length
            · have hlt' : (m : Int) < (ps.length : Int) := by omega
              obtain ⟨⟨n, v⟩, hp⟩ : ∃ y, ps[m]? = some y := ⟨_, List.getElem?_eq_getElem hlt⟩
              obtain ⟨b2, o2, rfl, hbw2, hcc⟩ := HY.out.row.at m (n, v) hp
              have e0 := (hsa.fr.cell (p := ⟨b2, o2 + m * 2 + 0, none⟩) hbw2).trans (hcc 0 (by omega))
              have e1 := (hsa.fr.cell (p := ⟨b2, o2 + m * 2 + 1, none⟩) hbw2).trans (hcc 1 (by omega))
              simp only [pairC, List.getElem?_cons_zero, List.getElem?_cons_succ, Nat.add_zero] at e0 e1
              have HP := Lib.hid hp
              have hTK := codeS_take hp
              rw [hcd] at hTK
              have HTK := Lib.hid hTK
              have hbl := hb.lt
              have k0 := hb.cell 0
              have k1 := hb.cell 1
              have k2 := hb.cell 2
              have k3 := hb.cell 3
              have k4 := hb.cell 4
              have k5 := hb.cell 5
              simp only [SetV.cells, List.getElem?_toArray, List.getElem?_cons_zero, List.getElem?_cons_succ] at k0 k1 k2 k3 k4 k5
              clear hp hcc hsa hTK hcd hyv
              by_cases hc0 : cd = 0
              · subst hc0
                have HON := Lib.hid (fun W => ref_one ⟨y0, y1, y2, y3, y4, y5⟩ n v W _ _ rfl rfl)
                obtain ⟨s', hs'⟩ : ∃ s', oneR ⟨y0, y1, y2, y3, y4, y5⟩ n v = s' := ⟨_, rfl⟩
                obtain ⟨c', hc'⟩ : ∃ c', wrongC n v = c' := ⟨_, rfl⟩
                rw [hs', hc'] at HON
                have HS' := Lib.hid hs'
                have HC' := Lib.hid hc'
                obtain ⟨z0, z1, z2, z3, z4, z5⟩ := s'
                dsimp only [SetV.val] at HON
                clear hs' hc' hb
                go_wp2_with fail
                with_reducible refine (HON.out _).mono ?_
                rintro e w3 ⟨rfl, hf3⟩
                have hb3 := HB2.out.fresh ((Fresh.alloc _ _).trans hf3)
                have HSA3 := Lib.hid (HSA2.out.fresh ((Fresh.alloc _ _).trans hf3))
                have HB3 := Lib.hid hb3
                have hb3l := hb3.lt
                have x0 := hb3.cell 0
                have x1 := hb3.cell 1
                have x2 := hb3.cell 2
                have x3 := hb3.cell 3
                have x4 := hb3.cell 4
                have x5 := hb3.cell 5
                simp only [SetV.cells, List.getElem?_toArray, List.getElem?_cons_zero, List.getElem?_cons_succ] at x0 x1 x2 x3 x4 x5
                have f0 := hb3.frozen 0
                have f1 := hb3.frozen 1
                have f2 := hb3.frozen 2
                have f3 := hb3.frozen 3
                have f4 := hb3.frozen 4
                have f5 := hb3.frozen 5
                clear hf3 hb3
                go_wp2
                go_roundw
                case rel =>
                  refine ⟨m + 1, c', ⟨z0, z1, z2, z3, z4, z5⟩, by omega, by go_num, by first | trivial | rfl, ?_, ?_, ?_, ?_⟩
                  · rw [HTK.out.1 (by first | rfl | trivial)]; exact HC'.out
                  · intro hz
                    rw [setsS_take HP.out, ← HYV.out (by first | rfl | trivial), ← HS'.out]
                    unfold oneR
                    rw [if_pos (by rw [HC'.out]; exact hz)]
                  · exact HSA3.out.only (Only.put6 _ _ _ _ _ _) (fun i e => by have := HH.out.2.2; omega) (fun e => HH.out.1 e.symm) (fun e => HH.out.2.1 e.symm)
                  · exact Blk.put6 HB3.out _ _ _ _ _ _
                case measure => simp [intOf]; omega
              · have hc1 : (cd == 0) = false := by simpa using hc0
                clear hb
                go_wp2
                go_roundw
                case rel =>
                  refine ⟨m + 1, cd, ⟨y0, y1, y2, y3, y4, y5⟩, by omega, by go_num, by first | trivial | rfl, HTK.out.2 hc0, fun e => absurd e hc0, HSA2.out.fresh (Fresh.alloc _ _), HB2.out.fresh (Fresh.alloc _ _)⟩
                case measure => simp [intOf]; omega
            · have hlt' : ¬ (m : Int) < (ps.length : Int) := by omega
              obtain rfl : m = ps.length := by omega
              rw [List.take_length] at hcd hyv
              have HX2 := Lib.hid (HX.out)
              obtain ⟨r, hr⟩ : ∃ r, applyR ⟨s0, s1, s2, s3, s4, s5⟩ ps = r := ⟨_, rfl⟩
              have HRR := Lib.hid hr
              clear hr
              obtain ⟨⟨x0, x1, x2, x3, x4, x5⟩, ra, rb, rc⟩ := r
              have HAP := Lib.hid (set_applyN s0 s1 s2 s3 s4 s5 yA ps ps.length yc wr (⟨x0, x1, x2, x3, x4, x5⟩, ra, rb, rc) (HR.out.fresh hsa.fr) rfl HY.out.le HY.out.max (HY.out.fresh hsa.fr).row HRR.out)
              dsimp only [SetV.val, fltC] at HAP
              obtain ⟨rf, hrf⟩ : ∃ cb, decide (rc ≠ 0) = cb := ⟨_, rfl⟩
              rw [hrf] at HAP
              have HRF := Lib.hid hrf
              clear hrf
              have k0 := hsa.a.cell 0
              have k1 := hsa.a.cell 1
              have k2 := hsa.a.cell 2
              have k3 := hsa.a.cell 3
              have k4 := hsa.a.cell 4
              have k5 := hsa.a.cell 5
              simp only [SetV.cells, List.getElem?_toArray, List.getElem?_cons_zero, List.getElem?_cons_succ] at k0 k1 k2 k3 k4 k5
              have hgl := hsa.a.lt
              clear hsa hb hcd hyv
              go_wp2_with fail
              with_reducible refine HAP.out.mono ?_
              rintro e w5 ⟨rfl, hf5⟩
              have HSA5 := Lib.hid (HSA2.out.fresh hf5)
              have HB5 := Lib.hid (HB2.out.fresh hf5)
              clear hf5 HAP hgl
              clear k0 k1 k2 k3 k4 k5
              go_upto_region 24 with fail
              refine wp_gen (fun W => Fresh w5 W ∧ Trip w5.heap.size ⟨x0, x1, x2, x3, x4, x5⟩ ra rb rc rf W) ⟨((Fresh.alloc _ _).allocS _).allocS _, Trip.mk' _ _ _ _ _ _⟩ ?_
              intro W6 ⟨hf, hT⟩
              have HSA6 := Lib.hid (HSA5.out.fresh hf)
              have HB6 := Lib.hid (HB5.out.fresh hf)
              have HT6 := Lib.hid hT
              have HG6 : Hid (∀ i, w5.heap.size ≤ i → i ≠ g ∧ i ≠ q ∧ i ≠ h) := Lib.hid (fun i hi => by
                have h1 := HSA5.out.a.lt
                have h2 := HSA5.out.b.lt
                have h3 := HB5.out.lt
                omega)
              obtain ⟨f0, f1⟩ := hT.hf.c2
              clear hf HSA5 HB5
              have k0 := HSA6.out.b.cell 0
              have k1 := HSA6.out.b.cell 1
              have k2 := HSA6.out.b.cell 2
              have k3 := HSA6.out.b.cell 3
              have k4 := HSA6.out.b.cell 4
              have k5 := HSA6.out.b.cell 5
              simp only [SetV.cells, List.getElem?_toArray, List.getElem?_cons_zero, List.getElem?_cons_succ] at k0 k1 k2 k3 k4 k5
              have u0 := HB6.out.cell 0
              have u1 := HB6.out.cell 1
              have u2 := HB6.out.cell 2
              have u3 := HB6.out.cell 3
              have u4 := HB6.out.cell 4
              have u5 := HB6.out.cell 5
              simp only [SetV.cells, List.getElem?_toArray, List.getElem?_cons_zero, List.getElem?_cons_succ] at u0 u1 u2 u3 u4 u5
              have v0 := HB6.out.frozen 0
              have v1 := HB6.out.frozen 1
              have v2 := HB6.out.frozen 2
              have v3 := HB6.out.frozen 3
              have v4 := HB6.out.frozen 4
              have v5 := HB6.out.frozen 5
              obtain ⟨c0, c1⟩ := hT.hc.c2
              have hTl := hT.hf.lt
              have hBl := HB6.out.lt
              have hQl := HSA6.out.b.lt
              clear hT
              by_cases hc0 : cd = 0
              · subst hc0
                obtain ⟨hz, hrr⟩ : codeS ps = 0 ∧ (SetV.mk x0 x1 x2 x3 x4 x5, ra, rb, rc) = (setsS ⟨s0, s1, s2, s3, s4, s5⟩ ps, s3, (setsS ⟨s0, s1, s2, s3, s4, s5⟩ ps).wi, 0) := by
                  have hz : codeS ps = 0 := by have := HCD.out; rwa [List.take_length] at this
                  refine ⟨hz, ?_⟩
                  rw [← HRR.out]
                  unfold applyR
                  rw [if_pos hz]
                have hyx : SetV.mk y0 y1 y2 y3 y4 y5 = setsS ⟨s0, s1, s2, s3, s4, s5⟩ ps := by have := HYV.out (by first | rfl | trivial); rwa [List.take_length] at this
                rw [← hyx] at hrr
                replace hrr := hrr.symm
                simp only [Prod.mk.injEq, SetV.mk.injEq] at hrr
                obtain ⟨⟨rfl, rfl, rfl, rfl, rfl, rfl⟩, rfl, rfl, rfl⟩ := hrr
                have hrf : rf = false := by rw [← HRF.out]; rfl
                subst hrf
                clear hyx hz
                go_upto_region 31 with fail
                refine wp_gen (fun W => SaW w g q ⟨s0, s1, s2, s3, s4, s5⟩ W ∧ Blk W h 28 #[.int .i64 y0, .int .i64 y1, .int .i64 y2, .int .i64 y3, .int .i64 y4, .int .i64 y5] ∧ Blk W w5.heap.size 26 #[.int .i64 y0, .int .i64 y1, .int .i64 y2, .int .i64 y3, .int .i64 y4, .int .i64 y5] ∧ Blk W (w5.heap.size + 1) 35 #[.int .i64 s3, .int .i64 y3] ∧ Blk W W6.heap.size 35 #[.int .i64 s3, .int .i64 y3]) ?_ ?_
                focus
                  exact ⟨(HSA6.out.fresh (Fresh.alloc _ _)), HB6.out.alloc _, HT6.out.hs.alloc _, HT6.out.hc.alloc _, Blk.mkAt rfl⟩
                clear f0 f1 c0 c1 hTl hBl hQl
                clear k0 k1 k2 k3 k4 k5 u0 u1 u2 u3 u4 u5 v0 v1 v2 v3 v4 v5
                intro W7 ⟨hsa, hbh, hbs, hbc, hbw⟩
                have HSA7 := Lib.hid hsa
                have HBH := Lib.hid hbh
                have HBS := Lib.hid hbs
                have HS := Lib.hid (fun w' (hW : Fresh W7 w') => (show (fun w' => w'.cell? ⟨w5.heap.size, 0, none⟩ = some (.int .i64 y0) ∧ w'.cell? ⟨w5.heap.size, 1, none⟩ = some (.int .i64 y1) ∧ w'.cell? ⟨w5.heap.size, 2, none⟩ = some (.int .i64 y2) ∧ w'.cell? ⟨w5.heap.size, 3, none⟩ = some (.int .i64 y3) ∧ w'.cell? ⟨w5.heap.size, 4, none⟩ = some (.int .i64 y4) ∧ w'.cell? ⟨w5.heap.size, 5, none⟩ = some (.int .i64 y5) ∧ w'.cell? ⟨h, 0, none⟩ = some (.int .i64 y0) ∧ w'.cell? ⟨h, 1, none⟩ = some (.int .i64 y1) ∧ w'.cell? ⟨h, 2, none⟩ = some (.int .i64 y2) ∧ w'.cell? ⟨h, 3, none⟩ = some (.int .i64 y3) ∧ w'.cell? ⟨h, 4, none⟩ = some (.int .i64 y4) ∧ w'.cell? ⟨h, 5, none⟩ = some (.int .i64 y5) ∧ w'.cell? ⟨w5.heap.size + 1, 0, none⟩ = some (.int .i64 s3) ∧ w'.cell? ⟨w5.heap.size + 1, 1, none⟩ = some (.int .i64 y3) ∧ w'.cell? ⟨W6.heap.size, 0, none⟩ = some (.int .i64 s3) ∧ w'.cell? ⟨W6.heap.size, 1, none⟩ = some (.int .i64 y3) ∧ Fresh W7 w') w' from
                  ⟨(hbs.fresh hW).cell 0, (hbs.fresh hW).cell 1, (hbs.fresh hW).cell 2, (hbs.fresh hW).cell 3, (hbs.fresh hW).cell 4, (hbs.fresh hW).cell 5, (hbh.fresh hW).cell 0, (hbh.fresh hW).cell 1, (hbh.fresh hW).cell 2, (hbh.fresh hW).cell 3, (hbh.fresh hW).cell 4, (hbh.fresh hW).cell 5, (hbc.fresh hW).cell 0, (hbc.fresh hW).cell 1, (hbw.fresh hW).cell 0, (hbw.fresh hW).cell 1, hW⟩))
                have hS0 := HS.out W7 (Fresh.refl _)
                obtain ⟨g0, g1, g2, g3, g4, g5, g6, g7, g8, g9, g10, g11, g12, g13, g14, g15, g16⟩ := hS0
                have HNU := Lib.hid (fun W => set_numbers ⟨y0, y1, y2, y3, y4, y5⟩ W)
                dsimp only [SetV.val] at HNU
                clear hsa hbh hbs hbc hbw
                have hEQ := arr6 y0 y1 y2 y3 y4 y5
                go_region_held3 (fun w' => w'.cell? ⟨w5.heap.size, 0, none⟩ = some (.int .i64 y0) ∧ w'.cell? ⟨w5.heap.size, 1, none⟩ = some (.int .i64 y1) ∧ w'.cell? ⟨w5.heap.size, 2, none⟩ = some (.int .i64 y2) ∧ w'.cell? ⟨w5.heap.size, 3, none⟩ = some (.int .i64 y3) ∧ w'.cell? ⟨w5.heap.size, 4, none⟩ = some (.int .i64 y4) ∧ w'.cell? ⟨w5.heap.size, 5, none⟩ = some (.int .i64 y5) ∧ w'.cell? ⟨h, 0, none⟩ = some (.int .i64 y0) ∧ w'.cell? ⟨h, 1, none⟩ = some (.int .i64 y1) ∧ w'.cell? ⟨h, 2, none⟩ = some (.int .i64 y2) ∧ w'.cell? ⟨h, 3, none⟩ = some (.int .i64 y3) ∧ w'.cell? ⟨h, 4, none⟩ = some (.int .i64 y4) ∧ w'.cell? ⟨h, 5, none⟩ = some (.int .i64 y5) ∧ w'.cell? ⟨w5.heap.size + 1, 0, none⟩ = some (.int .i64 s3) ∧ w'.cell? ⟨w5.heap.size + 1, 1, none⟩ = some (.int .i64 y3) ∧ w'.cell? ⟨W6.heap.size, 0, none⟩ = some (.int .i64 s3) ∧ w'.cell? ⟨W6.heap.size, 1, none⟩ = some (.int .i64 y3) ∧ Fresh W7 w')
                  (first | assumption | (refine HS.out _ ?_; repeat (first | with_reducible assumption | with_reducible refine Fresh.trans ?_ hf6 | with_reducible exact Fresh.refl _ | with_reducible apply Fresh.drewS | with_reducible apply Fresh.allocS)))
                  (first
                    | (go_at_call 11; with_reducible refine (HNU.out _).mono ?_; rintro e w6 ⟨rfl, hf6⟩))
                have hW6 : Fresh W7 w6 := by first | exact hf6 | exact (Fresh.drew _).trans hf6
                have HSA8 := Lib.hid (HSA7.out.fresh hW6)
                have HBH8 := Lib.hid (HBH.out.fresh hW6)
                have HBS8 := Lib.hid (HBS.out.fresh hW6)
                clear hW6 hf6 g0 g1 g2 g3 g4 g5 g6 g7 g8 g9 g10 g11 g12 g13 g14 g15 g16 hEQ HS HNU HBH HBS HSA7
                go_upto_region 33 with fail
                have k0 := HBS8.out.cell 0
                have k1 := HBS8.out.cell 1
                have k2 := HBS8.out.cell 2
                have k3 := HBS8.out.cell 3
                have k4 := HBS8.out.cell 4
                have k5 := HBS8.out.cell 5
                simp only [SetV.cells, List.getElem?_toArray, List.getElem?_cons_zero, List.getElem?_cons_succ] at k0 k1 k2 k3 k4 k5
                have u0 := HBH8.out.cell 0
                have u1 := HBH8.out.cell 1
                have u2 := HBH8.out.cell 2
                have u3 := HBH8.out.cell 3
                have u4 := HBH8.out.cell 4
                have u5 := HBH8.out.cell 5
                simp only [SetV.cells, List.getElem?_toArray, List.getElem?_cons_zero, List.getElem?_cons_succ] at u0 u1 u2 u3 u4 u5
                have p0 := HSA8.out.a.cell 0
                have p1 := HSA8.out.a.cell 1
                have p2 := HSA8.out.a.cell 2
                have p3 := HSA8.out.a.cell 3
                have p4 := HSA8.out.a.cell 4
                have p5 := HSA8.out.a.cell 5
                simp only [SetV.cells, List.getElem?_toArray, List.getElem?_cons_zero, List.getElem?_cons_succ] at p0 p1 p2 p3 p4 p5
                have r0 := HSA8.out.b.cell 0
                have r1 := HSA8.out.b.cell 1
                have r2 := HSA8.out.b.cell 2
                have r3 := HSA8.out.b.cell 3
                have r4 := HSA8.out.b.cell 4
                have r5 := HSA8.out.b.cell 5
                simp only [SetV.cells, List.getElem?_toArray, List.getElem?_cons_zero, List.getElem?_cons_succ] at r0 r1 r2 r3 r4 r5
                have v0 := HSA8.out.a.frozen 0
                have v1 := HSA8.out.a.frozen 1
                have v2 := HSA8.out.a.frozen 2
                have v3 := HSA8.out.a.frozen 3
                have v4 := HSA8.out.a.frozen 4
                have v5 := HSA8.out.a.frozen 5
                have zz0 := HSA8.out.b.frozen 0
                have zz1 := HSA8.out.b.frozen 1
                have zz2 := HSA8.out.b.frozen 2
                have zz3 := HSA8.out.b.frozen 3
                have zz4 := HSA8.out.b.frozen 4
                have zz5 := HSA8.out.b.frozen 5
                have l1 := HBS8.out.lt
                have l2 := HBH8.out.lt
                have l3 := HSA8.out.a.lt
                have l4 := HSA8.out.b.lt
                have n1 : g ≠ q := HGQ.out.2.2
                have n2 : h ≠ g := HH.out.1
                have n3 : h ≠ q := HH.out.2.1
                have n4 : w5.heap.size ≠ g := (HG6.out _ (Nat.le_refl _)).1
                have n5 : w5.heap.size ≠ q := (HG6.out _ (Nat.le_refl _)).2.1
                have HSK := Lib.hid (fun w' (ho : Only (fun i => i = g ∨ i = q) w6 w') => (show (fun w' => w'.cell? ⟨w5.heap.size, 0, none⟩ = some (.int .i64 y0) ∧ w'.cell? ⟨w5.heap.size, 1, none⟩ = some (.int .i64 y1) ∧ w'.cell? ⟨w5.heap.size, 2, none⟩ = some (.int .i64 y2) ∧ w'.cell? ⟨w5.heap.size, 3, none⟩ = some (.int .i64 y3) ∧ w'.cell? ⟨w5.heap.size, 4, none⟩ = some (.int .i64 y4) ∧ w'.cell? ⟨w5.heap.size, 5, none⟩ = some (.int .i64 y5) ∧ w'.cell? ⟨h, 0, none⟩ = some (.int .i64 y0) ∧ w'.cell? ⟨h, 1, none⟩ = some (.int .i64 y1) ∧ w'.cell? ⟨h, 2, none⟩ = some (.int .i64 y2) ∧ w'.cell? ⟨h, 3, none⟩ = some (.int .i64 y3) ∧ w'.cell? ⟨h, 4, none⟩ = some (.int .i64 y4) ∧ w'.cell? ⟨h, 5, none⟩ = some (.int .i64 y5)) w' from by
                  have a1 := HBS8.out.only ho (fun e => e.elim n4 n5)
                  have a2 := HBH8.out.only ho (fun e => e.elim n2 n3)
                  exact ⟨a1.cell 0, a1.cell 1, a1.cell 2, a1.cell 3, a1.cell 4, a1.cell 5, a2.cell 0, a2.cell 1, a2.cell 2, a2.cell 3, a2.cell 4, a2.cell 5⟩))
                go_region_held3 (fun w' => w'.cell? ⟨w5.heap.size, 0, none⟩ = some (.int .i64 y0) ∧ w'.cell? ⟨w5.heap.size, 1, none⟩ = some (.int .i64 y1) ∧ w'.cell? ⟨w5.heap.size, 2, none⟩ = some (.int .i64 y2) ∧ w'.cell? ⟨w5.heap.size, 3, none⟩ = some (.int .i64 y3) ∧ w'.cell? ⟨w5.heap.size, 4, none⟩ = some (.int .i64 y4) ∧ w'.cell? ⟨w5.heap.size, 5, none⟩ = some (.int .i64 y5) ∧ w'.cell? ⟨h, 0, none⟩ = some (.int .i64 y0) ∧ w'.cell? ⟨h, 1, none⟩ = some (.int .i64 y1) ∧ w'.cell? ⟨h, 2, none⟩ = some (.int .i64 y2) ∧ w'.cell? ⟨h, 3, none⟩ = some (.int .i64 y3) ∧ w'.cell? ⟨h, 4, none⟩ = some (.int .i64 y4) ∧ w'.cell? ⟨h, 5, none⟩ = some (.int .i64 y5))
                  ((refine HSK.out _ ?_; repeat (first | with_reducible exact Only.refl _ _ | with_reducible apply Only.drewS | (with_reducible refine Only.step2 ?_ ?_; focus (first | exact .inl (.inl rfl) | exact .inl (.inr rfl))))))
                  (fail)
                go_wp2
                go_roundw
                case rel =>
                  exact ⟨j + 1, ⟨y0, y1, y2, y3, y4, y5⟩, by omega, by go_num, (HSA8.out.store HGQ.out.1 HGQ.out.2.1 HGQ.out.2.2 _ _ _ _ _ _).fresh (Fresh.drew _)⟩
                case measure => simp [intOf]; omega
              · have hcz : codeS ps = cd := by have := HCD.out; rwa [List.take_length] at this
                have hrr : (SetV.mk s0 s1 s2 s3 s4 s5, (0 : Int), (0 : Int), cd) = (SetV.mk x0 x1 x2 x3 x4 x5, ra, rb, rc) := by
                  rw [← HRR.out]
                  unfold applyR
                  rw [hcz, if_neg hc0]
                simp only [Prod.mk.injEq, SetV.mk.injEq] at hrr
                obtain ⟨⟨rfl, rfl, rfl, rfl, rfl, rfl⟩, rfl, rfl, rfl⟩ := hrr
                have hrf : rf = true := by rw [← HRF.out]; simpa using hc0
                subst hrf
                have hc1 : (cd == 0) = false := by simpa using hc0
                have hc2 : (cd != 0) = true := by simpa using hc0
                have hcdd : (cd != cd) = false := by simp
                clear hcz
                have n6 : q ≠ h := fun e => HH.out.2.1 e.symm
                have n7 : h ≠ q := HH.out.2.1
                have n8 : w5.heap.size ≠ h := (HG6.out _ (Nat.le_refl _)).2.2
                have n9 : w5.heap.size + 1 ≠ h := (HG6.out _ (by omega)).2.2
                have n10 : w5.heap.size + 1 + 1 ≠ h := (HG6.out _ (by omega)).2.2
                go_upto_region 28 with fail
                refine wp_gen (fun W => SaW w g q ⟨s0, s1, s2, s3, s4, s5⟩ W ∧ Blk W h 28 #[.int .i64 s0, .int .i64 s1, .int .i64 s2, .int .i64 s3, .int .i64 s4, .int .i64 s5] ∧ Trip w5.heap.size ⟨s0, s1, s2, s3, s4, s5⟩ 0 0 cd true W) ?_ ?_
                focus
                  have O1 : Only (· = h) W6 _ := Only.put6 (.int .i64 s0) (.int .i64 s1) (.int .i64 s2) (.int .i64 s3) (.int .i64 s4) (.int .i64 s5)
                  exact ⟨HSA6.out.only O1 (fun i e => by have := HH.out.2.2; omega) (fun e => HH.out.1 e.symm) (fun e => HH.out.2.1 e.symm), Blk.put6 HB6.out _ _ _ _ _ _, ⟨HT6.out.hs.only O1 n8, HT6.out.hc.only O1 n9, HT6.out.hf.only O1 n10⟩⟩
                clear f0 f1 c0 c1 hTl hBl hQl
                clear k0 k1 k2 k3 k4 k5 u0 u1 u2 u3 u4 u5 v0 v1 v2 v3 v4 v5
                intro W9 ⟨hsa9, hbh9, hT9⟩
                have HSA6' := Lib.hid hsa9
                have HB6' := Lib.hid hbh9
                have HT6' := Lib.hid hT9
                have k0 := hsa9.b.cell 0
                have k1 := hsa9.b.cell 1
                have k2 := hsa9.b.cell 2
                have k3 := hsa9.b.cell 3
                have k4 := hsa9.b.cell 4
                have k5 := hsa9.b.cell 5
                simp only [SetV.cells, List.getElem?_toArray, List.getElem?_cons_zero, List.getElem?_cons_succ] at k0 k1 k2 k3 k4 k5
                have u0 := hbh9.cell 0
                have u1 := hbh9.cell 1
                have u2 := hbh9.cell 2
                have u3 := hbh9.cell 3
                have u4 := hbh9.cell 4
                have u5 := hbh9.cell 5
                simp only [SetV.cells, List.getElem?_toArray, List.getElem?_cons_zero, List.getElem?_cons_succ] at u0 u1 u2 u3 u4 u5
                have hTl := hT9.hf.lt
                have hBl := hbh9.lt
                have hQl := hsa9.b.lt
                clear hsa9 hbh9 hT9
                go_upto_region 31 with fail
                refine wp_gen (fun W => SaW w g q ⟨s0, s1, s2, s3, s4, s5⟩ W ∧ Blk W h 28 #[.int .i64 s0, .int .i64 s1, .int .i64 s2, .int .i64 s3, .int .i64 s4, .int .i64 s5] ∧ Blk W w5.heap.size 26 #[.int .i64 s0, .int .i64 s1, .int .i64 s2, .int .i64 s3, .int .i64 s4, .int .i64 s5] ∧ Blk W (w5.heap.size + 1) 35 #[.int .i64 0, .int .i64 0] ∧ Blk W W9.heap.size 35 #[.int .i64 0, .int .i64 0]) ?_ ?_
                focus
                  exact ⟨(HSA6'.out.fresh (Fresh.alloc _ _)), HB6'.out.alloc _, HT6'.out.hs.alloc _, HT6'.out.hc.alloc _, Blk.mkAt rfl⟩
                clear hTl hBl hQl
                clear k0 k1 k2 k3 k4 k5 u0 u1 u2 u3 u4 u5
                intro W7 ⟨hsa, hbh, hbs, hbc, hbw⟩
                have HSA7 := Lib.hid hsa
                have HBH := Lib.hid hbh
                have HBS := Lib.hid hbs
                have HS := Lib.hid (fun w' (hW : Fresh W7 w') => (show (fun w' => w'.cell? ⟨w5.heap.size, 0, none⟩ = some (.int .i64 s0) ∧ w'.cell? ⟨w5.heap.size, 1, none⟩ = some (.int .i64 s1) ∧ w'.cell? ⟨w5.heap.size, 2, none⟩ = some (.int .i64 s2) ∧ w'.cell? ⟨w5.heap.size, 3, none⟩ = some (.int .i64 s3) ∧ w'.cell? ⟨w5.heap.size, 4, none⟩ = some (.int .i64 s4) ∧ w'.cell? ⟨w5.heap.size, 5, none⟩ = some (.int .i64 s5) ∧ w'.cell? ⟨h, 0, none⟩ = some (.int .i64 s0) ∧ w'.cell? ⟨h, 1, none⟩ = some (.int .i64 s1) ∧ w'.cell? ⟨h, 2, none⟩ = some (.int .i64 s2) ∧ w'.cell? ⟨h, 3, none⟩ = some (.int .i64 s3) ∧ w'.cell? ⟨h, 4, none⟩ = some (.int .i64 s4) ∧ w'.cell? ⟨h, 5, none⟩ = some (.int .i64 s5) ∧ w'.cell? ⟨w5.heap.size + 1, 0, none⟩ = some (.int .i64 0) ∧ w'.cell? ⟨w5.heap.size + 1, 1, none⟩ = some (.int .i64 0) ∧ w'.cell? ⟨W9.heap.size, 0, none⟩ = some (.int .i64 0) ∧ w'.cell? ⟨W9.heap.size, 1, none⟩ = some (.int .i64 0) ∧ Fresh W7 w') w' from
                  ⟨(hbs.fresh hW).cell 0, (hbs.fresh hW).cell 1, (hbs.fresh hW).cell 2, (hbs.fresh hW).cell 3, (hbs.fresh hW).cell 4, (hbs.fresh hW).cell 5, (hbh.fresh hW).cell 0, (hbh.fresh hW).cell 1, (hbh.fresh hW).cell 2, (hbh.fresh hW).cell 3, (hbh.fresh hW).cell 4, (hbh.fresh hW).cell 5, (hbc.fresh hW).cell 0, (hbc.fresh hW).cell 1, (hbw.fresh hW).cell 0, (hbw.fresh hW).cell 1, hW⟩))
                have hS0 := HS.out W7 (Fresh.refl _)
                obtain ⟨g0, g1, g2, g3, g4, g5, g6, g7, g8, g9, g10, g11, g12, g13, g14, g15, g16⟩ := hS0
                have HNU := Lib.hid (fun W => set_numbers ⟨s0, s1, s2, s3, s4, s5⟩ W)
                dsimp only [SetV.val] at HNU
                clear hsa hbh hbs hbc hbw
                have hEQ := arr6 s0 s1 s2 s3 s4 s5
                go_region_held3 (fun w' => w'.cell? ⟨w5.heap.size, 0, none⟩ = some (.int .i64 s0) ∧ w'.cell? ⟨w5.heap.size, 1, none⟩ = some (.int .i64 s1) ∧ w'.cell? ⟨w5.heap.size, 2, none⟩ = some (.int .i64 s2) ∧ w'.cell? ⟨w5.heap.size, 3, none⟩ = some (.int .i64 s3) ∧ w'.cell? ⟨w5.heap.size, 4, none⟩ = some (.int .i64 s4) ∧ w'.cell? ⟨w5.heap.size, 5, none⟩ = some (.int .i64 s5) ∧ w'.cell? ⟨h, 0, none⟩ = some (.int .i64 s0) ∧ w'.cell? ⟨h, 1, none⟩ = some (.int .i64 s1) ∧ w'.cell? ⟨h, 2, none⟩ = some (.int .i64 s2) ∧ w'.cell? ⟨h, 3, none⟩ = some (.int .i64 s3) ∧ w'.cell? ⟨h, 4, none⟩ = some (.int .i64 s4) ∧ w'.cell? ⟨h, 5, none⟩ = some (.int .i64 s5) ∧ w'.cell? ⟨w5.heap.size + 1, 0, none⟩ = some (.int .i64 0) ∧ w'.cell? ⟨w5.heap.size + 1, 1, none⟩ = some (.int .i64 0) ∧ w'.cell? ⟨W9.heap.size, 0, none⟩ = some (.int .i64 0) ∧ w'.cell? ⟨W9.heap.size, 1, none⟩ = some (.int .i64 0) ∧ Fresh W7 w')
                  (first | assumption | (refine HS.out _ ?_; repeat (first | with_reducible assumption | with_reducible refine Fresh.trans ?_ hf6 | with_reducible exact Fresh.refl _ | with_reducible apply Fresh.drewS | with_reducible apply Fresh.allocS)))
                  (first
                    | (go_at_call 11; with_reducible refine (HNU.out _).mono ?_; rintro e w6 ⟨rfl, hf6⟩))
                have hW6 : Fresh W7 w6 := by first | exact hf6 | exact (Fresh.drew _).trans hf6
                have HSA8 := Lib.hid (HSA7.out.fresh hW6)
                have HBH8 := Lib.hid (HBH.out.fresh hW6)
                have HBS8 := Lib.hid (HBS.out.fresh hW6)
                clear hW6 hf6 g0 g1 g2 g3 g4 g5 g6 g7 g8 g9 g10 g11 g12 g13 g14 g15 g16 hEQ HS HNU HBH HBS HSA7
                go_upto_region 33 with fail
                have k0 := HBS8.out.cell 0
                have k1 := HBS8.out.cell 1
                have k2 := HBS8.out.cell 2
                have k3 := HBS8.out.cell 3
                have k4 := HBS8.out.cell 4
                have k5 := HBS8.out.cell 5
                simp only [SetV.cells, List.getElem?_toArray, List.getElem?_cons_zero, List.getElem?_cons_succ] at k0 k1 k2 k3 k4 k5
                have u0 := HBH8.out.cell 0
                have u1 := HBH8.out.cell 1
                have u2 := HBH8.out.cell 2
                have u3 := HBH8.out.cell 3
                have u4 := HBH8.out.cell 4
                have u5 := HBH8.out.cell 5
                simp only [SetV.cells, List.getElem?_toArray, List.getElem?_cons_zero, List.getElem?_cons_succ] at u0 u1 u2 u3 u4 u5
                have p0 := HSA8.out.a.cell 0
                have p1 := HSA8.out.a.cell 1
                have p2 := HSA8.out.a.cell 2
                have p3 := HSA8.out.a.cell 3
                have p4 := HSA8.out.a.cell 4
                have p5 := HSA8.out.a.cell 5
                simp only [SetV.cells, List.getElem?_toArray, List.getElem?_cons_zero, List.getElem?_cons_succ] at p0 p1 p2 p3 p4 p5
                have r0 := HSA8.out.b.cell 0
                have r1 := HSA8.out.b.cell 1
                have r2 := HSA8.out.b.cell 2
                have r3 := HSA8.out.b.cell 3
                have r4 := HSA8.out.b.cell 4
                have r5 := HSA8.out.b.cell 5
                simp only [SetV.cells, List.getElem?_toArray, List.getElem?_cons_zero, List.getElem?_cons_succ] at r0 r1 r2 r3 r4 r5
                have v0 := HSA8.out.a.frozen 0
                have v1 := HSA8.out.a.frozen 1
                have v2 := HSA8.out.a.frozen 2
                have v3 := HSA8.out.a.frozen 3
                have v4 := HSA8.out.a.frozen 4
                have v5 := HSA8.out.a.frozen 5
                have zz0 := HSA8.out.b.frozen 0
                have zz1 := HSA8.out.b.frozen 1
                have zz2 := HSA8.out.b.frozen 2
                have zz3 := HSA8.out.b.frozen 3
                have zz4 := HSA8.out.b.frozen 4
                have zz5 := HSA8.out.b.frozen 5
                have l1 := HBS8.out.lt
                have l2 := HBH8.out.lt
                have l3 := HSA8.out.a.lt
                have l4 := HSA8.out.b.lt
                have n1 : g ≠ q := HGQ.out.2.2
                have n2 : h ≠ g := HH.out.1
                have n3 : h ≠ q := HH.out.2.1
                have n4 : w5.heap.size ≠ g := (HG6.out _ (Nat.le_refl _)).1
                have n5 : w5.heap.size ≠ q := (HG6.out _ (Nat.le_refl _)).2.1
                have HSK := Lib.hid (fun w' (ho : Only (fun i => i = g ∨ i = q) w6 w') => (show (fun w' => w'.cell? ⟨w5.heap.size, 0, none⟩ = some (.int .i64 s0) ∧ w'.cell? ⟨w5.heap.size, 1, none⟩ = some (.int .i64 s1) ∧ w'.cell? ⟨w5.heap.size, 2, none⟩ = some (.int .i64 s2) ∧ w'.cell? ⟨w5.heap.size, 3, none⟩ = some (.int .i64 s3) ∧ w'.cell? ⟨w5.heap.size, 4, none⟩ = some (.int .i64 s4) ∧ w'.cell? ⟨w5.heap.size, 5, none⟩ = some (.int .i64 s5) ∧ w'.cell? ⟨h, 0, none⟩ = some (.int .i64 s0) ∧ w'.cell? ⟨h, 1, none⟩ = some (.int .i64 s1) ∧ w'.cell? ⟨h, 2, none⟩ = some (.int .i64 s2) ∧ w'.cell? ⟨h, 3, none⟩ = some (.int .i64 s3) ∧ w'.cell? ⟨h, 4, none⟩ = some (.int .i64 s4) ∧ w'.cell? ⟨h, 5, none⟩ = some (.int .i64 s5)) w' from by
                  have a1 := HBS8.out.only ho (fun e => e.elim n4 n5)
                  have a2 := HBH8.out.only ho (fun e => e.elim n2 n3)
                  exact ⟨a1.cell 0, a1.cell 1, a1.cell 2, a1.cell 3, a1.cell 4, a1.cell 5, a2.cell 0, a2.cell 1, a2.cell 2, a2.cell 3, a2.cell 4, a2.cell 5⟩))
                go_region_held3 (fun w' => w'.cell? ⟨w5.heap.size, 0, none⟩ = some (.int .i64 s0) ∧ w'.cell? ⟨w5.heap.size, 1, none⟩ = some (.int .i64 s1) ∧ w'.cell? ⟨w5.heap.size, 2, none⟩ = some (.int .i64 s2) ∧ w'.cell? ⟨w5.heap.size, 3, none⟩ = some (.int .i64 s3) ∧ w'.cell? ⟨w5.heap.size, 4, none⟩ = some (.int .i64 s4) ∧ w'.cell? ⟨w5.heap.size, 5, none⟩ = some (.int .i64 s5) ∧ w'.cell? ⟨h, 0, none⟩ = some (.int .i64 s0) ∧ w'.cell? ⟨h, 1, none⟩ = some (.int .i64 s1) ∧ w'.cell? ⟨h, 2, none⟩ = some (.int .i64 s2) ∧ w'.cell? ⟨h, 3, none⟩ = some (.int .i64 s3) ∧ w'.cell? ⟨h, 4, none⟩ = some (.int .i64 s4) ∧ w'.cell? ⟨h, 5, none⟩ = some (.int .i64 s5))
                  ((refine HSK.out _ ?_; repeat (first | with_reducible exact Only.refl _ _ | with_reducible apply Only.drewS | (with_reducible refine Only.step2 ?_ ?_; focus (first | exact .inl (.inl rfl) | exact .inl (.inr rfl))))))
                  (fail)
                go_wp2
                go_roundw
                case rel =>
                  exact ⟨j + 1, ⟨s0, s1, s2, s3, s4, s5⟩, by omega, by go_num, (HSA8.out.store HGQ.out.1 HGQ.out.2.1 HGQ.out.2.2 _ _ _ _ _ _).fresh (Fresh.drew _)⟩
                case measure => simp [intOf]; omega
        · have hlt' : ¬ (j : Int) < (xs.length : Int) := by omega
          have HF := Lib.hid hsa.fr
          clear hsa
          go_wp2_with fail
          with_reducible refine (FIN.out _ HF.out).mono ?_
          rintro e w1 ⟨rfl, hf1⟩
          have HF1 := Lib.hid hf1
          clear hf1
          go_wp2
          go_ret
          exact ⟨rfl, HF1.out⟩
end Go.Proofs.YtfnggbnacdbcpaaDoor
