/-
  Package inbound: Equal of events that say the same.
-/
import Derived.Test.YtginhebfjbhmnaaGreatG42
import Derived.Test.YtginhebfjbhmnaaGreatG02
import Derived.Deep.RegionHeld3
namespace Go.Proofs.YtginhebfjbhmnaaGreat
set_option maxRecDepth 100000
set_option linter.unusedVariables false
set_option linter.unusedSimpArgs false
open Go.RowKit
set_option maxHeartbeats 6400000 in
theorem in_equal (x y : EvV) (w : World) (hx : x.Ok w) (hy : y.Ok w) (he : x.e = y.e) (h1 : x.e.xs.length ≤ 1000000) (h2 : x.e.ps.length ≤ 1000000) :
    Calls Tryz.prog 13 #[.agg x.arr, .agg y.arr] w fun e w' => e = .returned (.bool true) ∧ Fresh w w' := by
  obtain ⟨⟨k, st, xs, l, ps, en, n, co⟩, LA, lc, TA, tc, PA, pc⟩ := x
  obtain ⟨e2, LB, ld, TB, td, PB, pd⟩ := y
  simp only at he
  subst he
  have HL := Lib.hid (fun W (hf : Fresh w W) => sl_equalL LA LB lc ld xs.length xs W rfl (hx.lines.fresh hf) (hy.lines.fresh hf) h1)
  have HT := Lib.hid (fun W (hf : Fresh w W) => bequal TA TB l l tc td W (hx.text.fresh hf) (hy.text.fresh hf))
  have HP := Lib.hid (fun W (hf : Fresh w W) => sequal PA PB ps ps pc pd W (hx.pairs.fresh hf) (hy.pairs.fresh hf) h2 h2)
  have HN1 := Lib.hid (fun W => in_numbers ⟨⟨k, st, xs, l, ps, en, n, co⟩, LA, lc, TA, tc, PA, pc⟩ W)
  have HN2 := Lib.hid (fun W => in_numbers ⟨⟨k, st, xs, l, ps, en, n, co⟩, LB, ld, TB, td, PB, pd⟩ W)
  rw [show (l == l) = true by simp] at HT
  rw [show decide (ps = ps) = true by simp] at HP
  unfold EvV.arr at HN1 HN2 ⊢
  simp only at HL HT HP HN1 HN2 ⊢
  clear hx hy h1 h2
  generalize xs.length = nx at *
  generalize l.length = nl at *
  generalize ps.length = np at *
  have hN : ∀ W, (Op.equalIn 10000 72 (.agg #[.int .i64 k, .int .i64 st, .int .i64 n, .int .i64 co]) (.agg #[.int .i64 k, .int .i64 st, .int .i64 n, .int .i64 co])).run Tryz.prog W = .ok true W := fun W => by
    have := run_equalIn_ints (P := Tryz.prog) Tryz.underlying72 Tryz.underlying3 (by kernel_rfl) 9998 [k, st, n, co] [k, st, n, co] rfl rfl W
    rwa [decide_eq_true rfl] at this
  have hen : (en == en) = true := by simp
  go_enter Tryz.func13, Tryz.ntmps13
  go_upto_region 1 with fail
  refine wp_gen (fun W => Blk W w.heap.size 42 #[.int .i64 k, .int .i64 st, .slice LA nx lc, .slice TA nl tc, .slice PA np pc, .bool en, .int .i64 n, .int .i64 co] ∧ Blk W (w.heap.size + 1) 42 #[.int .i64 k, .int .i64 st, .slice LB nx ld, .slice TB nl td, .slice PB np pd, .bool en, .int .i64 n, .int .i64 co] ∧ Fresh w W) ⟨(Blk.new _ _ _).alloc _, Blk.mkAt (by simp), (Fresh.alloc _ _).allocS _⟩ ?_
  rintro W1 ⟨hb1, hb2, hf1⟩
  obtain ⟨b, hb⟩ : ∃ b, w.heap.size = b := ⟨_, rfl⟩
  rw [hb] at hb1 hb2 ⊢
  have HF1 := Lib.hid hf1
  have HSK : Hid (∀ w', Fresh W1 w' → w'.cell? ⟨b, 0, none⟩ = some (.int .i64 k) ∧ w'.cell? ⟨b, 1, none⟩ = some (.int .i64 st) ∧ w'.cell? ⟨b, 2, none⟩ = some (.slice LA nx lc) ∧ w'.cell? ⟨b, 3, none⟩ = some (.slice TA nl tc) ∧ w'.cell? ⟨b, 4, none⟩ = some (.slice PA np pc) ∧ w'.cell? ⟨b, 5, none⟩ = some (.bool en) ∧ w'.cell? ⟨b, 6, none⟩ = some (.int .i64 n) ∧ w'.cell? ⟨b, 7, none⟩ = some (.int .i64 co) ∧ w'.cell? ⟨b + 1, 0, none⟩ = some (.int .i64 k) ∧ w'.cell? ⟨b + 1, 1, none⟩ = some (.int .i64 st) ∧ w'.cell? ⟨b + 1, 2, none⟩ = some (.slice LB nx ld) ∧ w'.cell? ⟨b + 1, 3, none⟩ = some (.slice TB nl td) ∧ w'.cell? ⟨b + 1, 4, none⟩ = some (.slice PB np pd) ∧ w'.cell? ⟨b + 1, 5, none⟩ = some (.bool en) ∧ w'.cell? ⟨b + 1, 6, none⟩ = some (.int .i64 n) ∧ w'.cell? ⟨b + 1, 7, none⟩ = some (.int .i64 co) ∧ Fresh W1 w') := Lib.hid (fun w' h => ⟨(hb1.fresh h).cell 0, (hb1.fresh h).cell 1, (hb1.fresh h).cell 2, (hb1.fresh h).cell 3, (hb1.fresh h).cell 4, (hb1.fresh h).cell 5, (hb1.fresh h).cell 6, (hb1.fresh h).cell 7, (hb2.fresh h).cell 0, (hb2.fresh h).cell 1, (hb2.fresh h).cell 2, (hb2.fresh h).cell 3, (hb2.fresh h).cell 4, (hb2.fresh h).cell 5, (hb2.fresh h).cell 6, (hb2.fresh h).cell 7, h⟩)
  obtain ⟨x0, x1, x2, x3, x4, x5, x6, x7, y0, y1, y2, y3, y4, y5, y6, y7, _⟩ := HSK.out W1 (Fresh.refl _)
  clear hb1 hb2 hf1 hb
  go_region_held3 (fun w' => w'.cell? ⟨b, 0, none⟩ = some (.int .i64 k) ∧ w'.cell? ⟨b, 1, none⟩ = some (.int .i64 st) ∧ w'.cell? ⟨b, 2, none⟩ = some (.slice LA nx lc) ∧ w'.cell? ⟨b, 3, none⟩ = some (.slice TA nl tc) ∧ w'.cell? ⟨b, 4, none⟩ = some (.slice PA np pc) ∧ w'.cell? ⟨b, 5, none⟩ = some (.bool en) ∧ w'.cell? ⟨b, 6, none⟩ = some (.int .i64 n) ∧ w'.cell? ⟨b, 7, none⟩ = some (.int .i64 co) ∧ w'.cell? ⟨b + 1, 0, none⟩ = some (.int .i64 k) ∧ w'.cell? ⟨b + 1, 1, none⟩ = some (.int .i64 st) ∧ w'.cell? ⟨b + 1, 2, none⟩ = some (.slice LB nx ld) ∧ w'.cell? ⟨b + 1, 3, none⟩ = some (.slice TB nl td) ∧ w'.cell? ⟨b + 1, 4, none⟩ = some (.slice PB np pd) ∧ w'.cell? ⟨b + 1, 5, none⟩ = some (.bool en) ∧ w'.cell? ⟨b + 1, 6, none⟩ = some (.int .i64 n) ∧ w'.cell? ⟨b + 1, 7, none⟩ = some (.int .i64 co) ∧ Fresh W1 w')
    ((refine HSK.out _ ?_; first | with_reducible assumption | with_reducible exact Fresh.drew _ | (with_reducible apply Fresh.drewS; with_reducible assumption)))
    (first
      | (go_at_call 26; (with_reducible refine (HN1.out _).mono ?_); rintro e w2 ⟨rfl, hf2⟩; have hg2 : Fresh W1 w2 := Fresh.trans (by first | with_reducible assumption | with_reducible exact Fresh.drew _) hf2; clear hf2)
      | (go_at_call 26; (with_reducible refine (HN2.out _).mono ?_); rintro e w3 ⟨rfl, hf3⟩; have hg3 : Fresh W1 w3 := Fresh.trans (by first | with_reducible assumption | with_reducible exact Fresh.drew _) hf3; clear hf3)
      | (go_at_call 27; (with_reducible refine (HL.out _ (HF1.out.trans (by first | with_reducible assumption | with_reducible exact Fresh.drew _))).mono ?_); rintro e w4 ⟨rfl, hf4⟩; have hg4 : Fresh W1 w4 := Fresh.trans (by first | with_reducible assumption | with_reducible exact Fresh.drew _) hf4; clear hf4)
      | (go_at_call 28; (with_reducible refine (HT.out _ (HF1.out.trans (by first | with_reducible assumption | with_reducible exact Fresh.drew _))).mono ?_); rintro e w5 ⟨rfl, rfl⟩)
      | (go_at_call 29; (with_reducible refine (HP.out _ (HF1.out.trans (by first | with_reducible assumption | with_reducible exact Fresh.drew _))).mono ?_); rintro e w6 ⟨rfl, hf6⟩; have hg6 : Fresh W1 w6 := Fresh.trans (by first | with_reducible assumption | with_reducible exact Fresh.drew _) hf6; clear hf6))
  all_goals
    go_wp2
    go_ret
    exact ⟨rfl, HF1.out.trans (by assumption)⟩
end Go.Proofs.YtginhebfjbhmnaaGreat

