/-
  Package queue: the laws' fixed answer.
-/
import Derived.Test.YthfifeclmikbgaaQue9
import Derived.Lib.SlBytesConst
namespace Go.Proofs.Ythfifeclmikbgaa
set_option linter.unusedVariables false
set_option linter.unusedSimpArgs false
open Go.RowKit
def aX1 (b1 b2 : Nat) : QI := ⟨7, some ⟨b1, 0, none⟩, 2, [97, 98], some ⟨b2, 0, none⟩, 4, [99, 100, 101, 102]⟩
def aX2 (b3 : Nat) : QI := ⟨0, none, 0, [], some ⟨b3, 0, none⟩, 5, [49, 50, 51, 52, 53]⟩
def aX3 : QI := ⟨0, none, 0, [], none, 0, []⟩
section
variable {base q R : Nat} {w : World}
theorem aw_put1 (b1 b2 : Nat) (h : QAt w base q R 2 10 5 nilR) (hb : base ≤ w.heap.size) (h1 : BS w (some ⟨b1, 0, none⟩) [97, 98]) (h2 : BS w (some ⟨b2, 0, none⟩) [99, 100, 101, 102]) :
    Calls Try.prog 16 #[.pointer (some ⟨q, 0, none⟩), .int .i64 1, .agg #[.int .i64 7, .slice (some ⟨b1, 0, none⟩) 2 2, .slice (some ⟨b2, 0, none⟩) 4 4]] w (PutP base q R 2 10 5 nilR 1 (aX1 b1 b2) w) := by
  have h := qu_put 1 (aX1 b1 b2) h hb (by decide) h1 h2 (by simp [aX1, QI.z]) (by simp [nilR])
  refine (show Calls Try.prog 16 #[.pointer (some ⟨q, 0, none⟩), .int .i64 1, .agg #[.int .i64 7, .slice (some ⟨b1, 0, none⟩) 2 2, .slice (some ⟨b2, 0, none⟩) 4 4]] w _ from h).mono ?_
  intro e w' hP
  rwa [if_neg (by simp [nilR, qz, aX1, QI.z])] at hP
def aR1 (v : Value) (y : QI) : Rows := updR nilR 1 (v, [y])
theorem aw_put2 (b1 b2 b3 g1 g2 : Nat) (v : Value) (h : QAt w base q R 2 10 5 (aR1 v (clI (aX1 b1 b2) g1 g2))) (hb : base ≤ w.heap.size) (h2 : BS w (some ⟨b3, 0, none⟩) [49, 50, 51, 52, 53]) :
    Calls Try.prog 16 #[.pointer (some ⟨q, 0, none⟩), .int .i64 1, .agg #[.int .i64 0, .slice none 0 0, .slice (some ⟨b3, 0, none⟩) 5 5]] w (ErrP 33 w) := by
  have h := qu_put 1 (aX2 b3) h hb (by decide) (BS.nil _ _) h2 (by simp [aX2, QI.z]) (by simp [aR1, updR])
  refine (show Calls Try.prog 16 #[.pointer (some ⟨q, 0, none⟩), .int .i64 1, .agg #[.int .i64 0, .slice none 0 0, .slice (some ⟨b3, 0, none⟩) 5 5]] w _ from h).mono ?_
  intro e w' hP
  rwa [if_pos (by simp [aR1, updR, qz, clI, QI.z, aX1, aX2])] at hP
theorem aw_put3 {ro : Rows} (h : QAt w base q R 2 10 5 ro) : Calls Try.prog 16 #[.pointer (some ⟨q, 0, none⟩), .int .i64 2, .agg #[.int .i64 0, .slice none 0 0, .slice none 0 0]] w (ErrP 11 w) :=
  qu_put_range 2 aX3 h (.inr (by decide))
theorem aw_cut (b1 b2 g1 g2 : Nat) (v : Value) (h : QAt w base q R 2 10 5 (aR1 v (clI (aX1 b1 b2) g1 g2))) :
    Calls Try.prog 21 #[.pointer (some ⟨q, 0, none⟩), .int .i64 1, .int .i64 3] w (fun e w' => ∃ g3, e = .returned (.tuple #[.slice (some ⟨g3, 0, none⟩) 3 3, .int .i64 0]) ∧ Blk w' g3 5 (bytesA [99, 100, 101]) ∧ QAt w' base q R 2 10 5 (aR1 v (cutI (clI (aX1 b1 b2) g1 g2) 3)) ∧ Only (fun k => k = R ∨ v.ownBlock = some k) w w') := by
  refine (qu_cut 1 3 (clI (aX1 b1 b2) g1 g2) [] h (by decide) (by simp [aR1, updR]) (by simp [clI, aX1])).mono ?_
  rintro e w' ⟨g3, rfl, hb, _, hq, ho⟩
  have hs : (aR1 v (clI (aX1 b1 b2) g1 g2) 1).1 = v := by simp [aR1, updR]
  rw [hs] at hq ho
  refine ⟨g3, rfl, hb, ?_, ho⟩
  have : updR (aR1 v (clI (aX1 b1 b2) g1 g2)) 1 (v, cutI (clI (aX1 b1 b2) g1 g2) 3 :: []) = aR1 v (cutI (clI (aX1 b1 b2) g1 g2) 3) := by
    funext j
    unfold aR1 updR
    split <;> rfl
  rw [← this]
  exact hq
theorem aw_pop (y : QI) (v : Value) (h : QAt w base q R 2 10 5 (aR1 v y)) :
    Calls Try.prog 19 #[.pointer (some ⟨q, 0, none⟩), .int .i64 1] w (fun e w' => ∃ ro, e = .returned (.tuple #[y.agg, .int .i64 0]) ∧ QAt w' base q R 2 10 5 ro ∧ (ro 1).2 = [] ∧ y.Ok w' ∧ Only (fun k => k = R ∨ v.ownBlock = some k) w w') := by
  refine (qu_pop 1 y h (by decide) (by simp [aR1, updR])).mono ?_
  rintro e w' ⟨v', rfl, hq, hv, ho⟩
  have hs : (aR1 v y 1).1 = v := by simp [aR1, updR]
  rw [hs] at ho
  have hok := h.ok 1 (by decide) y (by simp [aR1, updR])
  refine ⟨_, rfl, hq, by rw [updR_same]; simp [aR1, updR], hok.only ho (fun g cs hg e => ?_), ho⟩
  rcases e with e | e
  · exact (h.byte_ne hg).2.1 e
  · exact (h.byte_ne hg).2.2 1 (by decide) (by rw [hs]; exact e)
set_option maxRecDepth 100000 in
set_option maxHeartbeats 6400000 in
theorem qu_awake (w : World) : Calls Try.prog 8 #[] w fun e w' => e = .returned (.bool true) ∧ Fresh w w' := by
  have HN : Calls Try.prog 9 #[.int .i64 2, .int .i64 10, .int .i64 5] w (QNewP 2 10 5 w) := qu_new 2 10 5 w (by decide) (by decide) (by decide) (by decide) (by decide) (by decide)
  have kc : ∀ (w : World) (C : Array Value) (n c H : Nat), w.heap.size = H → (convert 32 32 (.slice (some ⟨H, 0, none⟩) n c)).run Try.prog (w.alloc (.cells C 5)) = .ok (.slice (some ⟨H, 0, none⟩) n c) (w.alloc (.cells C 5 (C.size, C.size + 1))) := fun w C n c H h => by
    subst h
    exact Lib.run_convert_bytes_const (P := Try.prog) w 32 5 C n c Try.underlying32 Try.underlying5
  go_enter Try.func8, Try.ntmps8
  go_wp2_with fail
  with_reducible refine HN.mono ?_
  rintro e w1 ⟨q, R, rfl, hq1, hql, hRl, hf1⟩
  have HQ1 := Lib.hid (hq1 w.heap.size)
  have HF1 := Lib.hid hf1
  have HL := Lib.hid (And.intro hql hRl)
  clear hq1 hql hRl hf1 HN
  go_wp2_with fail
  have hfa : Fresh w1 ((w1.alloc (.cells (bytesA [97, 98]) 5 (2, 3))).alloc (.cells (bytesA [99, 100, 101, 102]) 5 (4, 5))) := (Fresh.alloc _ _).allocS _
  have hA2 := BS.const (w1.alloc (.cells (bytesA [97, 98]) 5 (2, 3))) 5 [99, 100, 101, 102] (4, 5)
  rw [World.size_alloc] at hA2
  have HP1 := Lib.hid (aw_put1 w1.heap.size (w1.heap.size + 1) (HQ1.out.fresh hfa) (HF1.out.trans hfa).size ((BS.const w1 5 [97, 98] (2, 3)).fresh (Fresh.alloc _ _)) hA2)
  have HFA := Lib.hid (HF1.out.trans hfa)
  clear hfa hA2
  refine HP1.out.mono ?_
  rintro e w2 ⟨v, g1, g2, rfl, hq2, ho2, hn2⟩
  have hq2' : QAt w2 w.heap.size q R 2 10 5 (aR1 v (clI (aX1 w1.heap.size (w1.heap.size + 1)) g1 g2)) := hq2
  have hvn : ∀ k, v.ownBlock = some k → w.heap.size ≤ k := fun k hk => by
    rcases hn2.1 k hk with e | e
    · cases e
    · exact Nat.le_trans HFA.out.size e
  have hf2 : Fresh w w2 := Below.trans HFA.out (Only.below ho2 HFA.out.size (fun k e => by
    rcases e with e | e
    · rw [e]; exact HL.out.2
    · cases e))
  have HQ2 := Lib.hid hq2'
  have HF2 := Lib.hid hf2
  have HVN := Lib.hid hvn
  clear hq2 hq2' ho2 hn2 hvn hf2 HP1
  go_wp2_with fail
  have HP2 := Lib.hid (aw_put2 w1.heap.size (w1.heap.size + 1) w2.heap.size g1 g2 v (HQ2.out.fresh (Fresh.alloc w2 (.cells (bytesA [49, 50, 51, 52, 53]) 5 (5, 6)))) (HF2.out.allocS _).size (BS.const w2 5 [49, 50, 51, 52, 53] (5, 6)))
  refine HP2.out.mono ?_
  rintro e w3 ⟨rfl, hf3⟩
  have HF3 := Lib.hid ((Fresh.alloc w2 (.cells (bytesA [49, 50, 51, 52, 53]) 5 (5, 6))).trans hf3)
  clear hf3 HP2
  have HQ3 := Lib.hid (HQ2.out.fresh HF3.out)
  go_wp2_with fail
  with_reducible refine (aw_put3 HQ3.out).mono ?_
  rintro e w4 ⟨rfl, hf4⟩
  have HF4 := Lib.hid (HF2.out.trans (HF3.out.trans hf4))
  have HQ4 := Lib.hid (HQ3.out.fresh hf4)
  clear hf4
  go_wp2_with fail
  with_reducible refine (aw_cut _ _ _ _ _ HQ4.out).mono ?_
  rintro e w5 ⟨g3, rfl, hb5, hq5, ho5⟩
  have HQ5 := Lib.hid hq5
  have HB5 := Lib.hid hb5
  have HF5 : Hid (Fresh w w5) := Lib.hid (Below.trans HF4.out (Only.below ho5 HF4.out.size (fun k e => by
    rcases e with e | e
    · rw [e]; exact HL.out.2
    · exact HVN.out k e)))
  clear hb5 hq5 ho5
  go_wp2_with fail
  with_reducible refine (aw_pop _ _ HQ5.out).mono ?_
  rintro e w6 ⟨ro, rfl, hq6, hr6, hok6, ho6⟩
  have hag : (cutI (clI (aX1 w1.heap.size (w1.heap.size + 1)) g1 g2) 3).agg = .agg #[.int .i64 7, .slice (some ⟨g1, 0, none⟩) 2 2, .slice (some ⟨g2, 3, none⟩) 1 1] := by
    simp [QI.agg, cutI, clI, aX1, cutA_some]
  have hB6 : Blk w6 g3 5 (bytesA [99, 100, 101]) := HB5.out.only ho6 (fun e => by
    rcases e with e | e
    · exact (HQ5.out.byte_ne HB5.out).2.1 e
    · exact (HQ5.out.byte_ne HB5.out).2.2 1 (by decide) e)
  have hS2 : BS w6 (some ⟨g2, 3, none⟩) [102] := by
    have := hok6.bd.bs
    simpa [cutI, clI, aX1, cutA_some] using this
  have hF6 : Fresh w w6 := Below.trans HF5.out (Only.below ho6 HF5.out.size (fun k e => by
    rcases e with e | e
    · rw [e]; exact HL.out.2
    · exact HVN.out k e))
  have HQ6 := Lib.hid (And.intro hq6 hr6)
  have HB6 := Lib.hid hB6
  have HS2 := Lib.hid hS2
  have HF6 := Lib.hid hF6
  rw [hag]
  clear hq6 hr6 hok6 ho6 hag hB6 hS2 hF6
  go_upto_region 6 with fail
  refine wp_gen (fun W => Fresh w6 W ∧ Blk W w6.heap.size 34 #[.int .i64 7, .slice (some ⟨g1, 0, none⟩) 2 2, .slice (some ⟨g2, 3, none⟩) 1 1]) ⟨Fresh.alloc _ _, Blk.new _ _ _⟩ ?_
  rintro W ⟨hfW, hbW⟩
  obtain ⟨c0, c1, c2⟩ := hbW.c3
  have hs1 := run_str (P := Try.prog) (BS.row (HB6.out.fresh hfW)) 32 9 5 Try.underlying32 Try.underlying5 Try.underlying9 3
  have hs2 := run_str (P := Try.prog) (HS2.out.fresh hfW) 32 9 5 Try.underlying32 Try.underlying5 Try.underlying9 1
  rw [show ([99, 100, 101] : List UInt8).length = 3 from rfl] at hs1
  rw [show ([102] : List UInt8).length = 1 from rfl] at hs2
  have e1 : (strB [99, 100, 101]).toList = [99, 100, 101] := strB_toList _
  have e2 : (strB [102]).toList = [102] := strB_toList _
  have HBY : Hid (Calls Try.prog 12 #[.pointer (some ⟨q, 0, none⟩), .int .i64 1] W fun e w' => e = .returned (.int .i64 0) ∧ W = w') := Lib.hid (by
    have h := qu_bytes 1 (HQ6.out.1.fresh hfW) (by decide)
    rw [HQ6.out.2] at h
    exact h)
  have HLN : Hid (Calls Try.prog 11 #[.pointer (some ⟨q, 0, none⟩), .int .i64 1] W fun e w' => e = .returned (.int .i64 0) ∧ W = w') := Lib.hid (by
    have h := qu_len 1 (HQ6.out.1.fresh hfW) (by decide)
    rw [HQ6.out.2] at h
    exact h)
  have HFW := Lib.hid (HF6.out.trans hfW)
  generalize strB [99, 100, 101] = S1 at *
  generalize strB [102] = S2 at *
  clear hfW hbW
  go_wp2_with fail
  with_reducible refine HBY.out.mono ?_
  rintro e w8 ⟨rfl, rfl⟩
  go_wp2_with fail
  with_reducible refine HLN.out.mono ?_
  rintro e w8 ⟨rfl, rfl⟩
  go_wp2
  go_ret
  exact ⟨rfl, HFW.out⟩
end
end Go.Proofs.Ythfifeclmikbgaa
