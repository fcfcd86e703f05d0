/-
  Contracts of package payload: the laws' fixed answer.
-/
import Derived.Test.YtcdghmidpaeloaaPayH
import Derived.Lib.SlBytesConst
import Derived.StillTailTactics
import Derived.Deep.Cut
import Derived.Deep.CutBlock
namespace Go.Proofs.Ytcdghmidpaeloaa
set_option linter.unusedVariables false
open Go.RowKit

theorem bs_zero4 (X : World) (g : Nat) (h : X.heap.size = g) : BS (X.alloc (.cells (madeCells #[.int .u8 0] 4) 5)) (some ⟨g, 0, none⟩) [0, 0, 0, 0] := by
  subst h
  rw [madeCells_zero]
  exact BS.row (l := [0, 0, 0, 0]) (t := 5) (Blk.new X 5 (bytesA (List.replicate 4 0)))
theorem bs_const1 (X : World) (g : Nat) (h : X.heap.size = g) : BS (X.alloc (.cells #[.int .u8 49] 5 (1, 2))) (some ⟨g, 0, none⟩) [49] := by
  subst h
  exact BS.const X 5 [49] (1, 2)
/-- What stands behind a parse: its item, its fault. -/
theorem two_stood (w w' : World) (cs ds : Array Value) (o : Obj) (hf : Fresh (((w.alloc (.cells cs 28)).alloc (.cells ds 31)).alloc o) w') :
    Blk w' w.heap.size 28 cs ∧ Blk w' (w.heap.size + 1) 31 ds ∧ Fresh w w' :=
  ⟨(((Blk.new w _ cs).alloc _).alloc o).fresh hf, ((Blk.mkAt (by simp)).alloc o).fresh hf, (((Fresh.alloc _ _).allocS _).allocS _).trans hf⟩
set_option maxRecDepth 100000 in
set_option maxHeartbeats 6400000 in
theorem pl_awake (w : World) : Calls Try.prog 8 #[] w fun e w' => e = .returned (.bool true) ∧ Fresh w w' := by
  have kc : ∀ (w : World) (C : Array Value) (n c H : Nat), w.heap.size = H → (convert 22 22 (.slice (some ⟨H, 0, none⟩) n c)).run Try.prog (w.alloc (.cells C 5)) = .ok (.slice (some ⟨H, 0, none⟩) n c) (w.alloc (.cells C 5 (C.size, C.size + 1))) := fun w C n c H h => by
    subst h
    exact Lib.run_convert_bytes_const (P := Try.prog) w 22 5 C n c Try.underlying22 Try.underlying5
  go_enter Try.func8, Try.ntmps8
  go_wp2_with fail
  have hb0 : BS (w.alloc (.cells #[.int .u8 1, .int .u8 97, .int .u8 98, .int .u8 0] 5 (4, 5))) (some ⟨w.heap.size, 0, none⟩) [1, 97, 98, 0] := BS.const w 5 [1, 97, 98, 0] (4, 5)
  with_reducible refine (parse_a1 w.heap.size 4 _ hb0 (by omega) (by simp [maxLen])).mono ?_
  rintro e w1 ⟨A1, c1, P1, q1, rfl, hbs1, _, hf1⟩
  have HF1 := Lib.hid ((Fresh.alloc w (.cells #[.int .u8 1, .int .u8 97, .int .u8 98, .int .u8 0] 5 (4, 5))).trans hf1)
  have HS1 := Lib.hid hbs1
  clear hbs1 hf1 hb0
  have hmk := run_makeZ (P := Try.prog) Try.underlying22 u8_info rfl 4 4 rfl (by omega) (by omega)
  go_wp2_with fail
  with_reducible refine (parse_a2 _ _ (bs_zero4 _ _ (by simp))).mono ?_
  rintro e w2 ⟨A2, c2, P2, q2, rfl, _, _, hf2⟩
  obtain ⟨hi1, hj1, hf1⟩ := two_stood _ _ _ _ _ hf2
  have HX1 := Lib.hid (And.intro hi1 (And.intro hj1 (And.intro (HS1.out.fresh hf1) (HF1.out.trans hf1))))
  clear hi1 hj1 hf1 hf2 hmk HS1 HF1
  generalize w1.heap.size = g1 at *
  go_wp2_with fail
  with_reducible refine (parse_a3 _ _ _ (bs_const1 _ _ (by simp)) (by omega) (by simp [maxLen])).mono ?_
  rintro e w3 ⟨A3, c3, P3, q3, rfl, _, _, hf3⟩
  obtain ⟨hi2, hj2, hf2⟩ := two_stood _ _ _ _ _ hf3
  obtain ⟨a1, a2, a3, a4⟩ := HX1.out
  have HX2 := Lib.hid (And.intro (a1.fresh hf2) (And.intro (a2.fresh hf2) (And.intro hj2 (And.intro (a3.fresh hf2) (a4.trans hf2)))))
  clear hi2 hj2 hf2 hf3 HX1 a1 a2 a3 a4 kc
  generalize w2.heap.size = g2 at *
  go_upto_region 4 with fail
  refine wp_gen (fun W => Blk W g1 28 #[.int .i64 0, .int .i64 1, .slice A1 2 c1, .bool false, .bool false, .bool false, .int .i64 4, .int .i64 0, .int .i64 0, .int .i64 0, .int .i64 0, .int .i64 0, .bool false, .bool false, .slice P1 0 q1] ∧ Blk W (g1 + 1) 31 #[.int .i64 0, .bool false] ∧ Blk W (g2 + 1) 31 #[.int .i64 101, .bool false] ∧ Blk W (w3.heap.size + 1) 31 #[.int .i64 106, .bool true] ∧ BS W A1 [97, 98] ∧ Fresh w W) ?_ ?_
  focus
    obtain ⟨a1, a2, a3, a4, a5⟩ := HX2.out
    exact ⟨(a1.alloc _).alloc _, (a2.alloc _).alloc _, (a3.alloc _).alloc _, Blk.mkAt (by simp), a4.fresh ((Fresh.alloc _ _).allocS _), (a5.allocS _).allocS _⟩
  intro W ⟨hb1, hb2, hb3, hb4, hbs, hfw⟩
  generalize w3.heap.size = g3 at *
  have x2 := hb1.cell 2
  have x6 := hb1.cell 6
  simp only [List.getElem?_toArray, List.getElem?_cons_zero, List.getElem?_cons_succ] at x2 x6
  obtain ⟨f0, f1⟩ := hb2.c2
  have s1 : (convert 22 9 (.slice A1 2 c1)).run Try.prog W = .ok (.string { data := #[97, 98] }) W := run_str (P := Try.prog) hbs 22 9 5 Try.underlying22 Try.underlying5 Try.underlying9 c1
  have HX := Lib.hid (And.intro hb3 (And.intro hb4 hfw))
  have HP := Lib.hid (fun w => pok 0 false true (by decide) w)
  have HK9 := Lib.hid (fun w => pknown 9 w)
  have HK10 := Lib.hid (fun w => pknown 10 w)
  clear HX2 hb1 hb2 hb3 hb4 hbs hfw
  go_wp2_with fail
  with_reducible refine (HP.out _).mono ?_
  rintro e w4 ⟨rfl, hf4⟩
  obtain ⟨a3, a4, a5⟩ := HX.out
  obtain ⟨u0, u1⟩ := (a3.fresh hf4).c2
  obtain ⟨v0, v1⟩ := (a4.fresh hf4).c2
  have HF4 := Lib.hid (a5.trans hf4)
  clear a3 a4 a5 HX hf4 HP
  go_wp2_with fail
  with_reducible refine (HK9.out _).mono ?_
  rintro e w5 ⟨rfl, rfl⟩
  go_wp2_with fail
  with_reducible refine (HK10.out _).mono ?_
  rintro e w5 ⟨rfl, rfl⟩
  go_wp2_with fail
  go_ret
  exact ⟨rfl, HF4.out⟩
end Go.Proofs.Ytcdghmidpaeloaa

