/-
  Layer 13: the fixed answer; a stream's calls with told answers.
-/
import Derived.Test.YtdmcinndpkcjjaaDoorStateT
namespace Go.Proofs.YtdmcinndpkcjjaaDoor
set_option linter.unusedVariables false
open Go.RowKit Go.ChangeShapes Go.WideShapes Go.Deep
theorem rdoV (p : Nat) (a e : Int) (cs : List Int) (w : World) (ee cc a' : Int) (bb : Bool) (cs' : List Int) (h : RunAt w p a cs) (hT : Tbl w) (hb : ∀ c ∈ cs, c < 1000000000000) (hp : p ≠ 0)
    (h1 : doE a e = ee) (h2 : doC a e = cc) (h3 : doB a e = bb) (h4 : doA a e = a') (h5 : doL a e cs = cs') :
    Calls Tryd.prog 18 #[.pointer (some ⟨p, 0, none⟩), .int .i64 e] w fun en w' => en = .returned (.tuple #[.int .i64 ee, .agg #[.int .i64 cc, .bool bb]]) ∧ RunAt w' p a' cs' ∧ Only (· = p) w w' := by
  subst h1 h2 h3 h4 h5
  exact rdo p a e cs w h hT hb hp
theorem ssendV (s e : Int) (w : World) (a b : Int) (hT : Tbl w) (h1 : sendS s e = a) (h2 : sendE s e = b) :
    Calls Tryd.prog 7 #[.int .i64 s, .int .i64 e] w fun en w' => en = .returned (.tuple #[.int .i64 a, .int .i64 b]) ∧ w = w' := by
  subst h1 h2
  exact ssend s e w hT
theorem sgetV (s e : Int) (w : World) (a b : Int) (c : Bool) (hT : Tbl w) (h1 : getS s e = a) (h2 : getC s e = b) (h3 : getB s e = c) :
    Calls Tryd.prog 8 #[.int .i64 s, .int .i64 e] w fun en w' => en = .returned (.tuple #[.int .i64 a, .agg #[.int .i64 b, .bool c]]) ∧ Fresh w w' := by
  subst h1 h2 h3
  exact sget s e w hT
theorem smayV (s e : Int) (w : World) (b : Bool) (hT : Tbl w) (h : mayB s e = b) : Calls Tryd.prog 9 #[.int .i64 s, .int .i64 e] w fun en w' => en = .returned (.bool b) ∧ Fresh w w' := by
  subst h
  exact smay s e w hT
set_option maxRecDepth 100000 in
set_option maxHeartbeats 6400000 in
theorem state_awake (w : World) (hT : Tbl w) : Calls Tryd.prog 10 #[] w fun en w' => en = .returned (.bool true) ∧ Fresh w w' := by
  have hTT := Lib.hid hT
  have hg := hT.lt
  clear hT
  go_enter Tryd.func10, Tryd.ntmps10
  go_wp2_with fail
  with_reducible refine (run_new _).mono ?_
  rintro en w1 ⟨p, rfl, hp, hr, hf⟩
  have hpg : p ≠ 0 := by omega
  have HR := Lib.hid hr
  have HF := Lib.hid hf
  have HT := Lib.hid (hTT.out.fresh hf)
  have hp1 := hr.blk.lt
  clear hr hf hTT
  have HP := Lib.hid hp
  clear hp hg
  go_wp2_with fail
  have HD := Lib.hid (rdoV p 0 0 [0, 0, 0, 0, 0, 0, 0, 0, 0] w1 0 0 1 false [1, 0, 0, 0, 0, 0, 0, 0, 0] HR.out HT.out (by decide) hpg (by decide) (by decide) (by decide) (by decide) (by decide))
  with_reducible refine HD.out.mono ?_
  rintro en w2 ⟨rfl, hr2, ho2⟩
  clear HD
  have HR2 := Lib.hid hr2
  have HO2 := Lib.hid ho2
  have HT2 := Lib.hid (HT.out.only ho2 (fun e => hpg e.symm))
  clear hr2 ho2
  go_wp2_with fail
  with_reducible refine (rdoV p 1 2 [1, 0, 0, 0, 0, 0, 0, 0, 0] _ 0 0 3 false [1, 0, 1, 0, 0, 0, 0, 0, 0] (HR2.out.fresh (Fresh.alloc _ _)) (HT2.out.fresh (Fresh.alloc _ _)) (by decide) hpg (by decide) (by decide) (by decide) (by decide) (by decide)).mono ?_
  rintro en w3 ⟨rfl, hr3, ho3⟩
  have HR3 := Lib.hid hr3
  have HO3 := Lib.hid ho3
  have HT3 := Lib.hid ((HT2.out.fresh (Fresh.alloc _ _)).only ho3 (fun e => hpg e.symm))
  clear hr3 ho3
  go_wp2_with fail
  with_reducible refine (rdoV p 3 6 [1, 0, 1, 0, 0, 0, 0, 0, 0] _ 0 0 4 false [1, 0, 1, 0, 0, 0, 1, 0, 0] (HR3.out.fresh (Fresh.alloc _ _)) (HT3.out.fresh (Fresh.alloc _ _)) (by decide) hpg (by decide) (by decide) (by decide) (by decide) (by decide)).mono ?_
  rintro en w4 ⟨rfl, hr4, ho4⟩
  have HR4 := Lib.hid hr4
  have HO4 := Lib.hid ho4
  have HT4 := Lib.hid ((HT3.out.fresh (Fresh.alloc _ _)).only ho4 (fun e => hpg e.symm))
  have HF4 : Hid (Fresh w w4) := Lib.hid (Only.fresh (S := (· = p)) ((((Only.of_fresh HF.out).trans HO2.out).trans ((Only.of_fresh (Fresh.alloc _ _)).trans HO3.out)).trans ((Only.of_fresh (Fresh.alloc _ _)).trans HO4.out)) (fun k hk e => by have := HP.out; omega))
  clear hr4 ho4
  go_wp2_with fail
  with_reducible refine (sgetV 0 5 _ 0 101 true (HT4.out.fresh (Fresh.alloc _ _)) (by decide) (by decide) (by decide)).mono ?_
  rintro en w5 ⟨rfl, hf5⟩
  have HR5 := Lib.hid ((HR4.out.fresh (Fresh.alloc _ _)).fresh hf5)
  have HT5 := Lib.hid ((HT4.out.fresh (Fresh.alloc _ _)).fresh hf5)
  have HF5 := Lib.hid ((HF4.out.allocS _).trans hf5)
  obtain ⟨r0, r1⟩ := ((Blk.new w4 28 #[.int .i64 0, .bool false]).fresh hf5).c2
  have hz5 := ((Blk.new w4 28 #[.int .i64 0, .bool false]).fresh hf5).lt
  clear hf5
  go_wp2_with fail
  with_reducible refine (run_at p _ _ _ (HR5.out.fresh (Fresh.alloc _ _))).mono ?_
  rintro en w6 ⟨rfl, rfl⟩
  go_wp2_with fail
  with_reducible refine (run_count p _ 6 _ _ (HR5.out.fresh (Fresh.alloc _ _))).mono ?_
  rintro en w6 ⟨rfl, rfl⟩
  have hcn : cntI [1, 0, 1, 0, 0, 0, 1, 0, 0] 6 = 1 := by decide
  rw [hcn]
  clear hcn
  go_wp2_with fail
  with_reducible refine (smayV 1 1 _ true (HT5.out.fresh (Fresh.alloc _ _)) (by decide)).mono ?_
  rintro en w6 ⟨rfl, hf6⟩
  have HF6 := Lib.hid ((HF5.out.allocS _).trans hf6)
  clear hf6
  go_wp2
  go_ret
  exact ⟨rfl, HF6.out⟩
end Go.Proofs.YtdmcinndpkcjjaaDoor
