/-
  Package inbound: events.
-/
import Derived.Test.YtginhebfjbhmnaaGreatG10
import Derived.Deep.Cut
import Derived.Deep.RegionHeld3
namespace Go.Proofs.YtginhebfjbhmnaaGreat
set_option maxRecDepth 100000
set_option maxRecDepth 100000
set_option linter.unusedVariables false
set_option linter.unusedSimpArgs false
open Go.RowKit
theorem Blk.c8 {w : World} {g : Nat} {t : TypeId} {a0 a1 a2 a3 a4 a5 a6 a7 : Value} (h : Blk w g t #[a0, a1, a2, a3, a4, a5, a6, a7]) : w.cell? ⟨g, 0, none⟩ = some a0 ∧ w.cell? ⟨g, 1, none⟩ = some a1 ∧ w.cell? ⟨g, 2, none⟩ = some a2 ∧ w.cell? ⟨g, 3, none⟩ = some a3 ∧ w.cell? ⟨g, 4, none⟩ = some a4 ∧ w.cell? ⟨g, 5, none⟩ = some a5 ∧ w.cell? ⟨g, 6, none⟩ = some a6 ∧ w.cell? ⟨g, 7, none⟩ = some a7 := ⟨h.cell 0, h.cell 1, h.cell 2, h.cell 3, h.cell 4, h.cell 5, h.cell 6, h.cell 7⟩
theorem Blk.z8 {w : World} {g : Nat} {t : TypeId} {a0 a1 a2 a3 a4 a5 a6 a7 : Value} (h : Blk w g t #[a0, a1, a2, a3, a4, a5, a6, a7]) : w.frozen? ⟨g, 0, none⟩ = false ∧ w.frozen? ⟨g, 1, none⟩ = false ∧ w.frozen? ⟨g, 2, none⟩ = false ∧ w.frozen? ⟨g, 3, none⟩ = false ∧ w.frozen? ⟨g, 4, none⟩ = false ∧ w.frozen? ⟨g, 5, none⟩ = false ∧ w.frozen? ⟨g, 6, none⟩ = false ∧ w.frozen? ⟨g, 7, none⟩ = false := ⟨h.frozen 0, h.frozen 1, h.frozen 2, h.frozen 3, h.frozen 4, h.frozen 5, h.frozen 6, h.frozen 7⟩
/-- What an event says. -/
structure Ev where
  (k st : Int) (xs : List LnD) (l : List UInt8) (ps : List (Int × Int)) (en : Bool) (n co : Int)
def Ev0 : Ev := ⟨0, 0, [], [], [], false, 0, 0⟩
/-- How it lies. -/
structure EvV where
  (e : Ev) (LA : Option Addr) (lc : Nat) (TA : Option Addr) (tc : Nat) (PA : Option Addr) (pc : Nat)
def EvV.arr (x : EvV) : Array Value := #[.int .i64 x.e.k, .int .i64 x.e.st, .slice x.LA x.e.xs.length x.lc, .slice x.TA x.e.l.length x.tc, .slice x.PA x.e.ps.length x.pc, .bool x.e.en, .int .i64 x.e.n, .int .i64 x.e.co]
structure EvV.Ok (w : World) (x : EvV) : Prop where
  lines : Many lnD 3 w x.LA x.e.xs
  text : BS w x.TA x.e.l
  pairs : Many pairC 2 w x.PA x.e.ps
  tle : x.e.l.length ≤ x.tc
  tmax : x.tc ≤ maxLen
theorem EvV.Ok.fresh {w w' : World} {x : EvV} (h : x.Ok w) (hf : Fresh w w') : x.Ok w' := ⟨h.lines.fresh hf, h.text.fresh hf, h.pairs.fresh hf, h.tle, h.tmax⟩
def Ev.bare (e : Ev) : EvV := ⟨e, none, 0, none, 0, none, 0⟩
/-- The event of an item. -/
def evX (x : ItV) : EvV :=
  if x.ty = 0 then ⟨⟨2, x.st, [], x.l, [], x.en, x.fl, 0⟩, none, 0, x.A, x.c, none, 0⟩
  else if x.ty = 3 then Ev.bare ⟨3, x.st, [], [], [], false, 0, x.co⟩
  else if x.ty = 8 then Ev.bare ⟨4, x.st, [], [], [], false, x.inc, 0⟩
  else if x.ty = 4 then ⟨⟨if x.ak then 6 else 5, 0, [], [], x.ps, false, 0, 0⟩, none, 0, none, 0, x.PA, x.pc⟩
  else if x.ty = 6 then ⟨⟨if x.ak then 8 else 7, 0, [], x.l, [], false, 0, 0⟩, none, 0, x.A, x.c, none, 0⟩
  else if x.ty = 7 then ⟨⟨9, 0, [], x.l, [], false, x.la, x.co⟩, none, 0, x.A, x.c, none, 0⟩
  else Ev.bare Ev0
theorem evX_ok {w : World} {x : ItV} (h : x.Ok w) : (evX x).Ok w := by
  have h0 : (0 : Nat) ≤ maxLen := by simp [maxLen]
  unfold evX
  repeat (split; · first | exact ⟨Many.nil _ _ _ _, h.bs, Many.nil _ _ _ _, h.le, h.max⟩ | exact ⟨Many.nil _ _ _ _, BS.nil _ _, h.prs, Nat.le_refl _, h0⟩ | exact ⟨Many.nil _ _ _ _, BS.nil _ _, Many.nil _ _ _ _, Nat.le_refl _, h0⟩)
  exact ⟨Many.nil _ _ _ _, BS.nil _ _, Many.nil _ _ _ _, Nat.le_refl _, h0⟩
theorem in_ofConn (co : Int) (w : World) : Calls Tryz.prog 23 #[.int .i64 co] w fun e w' => e = .returned (.agg #[.int .i64 co, .bool true]) ∧ Fresh w w' := by
  go_enter Tryz.func23, Tryz.ntmps23
  go_upto_region 1 with fail
  refine wp_gen (fun W => Blk W w.heap.size 32 #[.int .i64 0, .bool false] ∧ Fresh w W) ⟨Blk.new _ _ _, Fresh.alloc _ _⟩ ?_
  rintro W1 ⟨hb1, hf1⟩
  go_wp2_with (first | (refine wp_storeB rfl (.tmp 2) (.tmp 4) _ rfl rfl rfl hb1 (by kernel_rfl) rfl (by simp [Value.oneCell']) ?_) | fail)
  intro W3 hb3 ho3
  have HB3 := Lib.hid hb3
  have HF3 : Hid (Fresh w W3) := Lib.hid (Only.fresh ((Only.of_fresh hf1).trans ho3) (fun i hi e => by omega))
  clear hb3 ho3 hb1 hf1
  go_wp2
  exact bodyPost_ret (results_c0 (fn := Tryz.f23) rfl rfl HB3.out (by kernel_rfl) (fun w => by simp [isAgg, go_sem])) rfl ⟨rfl, HF3.out⟩
theorem in_either (b : Bool) (x y : Int) (w : World) : Calls Tryz.prog 53 #[.bool b, .int .i64 x, .int .i64 y] w fun e w' => e = .returned (.int .i64 (if b then x else y)) ∧ w' = w := by
  cases b
  all_goals
    go_enter Tryz.func53, Tryz.ntmps53
    go_wp2
    go_ret
    exact ⟨rfl, rfl⟩
theorem in_eitherV (b : Bool) (x y k : Int) (h : (if b then x else y) = k) (w : World) : Calls Tryz.prog 53 #[.bool b, .int .i64 x, .int .i64 y] w fun e w' => e = .returned (.int .i64 k) ∧ w' = w := by
  subst h
  exact in_either b x y w
set_option maxHeartbeats 3200000 in
theorem ev_0 (ty st : Int) (A : Option Addr) (c : Nat) (l : List UInt8) (en eh ak : Bool) (fl co la inc de we : Int) (wd ex : Bool) (PA : Option Addr) (pc : Nat) (ps : List (Int × Int)) (hty : ty = 0) (w : World) :
    Calls Tryz.prog 43 #[.agg #[.int .i64 ty, .int .i64 st, .slice A l.length c, .bool en, .bool eh, .bool ak, .int .i64 fl, .int .i64 co, .int .i64 la, .int .i64 inc, .int .i64 de, .int .i64 we, .bool wd, .bool ex, .slice PA ps.length pc]] w fun e w' => e = .returned (.agg #[.int .i64 2, .int .i64 st, .slice none 0 0, .slice A l.length c, .slice none 0 0, .bool en, .int .i64 fl, .int .i64 0]) ∧ Fresh w w' := by
  subst hty
  go_enter Tryz.func43, Tryz.ntmps43
  go_upto_region 1 with fail
  refine wp_gen (fun W => Blk W w.heap.size 98 #[.int .i64 0, .int .i64 st, .slice A l.length c, .bool en, .bool eh, .bool ak, .int .i64 fl, .int .i64 co, .int .i64 la, .int .i64 inc, .int .i64 de, .int .i64 we, .bool wd, .bool ex, .slice PA ps.length pc] ∧ Blk W (w.heap.size + 1) 42 #[.int .i64 0, .int .i64 0, .slice none 0 0, .slice none 0 0, .slice none 0 0, .bool false, .int .i64 0, .int .i64 0] ∧ Fresh w W) ⟨(Blk.new _ _ _).alloc _, Blk.mkAt (by simp), (Fresh.alloc _ _).allocS _⟩ ?_
  rintro W1 ⟨hb1, hb2, hf1⟩
  obtain ⟨b, hb⟩ : ∃ b, w.heap.size = b := ⟨_, rfl⟩
  have HB := Lib.hid hb
  rw [hb] at hb1 hb2 ⊢
  have HX1 := Lib.hid hb1
  have HX2 := Lib.hid hb2
  have HF1 := Lib.hid hf1
  clear hb1 hb2 hf1 hb
  have x0 := HX1.out.cell 0
  have x1 := HX1.out.cell 1
  have x2 := HX1.out.cell 2
  have x3 := HX1.out.cell 3
  have x6 := HX1.out.cell 6
  simp only [List.getElem?_toArray, List.getElem?_cons_zero, List.getElem?_cons_succ] at x0 x1 x2 x3 x6
  go_wp2_with (first | (refine wp_storeB rfl (.tmp 2) (.tmp 15) _ rfl rfl rfl HX2.out (by kernel_rfl) rfl (by simp [Value.oneCell']) ?_) | fail)
  intro W3 hb3 ho3
  have HB3 := Lib.hid hb3
  have HF3 : Hid (Fresh w W3) := Lib.hid (Only.fresh ((Only.of_fresh HF1.out).trans ho3) (fun i hi e => by have := HB.out; omega))
  clear hb3 ho3
  go_wp2
  exact bodyPost_ret (results_c0 (fn := Tryz.f43) rfl rfl HB3.out (by kernel_rfl) (fun w => by simp [isAgg, go_sem])) rfl ⟨rfl, HF3.out⟩
set_option maxHeartbeats 3200000 in
theorem ev_3 (ty st : Int) (A : Option Addr) (c : Nat) (l : List UInt8) (en eh ak : Bool) (fl co la inc de we : Int) (wd ex : Bool) (PA : Option Addr) (pc : Nat) (ps : List (Int × Int)) (hty : ty = 3) (w : World) :
    Calls Tryz.prog 43 #[.agg #[.int .i64 ty, .int .i64 st, .slice A l.length c, .bool en, .bool eh, .bool ak, .int .i64 fl, .int .i64 co, .int .i64 la, .int .i64 inc, .int .i64 de, .int .i64 we, .bool wd, .bool ex, .slice PA ps.length pc]] w fun e w' => e = .returned (.agg #[.int .i64 3, .int .i64 st, .slice none 0 0, .slice none 0 0, .slice none 0 0, .bool false, .int .i64 0, .int .i64 co]) ∧ Fresh w w' := by
  subst hty
  go_enter Tryz.func43, Tryz.ntmps43
  go_upto_region 1 with fail
  refine wp_gen (fun W => Blk W w.heap.size 98 #[.int .i64 3, .int .i64 st, .slice A l.length c, .bool en, .bool eh, .bool ak, .int .i64 fl, .int .i64 co, .int .i64 la, .int .i64 inc, .int .i64 de, .int .i64 we, .bool wd, .bool ex, .slice PA ps.length pc] ∧ Blk W (w.heap.size + 1) 42 #[.int .i64 0, .int .i64 0, .slice none 0 0, .slice none 0 0, .slice none 0 0, .bool false, .int .i64 0, .int .i64 0] ∧ Fresh w W) ⟨(Blk.new _ _ _).alloc _, Blk.mkAt (by simp), (Fresh.alloc _ _).allocS _⟩ ?_
  rintro W1 ⟨hb1, hb2, hf1⟩
  obtain ⟨b, hb⟩ : ∃ b, w.heap.size = b := ⟨_, rfl⟩
  have HB := Lib.hid hb
  rw [hb] at hb1 hb2 ⊢
  have HX1 := Lib.hid hb1
  have HX2 := Lib.hid hb2
  have HF1 := Lib.hid hf1
  clear hb1 hb2 hf1 hb
  have x0 := HX1.out.cell 0
  have x1 := HX1.out.cell 1
  have x7 := HX1.out.cell 7
  simp only [List.getElem?_toArray, List.getElem?_cons_zero, List.getElem?_cons_succ] at x0 x1 x7
  go_wp2_with (first | (refine wp_storeB rfl (.tmp 2) (.tmp 22) _ rfl rfl rfl HX2.out (by kernel_rfl) rfl (by simp [Value.oneCell']) ?_) | fail)
  intro W3 hb3 ho3
  have HB3 := Lib.hid hb3
  have HF3 : Hid (Fresh w W3) := Lib.hid (Only.fresh ((Only.of_fresh HF1.out).trans ho3) (fun i hi e => by have := HB.out; omega))
  clear hb3 ho3
  go_wp2
  exact bodyPost_ret (results_c0 (fn := Tryz.f43) rfl rfl HB3.out (by kernel_rfl) (fun w => by simp [isAgg, go_sem])) rfl ⟨rfl, HF3.out⟩
set_option maxHeartbeats 3200000 in
theorem ev_8 (ty st : Int) (A : Option Addr) (c : Nat) (l : List UInt8) (en eh ak : Bool) (fl co la inc de we : Int) (wd ex : Bool) (PA : Option Addr) (pc : Nat) (ps : List (Int × Int)) (hty : ty = 8) (w : World) :
    Calls Tryz.prog 43 #[.agg #[.int .i64 ty, .int .i64 st, .slice A l.length c, .bool en, .bool eh, .bool ak, .int .i64 fl, .int .i64 co, .int .i64 la, .int .i64 inc, .int .i64 de, .int .i64 we, .bool wd, .bool ex, .slice PA ps.length pc]] w fun e w' => e = .returned (.agg #[.int .i64 4, .int .i64 st, .slice none 0 0, .slice none 0 0, .slice none 0 0, .bool false, .int .i64 inc, .int .i64 0]) ∧ Fresh w w' := by
  subst hty
  go_enter Tryz.func43, Tryz.ntmps43
  go_upto_region 1 with fail
  refine wp_gen (fun W => Blk W w.heap.size 98 #[.int .i64 8, .int .i64 st, .slice A l.length c, .bool en, .bool eh, .bool ak, .int .i64 fl, .int .i64 co, .int .i64 la, .int .i64 inc, .int .i64 de, .int .i64 we, .bool wd, .bool ex, .slice PA ps.length pc] ∧ Blk W (w.heap.size + 1) 42 #[.int .i64 0, .int .i64 0, .slice none 0 0, .slice none 0 0, .slice none 0 0, .bool false, .int .i64 0, .int .i64 0] ∧ Fresh w W) ⟨(Blk.new _ _ _).alloc _, Blk.mkAt (by simp), (Fresh.alloc _ _).allocS _⟩ ?_
  rintro W1 ⟨hb1, hb2, hf1⟩
  obtain ⟨b, hb⟩ : ∃ b, w.heap.size = b := ⟨_, rfl⟩
  have HB := Lib.hid hb
  rw [hb] at hb1 hb2 ⊢
  have HX1 := Lib.hid hb1
  have HX2 := Lib.hid hb2
  have HF1 := Lib.hid hf1
  clear hb1 hb2 hf1 hb
  have x0 := HX1.out.cell 0
  have x1 := HX1.out.cell 1
  have x9 := HX1.out.cell 9
  simp only [List.getElem?_toArray, List.getElem?_cons_zero, List.getElem?_cons_succ] at x0 x1 x9
  go_wp2_with (first | (refine wp_storeB rfl (.tmp 2) (.tmp 29) _ rfl rfl rfl HX2.out (by kernel_rfl) rfl (by simp [Value.oneCell']) ?_) | fail)
  intro W3 hb3 ho3
  have HB3 := Lib.hid hb3
  have HF3 : Hid (Fresh w W3) := Lib.hid (Only.fresh ((Only.of_fresh HF1.out).trans ho3) (fun i hi e => by have := HB.out; omega))
  clear hb3 ho3
  go_wp2
  exact bodyPost_ret (results_c0 (fn := Tryz.f43) rfl rfl HB3.out (by kernel_rfl) (fun w => by simp [isAgg, go_sem])) rfl ⟨rfl, HF3.out⟩
set_option maxHeartbeats 3200000 in
theorem ev_7 (ty st : Int) (A : Option Addr) (c : Nat) (l : List UInt8) (en eh ak : Bool) (fl co la inc de we : Int) (wd ex : Bool) (PA : Option Addr) (pc : Nat) (ps : List (Int × Int)) (hty : ty = 7) (w : World) :
    Calls Tryz.prog 43 #[.agg #[.int .i64 ty, .int .i64 st, .slice A l.length c, .bool en, .bool eh, .bool ak, .int .i64 fl, .int .i64 co, .int .i64 la, .int .i64 inc, .int .i64 de, .int .i64 we, .bool wd, .bool ex, .slice PA ps.length pc]] w fun e w' => e = .returned (.agg #[.int .i64 9, .int .i64 0, .slice none 0 0, .slice A l.length c, .slice none 0 0, .bool false, .int .i64 la, .int .i64 co]) ∧ Fresh w w' := by
  subst hty
  go_enter Tryz.func43, Tryz.ntmps43
  go_upto_region 1 with fail
  refine wp_gen (fun W => Blk W w.heap.size 98 #[.int .i64 7, .int .i64 st, .slice A l.length c, .bool en, .bool eh, .bool ak, .int .i64 fl, .int .i64 co, .int .i64 la, .int .i64 inc, .int .i64 de, .int .i64 we, .bool wd, .bool ex, .slice PA ps.length pc] ∧ Blk W (w.heap.size + 1) 42 #[.int .i64 0, .int .i64 0, .slice none 0 0, .slice none 0 0, .slice none 0 0, .bool false, .int .i64 0, .int .i64 0] ∧ Fresh w W) ⟨(Blk.new _ _ _).alloc _, Blk.mkAt (by simp), (Fresh.alloc _ _).allocS _⟩ ?_
  rintro W1 ⟨hb1, hb2, hf1⟩
  obtain ⟨b, hb⟩ : ∃ b, w.heap.size = b := ⟨_, rfl⟩
  have HB := Lib.hid hb
  rw [hb] at hb1 hb2 ⊢
  have HX1 := Lib.hid hb1
  have HX2 := Lib.hid hb2
  have HF1 := Lib.hid hf1
  clear hb1 hb2 hf1 hb
  have x0 := HX1.out.cell 0
  have x8 := HX1.out.cell 8
  have x7 := HX1.out.cell 7
  have x2 := HX1.out.cell 2
  simp only [List.getElem?_toArray, List.getElem?_cons_zero, List.getElem?_cons_succ] at x0 x8 x7 x2
  go_wp2_with (first | (refine wp_storeB rfl (.tmp 2) (.tmp 54) _ rfl rfl rfl HX2.out (by kernel_rfl) rfl (by simp [Value.oneCell']) ?_) | fail)
  intro W3 hb3 ho3
  have HB3 := Lib.hid hb3
  have HF3 : Hid (Fresh w W3) := Lib.hid (Only.fresh ((Only.of_fresh HF1.out).trans ho3) (fun i hi e => by have := HB.out; omega))
  clear hb3 ho3
  go_wp2
  exact bodyPost_ret (results_c0 (fn := Tryz.f43) rfl rfl HB3.out (by kernel_rfl) (fun w => by simp [isAgg, go_sem])) rfl ⟨rfl, HF3.out⟩
set_option maxHeartbeats 3200000 in
theorem ev_x (ty st : Int) (A : Option Addr) (c : Nat) (l : List UInt8) (en eh ak : Bool) (fl co la inc de we : Int) (wd ex : Bool) (PA : Option Addr) (pc : Nat) (ps : List (Int × Int)) (h0 : ¬ ty = 0) (h3 : ¬ ty = 3) (h8 : ¬ ty = 8) (h4 : ¬ ty = 4) (h6 : ¬ ty = 6) (h7 : ¬ ty = 7) (w : World) :
    Calls Tryz.prog 43 #[.agg #[.int .i64 ty, .int .i64 st, .slice A l.length c, .bool en, .bool eh, .bool ak, .int .i64 fl, .int .i64 co, .int .i64 la, .int .i64 inc, .int .i64 de, .int .i64 we, .bool wd, .bool ex, .slice PA ps.length pc]] w fun e w' => e = .returned (.agg #[.int .i64 0, .int .i64 0, .slice none 0 0, .slice none 0 0, .slice none 0 0, .bool false, .int .i64 0, .int .i64 0]) ∧ Fresh w w' := by
  go_enter Tryz.func43, Tryz.ntmps43
  go_upto_region 1 with fail
  refine wp_gen (fun W => Blk W w.heap.size 98 #[.int .i64 ty, .int .i64 st, .slice A l.length c, .bool en, .bool eh, .bool ak, .int .i64 fl, .int .i64 co, .int .i64 la, .int .i64 inc, .int .i64 de, .int .i64 we, .bool wd, .bool ex, .slice PA ps.length pc] ∧ Blk W (w.heap.size + 1) 42 #[.int .i64 0, .int .i64 0, .slice none 0 0, .slice none 0 0, .slice none 0 0, .bool false, .int .i64 0, .int .i64 0] ∧ Fresh w W) ⟨(Blk.new _ _ _).alloc _, Blk.mkAt (by simp), (Fresh.alloc _ _).allocS _⟩ ?_
  rintro W1 ⟨hb1, hb2, hf1⟩
  obtain ⟨b, hb⟩ : ∃ b, w.heap.size = b := ⟨_, rfl⟩
  have HB := Lib.hid hb
  rw [hb] at hb1 hb2 ⊢
  have HX1 := Lib.hid hb1
  have HX2 := Lib.hid hb2
  have HF1 := Lib.hid hf1
  clear hb1 hb2 hf1 hb
  have x0 := HX1.out.cell 0
  simp only [List.getElem?_toArray, List.getElem?_cons_zero, List.getElem?_cons_succ] at x0
  go_wp2_with (first | (refine wp_storeB rfl (.tmp 2) (.tmp 55) _ rfl rfl rfl HX2.out (by kernel_rfl) rfl (by simp [Value.oneCell']) ?_) | fail)
  intro W3 hb3 ho3
  have HB3 := Lib.hid hb3
  have HF3 : Hid (Fresh w W3) := Lib.hid (Only.fresh ((Only.of_fresh HF1.out).trans ho3) (fun i hi e => by have := HB.out; omega))
  clear hb3 ho3
  go_wp2
  exact bodyPost_ret (results_c0 (fn := Tryz.f43) rfl rfl HB3.out (by kernel_rfl) (fun w => by simp [isAgg, go_sem])) rfl ⟨rfl, HF3.out⟩
set_option maxHeartbeats 3200000 in
theorem ev_4 (ty st : Int) (A : Option Addr) (c : Nat) (l : List UInt8) (en eh ak : Bool) (fl co la inc de we : Int) (wd ex : Bool) (PA : Option Addr) (pc : Nat) (ps : List (Int × Int)) (hty : ty = 4) (w : World) :
    Calls Tryz.prog 43 #[.agg #[.int .i64 ty, .int .i64 st, .slice A l.length c, .bool en, .bool eh, .bool ak, .int .i64 fl, .int .i64 co, .int .i64 la, .int .i64 inc, .int .i64 de, .int .i64 we, .bool wd, .bool ex, .slice PA ps.length pc]] w fun e w' => e = .returned (.agg #[.int .i64 (if ak then 6 else 5), .int .i64 0, .slice none 0 0, .slice none 0 0, .slice PA ps.length pc, .bool false, .int .i64 0, .int .i64 0]) ∧ Fresh w w' := by
  subst hty
  obtain ⟨kk, hkk⟩ : ∃ kk : Int, (if ak then 6 else 5) = kk := ⟨_, rfl⟩
  have HKK := Lib.hid hkk
  rw [hkk]
  clear hkk
  go_enter Tryz.func43, Tryz.ntmps43
  go_upto_region 1 with fail
  refine wp_gen (fun W => Blk W w.heap.size 98 #[.int .i64 4, .int .i64 st, .slice A l.length c, .bool en, .bool eh, .bool ak, .int .i64 fl, .int .i64 co, .int .i64 la, .int .i64 inc, .int .i64 de, .int .i64 we, .bool wd, .bool ex, .slice PA ps.length pc] ∧ Blk W (w.heap.size + 1) 42 #[.int .i64 0, .int .i64 0, .slice none 0 0, .slice none 0 0, .slice none 0 0, .bool false, .int .i64 0, .int .i64 0] ∧ Fresh w W) ⟨(Blk.new _ _ _).alloc _, Blk.mkAt (by simp), (Fresh.alloc _ _).allocS _⟩ ?_
  rintro W1 ⟨hb1, hb2, hf1⟩
  obtain ⟨b, hb⟩ : ∃ b, w.heap.size = b := ⟨_, rfl⟩
  have HB := Lib.hid hb
  rw [hb] at hb1 hb2 ⊢
  have HX1 := Lib.hid hb1
  have HX2 := Lib.hid hb2
  have HF1 := Lib.hid hf1
  clear hb1 hb2 hf1 hb
  have x0 := HX1.out.cell 0
  have x5 := HX1.out.cell 5
  have x14 := HX1.out.cell 14
  simp only [List.getElem?_toArray, List.getElem?_cons_zero, List.getElem?_cons_succ] at x0 x5 x14
  have HSK : Hid (∀ w', Fresh W1 w' → w'.cell? ⟨b, 5, none⟩ = some (.bool ak) ∧ w'.cell? ⟨b, 14, none⟩ = some (.slice PA ps.length pc)) := Lib.hid (fun w' h => ⟨(HX1.out.fresh h).cell 5, (HX1.out.fresh h).cell 14⟩)
  go_upto_region 9 with fail
  refine wp_region_held_drew (S := (fun w' => w'.cell? ⟨b, 5, none⟩ = some (.bool ak) ∧ w'.cell? ⟨b, 14, none⟩ = some (.slice PA ps.length pc))) (by kernel_rfl) (HSK.out _ (Fresh.drew _)) (fun hHeld => ?_)
  refine wpAnyH_take (i := 0) (v := ?_) rfl (by kernel_rfl) (by kernel_rfl) (by kernel_rfl) (fun _ _ _ h => h) (Or.inl ⟨by rfl, ?_⟩) (by assumption) ?_; rotate_left; focus (intro w hSw; (try dsimp only at hSw); go_simp; (try with_reducible rfl); done)
  (try simp only [Act.put, List.getElem_toArray, List.getElem_cons_zero, List.getElem_cons_succ, List.setIfInBounds_toArray, List.set_cons_zero, List.set_cons_succ])
  refine wpAnyH_take (i := 1) (v := ?_) rfl (by kernel_rfl) (by kernel_rfl) (by kernel_rfl) (fun _ _ _ h => h) (Or.inl ⟨by rfl, ?_⟩) (by assumption) ?_; rotate_left; focus (intro w hSw; (try dsimp only at hSw); go_simp; (try with_reducible rfl); done)
  (try simp only [Act.put, List.getElem_toArray, List.getElem_cons_zero, List.getElem_cons_succ, List.setIfInBounds_toArray, List.set_cons_zero, List.set_cons_succ])
  refine wpAnyH_take (i := 3) (v := ?_) rfl (by kernel_rfl) (by kernel_rfl) (by kernel_rfl) (fun _ _ _ h => h) (Or.inl ⟨by rfl, ?_⟩) (by assumption) ?_; rotate_left; focus (intro w hSw; (try dsimp only at hSw); go_simp; (try with_reducible rfl); done)
  (try simp only [Act.put, List.getElem_toArray, List.getElem_cons_zero, List.getElem_cons_succ, List.setIfInBounds_toArray, List.set_cons_zero, List.set_cons_succ])
  refine wpAnyH_take (i := 4) (v := ?_) rfl (by kernel_rfl) (by kernel_rfl) (by kernel_rfl) (fun _ _ _ h => h) (Or.inl ⟨by rfl, ?_⟩) (by assumption) ?_; rotate_left; focus (intro w hSw; (try dsimp only at hSw); go_simp; (try with_reducible rfl); done)
  (try simp only [Act.put, List.getElem_toArray, List.getElem_cons_zero, List.getElem_cons_succ, List.setIfInBounds_toArray, List.set_cons_zero, List.set_cons_succ])
  refine wpAnyH_ready (rs := [2]) (by kernel_rfl) (by simp) ?_
  refine AllReadyH.cons rfl (fun K hK => ?_) AllReadyH.nil
  (go_simp; go_at_call 53; (with_reducible refine (in_eitherV _ _ _ _ HKK.out _).mono ?_); rintro e w2 ⟨rfl, rfl⟩)
  refine hK.out _ _ (HSK.out _ (Fresh.drew _)) (fun hHeld => ?_)
  clear hK K
  (try simp only [Act.put, List.getElem_toArray, List.getElem_cons_zero, List.getElem_cons_succ, List.setIfInBounds_toArray, List.set_cons_zero, List.set_cons_succ])
  refine wpAnyH_take (i := 5) (v := ?_) rfl (by kernel_rfl) (by kernel_rfl) (by kernel_rfl) (fun _ _ _ h => h) (Or.inl ⟨by rfl, ?_⟩) (by assumption) ?_; rotate_left; focus (intro w hSw; (try dsimp only at hSw); go_simp; (try with_reducible rfl); done)
  (try simp only [Act.put, List.getElem_toArray, List.getElem_cons_zero, List.getElem_cons_succ, List.setIfInBounds_toArray, List.set_cons_zero, List.set_cons_succ])
  refine wpAnyH_ready (rs := [6]) (by kernel_rfl) (by simp) ?_
  refine AllReadyH.cons rfl (fun K hK => ?_) AllReadyH.nil
  (refine op_storeB (ds := #[.int .i64 kk, .int .i64 0, .slice none 0 0, .slice none 0 0, .slice PA ps.length pc, .bool false, .int .i64 0, .int .i64 0]) (.tmp 2) (.tmp 37) _ rfl rfl rfl (HX2.out.drew) (by kernel_rfl) rfl (by simp [Value.oneCell']) ?_; intro W3 hb3 ho3)
  have hf3 : Fresh w W3 := Only.fresh ((Only.of_fresh (HF1.out.trans (Fresh.drew _))).trans ho3) (fun i hi e => by have := HB.out; omega)
  refine hK.out _ _ ⟨(HX1.out.drew.only ho3 (by omega)).cell 5, (HX1.out.drew.only ho3 (by omega)).cell 14⟩ (fun hHeld => ?_)
  clear hK K
  (try simp only [Act.put, List.getElem_toArray, List.getElem_cons_zero, List.getElem_cons_succ, List.setIfInBounds_toArray, List.set_cons_zero, List.set_cons_succ])
  refine wpAnyH_done (by kernel_rfl) ?_ _
  go_wp2
  exact bodyPost_ret (results_c0 (fn := Tryz.f43) rfl rfl hb3 (by kernel_rfl) (fun w => by simp [isAgg, go_sem])) rfl ⟨rfl, hf3⟩
set_option maxHeartbeats 3200000 in
theorem ev_6 (ty st : Int) (A : Option Addr) (c : Nat) (l : List UInt8) (en eh ak : Bool) (fl co la inc de we : Int) (wd ex : Bool) (PA : Option Addr) (pc : Nat) (ps : List (Int × Int)) (hty : ty = 6) (w : World) :
    Calls Tryz.prog 43 #[.agg #[.int .i64 ty, .int .i64 st, .slice A l.length c, .bool en, .bool eh, .bool ak, .int .i64 fl, .int .i64 co, .int .i64 la, .int .i64 inc, .int .i64 de, .int .i64 we, .bool wd, .bool ex, .slice PA ps.length pc]] w fun e w' => e = .returned (.agg #[.int .i64 (if ak then 8 else 7), .int .i64 0, .slice none 0 0, .slice A l.length c, .slice none 0 0, .bool false, .int .i64 0, .int .i64 0]) ∧ Fresh w w' := by
  subst hty
  obtain ⟨kk, hkk⟩ : ∃ kk : Int, (if ak then 8 else 7) = kk := ⟨_, rfl⟩
  have HKK := Lib.hid hkk
  rw [hkk]
  clear hkk
  go_enter Tryz.func43, Tryz.ntmps43
  go_upto_region 1 with fail
  refine wp_gen (fun W => Blk W w.heap.size 98 #[.int .i64 6, .int .i64 st, .slice A l.length c, .bool en, .bool eh, .bool ak, .int .i64 fl, .int .i64 co, .int .i64 la, .int .i64 inc, .int .i64 de, .int .i64 we, .bool wd, .bool ex, .slice PA ps.length pc] ∧ Blk W (w.heap.size + 1) 42 #[.int .i64 0, .int .i64 0, .slice none 0 0, .slice none 0 0, .slice none 0 0, .bool false, .int .i64 0, .int .i64 0] ∧ Fresh w W) ⟨(Blk.new _ _ _).alloc _, Blk.mkAt (by simp), (Fresh.alloc _ _).allocS _⟩ ?_
  rintro W1 ⟨hb1, hb2, hf1⟩
  obtain ⟨b, hb⟩ : ∃ b, w.heap.size = b := ⟨_, rfl⟩
  have HB := Lib.hid hb
  rw [hb] at hb1 hb2 ⊢
  have HX1 := Lib.hid hb1
  have HX2 := Lib.hid hb2
  have HF1 := Lib.hid hf1
  clear hb1 hb2 hf1 hb
  have x0 := HX1.out.cell 0
  have x5 := HX1.out.cell 5
  have x2 := HX1.out.cell 2
  simp only [List.getElem?_toArray, List.getElem?_cons_zero, List.getElem?_cons_succ] at x0 x5 x2
  have HSK : Hid (∀ w', Fresh W1 w' → w'.cell? ⟨b, 5, none⟩ = some (.bool ak) ∧ w'.cell? ⟨b, 2, none⟩ = some (.slice A l.length c)) := Lib.hid (fun w' h => ⟨(HX1.out.fresh h).cell 5, (HX1.out.fresh h).cell 2⟩)
  go_upto_region 11 with fail
  refine wp_region_held_drew (S := (fun w' => w'.cell? ⟨b, 5, none⟩ = some (.bool ak) ∧ w'.cell? ⟨b, 2, none⟩ = some (.slice A l.length c))) (by kernel_rfl) (HSK.out _ (Fresh.drew _)) (fun hHeld => ?_)
  refine wpAnyH_take (i := 0) (v := ?_) rfl (by kernel_rfl) (by kernel_rfl) (by kernel_rfl) (fun _ _ _ h => h) (Or.inl ⟨by rfl, ?_⟩) (by assumption) ?_; rotate_left; focus (intro w hSw; (try dsimp only at hSw); go_simp; (try with_reducible rfl); done)
  (try simp only [Act.put, List.getElem_toArray, List.getElem_cons_zero, List.getElem_cons_succ, List.setIfInBounds_toArray, List.set_cons_zero, List.set_cons_succ])
  refine wpAnyH_take (i := 1) (v := ?_) rfl (by kernel_rfl) (by kernel_rfl) (by kernel_rfl) (fun _ _ _ h => h) (Or.inl ⟨by rfl, ?_⟩) (by assumption) ?_; rotate_left; focus (intro w hSw; (try dsimp only at hSw); go_simp; (try with_reducible rfl); done)
  (try simp only [Act.put, List.getElem_toArray, List.getElem_cons_zero, List.getElem_cons_succ, List.setIfInBounds_toArray, List.set_cons_zero, List.set_cons_succ])
  refine wpAnyH_take (i := 3) (v := ?_) rfl (by kernel_rfl) (by kernel_rfl) (by kernel_rfl) (fun _ _ _ h => h) (Or.inl ⟨by rfl, ?_⟩) (by assumption) ?_; rotate_left; focus (intro w hSw; (try dsimp only at hSw); go_simp; (try with_reducible rfl); done)
  (try simp only [Act.put, List.getElem_toArray, List.getElem_cons_zero, List.getElem_cons_succ, List.setIfInBounds_toArray, List.set_cons_zero, List.set_cons_succ])
  refine wpAnyH_take (i := 4) (v := ?_) rfl (by kernel_rfl) (by kernel_rfl) (by kernel_rfl) (fun _ _ _ h => h) (Or.inl ⟨by rfl, ?_⟩) (by assumption) ?_; rotate_left; focus (intro w hSw; (try dsimp only at hSw); go_simp; (try with_reducible rfl); done)
  (try simp only [Act.put, List.getElem_toArray, List.getElem_cons_zero, List.getElem_cons_succ, List.setIfInBounds_toArray, List.set_cons_zero, List.set_cons_succ])
  refine wpAnyH_ready (rs := [2]) (by kernel_rfl) (by simp) ?_
  refine AllReadyH.cons rfl (fun K hK => ?_) AllReadyH.nil
  (go_simp; go_at_call 53; (with_reducible refine (in_eitherV _ _ _ _ HKK.out _).mono ?_); rintro e w2 ⟨rfl, rfl⟩)
  refine hK.out _ _ (HSK.out _ (Fresh.drew _)) (fun hHeld => ?_)
  clear hK K
  (try simp only [Act.put, List.getElem_toArray, List.getElem_cons_zero, List.getElem_cons_succ, List.setIfInBounds_toArray, List.set_cons_zero, List.set_cons_succ])
  refine wpAnyH_take (i := 5) (v := ?_) rfl (by kernel_rfl) (by kernel_rfl) (by kernel_rfl) (fun _ _ _ h => h) (Or.inl ⟨by rfl, ?_⟩) (by assumption) ?_; rotate_left; focus (intro w hSw; (try dsimp only at hSw); go_simp; (try with_reducible rfl); done)
  (try simp only [Act.put, List.getElem_toArray, List.getElem_cons_zero, List.getElem_cons_succ, List.setIfInBounds_toArray, List.set_cons_zero, List.set_cons_succ])
  refine wpAnyH_ready (rs := [6]) (by kernel_rfl) (by simp) ?_
  refine AllReadyH.cons rfl (fun K hK => ?_) AllReadyH.nil
  (refine op_storeB (ds := #[.int .i64 kk, .int .i64 0, .slice none 0 0, .slice A l.length c, .slice none 0 0, .bool false, .int .i64 0, .int .i64 0]) (.tmp 2) (.tmp 45) _ rfl rfl rfl (HX2.out.drew) (by kernel_rfl) rfl (by simp [Value.oneCell']) ?_; intro W3 hb3 ho3)
  have hf3 : Fresh w W3 := Only.fresh ((Only.of_fresh (HF1.out.trans (Fresh.drew _))).trans ho3) (fun i hi e => by have := HB.out; omega)
  refine hK.out _ _ ⟨(HX1.out.drew.only ho3 (by omega)).cell 5, (HX1.out.drew.only ho3 (by omega)).cell 2⟩ (fun hHeld => ?_)
  clear hK K
  (try simp only [Act.put, List.getElem_toArray, List.getElem_cons_zero, List.getElem_cons_succ, List.setIfInBounds_toArray, List.set_cons_zero, List.set_cons_succ])
  refine wpAnyH_done (by kernel_rfl) ?_ _
  go_wp2
  exact bodyPost_ret (results_c0 (fn := Tryz.f43) rfl rfl hb3 (by kernel_rfl) (fun w => by simp [isAgg, go_sem])) rfl ⟨rfl, hf3⟩
end Go.Proofs.YtginhebfjbhmnaaGreat

