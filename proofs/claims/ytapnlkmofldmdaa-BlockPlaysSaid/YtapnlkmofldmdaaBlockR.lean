/-
  Layer 12: one item for both; the law BlockPlays.
-/
import Derived.Test.YtapnlkmofldmdaaBlockP
import Derived.Deep.RegionHeld3
import Derived.Deep.DrawnRows
import Derived.Deep.CutRange
import Derived.Test.YtapnlkmofldmdaaChain
import Derived.Test.YtapnlkmofldmdaaVal2
import Derived.Deep.Cut
namespace Go.Proofs.Ytapnlkmofldmdaa
set_option linter.unusedVariables false
set_option linter.unusedSimpArgs false
open Go.RowKit Go.ChangeShapes Go.WideShapes Go.Deep
attribute [local go_sem ↓] Go.wp_at_zero Go.wp_at_succ
theorem refV_form (s : Option Part) : ∃ q1 q2 q3, refV s = .agg #[.int .i64 q1, .string q2, .int .i64 q3] ∧ q1 = atS s ∧ q2.size = lenS s := by
  cases s with
  | none => exact ⟨_, _, _, rfl, rfl, rfl⟩
  | some y =>
    obtain ⟨a, l, b⟩ := y
    exact ⟨_, _, _, rfl, rfl, strB_size l⟩
theorem onS_one {lim : Int} {s : Option Part} {ty st : Int} {t : List UInt8} {e h : Bool} {r : Option Part × Option Part × Bool} (hr : onS lim s ty st t e h = r) : (∃ n, r = (n, none, true)) ∨ (∃ n, r = (n, none, false)) ∨ ∃ n st' l b, r = (n, some (st', l, b), false) := by
  subst hr
  unfold onS
  cases s with
  | none =>
    dsimp only
    split
    · exact .inl ⟨_, rfl⟩
    split
    · exact .inr (.inl ⟨_, rfl⟩)
    split
    · exact .inl ⟨_, rfl⟩
    split
    · exact .inr (.inr ⟨_, _, _, _, rfl⟩)
    · exact .inr (.inl ⟨_, rfl⟩)
  | some y =>
    obtain ⟨a, l, b⟩ := y
    dsimp only
    split
    · exact .inl ⟨_, rfl⟩
    split
    · exact .inl ⟨_, rfl⟩
    split
    · exact .inl ⟨_, rfl⟩
    split
    · exact .inr (.inr ⟨_, _, _, _, rfl⟩)
    · exact .inr (.inl ⟨_, rfl⟩)
theorem BS.only2 {w w' : World} {S : Nat → Prop} {A : Option Addr} {l : List UInt8} (h : BS w A l) (hf : Only S w w') (hs : 0 < l.length → ∀ b o, A = some ⟨b, o, none⟩ → b < w.heap.size → ¬ S b) : BS w' A l := fun hn => by
  obtain ⟨b, o, e, hb, hc⟩ := h hn
  exact ⟨b, o, e, by have := hf.size; omega, fun j hj => (hf.cell (p := ⟨b, _, none⟩) hb (hs hn b o e hb)).trans (hc j hj)⟩
theorem blkV_sliceQ {w : World} (o : Option Part) (v : Value) (h : ∀ st l b, o = some (st, l, b) → Own w 0 5 1 v l.length (l.map byteV)) : ∃ q1 A n c q3, blkV o v = .agg #[.int .i64 q1, .slice A n c, .bool q3] := by
  cases o with
  | none => exact ⟨_, _, _, _, _, rfl⟩
  | some y =>
    obtain ⟨st, l, b⟩ := y
    obtain ⟨A, c, rfl, _⟩ := (h st l b rfl).slice
    exact ⟨_, _, _, _, _, rfl⟩
theorem num_bi (b : Bool) (w : World) : Calls Try.prog 20 #[.bool b] w fun e w' => e = .returned (.int .i64 (bi b)) ∧ w = w' := by
  cases b
  all_goals
    go_enter Try.func20, Try.ntmps20
    go_wp2
    go_ret
    exact ⟨rfl, rfl⟩
theorem wrong12 (f : Bool) (w : World) : Calls Try.prog 17 #[fltV f] w fun e w' => e = .returned (.bool f) ∧ Fresh w w' := by
  cases f
  all_goals
    simp only [fltV, if_true, Bool.false_eq_true, if_false]
    go_enter Try.func17, Try.ntmps17
    go_wp2
    go_ret
    exact ⟨rfl, by repeat (first | with_reducible exact Fresh.refl _ | with_reducible apply Fresh.drewS | with_reducible apply Fresh.allocS)⟩
theorem ok12 (f : Bool) (w : World) : Calls Try.prog 15 #[fltV f] w fun e w' => e = .returned (.bool (!f)) ∧ Fresh w w' := by
  cases f
  all_goals
    simp only [fltV, if_true, Bool.false_eq_true, if_false]
    go_enter Try.func15, Try.ntmps15
    go_wp2
    go_ret
    exact ⟨rfl, by repeat (first | with_reducible exact Fresh.refl _ | with_reducible apply Fresh.drewS | with_reducible apply Fresh.allocS)⟩
set_option maxRecDepth 100000 in
set_option maxHeartbeats 12800000 in
theorem blk_step (p : Nat) (lim : Int) (s : Option Part) (v : Value) (x : ItV) (w : World) (r : Option Part × Option Part × Bool) (h : AsAt w p lim s v) (hx : x.Ok w) (hp : 0 < x.l.length → ∀ b o, x.A = some ⟨b, o, none⟩ → ¬ b = p) (ha : ∀ a l b, s = some (a, l, b) → 1 ≤ a) (hpv : 0 < x.l.length → ∀ b o, x.A = some ⟨b, o, none⟩ → v.ownBlock ≠ some b) (hl : x.l.length ≤ 1048576) (hr : onS lim s x.ty x.st x.l x.en x.eh = r) :
    Calls Try.prog 10 #[.pointer (some ⟨p, 0, none⟩), refV s, .int .i64 lim, .agg #[.int .i64 x.ty, .int .i64 x.st, .slice x.A x.l.length x.c, .bool x.en, .bool x.eh, .bool x.ak, .int .i64 x.fl, .int .i64 x.co, .int .i64 x.la, .int .i64 x.inc, .int .i64 x.de, .int .i64 x.we, .bool x.wd, .bool x.ex, .slice x.PA x.ps.length x.pc]] w
      fun e w' => e = .returned (.tuple #[refV r.1, .bool true]) ∧ ∃ v', AsAt w' p lim r.1 v' ∧ Only (fun k => k = p ∨ v.ownBlock = some k) w w' ∧ (∀ k, v'.ownBlock = some k → v.ownBlock = some k ∨ w.heap.size ≤ k) := by
  obtain ⟨ty, st, A, c, t, en, eh, ak, fl, co, la, inc, de, we, wd, ex, PA, pc, ps⟩ := x
  simp only at hl hr hp hpv ⊢
  have HPV := Lib.hid hpv
  clear hpv
  have hx1 := hx.le
  have hx2 := hx.max
  simp only at hx1 hx2
  unfold maxLen at hx2
  have HX := Lib.hid hx
  have HA := Lib.hid h
  have HP := Lib.hid hp
  have HR := Lib.hid hr
  have h0 := h.l0
  have h1 := h.l1
  have hpl := h.lt.1
  have HREF := Lib.hid (fun W => refOn lim s ty st t en eh W r (fun a l b e => ⟨ha a l b e, by have := (h.part a l b e).2.2; omega⟩) hl h0 h1 hr)
  have HONE := Lib.hid (onS_one hr)
  clear h hx hp ha hr
  obtain ⟨q1, q2, q3, hq, k1, k2⟩ := refV_form s
  rw [hq] at HREF ⊢
  clear hq k1 k2
  go_enter Try.func10, Try.ntmps10
  go_upto_region 1 with fail
  refine wp_gen (fun W => Fresh w W ∧ Blk W w.heap.size 30 #[.int .i64 q1, .string q2, .int .i64 q3] ∧ Blk W (w.heap.size + 1) 34 #[.int .i64 ty, .int .i64 st, .slice A t.length c, .bool en, .bool eh, .bool ak, .int .i64 fl, .int .i64 co, .int .i64 la, .int .i64 inc, .int .i64 de, .int .i64 we, .bool wd, .bool ex, .slice PA ps.length pc] ∧ Blk W (w.heap.size + 1 + 1) 30 #[.int .i64 0, .string ⟨#[]⟩, .int .i64 0]) ⟨?_, ?_, ?_, ?_⟩ ?_
  · repeat (first | with_reducible exact Fresh.refl _ | with_reducible apply Fresh.allocS)
  · exact ((Blk.mkAt rfl).alloc _).alloc _
  · exact (Blk.mkAt (by simp)).alloc _
  · exact Blk.mkAt (by simp)
  intro W ⟨hf, hb5, hb7, hb8⟩
  have HF := Lib.hid hf
  have HB5 := Lib.hid hb5
  have HB7 := Lib.hid hb7
  have HB8 := Lib.hid hb8
  have e0 := hb7.cell 0
  have e1 := hb7.cell 1
  have e2 := hb7.cell 2
  have e3 := hb7.cell 3
  have e4 := hb7.cell 4
  have e5 := hb7.cell 5
  have e6 := hb7.cell 6
  have e7 := hb7.cell 7
  have e8 := hb7.cell 8
  have e9 := hb7.cell 9
  have e10 := hb7.cell 10
  have e11 := hb7.cell 11
  have e12 := hb7.cell 12
  have e13 := hb7.cell 13
  have e14 := hb7.cell 14
  simp only [List.getElem?_toArray, List.getElem?_cons_zero, List.getElem?_cons_succ] at e0 e1 e2 e3 e4 e5 e6 e7 e8 e9 e10 e11 e12 e13 e14
  clear hf hb5 hb7 hb8
  go_wp2_with fail
  refine (on_anyN p lim s v ty st A t.length c t en eh ak fl co la inc de we wd ex PA ps.length pc ps _ r (HA.out.fresh HF.out) rfl rfl (HX.out.fresh HF.out) HP.out HR.out).mono ?_
  rintro e w5 ⟨v5, b5, rfl, ha5, ho5, hv5, hbb5⟩
  have HA5 := Lib.hid ha5
  have HO5 := Lib.hid ho5
  have HV5 : Hid (∀ k, v5.ownBlock = some k → v.ownBlock = some k ∨ w.heap.size ≤ k) := Lib.hid (fun k hk => (hv5 k hk).imp id (fun h => Nat.le_trans (Below.size HF.out) h))
  have HBB5 := Lib.hid hbb5
  have hnp : ∀ g, w.heap.size ≤ g → ¬ (g = p ∨ v.ownBlock = some g) := fun g hg e => by
    rcases e with e | e
    · omega
    · have := (HA.out.lt.2 g e).2; omega
  have HC5 := Lib.hid (HB5.out.only ho5 (hnp _ (by omega)))
  have HC7 := Lib.hid (HB7.out.only ho5 (hnp _ (by omega)))
  have HC8 := Lib.hid (HB8.out.only ho5 (hnp _ (by omega)))
  have HOW : Hid (Only (fun k => k = p ∨ v.ownBlock = some k) w w5) := Lib.hid ((Only.of_fresh HF.out).trans ho5)
  clear ha5 ho5 hv5 hbb5 hnp HB5 HB7 HB8 HF e0 e1 e2 e3 e4 e5 e6 e7 e8 e9 e10 e11 e12 e13 e14
  obtain ⟨bA, bn, bc, b1, b3, hbl⟩ : ∃ bA bn bc b1 b3, blkV r.2.1 b5 = .agg #[.int .i64 b1, .slice bA bn bc, .bool b3] := by
    obtain ⟨q1, A, n, c, q3, e⟩ := blkV_sliceQ (w := w5) r.2.1 b5 (fun st l b e => (HBB5.out st l b e).1)
    exact ⟨_, _, _, _, _, e⟩
  obtain ⟨f1, f2, hfl⟩ : ∃ f1 f2, fltV r.2.2 = .agg #[.int .i64 f1, .bool f2] := by
    unfold fltV
    split
    · exact ⟨_, _, rfl⟩
    · exact ⟨_, _, rfl⟩
  obtain ⟨n1, n2, n3, hn, kn1, kn2⟩ := refV_form r.1
  obtain ⟨m1, m2, m3, hm, km1, km2⟩ := refV_form r.2.1
  rw [hbl, hfl]
  rw [hn, hm] at HREF
  generalize hok : r.2.1.isSome = ok at *
  generalize hwi : whatI r = wi at HREF
  have HE := Lib.hid (show blkV r.2.1 b5 = .agg #[.int .i64 b1, .slice bA bn bc, .bool b3] ∧ fltV r.2.2 = .agg #[.int .i64 f1, .bool f2] ∧ refV r.1 = .agg #[.int .i64 n1, .string n2, .int .i64 n3] ∧ refV r.2.1 = .agg #[.int .i64 m1, .string m2, .int .i64 m3] ∧ n2.size = lenS r.1 ∧ r.2.1.isSome = ok ∧ whatI r = wi from ⟨hbl, hfl, hn, hm, kn2, hok, hwi⟩)
  clear hbl hfl hn hm kn1 kn2 km1 km2 hok hwi
  go_upto_region 2 with fail
  refine wp_gen (fun W => Fresh w5 W ∧ Blk W w5.heap.size 52 #[.int .i64 b1, .slice bA bn bc, .bool b3] ∧ Blk W (w5.heap.size + 1) 48 #[.int .i64 f1, .bool f2]) ⟨?_, ?_, ?_⟩ ?_
  · repeat (first | with_reducible exact Fresh.refl _ | with_reducible apply Fresh.allocS)
  · exact (Blk.mkAt rfl).alloc _
  · exact Blk.mkAt (by simp)
  intro W ⟨hf, hb10, hb12⟩
  have HFW := Lib.hid hf
  have HB10 := Lib.hid hb10
  have HB12 := Lib.hid hb12
  have HB8 := Lib.hid (HC8.out.fresh hf)
  have HS := Lib.hid (fun w' (hW : Only (fun i => W.heap.size ≤ i) W w') => (show (fun w' => w'.cell? ⟨w.heap.size, 0, none⟩ = some (.int .i64 q1) ∧ w'.cell? ⟨w.heap.size, 1, none⟩ = some (.string q2) ∧ w'.cell? ⟨w.heap.size, 2, none⟩ = some (.int .i64 q3) ∧ w'.cell? ⟨w.heap.size + 1, 0, none⟩ = some (.int .i64 ty) ∧ w'.cell? ⟨w.heap.size + 1, 1, none⟩ = some (.int .i64 st) ∧ w'.cell? ⟨w.heap.size + 1, 2, none⟩ = some (.slice A t.length c) ∧ w'.cell? ⟨w.heap.size + 1, 3, none⟩ = some (.bool en) ∧ w'.cell? ⟨w.heap.size + 1, 4, none⟩ = some (.bool eh) ∧ (convert 31 9 (.slice A t.length c)).run Try.prog w' = .ok (.string (strB t)) w' ) w' from by
    have h5 := (HC5.out.fresh hf).only hW (by have := (HC5.out.fresh hf).lt; omega)
    have h7 := (HC7.out.fresh hf).only hW (by have := (HC7.out.fresh hf).lt; omega)
    have hx5 : BS w5 A t := (HX.out.bs).only2 HOW.out (fun hn b o e _ h => h.elim (fun h => HP.out hn b o e h) (fun h => HPV.out hn b o e h))
    exact ⟨h5.cell 0, h5.cell 1, h5.cell 2, h7.cell 0, h7.cell 1, h7.cell 2, h7.cell 3, h7.cell 4, run_str ((hx5.fresh hf).only2 hW (fun _ b o _ hb h => by omega)) 31 9 5 Try.underlying31 Try.underlying5 Try.underlying9 c⟩))
  have HD5 := Lib.hid (HC5.out.fresh hf)
  have HD7 := Lib.hid (HC7.out.fresh hf)
  clear hf hb10 hb12 HC5 HC7 HC8
  refine wp_region_boxes (by kernel_rfl) (by kernel_rfl) (by kernel_rfl) (by kernel_rfl) (by kernel_rfl) [fun _ => .agg #[.int .i64 q1, .string q2, .int .i64 q3], fun _ => .int .i64 lim, fun _ => .pointer (some ⟨(w.heap.size + 1), 0, none⟩), fun _ => .int .i64 ty, fun _ => .pointer (some ⟨(w.heap.size + 1), 1, none⟩), fun _ => .int .i64 st, fun _ => .pointer (some ⟨(w.heap.size + 1), 2, none⟩), fun _ => .slice A t.length c, fun _ => .string (strB t), fun _ => .pointer (some ⟨(w.heap.size + 1), 3, none⟩), fun _ => .bool en, fun _ => .int .i64 (bi en), fun _ => .pointer (some ⟨(w.heap.size + 1), 4, none⟩), fun _ => .bool eh, fun _ => .int .i64 (bi eh), fun _ => .tuple #[.agg #[.int .i64 n1, .string n2, .int .i64 n3], .agg #[.int .i64 m1, .string m2, .int .i64 m3], .int .i64 wi], fun _ => .tuple #[.agg #[.int .i64 n1, .string n2, .int .i64 n3], .agg #[.int .i64 m1, .string m2, .int .i64 m3], .int .i64 wi], fun _ => .agg #[.int .i64 n1, .string n2, .int .i64 n3], fun _ => .agg #[.int .i64 m1, .string m2, .int .i64 m3], fun _ => .int .i64 wi, fun p => .pointer (some ⟨p, 0, none⟩), fun p => .pointer (some ⟨p, 0, none⟩), fun _ => undef, fun _ => undef, fun _ => .int .i64 wi] [⟨20, 22, 30, #[.int .i64 0, .string ⟨#[]⟩, .int .i64 0], #[.int .i64 n1, .string n2, .int .i64 n3]⟩, ⟨21, 23, 30, #[.int .i64 0, .string ⟨#[]⟩, .int .i64 0], #[.int .i64 m1, .string m2, .int .i64 m3]⟩] (by kernel_rfl) (by kernel_rfl) (fun s => { tmps := #[Value.pointer (some { block := p, off := 0 }), Value.agg #[Value.int IntKind.i64 q1, Value.string q2, Value.int IntKind.i64 q3], Value.int IntKind.i64 lim, Value.agg #[Value.int IntKind.i64 ty, Value.int IntKind.i64 st, Value.slice A t.length c, Value.bool en, Value.bool eh, Value.bool ak, Value.int IntKind.i64 fl, Value.int IntKind.i64 co, Value.int IntKind.i64 la, Value.int IntKind.i64 inc, Value.int IntKind.i64 de, Value.int IntKind.i64 we, Value.bool wd, Value.bool ex, Value.slice PA ps.length pc], undef, Value.pointer (some { block := w.heap.size, off := 0 }), undef, Value.pointer (some { block := w.heap.size + 1, off := 0 }), Value.pointer (some { block := w.heap.size + 1 + 1, off := 0 }), Value.bool false, Value.pointer (some { block := w5.heap.size, off := 0 }), Value.bool ok, Value.pointer (some { block := w5.heap.size + 1, off := 0 }), .pointer (some ⟨s 20, 0, none⟩), .pointer (some ⟨s 21, 0, none⟩), .int .i64 wi, Value.tuple #[Value.agg #[Value.int IntKind.i64 b1, Value.slice bA bn bc, Value.bool b3], Value.bool ok, Value.agg #[Value.int IntKind.i64 f1, Value.bool f2]], Value.pointer (some { block := p, off := 0 }), Value.agg #[Value.int IntKind.i64 ty, Value.int IntKind.i64 st, Value.slice A t.length c, Value.bool en, Value.bool eh, Value.bool ak, Value.int IntKind.i64 fl, Value.int IntKind.i64 co, Value.int IntKind.i64 la, Value.int IntKind.i64 inc, Value.int IntKind.i64 de, Value.int IntKind.i64 we, Value.bool wd, Value.bool ex, Value.slice PA ps.length pc], Value.tuple #[Value.agg #[Value.int IntKind.i64 b1, Value.slice bA bn bc, Value.bool b3], Value.bool ok, Value.agg #[Value.int IntKind.i64 f1, Value.bool f2]], Value.agg #[Value.int IntKind.i64 b1, Value.slice bA bn bc, Value.bool b3], Value.bool ok, Value.agg #[Value.int IntKind.i64 f1, Value.bool f2], .tuple #[.agg #[.int .i64 n1, .string n2, .int .i64 n3], .agg #[.int .i64 m1, .string m2, .int .i64 m3], .int .i64 wi], .agg #[.int .i64 q1, .string q2, .int .i64 q3], .int .i64 lim, .pointer (some ⟨(w.heap.size + 1), 0, none⟩), .int .i64 ty, .pointer (some ⟨(w.heap.size + 1), 1, none⟩), .int .i64 st, .pointer (some ⟨(w.heap.size + 1), 2, none⟩), .slice A t.length c, .string (strB t), .pointer (some ⟨(w.heap.size + 1), 3, none⟩), .bool en, .int .i64 (bi en), .pointer (some ⟨(w.heap.size + 1), 4, none⟩), .bool eh, .int .i64 (bi eh), .tuple #[.agg #[.int .i64 n1, .string n2, .int .i64 n3], .agg #[.int .i64 m1, .string m2, .int .i64 m3], .int .i64 wi], .agg #[.int .i64 n1, .string n2, .int .i64 n3], .agg #[.int .i64 m1, .string m2, .int .i64 m3], .int .i64 wi, undef, undef, undef, undef, undef, undef, undef, undef, undef, undef, undef, undef, undef, undef, undef, undef, undef, undef, undef, undef, undef, undef, undef, undef, undef, undef, undef, undef, undef, undef, undef, undef, undef, undef, undef, undef, undef, undef, undef, undef, undef, undef, undef, undef, undef, undef, undef, undef, undef, undef, undef, undef, undef, undef, undef, undef], defers := [] }) (fun s => by kernel_rfl) ⟨?_, ?_, ?_, ?_, ?_, ?_, ?_, ?_, ?_, ?_, ?_, ?_, ?_, ?_, ?_, ?_, ?_, ?_, ?_, ?_, ?_, ?_, ?_, ?_, ?_, trivial⟩ ⟨⟨?_, ?_⟩, ⟨?_, ?_⟩, trivial⟩ ?_
  · refine .inr ?_
    intro listed s w2 hR hD
    refine .inl ⟨by kernel_rfl, ?_⟩
    as_aux_lemma =>
      obtain ⟨g0, g1, g2, g3, g4, g5, g6, g7, g8⟩ := HS.out w2 (Only.of_fresh hR.fr)
      exact .val _ (by simp [execOp, Act.eval, g0, g1, g2, g3, g4, g5, g6, g7, g8, Vx, go_sem]) (Fresh.refl _)
  · refine .inr ?_
    intro listed s w2 hR hD
    refine .inl ⟨by kernel_rfl, ?_⟩
    as_aux_lemma =>
      obtain ⟨g0, g1, g2, g3, g4, g5, g6, g7, g8⟩ := HS.out w2 (Only.of_fresh hR.fr)
      exact .val _ (by simp [execOp, Act.eval, g0, g1, g2, g3, g4, g5, g6, g7, g8, Vx, go_sem]) (Fresh.refl _)
  · refine .inr ?_
    intro listed s w2 hR hD
    refine .inl ⟨by kernel_rfl, ?_⟩
    as_aux_lemma =>
      obtain ⟨g0, g1, g2, g3, g4, g5, g6, g7, g8⟩ := HS.out w2 (Only.of_fresh hR.fr)
      exact .val _ (by simp [execOp, Act.eval, g0, g1, g2, g3, g4, g5, g6, g7, g8, Vx, go_sem]) (Fresh.refl _)
  · refine .inr ?_
    intro listed s w2 hR hD
    refine .inl ⟨by kernel_rfl, ?_⟩
    as_aux_lemma =>
      obtain ⟨g0, g1, g2, g3, g4, g5, g6, g7, g8⟩ := HS.out w2 (Only.of_fresh hR.fr)
      exact .val _ (by simp [execOp, Act.eval, g0, g1, g2, g3, g4, g5, g6, g7, g8, Vx, go_sem]) (Fresh.refl _)
  · refine .inr ?_
    intro listed s w2 hR hD
    refine .inl ⟨by kernel_rfl, ?_⟩
    as_aux_lemma =>
      obtain ⟨g0, g1, g2, g3, g4, g5, g6, g7, g8⟩ := HS.out w2 (Only.of_fresh hR.fr)
      exact .val _ (by simp [execOp, Act.eval, g0, g1, g2, g3, g4, g5, g6, g7, g8, Vx, go_sem]) (Fresh.refl _)
  · refine .inr ?_
    intro listed s w2 hR hD
    refine .inl ⟨by kernel_rfl, ?_⟩
    as_aux_lemma =>
      obtain ⟨g0, g1, g2, g3, g4, g5, g6, g7, g8⟩ := HS.out w2 (Only.of_fresh hR.fr)
      exact .val _ (by simp [execOp, Act.eval, g0, g1, g2, g3, g4, g5, g6, g7, g8, Vx, go_sem]) (Fresh.refl _)
  · refine .inr ?_
    intro listed s w2 hR hD
    refine .inl ⟨by kernel_rfl, ?_⟩
    as_aux_lemma =>
      obtain ⟨g0, g1, g2, g3, g4, g5, g6, g7, g8⟩ := HS.out w2 (Only.of_fresh hR.fr)
      exact .val _ (by simp [execOp, Act.eval, g0, g1, g2, g3, g4, g5, g6, g7, g8, Vx, go_sem]) (Fresh.refl _)
  · refine .inr ?_
    intro listed s w2 hR hD
    refine .inl ⟨by kernel_rfl, ?_⟩
    as_aux_lemma =>
      obtain ⟨g0, g1, g2, g3, g4, g5, g6, g7, g8⟩ := HS.out w2 (Only.of_fresh hR.fr)
      exact .val _ (by simp [execOp, Act.eval, g0, g1, g2, g3, g4, g5, g6, g7, g8, Vx, go_sem]) (Fresh.refl _)
  · refine .inr ?_
    intro listed s w2 hR hD
    refine .inl ⟨by kernel_rfl, ?_⟩
    as_aux_lemma =>
      obtain ⟨g0, g1, g2, g3, g4, g5, g6, g7, g8⟩ := HS.out w2 (Only.of_fresh hR.fr)
      exact .val _ (by simp [execOp, Act.eval, g0, g1, g2, g3, g4, g5, g6, g7, g8, Vx, go_sem]) (Fresh.refl _)
  · refine .inr ?_
    intro listed s w2 hR hD
    refine .inl ⟨by kernel_rfl, ?_⟩
    as_aux_lemma =>
      obtain ⟨g0, g1, g2, g3, g4, g5, g6, g7, g8⟩ := HS.out w2 (Only.of_fresh hR.fr)
      exact .val _ (by simp [execOp, Act.eval, g0, g1, g2, g3, g4, g5, g6, g7, g8, Vx, go_sem]) (Fresh.refl _)
  · refine .inr ?_
    intro listed s w2 hR hD
    refine .inl ⟨by kernel_rfl, ?_⟩
    as_aux_lemma =>
      obtain ⟨g0, g1, g2, g3, g4, g5, g6, g7, g8⟩ := HS.out w2 (Only.of_fresh hR.fr)
      exact .val _ (by simp [execOp, Act.eval, g0, g1, g2, g3, g4, g5, g6, g7, g8, Vx, go_sem]) (Fresh.refl _)
  · refine .inr ?_
    intro listed s w2 hR hD
    refine .inl ⟨by kernel_rfl, ?_⟩
    as_aux_lemma =>
      exact .call _ _ w2 (by simp [execOp, Act.eval, go_sem]) ((num_bi _ _).mono fun e w3 h => ⟨h.1, by rw [← h.2]; exact Fresh.refl _⟩)
  · refine .inr ?_
    intro listed s w2 hR hD
    refine .inl ⟨by kernel_rfl, ?_⟩
    as_aux_lemma =>
      obtain ⟨g0, g1, g2, g3, g4, g5, g6, g7, g8⟩ := HS.out w2 (Only.of_fresh hR.fr)
      exact .val _ (by simp [execOp, Act.eval, g0, g1, g2, g3, g4, g5, g6, g7, g8, Vx, go_sem]) (Fresh.refl _)
  · refine .inr ?_
    intro listed s w2 hR hD
    refine .inl ⟨by kernel_rfl, ?_⟩
    as_aux_lemma =>
      obtain ⟨g0, g1, g2, g3, g4, g5, g6, g7, g8⟩ := HS.out w2 (Only.of_fresh hR.fr)
      exact .val _ (by simp [execOp, Act.eval, g0, g1, g2, g3, g4, g5, g6, g7, g8, Vx, go_sem]) (Fresh.refl _)
  · refine .inr ?_
    intro listed s w2 hR hD
    refine .inl ⟨by kernel_rfl, ?_⟩
    as_aux_lemma =>
      exact .call _ _ w2 (by simp [execOp, Act.eval, go_sem]) ((num_bi _ _).mono fun e w3 h => ⟨h.1, by rw [← h.2]; exact Fresh.refl _⟩)
  · refine .inr ?_
    intro listed s w2 hR hD
    refine .inl ⟨by kernel_rfl, ?_⟩
    as_aux_lemma =>
      exact .call _ _ w2 (by simp [execOp, Act.eval, go_sem]) ((HREF.out w2).mono fun e w3 h => ⟨h.1, h.2⟩)
  · refine .inr ?_
    intro listed s w2 hR hD
    refine .inl ⟨by kernel_rfl, ?_⟩
    as_aux_lemma =>
      obtain ⟨g0, g1, g2, g3, g4, g5, g6, g7, g8⟩ := HS.out w2 (Only.of_fresh hR.fr)
      exact .val _ (by simp [execOp, Act.eval, g0, g1, g2, g3, g4, g5, g6, g7, g8, Vx, go_sem]) (Fresh.refl _)
  · refine .inr ?_
    intro listed s w2 hR hD
    refine .inl ⟨by kernel_rfl, ?_⟩
    as_aux_lemma =>
      obtain ⟨g0, g1, g2, g3, g4, g5, g6, g7, g8⟩ := HS.out w2 (Only.of_fresh hR.fr)
      exact .val _ (by simp [execOp, Act.eval, g0, g1, g2, g3, g4, g5, g6, g7, g8, Vx, go_sem]) (Fresh.refl _)
  · refine .inr ?_
    intro listed s w2 hR hD
    refine .inl ⟨by kernel_rfl, ?_⟩
    as_aux_lemma =>
      obtain ⟨g0, g1, g2, g3, g4, g5, g6, g7, g8⟩ := HS.out w2 (Only.of_fresh hR.fr)
      exact .val _ (by simp [execOp, Act.eval, g0, g1, g2, g3, g4, g5, g6, g7, g8, Vx, go_sem]) (Fresh.refl _)
  · refine .inr ?_
    intro listed s w2 hR hD
    refine .inl ⟨by kernel_rfl, ?_⟩
    as_aux_lemma =>
      obtain ⟨g0, g1, g2, g3, g4, g5, g6, g7, g8⟩ := HS.out w2 (Only.of_fresh hR.fr)
      exact .val _ (by simp [execOp, Act.eval, g0, g1, g2, g3, g4, g5, g6, g7, g8, Vx, go_sem]) (Fresh.refl _)
  · exact .inl (by kernel_rfl)
  · exact .inl (by kernel_rfl)
  · exact .inl (by kernel_rfl)
  · exact .inl (by kernel_rfl)
  · refine .inr ?_
    intro listed s w2 hR hD
    refine .inl ⟨by kernel_rfl, ?_⟩
    as_aux_lemma =>
      obtain ⟨g0, g1, g2, g3, g4, g5, g6, g7, g8⟩ := HS.out w2 (Only.of_fresh hR.fr)
      exact .val _ (by simp [execOp, Act.eval, g0, g1, g2, g3, g4, g5, g6, g7, g8, Vx, go_sem]) (Fresh.refl _)
  · refine ⟨_, rfl, rfl, ?_⟩
    intro listed s w2 hR hD
    as_aux_lemma =>
      exact .alloc (by simp [execOp, go_sem])
  · refine .inr ⟨_, rfl, rfl, by kernel_rfl, ?_⟩
    intro listed s w2 hR hD hB
    refine ⟨rfl, ?_⟩
    as_aux_lemma =>
      refine ⟨(((w2).setCell ⟨s 20, 0, none⟩ (.int .i64 n1)).setCell ⟨s 20, 1, none⟩ (.string n2)).setCell ⟨s 20, 2, none⟩ (.int .i64 n3), by simp [execOp, Act.eval, hB.cell 0, hB.frozen 0, hB.cell 1, hB.frozen 1, hB.cell 2, hB.frozen 2, go_sem], (((hB).set 0 (.int .i64 n1)).set 1 (.string n2)).set 2 (.int .i64 n3), (((Only.refl (· = s 20) w2).step ⟨s 20, 0, none⟩ (.int .i64 n1) (.inl rfl)).step ⟨s 20, 1, none⟩ (.string n2) (.inl rfl)).step ⟨s 20, 2, none⟩ (.int .i64 n3) (.inl rfl)⟩
  · refine ⟨_, rfl, rfl, ?_⟩
    intro listed s w2 hR hD
    as_aux_lemma =>
      exact .alloc (by simp [execOp, go_sem])
  · refine .inr ⟨_, rfl, rfl, by kernel_rfl, ?_⟩
    intro listed s w2 hR hD hB
    refine ⟨rfl, ?_⟩
    as_aux_lemma =>
      refine ⟨(((w2).setCell ⟨s 21, 0, none⟩ (.int .i64 m1)).setCell ⟨s 21, 1, none⟩ (.string m2)).setCell ⟨s 21, 2, none⟩ (.int .i64 m3), by simp [execOp, Act.eval, hB.cell 0, hB.frozen 0, hB.cell 1, hB.frozen 1, hB.cell 2, hB.frozen 2, go_sem], (((hB).set 0 (.int .i64 m1)).set 1 (.string m2)).set 2 (.int .i64 m3), (((Only.refl (· = s 21) w2).step ⟨s 21, 0, none⟩ (.int .i64 m1) (.inl rfl)).step ⟨s 21, 1, none⟩ (.string m2) (.inl rfl)).step ⟨s 21, 2, none⟩ (.int .i64 m3) (.inl rfl)⟩
  intro listed s2 W8 hl hR
  have hall : ∀ i, i < 25 → listed.getD i false = true := hl
  have hb1 := hR.box _ (List.mem_cons_self ..) (hall 20 (by decide))
  have hb2 := hR.box _ (List.mem_cons_of_mem _ (List.mem_cons_self ..)) (hall 21 (by decide))
  simp only [hall 22 (by decide), hall 23 (by decide), if_true] at hb1 hb2
  dsimp only
  generalize s2 20 = p13 at *
  generalize s2 21 = p14 at *
  have hf8 := hR.fr
  have HW8 := Lib.hid (HFW.out.trans hf8)
  have HX8 := Lib.hid (HB8.out.fresh hf8)
  have HX10 := Lib.hid (HB10.out.fresh hf8)
  have HX12 := Lib.hid (HB12.out.fresh hf8)
  have HX13 := Lib.hid hb1.2
  have HNE : Hid (¬ p13 = w.heap.size + 1 + 1) := Lib.hid (by have h1 := HB8.out.lt; have h2 := hb1.1; omega)
  have HX14 := Lib.hid hb2.2
  clear hR hl hall HFW HB8 HB10 HB12 hb1 hb2 hf8 HS HD5 HD7
  clear s2 listed
  have HA8 := Lib.hid (HA5.out.fresh HW8.out)
  have HOV := Lib.hid (HOW.out.trans (Only.of_fresh HW8.out))
  have HBB8 := Lib.hid (fun st l b e => Own.fresh (HBB5.out st l b e).1 HW8.out)
  clear HREF HW8
  have HS8 : Hid (∀ w', Fresh W8 w' → w'.cell? ⟨w5.heap.size + 1, 0, none⟩ = some (.int .i64 f1) ∧ w'.cell? ⟨w5.heap.size + 1, 1, none⟩ = some (.bool f2) ∧ w'.cell? ⟨w5.heap.size, 0, none⟩ = some (.int .i64 b1) ∧ w'.cell? ⟨w5.heap.size, 1, none⟩ = some (.slice bA bn bc) ∧ w'.cell? ⟨w5.heap.size, 2, none⟩ = some (.bool b3) ∧ w'.cell? ⟨p13, 0, none⟩ = some (.int .i64 n1) ∧ w'.cell? ⟨p13, 1, none⟩ = some (.string n2) ∧ w'.cell? ⟨p13, 2, none⟩ = some (.int .i64 n3) ∧ w'.cell? ⟨p14, 0, none⟩ = some (.int .i64 m1) ∧ w'.cell? ⟨p14, 1, none⟩ = some (.string m2) ∧ w'.cell? ⟨p14, 2, none⟩ = some (.int .i64 m3) ∧ Blk w' (w.heap.size + 1 + 1) 30 #[.int .i64 0, .string ⟨#[]⟩, .int .i64 0]) := Lib.hid (fun w' h => ⟨(HX12.out.fresh h).cell 0, (HX12.out.fresh h).cell 1, (HX10.out.fresh h).cell 0, (HX10.out.fresh h).cell 1, (HX10.out.fresh h).cell 2, (HX13.out.fresh h).cell 0, (HX13.out.fresh h).cell 1, (HX13.out.fresh h).cell 2, (HX14.out.fresh h).cell 0, (HX14.out.fresh h).cell 1, (HX14.out.fresh h).cell 2, HX8.out.fresh h⟩)
  have HN8 := Lib.hid HX13.out
  have HP13 : Hid (¬ p13 = w.heap.size + 1 + 1) := Lib.hid HNE.out
  clear HX8 HX10 HX12 HX13 HX14
  obtain ⟨x0, x1, y0, y1, y2, z0, z1, z2, u0, u1, u2, hr8⟩ := HS8.out W8 (Fresh.refl _)
  clear hr8
  rcases HONE.out with ⟨nn, rfl⟩ | ⟨nn, rfl⟩ | ⟨nn, st', l', b', rfl⟩
  · obtain ⟨k1, k2, k3, k4, k5, k6, k7⟩ := HE.out
    simp [blkV] at k1
    simp [fltV] at k2
    simp [refV] at k4
    simp at k6
    simp [whatI] at k7
    obtain ⟨rfl, ⟨rfl, rfl, rfl⟩, rfl⟩ := k1
    obtain ⟨rfl, rfl⟩ := k2
    obtain ⟨rfl, rfl, rfl⟩ := k4
    subst k6 k7
    have HK := Lib.hid (And.intro k3 k5)
    clear k3 k5 HE HONE
    go_wp2_with fail
    refine (wrong12 true W8).mono ?_
    rintro e w9 ⟨rfl, hf9⟩
    have HF9 := Lib.hid hf9
    obtain ⟨x0, x1, y0, y1, y2, z0, z1, z2, u0, u1, u2, hr8⟩ := HS8.out w9 hf9
    clear hf9
    have hcv : (convert 31 9 (.slice none 0 0)).run Try.prog w9 = .ok (.string ByteArray.empty) w9 := run_str (l := []) (BS.nil _ _) 31 9 5 Try.underlying31 Try.underlying5 Try.underlying9 0
    go_upto_region 7 with fail
    have HN13 := Lib.hid (HN8.out.fresh HF9.out)
    have hn2 : (n2.size : Int) = (lenS nn : Int) := by rw [HK.out.2]
    have ha9 := HA8.out.fresh HF9.out
    have HAW : Hid (∀ w', Only (· = w.heap.size + 1 + 1) w9 w' → AsAt w' p lim nn v5) := Lib.hid (fun w' ho => ha9.only ho (by omega) (fun k hk => by
      cases nn with
      | none => rw [(ha9.idle rfl).2] at hk; cases hk
      | some y =>
        obtain ⟨a, l, b⟩ := y
        obtain ⟨cur, hc⟩ := own_blk (ha9.part a l b rfl).2.1 hk
        exact hc.ne hr8 (by decide)))
    clear ha9
    have hlim : ((lenS nn : Int) ≤ lim) := by
      cases nn with
      | none => simp [lenS]; exact h0
      | some y => obtain ⟨a, l, b⟩ := y; exact (HA8.out.part a l b rfl).2.2
    have HR8 := Lib.hid hr8
    clear x0 x1 y0 y1 y2 u0 u1 u2 hcv hr8
    refine wp_region_valsL (by kernel_rfl) (by kernel_rfl) (by kernel_rfl) (by kernel_rfl) (by kernel_rfl) (fun i => ([.agg #[.int .i64 n1, .string n2, .int .i64 n3], .pointer (some ⟨p, 0, none⟩), .int .i64 (lenS nn : Int), .pointer (some ⟨p13, 1, none⟩), .string n2, .int .i64 (n2.size : Int), .bool true, .bool true, .pointer (some ⟨p, 0, none⟩), .int .i64 (lenS nn : Int), .int .i64 lim, .bool true, .bool true, undef, .bool true] : List Value).getD i undef) { tmps := #[Value.pointer (some { block := p, off := 0 }), Value.agg #[Value.int IntKind.i64 q1, Value.string q2, Value.int IntKind.i64 q3], Value.int IntKind.i64 lim, Value.agg #[Value.int IntKind.i64 ty, Value.int IntKind.i64 st, Value.slice A t.length c, Value.bool en, Value.bool eh, Value.bool ak, Value.int IntKind.i64 fl, Value.int IntKind.i64 co, Value.int IntKind.i64 la, Value.int IntKind.i64 inc, Value.int IntKind.i64 de, Value.int IntKind.i64 we, Value.bool wd, Value.bool ex, Value.slice PA ps.length pc], undef, Value.pointer (some { block := w.heap.size, off := 0 }), undef, Value.pointer (some { block := w.heap.size + 1, off := 0 }), Value.pointer (some { block := w.heap.size + 1 + 1, off := 0 }), .bool true, Value.pointer (some { block := w5.heap.size, off := 0 }), Value.bool false, Value.pointer (some { block := w5.heap.size + 1, off := 0 }), Value.pointer (some { block := p13, off := 0 }), Value.pointer (some { block := p14, off := 0 }), Value.int IntKind.i64 2, Value.tuple #[Value.agg #[Value.int IntKind.i64 0, Value.slice none 0 0, Value.bool false], Value.bool false, Value.agg #[Value.int IntKind.i64 101, Value.bool true]], Value.pointer (some { block := p, off := 0 }), Value.agg #[Value.int IntKind.i64 ty, Value.int IntKind.i64 st, Value.slice A t.length c, Value.bool en, Value.bool eh, Value.bool ak, Value.int IntKind.i64 fl, Value.int IntKind.i64 co, Value.int IntKind.i64 la, Value.int IntKind.i64 inc, Value.int IntKind.i64 de, Value.int IntKind.i64 we, Value.bool wd, Value.bool ex, Value.slice PA ps.length pc], Value.tuple #[Value.agg #[Value.int IntKind.i64 0, Value.slice none 0 0, Value.bool false], Value.bool false, Value.agg #[Value.int IntKind.i64 101, Value.bool true]], Value.agg #[Value.int IntKind.i64 0, Value.slice none 0 0, Value.bool false], Value.bool false, Value.agg #[Value.int IntKind.i64 101, Value.bool true], Value.tuple #[Value.agg #[Value.int IntKind.i64 n1, Value.string n2, Value.int IntKind.i64 n3], Value.agg #[Value.int IntKind.i64 0, Value.string ByteArray.empty, Value.int IntKind.i64 0], Value.int IntKind.i64 2], Value.agg #[Value.int IntKind.i64 q1, Value.string q2, Value.int IntKind.i64 q3], Value.int IntKind.i64 lim, Value.pointer (some { block := w.heap.size + 1, off := 0 }), Value.int IntKind.i64 ty, Value.pointer (some { block := w.heap.size + 1, off := 1 }), Value.int IntKind.i64 st, Value.pointer (some { block := w.heap.size + 1, off := 2 }), Value.slice A t.length c, Value.string (strB t), Value.pointer (some { block := w.heap.size + 1, off := 3 }), Value.bool en, Value.int IntKind.i64 (bi en), Value.pointer (some { block := w.heap.size + 1, off := 4 }), Value.bool eh, Value.int IntKind.i64 (bi eh), Value.tuple #[Value.agg #[Value.int IntKind.i64 n1, Value.string n2, Value.int IntKind.i64 n3], Value.agg #[Value.int IntKind.i64 0, Value.string ByteArray.empty, Value.int IntKind.i64 0], Value.int IntKind.i64 2], Value.agg #[Value.int IntKind.i64 n1, Value.string n2, Value.int IntKind.i64 n3], Value.agg #[Value.int IntKind.i64 0, Value.string ByteArray.empty, Value.int IntKind.i64 0], Value.int IntKind.i64 2, Value.bool false, Value.int IntKind.i64 2, Value.bool false, Value.bool false, Value.bool false, Value.agg #[Value.int IntKind.i64 101, Value.bool true], Value.bool true, Value.int IntKind.i64 2, Value.bool true, Value.bool false, Value.bool false, Value.bool false, Value.int IntKind.i64 2, Value.bool false, Value.bool false, undef, undef, undef, Value.bool false, Value.bool false, undef, Value.pointer (some { block := w5.heap.size, off := 0 }), Value.int IntKind.i64 0, Value.pointer (some { block := p14, off := 0 }), Value.int IntKind.i64 0, Value.bool false, Value.bool false, Value.pointer (some { block := w5.heap.size, off := 1 }), Value.slice none 0 0, Value.string ByteArray.empty, Value.pointer (some { block := p14, off := 1 }), Value.string ByteArray.empty, Value.bool false, Value.bool false, Value.bool false, Value.pointer (some { block := w5.heap.size, off := 2 }), Value.bool false, Value.pointer (some { block := p14, off := 2 }), Value.int IntKind.i64 0, Value.bool false, Value.bool false, Value.bool false, undef, .agg #[.int .i64 n1, .string n2, .int .i64 n3], .pointer (some ⟨p, 0, none⟩), .int .i64 (lenS nn : Int), .pointer (some ⟨p13, 1, none⟩), .string n2, .int .i64 (n2.size : Int), .bool true, .bool true, .pointer (some ⟨p, 0, none⟩), .int .i64 (lenS nn : Int), .int .i64 lim, .bool true, .bool true], defers := [] } (by kernel_rfl) (Once 13 (fun w2 => Fresh w9 w2) (fun w2 => Only (· = w.heap.size + 1 + 1) w9 w2 ∧ Blk w2 (w.heap.size + 1 + 1) 30 #[.int .i64 n1, .string n2, .int .i64 n3])) (Once.start (Fresh.drew _)) ⟨?_, ?_, ?_, ?_, ?_, ?_, ?_, ?_, ?_, ?_, ?_, ?_, ?_, ?_, ?_, trivial⟩ ?_
    · intro L w2 hs hl hD hI
      refine .inl ⟨by kernel_rfl, ?_⟩
      as_aux_lemma =>
        have ho : Only (· = w.heap.size + 1 + 1) w9 w2 := hI.any Only.of_fresh And.left
        obtain ⟨e0, e1, e2⟩ := (HN13.out.only ho HP13.out).c3
        exact .val _ (by simp [execOp, Act.eval, e0, e1, e2, hn2, hlim, go_sem]) (hI.keep hs (by decide) (by decide) id id)
    · intro L w2 hs hl hD hI
      refine .inl ⟨by kernel_rfl, ?_⟩
      as_aux_lemma =>
        have ho : Only (· = w.heap.size + 1 + 1) w9 w2 := hI.any Only.of_fresh And.left
        obtain ⟨e0, e1, e2⟩ := (HN13.out.only ho HP13.out).c3
        exact .val _ (by simp [execOp, Act.eval, e0, e1, e2, hn2, hlim, go_sem]) (hI.keep hs (by decide) (by decide) id id)
    · intro L w2 hs hl hD hI
      refine .inl ⟨by kernel_rfl, ?_⟩
      as_aux_lemma =>
        have ho : Only (· = w.heap.size + 1 + 1) w9 w2 := hI.any Only.of_fresh And.left
        obtain ⟨e0, e1, e2⟩ := (HN13.out.only ho HP13.out).c3
        exact .call _ _ w2 (by simp [execOp, Act.eval, go_sem]) ((asWaiting p lim nn v5 w2 (HAW.out w2 ho)).mono fun e w3 h => ⟨h.1, by rw [← h.2]; exact (hI.keep hs (by decide) (by decide) id id)⟩)
    · intro L w2 hs hl hD hI
      refine .inl ⟨by kernel_rfl, ?_⟩
      as_aux_lemma =>
        have ho : Only (· = w.heap.size + 1 + 1) w9 w2 := hI.any Only.of_fresh And.left
        obtain ⟨e0, e1, e2⟩ := (HN13.out.only ho HP13.out).c3
        exact .val _ (by simp [execOp, Act.eval, e0, e1, e2, hn2, hlim, go_sem]) (hI.keep hs (by decide) (by decide) id id)
    · intro L w2 hs hl hD hI
      refine .inl ⟨by kernel_rfl, ?_⟩
      as_aux_lemma =>
        have ho : Only (· = w.heap.size + 1 + 1) w9 w2 := hI.any Only.of_fresh And.left
        obtain ⟨e0, e1, e2⟩ := (HN13.out.only ho HP13.out).c3
        exact .val _ (by simp [execOp, Act.eval, e0, e1, e2, hn2, hlim, go_sem]) (hI.keep hs (by decide) (by decide) id id)
    · intro L w2 hs hl hD hI
      refine .inl ⟨by kernel_rfl, ?_⟩
      as_aux_lemma =>
        have ho : Only (· = w.heap.size + 1 + 1) w9 w2 := hI.any Only.of_fresh And.left
        obtain ⟨e0, e1, e2⟩ := (HN13.out.only ho HP13.out).c3
        exact .val _ (by simp [execOp, Act.eval, e0, e1, e2, hn2, hlim, go_sem]) (hI.keep hs (by decide) (by decide) id id)
    · intro L w2 hs hl hD hI
      refine .inl ⟨by kernel_rfl, ?_⟩
      as_aux_lemma =>
        have ho : Only (· = w.heap.size + 1 + 1) w9 w2 := hI.any Only.of_fresh And.left
        obtain ⟨e0, e1, e2⟩ := (HN13.out.only ho HP13.out).c3
        exact .val _ (by simp [execOp, Act.eval, e0, e1, e2, hn2, hlim, go_sem]) (hI.keep hs (by decide) (by decide) id id)
    · intro L w2 hs hl hD hI
      refine .inl ⟨by kernel_rfl, ?_⟩
      as_aux_lemma =>
        have ho : Only (· = w.heap.size + 1 + 1) w9 w2 := hI.any Only.of_fresh And.left
        obtain ⟨e0, e1, e2⟩ := (HN13.out.only ho HP13.out).c3
        exact .val _ (by simp [execOp, Act.eval, e0, e1, e2, hn2, hlim, go_sem]) (hI.keep hs (by decide) (by decide) id id)
    · intro L w2 hs hl hD hI
      refine .inl ⟨by kernel_rfl, ?_⟩
      as_aux_lemma =>
        have ho : Only (· = w.heap.size + 1 + 1) w9 w2 := hI.any Only.of_fresh And.left
        obtain ⟨e0, e1, e2⟩ := (HN13.out.only ho HP13.out).c3
        exact .val _ (by simp [execOp, Act.eval, e0, e1, e2, hn2, hlim, go_sem]) (hI.keep hs (by decide) (by decide) id id)
    · intro L w2 hs hl hD hI
      refine .inl ⟨by kernel_rfl, ?_⟩
      as_aux_lemma =>
        have ho : Only (· = w.heap.size + 1 + 1) w9 w2 := hI.any Only.of_fresh And.left
        obtain ⟨e0, e1, e2⟩ := (HN13.out.only ho HP13.out).c3
        exact .call _ _ w2 (by simp [execOp, Act.eval, go_sem]) ((asWaiting p lim nn v5 w2 (HAW.out w2 ho)).mono fun e w3 h => ⟨h.1, by rw [← h.2]; exact (hI.keep hs (by decide) (by decide) id id)⟩)
    · intro L w2 hs hl hD hI
      refine .inl ⟨by kernel_rfl, ?_⟩
      as_aux_lemma =>
        have ho : Only (· = w.heap.size + 1 + 1) w9 w2 := hI.any Only.of_fresh And.left
        obtain ⟨e0, e1, e2⟩ := (HN13.out.only ho HP13.out).c3
        exact .val _ (by simp [execOp, Act.eval, e0, e1, e2, hn2, hlim, go_sem]) (hI.keep hs (by decide) (by decide) id id)
    · intro L w2 hs hl hD hI
      refine .inl ⟨by kernel_rfl, ?_⟩
      as_aux_lemma =>
        have ho : Only (· = w.heap.size + 1 + 1) w9 w2 := hI.any Only.of_fresh And.left
        obtain ⟨e0, e1, e2⟩ := (HN13.out.only ho HP13.out).c3
        exact .val _ (by simp [execOp, Act.eval, e0, e1, e2, hn2, hlim, go_sem]) (hI.keep hs (by decide) (by decide) id id)
    · intro L w2 hs hl hD hI
      refine .inl ⟨by kernel_rfl, ?_⟩
      as_aux_lemma =>
        have ho : Only (· = w.heap.size + 1 + 1) w9 w2 := hI.any Only.of_fresh And.left
        obtain ⟨e0, e1, e2⟩ := (HN13.out.only ho HP13.out).c3
        exact .val _ (by simp [execOp, Act.eval, e0, e1, e2, hn2, hlim, go_sem]) (hI.keep hs (by decide) (by decide) id id)
    · intro L w2 hs hl hD hI
      refine .inl ⟨by kernel_rfl, ?_⟩
      as_aux_lemma =>
        have hx := hI.ahead hl
        have hb := HR8.out.fresh hx
        refine .skip ((((w2).setCell ⟨w.heap.size + 1 + 1, 0, none⟩ (.int .i64 n1)).setCell ⟨w.heap.size + 1 + 1, 1, none⟩ (.string n2)).setCell ⟨w.heap.size + 1 + 1, 2, none⟩ (.int .i64 n3)) rfl (by simp [execOp, Act.eval, hb.cell 0, hb.cell 1, hb.cell 2, hb.frozen 0, hb.frozen 1, hb.frozen 2, go_sem]) (Once.put hs (by decide) ⟨(((((Only.of_fresh hx : Only (· = w.heap.size + 1 + 1) w9 w2)).step ⟨w.heap.size + 1 + 1, 0, none⟩ (.int .i64 n1) (.inl rfl)).step ⟨w.heap.size + 1 + 1, 1, none⟩ (.string n2) (.inl rfl)).step ⟨w.heap.size + 1 + 1, 2, none⟩ (.int .i64 n3) (.inl rfl)), ((hb.set 0 (.int .i64 n1)).set 1 (.string n2)).set 2 (.int .i64 n3)⟩)
    · intro L w2 hs hl hD hI
      refine .inl ⟨by kernel_rfl, ?_⟩
      as_aux_lemma =>
        have ho : Only (· = w.heap.size + 1 + 1) w9 w2 := hI.any Only.of_fresh And.left
        obtain ⟨e0, e1, e2⟩ := (HN13.out.only ho HP13.out).c3
        exact .val _ (by simp [execOp, Act.eval, e0, e1, e2, hn2, hlim, go_sem]) (hI.keep hs (by decide) (by decide) id id)
    intro L w10 hl hI
    obtain ⟨ho, hb⟩ := hI.behind (hl 13 (by decide))
    have HOA := Lib.hid ho
    have HBA := Lib.hid hb
    obtain ⟨r0, r1, r2⟩ := hb.c3
    clear hl hI ho hb
    go_wp2
    refine bodyPost_ret (v := .tuple #[.agg #[.int .i64 n1, .string n2, .int .i64 n3], .bool true]) (by simp [results, Try.results10, go_sem, r0, r1, r2]) rfl ?_
    refine ⟨?_, v5, HAW.out w10 HOA.out, (HOV.out.trans (Only.of_fresh HF9.out)).trans' HOA.out (fun i hi e => by omega), HV5.out⟩
    show _ = Ending.returned (.tuple #[refV nn, .bool true])
    rw [HK.out.1]
  · obtain ⟨k1, k2, k3, k4, k5, k6, k7⟩ := HE.out
    simp [blkV] at k1
    simp [fltV] at k2
    simp [refV] at k4
    simp at k6
    simp [whatI] at k7
    obtain ⟨rfl, ⟨rfl, rfl, rfl⟩, rfl⟩ := k1
    obtain ⟨rfl, rfl⟩ := k2
    obtain ⟨rfl, rfl, rfl⟩ := k4
    subst k6 k7
    have HK := Lib.hid (And.intro k3 k5)
    clear k3 k5 HE HONE
    go_wp2_with fail
    refine (wrong12 false W8).mono ?_
    rintro e w8 ⟨rfl, hf8⟩
    obtain ⟨x0, x1, y0, y1, y2, z0, z1, z2, u0, u1, u2, hr8⟩ := HS8.out w8 hf8
    clear hr8
    have HF8 := Lib.hid hf8
    clear hf8
    go_wp2_with fail
    refine (ok12 false w8).mono ?_
    rintro e w9 ⟨rfl, hf9⟩
    have HF9 := Lib.hid (HF8.out.trans hf9)
    clear hf9 HF8
    obtain ⟨x0, x1, y0, y1, y2, z0, z1, z2, u0, u1, u2, hr8⟩ := HS8.out w9 HF9.out
    have hcv : (convert 31 9 (.slice none 0 0)).run Try.prog w9 = .ok (.string ByteArray.empty) w9 := run_str (l := []) (BS.nil _ _) 31 9 5 Try.underlying31 Try.underlying5 Try.underlying9 0
    go_upto_region 7 with fail
    have HN13 := Lib.hid (HN8.out.fresh HF9.out)
    have hn2 : (n2.size : Int) = (lenS nn : Int) := by rw [HK.out.2]
    have ha9 := HA8.out.fresh HF9.out
    have HAW : Hid (∀ w', Only (· = w.heap.size + 1 + 1) w9 w' → AsAt w' p lim nn v5) := Lib.hid (fun w' ho => ha9.only ho (by omega) (fun k hk => by
      cases nn with
      | none => rw [(ha9.idle rfl).2] at hk; cases hk
      | some y =>
        obtain ⟨a, l, b⟩ := y
        obtain ⟨cur, hc⟩ := own_blk (ha9.part a l b rfl).2.1 hk
        exact hc.ne hr8 (by decide)))
    clear ha9
    have hlim : ((lenS nn : Int) ≤ lim) := by
      cases nn with
      | none => simp [lenS]; exact h0
      | some y => obtain ⟨a, l, b⟩ := y; exact (HA8.out.part a l b rfl).2.2
    have HR8 := Lib.hid hr8
    clear x0 x1 y0 y1 y2 u0 u1 u2 hcv hr8
    refine wp_region_valsL (by kernel_rfl) (by kernel_rfl) (by kernel_rfl) (by kernel_rfl) (by kernel_rfl) (fun i => ([.agg #[.int .i64 n1, .string n2, .int .i64 n3], .pointer (some ⟨p, 0, none⟩), .int .i64 (lenS nn : Int), .pointer (some ⟨p13, 1, none⟩), .string n2, .int .i64 (n2.size : Int), .bool true, .bool true, .pointer (some ⟨p, 0, none⟩), .int .i64 (lenS nn : Int), .int .i64 lim, .bool true, .bool true, undef, .bool true] : List Value).getD i undef) { tmps := #[Value.pointer (some { block := p, off := 0 }), Value.agg #[Value.int IntKind.i64 q1, Value.string q2, Value.int IntKind.i64 q3], Value.int IntKind.i64 lim, Value.agg #[Value.int IntKind.i64 ty, Value.int IntKind.i64 st, Value.slice A t.length c, Value.bool en, Value.bool eh, Value.bool ak, Value.int IntKind.i64 fl, Value.int IntKind.i64 co, Value.int IntKind.i64 la, Value.int IntKind.i64 inc, Value.int IntKind.i64 de, Value.int IntKind.i64 we, Value.bool wd, Value.bool ex, Value.slice PA ps.length pc], undef, Value.pointer (some { block := w.heap.size, off := 0 }), undef, Value.pointer (some { block := w.heap.size + 1, off := 0 }), Value.pointer (some { block := w.heap.size + 1 + 1, off := 0 }), .bool true, Value.pointer (some { block := w5.heap.size, off := 0 }), Value.bool false, Value.pointer (some { block := w5.heap.size + 1, off := 0 }), Value.pointer (some { block := p13, off := 0 }), Value.pointer (some { block := p14, off := 0 }), Value.int IntKind.i64 0, Value.tuple #[Value.agg #[Value.int IntKind.i64 0, Value.slice none 0 0, Value.bool false], Value.bool false, Value.agg #[Value.int IntKind.i64 0, Value.bool false]], Value.pointer (some { block := p, off := 0 }), Value.agg #[Value.int IntKind.i64 ty, Value.int IntKind.i64 st, Value.slice A t.length c, Value.bool en, Value.bool eh, Value.bool ak, Value.int IntKind.i64 fl, Value.int IntKind.i64 co, Value.int IntKind.i64 la, Value.int IntKind.i64 inc, Value.int IntKind.i64 de, Value.int IntKind.i64 we, Value.bool wd, Value.bool ex, Value.slice PA ps.length pc], Value.tuple #[Value.agg #[Value.int IntKind.i64 0, Value.slice none 0 0, Value.bool false], Value.bool false, Value.agg #[Value.int IntKind.i64 0, Value.bool false]], Value.agg #[Value.int IntKind.i64 0, Value.slice none 0 0, Value.bool false], Value.bool false, Value.agg #[Value.int IntKind.i64 0, Value.bool false], Value.tuple #[Value.agg #[Value.int IntKind.i64 n1, Value.string n2, Value.int IntKind.i64 n3], Value.agg #[Value.int IntKind.i64 0, Value.string ByteArray.empty, Value.int IntKind.i64 0], Value.int IntKind.i64 0], Value.agg #[Value.int IntKind.i64 q1, Value.string q2, Value.int IntKind.i64 q3], Value.int IntKind.i64 lim, Value.pointer (some { block := w.heap.size + 1, off := 0 }), Value.int IntKind.i64 ty, Value.pointer (some { block := w.heap.size + 1, off := 1 }), Value.int IntKind.i64 st, Value.pointer (some { block := w.heap.size + 1, off := 2 }), Value.slice A t.length c, Value.string (strB t), Value.pointer (some { block := w.heap.size + 1, off := 3 }), Value.bool en, Value.int IntKind.i64 (bi en), Value.pointer (some { block := w.heap.size + 1, off := 4 }), Value.bool eh, Value.int IntKind.i64 (bi eh), Value.tuple #[Value.agg #[Value.int IntKind.i64 n1, Value.string n2, Value.int IntKind.i64 n3], Value.agg #[Value.int IntKind.i64 0, Value.string ByteArray.empty, Value.int IntKind.i64 0], Value.int IntKind.i64 0], Value.agg #[Value.int IntKind.i64 n1, Value.string n2, Value.int IntKind.i64 n3], Value.agg #[Value.int IntKind.i64 0, Value.string ByteArray.empty, Value.int IntKind.i64 0], Value.int IntKind.i64 0, Value.bool false, Value.int IntKind.i64 0, Value.bool false, Value.bool false, Value.bool false, Value.agg #[Value.int IntKind.i64 0, Value.bool false], Value.bool false, Value.int IntKind.i64 0, Value.bool false, Value.bool false, Value.bool false, Value.bool false, Value.int IntKind.i64 0, Value.bool true, Value.bool true, Value.agg #[Value.int IntKind.i64 0, Value.bool false], Value.bool true, Value.bool false, Value.bool false, Value.bool false, undef, Value.pointer (some { block := w5.heap.size, off := 0 }), Value.int IntKind.i64 0, Value.pointer (some { block := p14, off := 0 }), Value.int IntKind.i64 0, Value.bool false, Value.bool false, Value.pointer (some { block := w5.heap.size, off := 1 }), Value.slice none 0 0, Value.string ByteArray.empty, Value.pointer (some { block := p14, off := 1 }), Value.string ByteArray.empty, Value.bool false, Value.bool false, Value.bool false, Value.pointer (some { block := w5.heap.size, off := 2 }), Value.bool false, Value.pointer (some { block := p14, off := 2 }), Value.int IntKind.i64 0, Value.bool false, Value.bool false, Value.bool false, undef, .agg #[.int .i64 n1, .string n2, .int .i64 n3], .pointer (some ⟨p, 0, none⟩), .int .i64 (lenS nn : Int), .pointer (some ⟨p13, 1, none⟩), .string n2, .int .i64 (n2.size : Int), .bool true, .bool true, .pointer (some ⟨p, 0, none⟩), .int .i64 (lenS nn : Int), .int .i64 lim, .bool true, .bool true], defers := [] } (by kernel_rfl) (Once 13 (fun w2 => Fresh w9 w2) (fun w2 => Only (· = w.heap.size + 1 + 1) w9 w2 ∧ Blk w2 (w.heap.size + 1 + 1) 30 #[.int .i64 n1, .string n2, .int .i64 n3])) (Once.start (Fresh.drew _)) ⟨?_, ?_, ?_, ?_, ?_, ?_, ?_, ?_, ?_, ?_, ?_, ?_, ?_, ?_, ?_, trivial⟩ ?_
    · intro L w2 hs hl hD hI
      refine .inl ⟨by kernel_rfl, ?_⟩
      as_aux_lemma =>
        have ho : Only (· = w.heap.size + 1 + 1) w9 w2 := hI.any Only.of_fresh And.left
        obtain ⟨e0, e1, e2⟩ := (HN13.out.only ho HP13.out).c3
        exact .val _ (by simp [execOp, Act.eval, e0, e1, e2, hn2, hlim, go_sem]) (hI.keep hs (by decide) (by decide) id id)
    · intro L w2 hs hl hD hI
      refine .inl ⟨by kernel_rfl, ?_⟩
      as_aux_lemma =>
        have ho : Only (· = w.heap.size + 1 + 1) w9 w2 := hI.any Only.of_fresh And.left
        obtain ⟨e0, e1, e2⟩ := (HN13.out.only ho HP13.out).c3
        exact .val _ (by simp [execOp, Act.eval, e0, e1, e2, hn2, hlim, go_sem]) (hI.keep hs (by decide) (by decide) id id)
    · intro L w2 hs hl hD hI
      refine .inl ⟨by kernel_rfl, ?_⟩
      as_aux_lemma =>
        have ho : Only (· = w.heap.size + 1 + 1) w9 w2 := hI.any Only.of_fresh And.left
        obtain ⟨e0, e1, e2⟩ := (HN13.out.only ho HP13.out).c3
        exact .call _ _ w2 (by simp [execOp, Act.eval, go_sem]) ((asWaiting p lim nn v5 w2 (HAW.out w2 ho)).mono fun e w3 h => ⟨h.1, by rw [← h.2]; exact (hI.keep hs (by decide) (by decide) id id)⟩)
    · intro L w2 hs hl hD hI
      refine .inl ⟨by kernel_rfl, ?_⟩
      as_aux_lemma =>
        have ho : Only (· = w.heap.size + 1 + 1) w9 w2 := hI.any Only.of_fresh And.left
        obtain ⟨e0, e1, e2⟩ := (HN13.out.only ho HP13.out).c3
        exact .val _ (by simp [execOp, Act.eval, e0, e1, e2, hn2, hlim, go_sem]) (hI.keep hs (by decide) (by decide) id id)
    · intro L w2 hs hl hD hI
      refine .inl ⟨by kernel_rfl, ?_⟩
      as_aux_lemma =>
        have ho : Only (· = w.heap.size + 1 + 1) w9 w2 := hI.any Only.of_fresh And.left
        obtain ⟨e0, e1, e2⟩ := (HN13.out.only ho HP13.out).c3
        exact .val _ (by simp [execOp, Act.eval, e0, e1, e2, hn2, hlim, go_sem]) (hI.keep hs (by decide) (by decide) id id)
    · intro L w2 hs hl hD hI
      refine .inl ⟨by kernel_rfl, ?_⟩
      as_aux_lemma =>
        have ho : Only (· = w.heap.size + 1 + 1) w9 w2 := hI.any Only.of_fresh And.left
        obtain ⟨e0, e1, e2⟩ := (HN13.out.only ho HP13.out).c3
        exact .val _ (by simp [execOp, Act.eval, e0, e1, e2, hn2, hlim, go_sem]) (hI.keep hs (by decide) (by decide) id id)
    · intro L w2 hs hl hD hI
      refine .inl ⟨by kernel_rfl, ?_⟩
      as_aux_lemma =>
        have ho : Only (· = w.heap.size + 1 + 1) w9 w2 := hI.any Only.of_fresh And.left
        obtain ⟨e0, e1, e2⟩ := (HN13.out.only ho HP13.out).c3
        exact .val _ (by simp [execOp, Act.eval, e0, e1, e2, hn2, hlim, go_sem]) (hI.keep hs (by decide) (by decide) id id)
    · intro L w2 hs hl hD hI
      refine .inl ⟨by kernel_rfl, ?_⟩
      as_aux_lemma =>
        have ho : Only (· = w.heap.size + 1 + 1) w9 w2 := hI.any Only.of_fresh And.left
        obtain ⟨e0, e1, e2⟩ := (HN13.out.only ho HP13.out).c3
        exact .val _ (by simp [execOp, Act.eval, e0, e1, e2, hn2, hlim, go_sem]) (hI.keep hs (by decide) (by decide) id id)
    · intro L w2 hs hl hD hI
      refine .inl ⟨by kernel_rfl, ?_⟩
      as_aux_lemma =>
        have ho : Only (· = w.heap.size + 1 + 1) w9 w2 := hI.any Only.of_fresh And.left
        obtain ⟨e0, e1, e2⟩ := (HN13.out.only ho HP13.out).c3
        exact .val _ (by simp [execOp, Act.eval, e0, e1, e2, hn2, hlim, go_sem]) (hI.keep hs (by decide) (by decide) id id)
    · intro L w2 hs hl hD hI
      refine .inl ⟨by kernel_rfl, ?_⟩
      as_aux_lemma =>
        have ho : Only (· = w.heap.size + 1 + 1) w9 w2 := hI.any Only.of_fresh And.left
        obtain ⟨e0, e1, e2⟩ := (HN13.out.only ho HP13.out).c3
        exact .call _ _ w2 (by simp [execOp, Act.eval, go_sem]) ((asWaiting p lim nn v5 w2 (HAW.out w2 ho)).mono fun e w3 h => ⟨h.1, by rw [← h.2]; exact (hI.keep hs (by decide) (by decide) id id)⟩)
    · intro L w2 hs hl hD hI
      refine .inl ⟨by kernel_rfl, ?_⟩
      as_aux_lemma =>
        have ho : Only (· = w.heap.size + 1 + 1) w9 w2 := hI.any Only.of_fresh And.left
        obtain ⟨e0, e1, e2⟩ := (HN13.out.only ho HP13.out).c3
        exact .val _ (by simp [execOp, Act.eval, e0, e1, e2, hn2, hlim, go_sem]) (hI.keep hs (by decide) (by decide) id id)
    · intro L w2 hs hl hD hI
      refine .inl ⟨by kernel_rfl, ?_⟩
      as_aux_lemma =>
        have ho : Only (· = w.heap.size + 1 + 1) w9 w2 := hI.any Only.of_fresh And.left
        obtain ⟨e0, e1, e2⟩ := (HN13.out.only ho HP13.out).c3
        exact .val _ (by simp [execOp, Act.eval, e0, e1, e2, hn2, hlim, go_sem]) (hI.keep hs (by decide) (by decide) id id)
    · intro L w2 hs hl hD hI
      refine .inl ⟨by kernel_rfl, ?_⟩
      as_aux_lemma =>
        have ho : Only (· = w.heap.size + 1 + 1) w9 w2 := hI.any Only.of_fresh And.left
        obtain ⟨e0, e1, e2⟩ := (HN13.out.only ho HP13.out).c3
        exact .val _ (by simp [execOp, Act.eval, e0, e1, e2, hn2, hlim, go_sem]) (hI.keep hs (by decide) (by decide) id id)
    · intro L w2 hs hl hD hI
      refine .inl ⟨by kernel_rfl, ?_⟩
      as_aux_lemma =>
        have hx := hI.ahead hl
        have hb := HR8.out.fresh hx
        refine .skip ((((w2).setCell ⟨w.heap.size + 1 + 1, 0, none⟩ (.int .i64 n1)).setCell ⟨w.heap.size + 1 + 1, 1, none⟩ (.string n2)).setCell ⟨w.heap.size + 1 + 1, 2, none⟩ (.int .i64 n3)) rfl (by simp [execOp, Act.eval, hb.cell 0, hb.cell 1, hb.cell 2, hb.frozen 0, hb.frozen 1, hb.frozen 2, go_sem]) (Once.put hs (by decide) ⟨(((((Only.of_fresh hx : Only (· = w.heap.size + 1 + 1) w9 w2)).step ⟨w.heap.size + 1 + 1, 0, none⟩ (.int .i64 n1) (.inl rfl)).step ⟨w.heap.size + 1 + 1, 1, none⟩ (.string n2) (.inl rfl)).step ⟨w.heap.size + 1 + 1, 2, none⟩ (.int .i64 n3) (.inl rfl)), ((hb.set 0 (.int .i64 n1)).set 1 (.string n2)).set 2 (.int .i64 n3)⟩)
    · intro L w2 hs hl hD hI
      refine .inl ⟨by kernel_rfl, ?_⟩
      as_aux_lemma =>
        have ho : Only (· = w.heap.size + 1 + 1) w9 w2 := hI.any Only.of_fresh And.left
        obtain ⟨e0, e1, e2⟩ := (HN13.out.only ho HP13.out).c3
        exact .val _ (by simp [execOp, Act.eval, e0, e1, e2, hn2, hlim, go_sem]) (hI.keep hs (by decide) (by decide) id id)
    intro L w10 hl hI
    obtain ⟨ho, hb⟩ := hI.behind (hl 13 (by decide))
    have HOA := Lib.hid ho
    have HBA := Lib.hid hb
    obtain ⟨r0, r1, r2⟩ := hb.c3
    clear hl hI ho hb
    go_wp2
    refine bodyPost_ret (v := .tuple #[.agg #[.int .i64 n1, .string n2, .int .i64 n3], .bool true]) (by simp [results, Try.results10, go_sem, r0, r1, r2]) rfl ?_
    refine ⟨?_, v5, HAW.out w10 HOA.out, (HOV.out.trans (Only.of_fresh HF9.out)).trans' HOA.out (fun i hi e => by omega), HV5.out⟩
    show _ = Ending.returned (.tuple #[refV nn, .bool true])
    rw [HK.out.1]
  · cases b' with
    | false =>
      obtain ⟨k1, k2, k3, k4, k5, k6, k7⟩ := HE.out
      simp [blkV] at k1
      simp [fltV] at k2
      simp [refV, bi] at k4
      simp at k6
      simp [whatI] at k7
      obtain ⟨rfl, rfl, rfl⟩ := k1
      obtain ⟨rfl, rfl⟩ := k2
      obtain ⟨rfl, rfl, rfl⟩ := k4
      subst k6 k7
      have HK := Lib.hid (And.intro k3 k5)
      clear k3 k5 HE HONE
      go_wp2_with fail
      refine (wrong12 false W8).mono ?_
      rintro e w8 ⟨rfl, hf8⟩
      obtain ⟨x0, x1, y0, y1, y2, z0, z1, z2, u0, u1, u2, hr8⟩ := HS8.out w8 hf8
      clear hr8
      have HF8 := Lib.hid hf8
      clear hf8
      go_wp2_with fail
      refine (ok12 false w8).mono ?_
      rintro e w9 ⟨rfl, hf9⟩
      have HF9 := Lib.hid (HF8.out.trans hf9)
      clear hf9 HF8
      obtain ⟨x0, x1, y0, y1, y2, z0, z1, z2, u0, u1, u2, hr8⟩ := HS8.out w9 HF9.out
      have hcv : (convert 31 9 (.slice bA bn bc)).run Try.prog w9 = .ok (.string (strB l')) w9 := by
        have ho := (HBB8.out st' l' false rfl).fresh HF9.out
        obtain ⟨A', c', e, _⟩ := ho.slice
        injection e with e1 e2 e3
        subst e1 e2 e3
        exact run_str ho.bytes.1 31 9 5 Try.underlying31 Try.underlying5 Try.underlying9 _
      go_upto_region 7 with fail
      have HN13 := Lib.hid (HN8.out.fresh HF9.out)
      have hn2 : (n2.size : Int) = (lenS nn : Int) := by rw [HK.out.2]
      have ha9 := HA8.out.fresh HF9.out
      have HAW : Hid (∀ w', Only (· = w.heap.size + 1 + 1) w9 w' → AsAt w' p lim nn v5) := Lib.hid (fun w' ho => ha9.only ho (by omega) (fun k hk => by
        cases nn with
        | none => rw [(ha9.idle rfl).2] at hk; cases hk
        | some y =>
          obtain ⟨a, l, b⟩ := y
          obtain ⟨cur, hc⟩ := own_blk (ha9.part a l b rfl).2.1 hk
          exact hc.ne hr8 (by decide)))
      clear ha9
      have hlim : ((lenS nn : Int) ≤ lim) := by
        cases nn with
        | none => simp [lenS]; exact h0
        | some y => obtain ⟨a, l, b⟩ := y; exact (HA8.out.part a l b rfl).2.2
      have HR8 := Lib.hid hr8
      clear x0 x1 y0 y1 y2 u0 u1 u2 hcv hr8
      refine wp_region_valsL (by kernel_rfl) (by kernel_rfl) (by kernel_rfl) (by kernel_rfl) (by kernel_rfl) (fun i => ([.agg #[.int .i64 n1, .string n2, .int .i64 n3], .pointer (some ⟨p, 0, none⟩), .int .i64 (lenS nn : Int), .pointer (some ⟨p13, 1, none⟩), .string n2, .int .i64 (n2.size : Int), .bool true, .bool true, .pointer (some ⟨p, 0, none⟩), .int .i64 (lenS nn : Int), .int .i64 lim, .bool true, .bool true, undef, .bool true] : List Value).getD i undef) { tmps := #[Value.pointer (some { block := p, off := 0 }), Value.agg #[Value.int IntKind.i64 q1, Value.string q2, Value.int IntKind.i64 q3], Value.int IntKind.i64 lim, Value.agg #[Value.int IntKind.i64 ty, Value.int IntKind.i64 st, Value.slice A t.length c, Value.bool en, Value.bool eh, Value.bool ak, Value.int IntKind.i64 fl, Value.int IntKind.i64 co, Value.int IntKind.i64 la, Value.int IntKind.i64 inc, Value.int IntKind.i64 de, Value.int IntKind.i64 we, Value.bool wd, Value.bool ex, Value.slice PA ps.length pc], undef, Value.pointer (some { block := w.heap.size, off := 0 }), undef, Value.pointer (some { block := w.heap.size + 1, off := 0 }), Value.pointer (some { block := w.heap.size + 1 + 1, off := 0 }), .bool true, Value.pointer (some { block := w5.heap.size, off := 0 }), Value.bool true, Value.pointer (some { block := w5.heap.size + 1, off := 0 }), Value.pointer (some { block := p13, off := 0 }), Value.pointer (some { block := p14, off := 0 }), Value.int IntKind.i64 1, Value.tuple #[Value.agg #[Value.int IntKind.i64 st', Value.slice bA bn bc, Value.bool false], Value.bool true, Value.agg #[Value.int IntKind.i64 0, Value.bool false]], Value.pointer (some { block := p, off := 0 }), Value.agg #[Value.int IntKind.i64 ty, Value.int IntKind.i64 st, Value.slice A t.length c, Value.bool en, Value.bool eh, Value.bool ak, Value.int IntKind.i64 fl, Value.int IntKind.i64 co, Value.int IntKind.i64 la, Value.int IntKind.i64 inc, Value.int IntKind.i64 de, Value.int IntKind.i64 we, Value.bool wd, Value.bool ex, Value.slice PA ps.length pc], Value.tuple #[Value.agg #[Value.int IntKind.i64 st', Value.slice bA bn bc, Value.bool false], Value.bool true, Value.agg #[Value.int IntKind.i64 0, Value.bool false]], Value.agg #[Value.int IntKind.i64 st', Value.slice bA bn bc, Value.bool false], Value.bool true, Value.agg #[Value.int IntKind.i64 0, Value.bool false], Value.tuple #[Value.agg #[Value.int IntKind.i64 n1, Value.string n2, Value.int IntKind.i64 n3], Value.agg #[Value.int IntKind.i64 st', Value.string (strB l'), Value.int IntKind.i64 0], Value.int IntKind.i64 1], Value.agg #[Value.int IntKind.i64 q1, Value.string q2, Value.int IntKind.i64 q3], Value.int IntKind.i64 lim, Value.pointer (some { block := w.heap.size + 1, off := 0 }), Value.int IntKind.i64 ty, Value.pointer (some { block := w.heap.size + 1, off := 1 }), Value.int IntKind.i64 st, Value.pointer (some { block := w.heap.size + 1, off := 2 }), Value.slice A t.length c, Value.string (strB t), Value.pointer (some { block := w.heap.size + 1, off := 3 }), Value.bool en, Value.int IntKind.i64 (bi en), Value.pointer (some { block := w.heap.size + 1, off := 4 }), Value.bool eh, Value.int IntKind.i64 (bi eh), Value.tuple #[Value.agg #[Value.int IntKind.i64 n1, Value.string n2, Value.int IntKind.i64 n3], Value.agg #[Value.int IntKind.i64 st', Value.string (strB l'), Value.int IntKind.i64 0], Value.int IntKind.i64 1], Value.agg #[Value.int IntKind.i64 n1, Value.string n2, Value.int IntKind.i64 n3], Value.agg #[Value.int IntKind.i64 st', Value.string (strB l'), Value.int IntKind.i64 0], Value.int IntKind.i64 1, Value.bool true, Value.int IntKind.i64 1, Value.bool true, Value.bool false, Value.bool false, Value.agg #[Value.int IntKind.i64 0, Value.bool false], Value.bool false, Value.int IntKind.i64 1, Value.bool false, Value.bool false, Value.bool false, Value.bool false, Value.int IntKind.i64 1, Value.bool true, Value.bool true, Value.agg #[Value.int IntKind.i64 0, Value.bool false], Value.bool true, Value.bool false, Value.bool false, Value.bool false, undef, Value.pointer (some { block := w5.heap.size, off := 0 }), Value.int IntKind.i64 st', Value.pointer (some { block := p14, off := 0 }), Value.int IntKind.i64 st', Value.bool false, Value.bool false, Value.pointer (some { block := w5.heap.size, off := 1 }), Value.slice bA bn bc, Value.string (strB l'), Value.pointer (some { block := p14, off := 1 }), Value.string (strB l'), Value.bool false, Value.bool false, Value.bool false, Value.pointer (some { block := w5.heap.size, off := 2 }), Value.bool false, Value.pointer (some { block := p14, off := 2 }), Value.int IntKind.i64 0, Value.bool false, Value.bool false, Value.bool false, undef, .agg #[.int .i64 n1, .string n2, .int .i64 n3], .pointer (some ⟨p, 0, none⟩), .int .i64 (lenS nn : Int), .pointer (some ⟨p13, 1, none⟩), .string n2, .int .i64 (n2.size : Int), .bool true, .bool true, .pointer (some ⟨p, 0, none⟩), .int .i64 (lenS nn : Int), .int .i64 lim, .bool true, .bool true], defers := [] } (by kernel_rfl) (Once 13 (fun w2 => Fresh w9 w2) (fun w2 => Only (· = w.heap.size + 1 + 1) w9 w2 ∧ Blk w2 (w.heap.size + 1 + 1) 30 #[.int .i64 n1, .string n2, .int .i64 n3])) (Once.start (Fresh.drew _)) ⟨?_, ?_, ?_, ?_, ?_, ?_, ?_, ?_, ?_, ?_, ?_, ?_, ?_, ?_, ?_, trivial⟩ ?_
      · intro L w2 hs hl hD hI
        refine .inl ⟨by kernel_rfl, ?_⟩
        as_aux_lemma =>
          have ho : Only (· = w.heap.size + 1 + 1) w9 w2 := hI.any Only.of_fresh And.left
          obtain ⟨e0, e1, e2⟩ := (HN13.out.only ho HP13.out).c3
          exact .val _ (by simp [execOp, Act.eval, e0, e1, e2, hn2, hlim, go_sem]) (hI.keep hs (by decide) (by decide) id id)
      · intro L w2 hs hl hD hI
        refine .inl ⟨by kernel_rfl, ?_⟩
        as_aux_lemma =>
          have ho : Only (· = w.heap.size + 1 + 1) w9 w2 := hI.any Only.of_fresh And.left
          obtain ⟨e0, e1, e2⟩ := (HN13.out.only ho HP13.out).c3
          exact .val _ (by simp [execOp, Act.eval, e0, e1, e2, hn2, hlim, go_sem]) (hI.keep hs (by decide) (by decide) id id)
      · intro L w2 hs hl hD hI
        refine .inl ⟨by kernel_rfl, ?_⟩
        as_aux_lemma =>
          have ho : Only (· = w.heap.size + 1 + 1) w9 w2 := hI.any Only.of_fresh And.left
          obtain ⟨e0, e1, e2⟩ := (HN13.out.only ho HP13.out).c3
          exact .call _ _ w2 (by simp [execOp, Act.eval, go_sem]) ((asWaiting p lim nn v5 w2 (HAW.out w2 ho)).mono fun e w3 h => ⟨h.1, by rw [← h.2]; exact (hI.keep hs (by decide) (by decide) id id)⟩)
      · intro L w2 hs hl hD hI
        refine .inl ⟨by kernel_rfl, ?_⟩
        as_aux_lemma =>
          have ho : Only (· = w.heap.size + 1 + 1) w9 w2 := hI.any Only.of_fresh And.left
          obtain ⟨e0, e1, e2⟩ := (HN13.out.only ho HP13.out).c3
          exact .val _ (by simp [execOp, Act.eval, e0, e1, e2, hn2, hlim, go_sem]) (hI.keep hs (by decide) (by decide) id id)
      · intro L w2 hs hl hD hI
        refine .inl ⟨by kernel_rfl, ?_⟩
        as_aux_lemma =>
          have ho : Only (· = w.heap.size + 1 + 1) w9 w2 := hI.any Only.of_fresh And.left
          obtain ⟨e0, e1, e2⟩ := (HN13.out.only ho HP13.out).c3
          exact .val _ (by simp [execOp, Act.eval, e0, e1, e2, hn2, hlim, go_sem]) (hI.keep hs (by decide) (by decide) id id)
      · intro L w2 hs hl hD hI
        refine .inl ⟨by kernel_rfl, ?_⟩
        as_aux_lemma =>
          have ho : Only (· = w.heap.size + 1 + 1) w9 w2 := hI.any Only.of_fresh And.left
          obtain ⟨e0, e1, e2⟩ := (HN13.out.only ho HP13.out).c3
          exact .val _ (by simp [execOp, Act.eval, e0, e1, e2, hn2, hlim, go_sem]) (hI.keep hs (by decide) (by decide) id id)
      · intro L w2 hs hl hD hI
        refine .inl ⟨by kernel_rfl, ?_⟩
        as_aux_lemma =>
          have ho : Only (· = w.heap.size + 1 + 1) w9 w2 := hI.any Only.of_fresh And.left
          obtain ⟨e0, e1, e2⟩ := (HN13.out.only ho HP13.out).c3
          exact .val _ (by simp [execOp, Act.eval, e0, e1, e2, hn2, hlim, go_sem]) (hI.keep hs (by decide) (by decide) id id)
      · intro L w2 hs hl hD hI
        refine .inl ⟨by kernel_rfl, ?_⟩
        as_aux_lemma =>
          have ho : Only (· = w.heap.size + 1 + 1) w9 w2 := hI.any Only.of_fresh And.left
          obtain ⟨e0, e1, e2⟩ := (HN13.out.only ho HP13.out).c3
          exact .val _ (by simp [execOp, Act.eval, e0, e1, e2, hn2, hlim, go_sem]) (hI.keep hs (by decide) (by decide) id id)
      · intro L w2 hs hl hD hI
        refine .inl ⟨by kernel_rfl, ?_⟩
        as_aux_lemma =>
          have ho : Only (· = w.heap.size + 1 + 1) w9 w2 := hI.any Only.of_fresh And.left
          obtain ⟨e0, e1, e2⟩ := (HN13.out.only ho HP13.out).c3
          exact .val _ (by simp [execOp, Act.eval, e0, e1, e2, hn2, hlim, go_sem]) (hI.keep hs (by decide) (by decide) id id)
      · intro L w2 hs hl hD hI
        refine .inl ⟨by kernel_rfl, ?_⟩
        as_aux_lemma =>
          have ho : Only (· = w.heap.size + 1 + 1) w9 w2 := hI.any Only.of_fresh And.left
          obtain ⟨e0, e1, e2⟩ := (HN13.out.only ho HP13.out).c3
          exact .call _ _ w2 (by simp [execOp, Act.eval, go_sem]) ((asWaiting p lim nn v5 w2 (HAW.out w2 ho)).mono fun e w3 h => ⟨h.1, by rw [← h.2]; exact (hI.keep hs (by decide) (by decide) id id)⟩)
      · intro L w2 hs hl hD hI
        refine .inl ⟨by kernel_rfl, ?_⟩
        as_aux_lemma =>
          have ho : Only (· = w.heap.size + 1 + 1) w9 w2 := hI.any Only.of_fresh And.left
          obtain ⟨e0, e1, e2⟩ := (HN13.out.only ho HP13.out).c3
          exact .val _ (by simp [execOp, Act.eval, e0, e1, e2, hn2, hlim, go_sem]) (hI.keep hs (by decide) (by decide) id id)
      · intro L w2 hs hl hD hI
        refine .inl ⟨by kernel_rfl, ?_⟩
        as_aux_lemma =>
          have ho : Only (· = w.heap.size + 1 + 1) w9 w2 := hI.any Only.of_fresh And.left
          obtain ⟨e0, e1, e2⟩ := (HN13.out.only ho HP13.out).c3
          exact .val _ (by simp [execOp, Act.eval, e0, e1, e2, hn2, hlim, go_sem]) (hI.keep hs (by decide) (by decide) id id)
      · intro L w2 hs hl hD hI
        refine .inl ⟨by kernel_rfl, ?_⟩
        as_aux_lemma =>
          have ho : Only (· = w.heap.size + 1 + 1) w9 w2 := hI.any Only.of_fresh And.left
          obtain ⟨e0, e1, e2⟩ := (HN13.out.only ho HP13.out).c3
          exact .val _ (by simp [execOp, Act.eval, e0, e1, e2, hn2, hlim, go_sem]) (hI.keep hs (by decide) (by decide) id id)
      · intro L w2 hs hl hD hI
        refine .inl ⟨by kernel_rfl, ?_⟩
        as_aux_lemma =>
          have hx := hI.ahead hl
          have hb := HR8.out.fresh hx
          refine .skip ((((w2).setCell ⟨w.heap.size + 1 + 1, 0, none⟩ (.int .i64 n1)).setCell ⟨w.heap.size + 1 + 1, 1, none⟩ (.string n2)).setCell ⟨w.heap.size + 1 + 1, 2, none⟩ (.int .i64 n3)) rfl (by simp [execOp, Act.eval, hb.cell 0, hb.cell 1, hb.cell 2, hb.frozen 0, hb.frozen 1, hb.frozen 2, go_sem]) (Once.put hs (by decide) ⟨(((((Only.of_fresh hx : Only (· = w.heap.size + 1 + 1) w9 w2)).step ⟨w.heap.size + 1 + 1, 0, none⟩ (.int .i64 n1) (.inl rfl)).step ⟨w.heap.size + 1 + 1, 1, none⟩ (.string n2) (.inl rfl)).step ⟨w.heap.size + 1 + 1, 2, none⟩ (.int .i64 n3) (.inl rfl)), ((hb.set 0 (.int .i64 n1)).set 1 (.string n2)).set 2 (.int .i64 n3)⟩)
      · intro L w2 hs hl hD hI
        refine .inl ⟨by kernel_rfl, ?_⟩
        as_aux_lemma =>
          have ho : Only (· = w.heap.size + 1 + 1) w9 w2 := hI.any Only.of_fresh And.left
          obtain ⟨e0, e1, e2⟩ := (HN13.out.only ho HP13.out).c3
          exact .val _ (by simp [execOp, Act.eval, e0, e1, e2, hn2, hlim, go_sem]) (hI.keep hs (by decide) (by decide) id id)
      intro L w10 hl hI
      obtain ⟨ho, hb⟩ := hI.behind (hl 13 (by decide))
      have HOA := Lib.hid ho
      have HBA := Lib.hid hb
      obtain ⟨r0, r1, r2⟩ := hb.c3
      clear hl hI ho hb
      go_wp2
      refine bodyPost_ret (v := .tuple #[.agg #[.int .i64 n1, .string n2, .int .i64 n3], .bool true]) (by simp [results, Try.results10, go_sem, r0, r1, r2]) rfl ?_
      refine ⟨?_, v5, HAW.out w10 HOA.out, (HOV.out.trans (Only.of_fresh HF9.out)).trans' HOA.out (fun i hi e => by omega), HV5.out⟩
      show _ = Ending.returned (.tuple #[refV nn, .bool true])
      rw [HK.out.1]
    | true =>
      obtain ⟨k1, k2, k3, k4, k5, k6, k7⟩ := HE.out
      simp [blkV] at k1
      simp [fltV] at k2
      simp [refV, bi] at k4
      simp at k6
      simp [whatI] at k7
      obtain ⟨rfl, rfl, rfl⟩ := k1
      obtain ⟨rfl, rfl⟩ := k2
      obtain ⟨rfl, rfl, rfl⟩ := k4
      subst k6 k7
      have HK := Lib.hid (And.intro k3 k5)
      clear k3 k5 HE HONE
      go_wp2_with fail
      refine (wrong12 false W8).mono ?_
      rintro e w8 ⟨rfl, hf8⟩
      obtain ⟨x0, x1, y0, y1, y2, z0, z1, z2, u0, u1, u2, hr8⟩ := HS8.out w8 hf8
      clear hr8
      have HF8 := Lib.hid hf8
      clear hf8
      go_wp2_with fail
      refine (ok12 false w8).mono ?_
      rintro e w9 ⟨rfl, hf9⟩
      have HF9 := Lib.hid (HF8.out.trans hf9)
      clear hf9 HF8
      obtain ⟨x0, x1, y0, y1, y2, z0, z1, z2, u0, u1, u2, hr8⟩ := HS8.out w9 HF9.out
      have hcv : (convert 31 9 (.slice bA bn bc)).run Try.prog w9 = .ok (.string (strB l')) w9 := by
        have ho := (HBB8.out st' l' true rfl).fresh HF9.out
        obtain ⟨A', c', e, _⟩ := ho.slice
        injection e with e1 e2 e3
        subst e1 e2 e3
        exact run_str ho.bytes.1 31 9 5 Try.underlying31 Try.underlying5 Try.underlying9 _
      go_upto_region 7 with fail
      have HN13 := Lib.hid (HN8.out.fresh HF9.out)
      have hn2 : (n2.size : Int) = (lenS nn : Int) := by rw [HK.out.2]
      have ha9 := HA8.out.fresh HF9.out
      have HAW : Hid (∀ w', Only (· = w.heap.size + 1 + 1) w9 w' → AsAt w' p lim nn v5) := Lib.hid (fun w' ho => ha9.only ho (by omega) (fun k hk => by
        cases nn with
        | none => rw [(ha9.idle rfl).2] at hk; cases hk
        | some y =>
          obtain ⟨a, l, b⟩ := y
          obtain ⟨cur, hc⟩ := own_blk (ha9.part a l b rfl).2.1 hk
          exact hc.ne hr8 (by decide)))
      clear ha9
      have hlim : ((lenS nn : Int) ≤ lim) := by
        cases nn with
        | none => simp [lenS]; exact h0
        | some y => obtain ⟨a, l, b⟩ := y; exact (HA8.out.part a l b rfl).2.2
      have HR8 := Lib.hid hr8
      clear x0 x1 y0 y1 y2 u0 u1 u2 hcv hr8
      refine wp_region_valsL (by kernel_rfl) (by kernel_rfl) (by kernel_rfl) (by kernel_rfl) (by kernel_rfl) (fun i => ([.agg #[.int .i64 n1, .string n2, .int .i64 n3], .pointer (some ⟨p, 0, none⟩), .int .i64 (lenS nn : Int), .pointer (some ⟨p13, 1, none⟩), .string n2, .int .i64 (n2.size : Int), .bool true, .bool true, .pointer (some ⟨p, 0, none⟩), .int .i64 (lenS nn : Int), .int .i64 lim, .bool true, .bool true, undef, .bool true] : List Value).getD i undef) { tmps := #[Value.pointer (some { block := p, off := 0 }), Value.agg #[Value.int IntKind.i64 q1, Value.string q2, Value.int IntKind.i64 q3], Value.int IntKind.i64 lim, Value.agg #[Value.int IntKind.i64 ty, Value.int IntKind.i64 st, Value.slice A t.length c, Value.bool en, Value.bool eh, Value.bool ak, Value.int IntKind.i64 fl, Value.int IntKind.i64 co, Value.int IntKind.i64 la, Value.int IntKind.i64 inc, Value.int IntKind.i64 de, Value.int IntKind.i64 we, Value.bool wd, Value.bool ex, Value.slice PA ps.length pc], undef, Value.pointer (some { block := w.heap.size, off := 0 }), undef, Value.pointer (some { block := w.heap.size + 1, off := 0 }), Value.pointer (some { block := w.heap.size + 1 + 1, off := 0 }), .bool true, Value.pointer (some { block := w5.heap.size, off := 0 }), Value.bool true, Value.pointer (some { block := w5.heap.size + 1, off := 0 }), Value.pointer (some { block := p13, off := 0 }), Value.pointer (some { block := p14, off := 0 }), Value.int IntKind.i64 1, Value.tuple #[Value.agg #[Value.int IntKind.i64 st', Value.slice bA bn bc, Value.bool true], Value.bool true, Value.agg #[Value.int IntKind.i64 0, Value.bool false]], Value.pointer (some { block := p, off := 0 }), Value.agg #[Value.int IntKind.i64 ty, Value.int IntKind.i64 st, Value.slice A t.length c, Value.bool en, Value.bool eh, Value.bool ak, Value.int IntKind.i64 fl, Value.int IntKind.i64 co, Value.int IntKind.i64 la, Value.int IntKind.i64 inc, Value.int IntKind.i64 de, Value.int IntKind.i64 we, Value.bool wd, Value.bool ex, Value.slice PA ps.length pc], Value.tuple #[Value.agg #[Value.int IntKind.i64 st', Value.slice bA bn bc, Value.bool true], Value.bool true, Value.agg #[Value.int IntKind.i64 0, Value.bool false]], Value.agg #[Value.int IntKind.i64 st', Value.slice bA bn bc, Value.bool true], Value.bool true, Value.agg #[Value.int IntKind.i64 0, Value.bool false], Value.tuple #[Value.agg #[Value.int IntKind.i64 n1, Value.string n2, Value.int IntKind.i64 n3], Value.agg #[Value.int IntKind.i64 st', Value.string (strB l'), Value.int IntKind.i64 1], Value.int IntKind.i64 1], Value.agg #[Value.int IntKind.i64 q1, Value.string q2, Value.int IntKind.i64 q3], Value.int IntKind.i64 lim, Value.pointer (some { block := w.heap.size + 1, off := 0 }), Value.int IntKind.i64 ty, Value.pointer (some { block := w.heap.size + 1, off := 1 }), Value.int IntKind.i64 st, Value.pointer (some { block := w.heap.size + 1, off := 2 }), Value.slice A t.length c, Value.string (strB t), Value.pointer (some { block := w.heap.size + 1, off := 3 }), Value.bool en, Value.int IntKind.i64 (bi en), Value.pointer (some { block := w.heap.size + 1, off := 4 }), Value.bool eh, Value.int IntKind.i64 (bi eh), Value.tuple #[Value.agg #[Value.int IntKind.i64 n1, Value.string n2, Value.int IntKind.i64 n3], Value.agg #[Value.int IntKind.i64 st', Value.string (strB l'), Value.int IntKind.i64 1], Value.int IntKind.i64 1], Value.agg #[Value.int IntKind.i64 n1, Value.string n2, Value.int IntKind.i64 n3], Value.agg #[Value.int IntKind.i64 st', Value.string (strB l'), Value.int IntKind.i64 1], Value.int IntKind.i64 1, Value.bool true, Value.int IntKind.i64 1, Value.bool true, Value.bool false, Value.bool false, Value.agg #[Value.int IntKind.i64 0, Value.bool false], Value.bool false, Value.int IntKind.i64 1, Value.bool false, Value.bool false, Value.bool false, Value.bool false, Value.int IntKind.i64 1, Value.bool true, Value.bool true, Value.agg #[Value.int IntKind.i64 0, Value.bool false], Value.bool true, Value.bool false, Value.bool false, Value.bool false, undef, Value.pointer (some { block := w5.heap.size, off := 0 }), Value.int IntKind.i64 st', Value.pointer (some { block := p14, off := 0 }), Value.int IntKind.i64 st', Value.bool false, Value.bool false, Value.pointer (some { block := w5.heap.size, off := 1 }), Value.slice bA bn bc, Value.string (strB l'), Value.pointer (some { block := p14, off := 1 }), Value.string (strB l'), Value.bool false, Value.bool false, Value.bool false, Value.pointer (some { block := w5.heap.size, off := 2 }), Value.bool true, Value.pointer (some { block := p14, off := 2 }), Value.int IntKind.i64 1, Value.bool true, Value.bool false, Value.bool false, undef, .agg #[.int .i64 n1, .string n2, .int .i64 n3], .pointer (some ⟨p, 0, none⟩), .int .i64 (lenS nn : Int), .pointer (some ⟨p13, 1, none⟩), .string n2, .int .i64 (n2.size : Int), .bool true, .bool true, .pointer (some ⟨p, 0, none⟩), .int .i64 (lenS nn : Int), .int .i64 lim, .bool true, .bool true], defers := [] } (by kernel_rfl) (Once 13 (fun w2 => Fresh w9 w2) (fun w2 => Only (· = w.heap.size + 1 + 1) w9 w2 ∧ Blk w2 (w.heap.size + 1 + 1) 30 #[.int .i64 n1, .string n2, .int .i64 n3])) (Once.start (Fresh.drew _)) ⟨?_, ?_, ?_, ?_, ?_, ?_, ?_, ?_, ?_, ?_, ?_, ?_, ?_, ?_, ?_, trivial⟩ ?_
      · intro L w2 hs hl hD hI
        refine .inl ⟨by kernel_rfl, ?_⟩
        as_aux_lemma =>
          have ho : Only (· = w.heap.size + 1 + 1) w9 w2 := hI.any Only.of_fresh And.left
          obtain ⟨e0, e1, e2⟩ := (HN13.out.only ho HP13.out).c3
          exact .val _ (by simp [execOp, Act.eval, e0, e1, e2, hn2, hlim, go_sem]) (hI.keep hs (by decide) (by decide) id id)
      · intro L w2 hs hl hD hI
        refine .inl ⟨by kernel_rfl, ?_⟩
        as_aux_lemma =>
          have ho : Only (· = w.heap.size + 1 + 1) w9 w2 := hI.any Only.of_fresh And.left
          obtain ⟨e0, e1, e2⟩ := (HN13.out.only ho HP13.out).c3
          exact .val _ (by simp [execOp, Act.eval, e0, e1, e2, hn2, hlim, go_sem]) (hI.keep hs (by decide) (by decide) id id)
      · intro L w2 hs hl hD hI
        refine .inl ⟨by kernel_rfl, ?_⟩
        as_aux_lemma =>
          have ho : Only (· = w.heap.size + 1 + 1) w9 w2 := hI.any Only.of_fresh And.left
          obtain ⟨e0, e1, e2⟩ := (HN13.out.only ho HP13.out).c3
          exact .call _ _ w2 (by simp [execOp, Act.eval, go_sem]) ((asWaiting p lim nn v5 w2 (HAW.out w2 ho)).mono fun e w3 h => ⟨h.1, by rw [← h.2]; exact (hI.keep hs (by decide) (by decide) id id)⟩)
      · intro L w2 hs hl hD hI
        refine .inl ⟨by kernel_rfl, ?_⟩
        as_aux_lemma =>
          have ho : Only (· = w.heap.size + 1 + 1) w9 w2 := hI.any Only.of_fresh And.left
          obtain ⟨e0, e1, e2⟩ := (HN13.out.only ho HP13.out).c3
          exact .val _ (by simp [execOp, Act.eval, e0, e1, e2, hn2, hlim, go_sem]) (hI.keep hs (by decide) (by decide) id id)
      · intro L w2 hs hl hD hI
        refine .inl ⟨by kernel_rfl, ?_⟩
        as_aux_lemma =>
          have ho : Only (· = w.heap.size + 1 + 1) w9 w2 := hI.any Only.of_fresh And.left
          obtain ⟨e0, e1, e2⟩ := (HN13.out.only ho HP13.out).c3
          exact .val _ (by simp [execOp, Act.eval, e0, e1, e2, hn2, hlim, go_sem]) (hI.keep hs (by decide) (by decide) id id)
      · intro L w2 hs hl hD hI
        refine .inl ⟨by kernel_rfl, ?_⟩
        as_aux_lemma =>
          have ho : Only (· = w.heap.size + 1 + 1) w9 w2 := hI.any Only.of_fresh And.left
          obtain ⟨e0, e1, e2⟩ := (HN13.out.only ho HP13.out).c3
          exact .val _ (by simp [execOp, Act.eval, e0, e1, e2, hn2, hlim, go_sem]) (hI.keep hs (by decide) (by decide) id id)
      · intro L w2 hs hl hD hI
        refine .inl ⟨by kernel_rfl, ?_⟩
        as_aux_lemma =>
          have ho : Only (· = w.heap.size + 1 + 1) w9 w2 := hI.any Only.of_fresh And.left
          obtain ⟨e0, e1, e2⟩ := (HN13.out.only ho HP13.out).c3
          exact .val _ (by simp [execOp, Act.eval, e0, e1, e2, hn2, hlim, go_sem]) (hI.keep hs (by decide) (by decide) id id)
      · intro L w2 hs hl hD hI
        refine .inl ⟨by kernel_rfl, ?_⟩
        as_aux_lemma =>
          have ho : Only (· = w.heap.size + 1 + 1) w9 w2 := hI.any Only.of_fresh And.left
          obtain ⟨e0, e1, e2⟩ := (HN13.out.only ho HP13.out).c3
          exact .val _ (by simp [execOp, Act.eval, e0, e1, e2, hn2, hlim, go_sem]) (hI.keep hs (by decide) (by decide) id id)
      · intro L w2 hs hl hD hI
        refine .inl ⟨by kernel_rfl, ?_⟩
        as_aux_lemma =>
          have ho : Only (· = w.heap.size + 1 + 1) w9 w2 := hI.any Only.of_fresh And.left
          obtain ⟨e0, e1, e2⟩ := (HN13.out.only ho HP13.out).c3
          exact .val _ (by simp [execOp, Act.eval, e0, e1, e2, hn2, hlim, go_sem]) (hI.keep hs (by decide) (by decide) id id)
      · intro L w2 hs hl hD hI
        refine .inl ⟨by kernel_rfl, ?_⟩
        as_aux_lemma =>
          have ho : Only (· = w.heap.size + 1 + 1) w9 w2 := hI.any Only.of_fresh And.left
          obtain ⟨e0, e1, e2⟩ := (HN13.out.only ho HP13.out).c3
          exact .call _ _ w2 (by simp [execOp, Act.eval, go_sem]) ((asWaiting p lim nn v5 w2 (HAW.out w2 ho)).mono fun e w3 h => ⟨h.1, by rw [← h.2]; exact (hI.keep hs (by decide) (by decide) id id)⟩)
      · intro L w2 hs hl hD hI
        refine .inl ⟨by kernel_rfl, ?_⟩
        as_aux_lemma =>
          have ho : Only (· = w.heap.size + 1 + 1) w9 w2 := hI.any Only.of_fresh And.left
          obtain ⟨e0, e1, e2⟩ := (HN13.out.only ho HP13.out).c3
          exact .val _ (by simp [execOp, Act.eval, e0, e1, e2, hn2, hlim, go_sem]) (hI.keep hs (by decide) (by decide) id id)
      · intro L w2 hs hl hD hI
        refine .inl ⟨by kernel_rfl, ?_⟩
        as_aux_lemma =>
          have ho : Only (· = w.heap.size + 1 + 1) w9 w2 := hI.any Only.of_fresh And.left
          obtain ⟨e0, e1, e2⟩ := (HN13.out.only ho HP13.out).c3
          exact .val _ (by simp [execOp, Act.eval, e0, e1, e2, hn2, hlim, go_sem]) (hI.keep hs (by decide) (by decide) id id)
      · intro L w2 hs hl hD hI
        refine .inl ⟨by kernel_rfl, ?_⟩
        as_aux_lemma =>
          have ho : Only (· = w.heap.size + 1 + 1) w9 w2 := hI.any Only.of_fresh And.left
          obtain ⟨e0, e1, e2⟩ := (HN13.out.only ho HP13.out).c3
          exact .val _ (by simp [execOp, Act.eval, e0, e1, e2, hn2, hlim, go_sem]) (hI.keep hs (by decide) (by decide) id id)
      · intro L w2 hs hl hD hI
        refine .inl ⟨by kernel_rfl, ?_⟩
        as_aux_lemma =>
          have hx := hI.ahead hl
          have hb := HR8.out.fresh hx
          refine .skip ((((w2).setCell ⟨w.heap.size + 1 + 1, 0, none⟩ (.int .i64 n1)).setCell ⟨w.heap.size + 1 + 1, 1, none⟩ (.string n2)).setCell ⟨w.heap.size + 1 + 1, 2, none⟩ (.int .i64 n3)) rfl (by simp [execOp, Act.eval, hb.cell 0, hb.cell 1, hb.cell 2, hb.frozen 0, hb.frozen 1, hb.frozen 2, go_sem]) (Once.put hs (by decide) ⟨(((((Only.of_fresh hx : Only (· = w.heap.size + 1 + 1) w9 w2)).step ⟨w.heap.size + 1 + 1, 0, none⟩ (.int .i64 n1) (.inl rfl)).step ⟨w.heap.size + 1 + 1, 1, none⟩ (.string n2) (.inl rfl)).step ⟨w.heap.size + 1 + 1, 2, none⟩ (.int .i64 n3) (.inl rfl)), ((hb.set 0 (.int .i64 n1)).set 1 (.string n2)).set 2 (.int .i64 n3)⟩)
      · intro L w2 hs hl hD hI
        refine .inl ⟨by kernel_rfl, ?_⟩
        as_aux_lemma =>
          have ho : Only (· = w.heap.size + 1 + 1) w9 w2 := hI.any Only.of_fresh And.left
          obtain ⟨e0, e1, e2⟩ := (HN13.out.only ho HP13.out).c3
          exact .val _ (by simp [execOp, Act.eval, e0, e1, e2, hn2, hlim, go_sem]) (hI.keep hs (by decide) (by decide) id id)
      intro L w10 hl hI
      obtain ⟨ho, hb⟩ := hI.behind (hl 13 (by decide))
      have HOA := Lib.hid ho
      have HBA := Lib.hid hb
      obtain ⟨r0, r1, r2⟩ := hb.c3
      clear hl hI ho hb
      go_wp2
      refine bodyPost_ret (v := .tuple #[.agg #[.int .i64 n1, .string n2, .int .i64 n3], .bool true]) (by simp [results, Try.results10, go_sem, r0, r1, r2]) rfl ?_
      refine ⟨?_, v5, HAW.out w10 HOA.out, (HOV.out.trans (Only.of_fresh HF9.out)).trans' HOA.out (fun i hi e => by omega), HV5.out⟩
      show _ = Ending.returned (.tuple #[refV nn, .bool true])
      rw [HK.out.1]
end Go.Proofs.Ytapnlkmofldmdaa
