/-
  The law BlockSplits: its walk.
-/
import Derived.Test.YtapnlkmofldmdaaBlockS
import Derived.BigQuiet
import Derived.StillTailTactics
import Derived.Deep.Cut
namespace Go.Proofs.Ytapnlkmofldmdaa
set_option linter.unusedVariables false
open Go.RowKit Go.ChangeShapes Go.WideShapes Go.Deep

structure PdV where
  (st : Int) (A : Option Addr) (c : Nat) (l : List UInt8) (e : Bool) (n : Int)
structure PdV.Ok (w : World) (f : PdV) : Prop where
  st : -9223372036854775808 ≤ f.st ∧ f.st ≤ 9223372036854775807
  n : -9223372036854775808 ≤ f.n ∧ f.n ≤ 9223372036854775807
  le : f.l.length ≤ f.c
  max : f.c ≤ maxLen
  bs : BS w f.A f.l
def PdV.cells (f : PdV) : List Value := [.int .i64 f.st, .slice f.A f.l.length f.c, .bool f.e, .int .i64 f.n]
theorem opens_split : Opens Try.prog 41 (fun w cs => ∃ f : PdV, cs = f.cells ∧ f.Ok w) :=
  (opens_struct (sz := 4) [(0, 1, QInt .i64), (1, 1, QBytes), (2, 1, QBool), (3, 1, QInt .i64)] Try.underlying41 (by kernel_rfl) (by
    intro p hp
    simp only [List.mem_cons, List.not_mem_nil, or_false] at hp
    rcases hp with rfl | rfl | rfl | rfl
    · exact ⟨0, _, rfl, rfl, by kernel_rfl, opens_int Try.underlying3⟩
    · exact ⟨1, _, rfl, rfl, by kernel_rfl, opens_bytes Try.underlying31 Try.underlying5 (by kernel_rfl)⟩
    · exact ⟨2, _, rfl, rfl, by kernel_rfl, opens_bool Try.underlying4⟩
    · exact ⟨3, _, rfl, rfl, by kernel_rfl, opens_int Try.underlying3⟩)).mono (by
    intro w cs ⟨hl, h⟩
    match cs, hl with
    | [c0, c1, c2, c3], _ =>
      obtain ⟨z0, e0, w0⟩ := h _ (List.mem_cons_self ..)
      obtain ⟨A, l, c, e1, h1, h2, h3⟩ := h _ (List.mem_cons_of_mem _ (List.mem_cons_self ..))
      obtain ⟨z2, e2⟩ := h _ (List.mem_cons_of_mem _ (List.mem_cons_of_mem _ (List.mem_cons_self ..)))
      obtain ⟨z3, e3, w3⟩ := h _ (List.mem_cons_of_mem _ (List.mem_cons_of_mem _ (List.mem_cons_of_mem _ (List.mem_cons_self ..))))
      simp at e0 e1 e2 e3
      subst e0 e1 e2 e3
      exact ⟨⟨z0, A, c, l, z2, z3⟩, rfl, wf_i64_bd w0, wf_i64_bd w3, h1, h2, h3⟩)
section
variable {H : Type} {enc : TypeId × Value → H} {w : World} {base : Nat} {spare : Nat → Bool} {held : Bool} {v : Value} {d : DataW H} {p : List MemPlace} {r : Reach} {b0 : Nat}
theorem open_split (hv : Value.okWide Try.prog w r b0 41 v) (hd : DataW.Trod enc Try.prog w base spare held 41 v d p) :
    ∃ f : PdV, v = .agg #[.int .i64 f.st, .slice f.A f.l.length f.c, .bool f.e, .int .i64 f.n] ∧ f.Ok w := by
  obtain ⟨cs, rfl, f, hc, hf⟩ := opens_split.agg Try.underlying41 hv hd
  refine ⟨f, ?_, hf⟩
  congr 1
  apply Array.toList_inj.1
  rw [hc]
  rfl
end
def LwP (w : World) (e : Ending) (w' : World) : Prop := e = .returned (.bool true) ∧ Fresh w w'
section
variable {st : Int} {A : Option Addr} {c : Nat} {t : List UInt8} {e : Bool} {w : World}
set_option maxRecDepth 100000 in
set_option maxHeartbeats 3200000 in
theorem spl_long (mo : Int) (h : 300 < t.length) : Calls Try.prog 4 #[.agg #[.int .i64 st, .slice A t.length c, .bool e, .int .i64 mo]] w (LwP w) := by
  have dd : (300 : Int) < (t.length : Int) := by omega
  clear h
  go_enter Try.func4, Try.ntmps4
  go_wp2_with fail
  go_quiet (fail)
  go_wp2_with fail
  with_reducible refine (blk_awake _).mono ?_
  rintro e w1 ⟨rfl, hf1⟩
  have HF := Lib.hid (((Fresh.alloc _ _).trans (Fresh.drewN _ _)).trans hf1)
  clear hf1
  go_wp2_with fail
  go_ret
  exact ⟨rfl, HF.out⟩
set_option maxRecDepth 100000 in
set_option maxHeartbeats 3200000 in
theorem spl_no (mo : Int) (ht : t.length ≤ 300) (h : st < 1 ∨ 2147483647 < st ∨ mo < 1 ∨ 16384 < mo) : Calls Try.prog 4 #[.agg #[.int .i64 st, .slice A t.length c, .bool e, .int .i64 mo]] w (LwP w) := by
  have dd : decide ((300 : Int) < (t.length : Int)) = false := by simp; omega
  have HS := Lib.hid (fun W => split_no st A t.length c e mo W h)
  have key : st < 1 ∨ (¬ st < 1 ∧ 2147483647 < st) ∨ (¬ st < 1 ∧ ¬ 2147483647 < st ∧ mo < 1) ∨ (¬ st < 1 ∧ ¬ 2147483647 < st ∧ ¬ mo < 1 ∧ 16384 < mo) := by omega
  clear h
  rcases key with h | ⟨h, h'⟩ | ⟨h, h', h''⟩ | ⟨h, h', h'', h3⟩
  all_goals
    go_enter Try.func4, Try.ntmps4
    go_wp2_with fail
    go_quiet (fail)
    go_wp2_with fail
    with_reducible refine (HS.out _).mono ?_
    rintro e w1 ⟨rfl, rfl⟩
    go_wp2_with fail
    with_reducible refine (blk_awake _).mono ?_
    rintro e w1 ⟨rfl, hf1⟩
    have HF := Lib.hid (((Fresh.alloc _ _).trans (Fresh.drewN _ _)).trans hf1)
    clear hf1
    go_wp2_with fail
    go_ret
    exact ⟨rfl, HF.out⟩
set_option maxRecDepth 100000 in
set_option maxHeartbeats 12800000 in
theorem spl_yes (most : Nat) (ht : t.length ≤ 300) (hlc : t.length ≤ c) (hcm : c ≤ maxLen) (hA : BS w A t) (hs1 : 1 ≤ st) (hs2 : st ≤ 2147483647) (hm1 : 1 ≤ most) (hm2 : most ≤ 16384) :
    Calls Try.prog 4 #[.agg #[.int .i64 st, .slice A t.length c, .bool e, .int .i64 (most : Int)]] w (LwP w) := by
  have dd : decide ((300 : Int) < (t.length : Int)) = false := by simp; omega
  have i1 : decide (st < 1) = false := by simp; omega
  have i2 : decide (2147483647 < st) = false := by simp; omega
  have i3 : decide ((most : Int) < 1) = false := by simp; omega
  have i4 : decide ((16384 : Int) < (most : Int)) = false := by simp; omega
  have HSP := Lib.hid (fun W (hw : Fresh w W) => split_yes st A c t e most W hs1 hs2 hm1 hm2 hlc hcm (hA.fresh hw) (by omega))
  have HTX0 := Lib.hid hA
  clear hA hs2
  go_enter Try.func4, Try.ntmps4
  go_wp2_with fail
  go_quiet (fail)
  go_wp2_with fail
  with_reducible refine (HSP.out _ ((Fresh.alloc _ _).trans (Fresh.drewN _ _))).mono ?_
  rintro e1 w1 ⟨n, A2, c2, fs, rfl, hfrs, hall, hn1, hn2, hf1⟩
  have HF1 := Lib.hid (((Fresh.alloc _ _).trans (Fresh.drewN _ _)).trans hf1)
  have HTX := Lib.hid (HTX0.out.fresh HF1.out)
  obtain ⟨m, hm⟩ : ∃ m, n + 1 = m := ⟨_, rfl⟩
  rw [hm] at hfrs ⊢
  have HFS := Lib.hid hfrs
  have HALL := Lib.hid hall
  have hmle : m ≤ 301 := by
    rcases hn1 with h | h
    · omega
    · have : n ≤ n * most := Nat.le_mul_of_pos_right n hm1
      omega
  have e1' : IntKind.i64.wrap ((t.length : Int) + (most : Int)) = (t.length : Int) + (most : Int) := IntWalk.i64_in _ (by omega)
  have e2' : IntKind.i64.wrap ((t.length : Int) + (most : Int) - 1) = (t.length : Int) + (most : Int) - 1 := IntWalk.i64_in _ (by omega)
  obtain ⟨Z, hZ⟩ : ∃ Z : Nat, (t.length + most - 1) / most = Z := ⟨_, rfl⟩
  have hq : ((t.length : Int) + (most : Int) - 1).tdiv (most : Int) = (Z : Int) := by
    rw [Int.tdiv_eq_ediv_of_nonneg (by omega), show ((t.length : Int) + (most : Int) - 1) = ((t.length + most - 1 : Nat) : Int) by omega, ← hZ]
    rfl
  have hmz : max (Z : Int) 1 = (m : Int) := by
    have hz1 : Z * most ≤ t.length + most - 1 := by rw [← hZ]; exact Nat.div_mul_le_self _ _
    have hz2 : t.length + most - 1 < (Z + 1) * most := by
      rw [← hZ]
      have := Nat.lt_div_mul_add (a := t.length + most - 1) hm1
      rw [Nat.add_mul, Nat.one_mul]
      omega
    rw [Nat.add_mul, Nat.one_mul] at hz2
    have hmul : (n + 1) * most = n * most + most := by rw [Nat.add_mul, Nat.one_mul]
    have key : max Z 1 = m := by
      rcases Nat.lt_trichotomy Z m with h | h | h
      · have h1 : Z ≤ n := by omega
        have h2 : Z * most ≤ n * most := Nat.mul_le_mul_right _ h1
        rcases hn1 with h0 | h0
        · omega
        · omega
      · omega
      · have h1 : n + 2 ≤ Z := by omega
        have h2 : (n + 2) * most ≤ Z * most := Nat.mul_le_mul_right _ h1
        rw [Nat.add_mul] at h2
        omega
    omega
  have hZb : Z ≤ 1000 := by
    have : max Z 1 = m := by omega
    omega
  have hZw : IntKind.i64.wrap (Z : Int) = (Z : Int) := IntWalk.i64_in _ (by omega)
  have hmm : ((m : Int) != (m : Int)) = false := by simp
  clear hfrs hall hf1
  go_wp2_with fail
  with_reducible refine (asNew 300 _ (by omega) (by omega)).mono ?_
  rintro e2 w2 ⟨p, rfl, hpb, has, hf2⟩
  have HAS := Lib.hid has
  have HPB := Lib.hid hpb
  have HF2 := Lib.hid hf2
  clear has hpb hf2
  go_wp2_with fail
  all_goals
    clear hmz hq hZw hZ
    go_loopw [91] (fun idx wr => ∃ (i : Nat), i ≤ m ∧ idx = .int .i64 (i : Int) ∧ ∃ v, AsAt wr p 300 (sT st t e most n i) v ∧ (∀ k, v.ownBlock = some k → w1.heap.size ≤ k) ∧ Fresh w1 wr) (fun idx _ => m - (intOf idx).toNat)
    case atStart => exact ⟨0, by omega, rfl, _, HAS.out, (fun k hk => by cases hk), HF2.out⟩
    case round =>
      obtain ⟨i, him, rfl, v, has, hvk, hfr⟩ := hrel
      have HAS := Lib.hid (And.intro has hvk)
      have HFR := Lib.hid hfr
      by_cases hlt : i < m
      · have hlt' : (i : Int) < (m : Int) := by omega
        obtain ⟨f, hfi, hty, hfl, hst, hpl⟩ := HALL.out.at i (by omega)
        obtain ⟨g, rfl, hgl, c0, c1, c2, c3, hbsf, hlef, hmxf⟩ := HFS.out.cells i f hfi
        obtain ⟨T, fl, fst, fA, fc, fll⟩ := f
        simp only at hty hfl hst hpl c0 c1 c2 c3 hbsf hlef hmxf
        have hst' := hst.symm
        subst hst' hpl
        have hsp := spFl_has e i (decide (i = n))
        have hons := sp_on st t e most n i (by omega) ht hn1
        rw [← hty] at hons
        obtain ⟨L, hL⟩ : ∃ L, (spP most t n i).length = L := ⟨_, rfl⟩
        rw [hL] at c3 hlef
        have hLle : L ≤ 300 := by
          rw [← hL]; unfold spP spL; split <;> simp <;> omega
        have HL := Lib.hid hL
        have hfl' : fl = spFl e i + (if decide (i = n) = true then 4 else 0) := by rw [hfl]; simp
        have HPC := Lib.hid (fun W (hw : Fresh w1 W) => parse_hc T fl st fA fc (spP most t n i) L (spE e i) (decide (i = n)) W (hbsf.fresh hw) hL hlef hmxf (by omega) (by
          by_cases h0 : i = 0
          · left
            obtain ⟨a1, a2, a3⟩ := hsp.1 h0
            rw [hfl']
            exact ⟨by rw [hty]; simp [spTy, h0], by rw [a1]; simp [spE, h0], a2, a3⟩
          · right
            exact ⟨by rw [hty]; simp [spTy, h0], by simp [spE, h0]⟩) (by rw [hfl']; exact hsp.2) hs1)
        have e0 := (hfr.cell (p := ⟨g, i * 4, none⟩) hgl).trans c0
        have e1 := (hfr.cell (p := ⟨g, i * 4 + 1, none⟩) hgl).trans c1
        have e2 := (hfr.cell (p := ⟨g, i * 4 + 2, none⟩) hgl).trans c2
        have e3 := (hfr.cell (p := ⟨g, i * 4 + 3, none⟩) hgl).trans c3
        have HONS := Lib.hid hons
        have hwm : IntKind.i64.wrap ((m : Int) - 1) = (n : Int) := by rw [IntWalk.i64_in _ (by omega)]; omega
        have hplt := has.lt.1
        clear hfi hty hfl hfl' hst hsp hons c0 c1 c2 c3 hbsf hlef hmxf hfr has hvk
        by_cases hin : i = n
        · obtain rfl : n = i := hin.symm
          rw [decide_eq_true (show n = n from rfl)] at HPC HONS
          have hLm : decide ((most : Int) < (L : Int)) = false := by
            have : L = t.length - n * most := by rw [← HL.out, spP, if_pos rfl]; simp
            have hmul : (n + 1) * most = n * most + most := by rw [Nat.add_mul, Nat.one_mul]
            simp
            omega
          have hLm' : decide (most < L) = false := by simp at hLm ⊢; omega
          clear hL
          go_wp2_with fail
          with_reducible refine (HPC.out _ (HFR.out.allocS _)).mono ?_
          rintro e2 w2 ⟨A', c', PA, pc, rfl, ⟨hle, hcm2, hpm2⟩, hbs2, hnew, hf2⟩
          have hfx : Fresh wr ((w2.alloc (.cells #[.int .i64 T, .int .i64 st, .slice A' L c', .bool (spE e n), .bool true, .bool false, .int .i64 0, .int .i64 0, .int .i64 0, .int .i64 0, .int .i64 0, .int .i64 0, .bool false, .bool false, .slice PA 0 pc] 34)).alloc (.cells #[.int .i64 0, .bool false] 48)) := ((Fresh.alloc wr (.cells #[.int .i64 T, .int .i64 fl, .int .i64 st, .slice fA L fc] 46)).trans hf2).trans ((Fresh.alloc _ _).allocS _)
          have hfr2 : Blk w2 wr.heap.size 46 #[.int .i64 T, .int .i64 fl, .int .i64 st, .slice fA L fc] := (Blk.new wr 46 #[.int .i64 T, .int .i64 fl, .int .i64 st, .slice fA L fc]).fresh hf2
          have hszw2 : wr.heap.size + 1 ≤ w2.heap.size := by have := hf2.size; simpa using this
          have HON := Lib.hid (on_anyN p 300 (sT st t e most n n) v T st A' L c' (spP most t n n) (spE e n) true false 0 0 0 0 0 0 false false PA 0 pc [] ((w2.alloc (.cells #[.int .i64 T, .int .i64 st, .slice A' L c', .bool (spE e n), .bool true, .bool false, .int .i64 0, .int .i64 0, .int .i64 0, .int .i64 0, .int .i64 0, .int .i64 0, .bool false, .bool false, .slice PA 0 pc] 34)).alloc (.cells #[.int .i64 0, .bool false] 48)) (sT st t e most n (n + 1), spO st t e n n, false) (HAS.out.1.fresh hfx) HL.out rfl ⟨by rw [HL.out]; exact hle, hcm2, hbs2.fresh ((Fresh.alloc _ _).allocS _), by simp, hpm2, Many.nil _ _ _ _⟩ (fun _ b o e => by have := hnew b o e; have := HAS.out.1.lt.1; simp at this ⊢; simp at *; omega) HONS.out)
          have HX := Lib.hid (And.intro hfx (And.intro hfr2 hszw2))
          clear hfx hfr2 hbs2 hnew hf2 HPC hle hcm2 hpm2 hszw2
          go_wp2_with fail
          with_reducible refine HON.out.mono ?_
          rintro e3 w3 ⟨v', vb, rfl, has3, hon3, hv3, hvb3⟩
          obtain ⟨hob, hob2⟩ := hvb3 st t e (by rw [spO, if_pos rfl])
          obtain ⟨Ab, cb, rfl, _, _, _⟩ := hob.slice
          have hbt : BS w3 Ab t := (Own.bytes hob).1
          rw [show spO st t e n n = some (st, t, e) from if_pos rfl]
          have HBT := Lib.hid hbt
          clear hbt hob hob2 hvb3
          dsimp only [blkV, fltV, Option.isSome, if_false]
          obtain ⟨hfx, hfr2, hszw2⟩ := HX.out
          have hlt := HAS.out.1.lt
          have honly : Only (fun k => k = p ∨ v.ownBlock = some k) wr w3 := (Only.of_fresh hfx).trans hon3
          have hF3 : Fresh w1 w3 := (Only.of_fresh (S := fun k => k = p ∨ v.ownBlock = some k) HFR.out).trans honly |>.fresh (fun k hk hh => by
            rcases hh with rfl | hh
            · have := HPB.out; omega
            · have := HAS.out.2 k hh; omega)
          have hno : ∀ k, wr.heap.size ≤ k → ¬ (k = p ∨ v.ownBlock = some k) := fun k hk hh => by
            rcases hh with rfl | hh
            · omega
            · have := (hlt.2 k hh).2; omega
          have hfrm3 : Blk w3 wr.heap.size 46 #[.int .i64 T, .int .i64 fl, .int .i64 st, .slice fA L fc] := ((hfr2.alloc _).alloc _).only hon3 (hno _ (Nat.le_refl _))
          have hflt3 : Blk w3 (w2.heap.size + 1) 48 #[.int .i64 0, .bool false] := (Blk.mkAt (w := w2.alloc (.cells #[.int .i64 T, .int .i64 st, .slice A' L c', .bool (spE e n), .bool true, .bool false, .int .i64 0, .int .i64 0, .int .i64 0, .int .i64 0, .int .i64 0, .int .i64 0, .bool false, .bool false, .slice PA 0 pc] 34)) (by simp)).only hon3 (hno _ (by omega))
          have HAS3 := Lib.hid (And.intro has3 (fun k (hk : v'.ownBlock = some k) => show w1.heap.size ≤ k from by
            rcases hv3 k hk with h | h
            · exact HAS.out.2 k h
            · have := hfx.size; have := HFR.out.size; omega))
          have HF3 := Lib.hid hF3
          have HFM := Lib.hid hfrm3
          have HFT := Lib.hid hflt3
          clear has3 hon3 hv3 hF3 hfrm3 hflt3 honly hno hlt hfx hfr2 hszw2 HX HON
          go_upto_region 15 with fail
          refine wp_gen (fun W => Blk W wr.heap.size 46 #[.int .i64 T, .int .i64 fl, .int .i64 st, .slice fA L fc] ∧ Blk W (w2.heap.size + 1) 48 #[.int .i64 0, .bool false] ∧ Blk W w3.heap.size 52 #[.int .i64 st, .slice Ab t.length cb, .bool e] ∧ Blk W (w3.heap.size + 1) 48 #[.int .i64 0, .bool false] ∧ Fresh w3 W) ?_ ?_
          focus
            exact ⟨(HFM.out.alloc _).alloc _, (HFT.out.alloc _).alloc _, (Blk.new _ _ _).alloc _, Blk.mkAt (by simp), (Fresh.alloc _ _).allocS _⟩
          intro W ⟨hb1, hb2, hb3, hb4, hfw⟩
          obtain ⟨z0, z1⟩ := hb2.c2
          have HB1 := Lib.hid hb1
          have HB3 := Lib.hid hb3
          have HB4 := Lib.hid hb4
          have HFW := Lib.hid hfw
          generalize wr.heap.size = q1 at *
          generalize w2.heap.size = q2 at *
          generalize w3.heap.size = q3 at *
          clear hb1 hb2 hb3 hb4 hfw HFM HFT
          go_wp2_with fail
          with_reducible refine (pok 0 false true (by decide) _).mono ?_
          rintro e6 w6 ⟨rfl, hf6⟩
          obtain ⟨f0, f1⟩ := (HB4.out.fresh hf6).c2
          have HF6 := Lib.hid hf6
          clear hf6
          go_wp2_with fail
          with_reducible refine (pok 0 false true (by decide) _).mono ?_
          rintro e7 w7 ⟨rfl, hf7⟩
          have hf67 := HFW.out.trans (HF6.out.trans hf7)
          obtain ⟨y0, y1, y2, y3⟩ := (HB1.out.fresh (HF6.out.trans hf7)).c4
          obtain ⟨x0, x1, x2⟩ := (HB3.out.fresh (HF6.out.trans hf7)).c3
          have s1 := run_str (P := Try.prog) (HBT.out.fresh hf67) 31 9 5 Try.underlying31 Try.underlying5 Try.underlying9 cb
          have s2 := run_str (P := Try.prog) (HTX.out.fresh (HF3.out.trans hf67)) 31 9 5 Try.underlying31 Try.underlying5 Try.underlying9 c
          generalize strB t = S at *
          have k1 : (S.toList == S.toList) = true := beq_self_eq_true _
          have k1' : (S.toList != S.toList) = false := by simp
          have k2 : ((st : Int) != (st : Int)) = false := by simp
          have k3 : (e != e) = false := by simp
          have HR := Lib.hid (And.intro (HAS3.out.1.fresh hf67) (And.intro HAS3.out.2 (HF3.out.trans hf67)))
          clear hf67 hf7 HF6 HAS3 HF3
          go_wp2_with fail
          go_roundw
          case rel => exact ⟨n + 1, by omega, by go_num, v', HR.out.1, HR.out.2.1, HR.out.2.2⟩
          case measure => simp [intOf]; omega
        · rw [decide_eq_false hin] at HPC HONS
          have hLm : L = most := by
            rw [← HL.out, spP, if_neg hin, spL]
            have hnm : n * most < t.length := by
              rcases hn1 with h | h
              · omega
              · exact h
            have h1 : (i + 1) * most ≤ n * most := Nat.mul_le_mul_right _ (by omega)
            rw [Nat.add_mul, Nat.one_mul] at h1
            simp
            omega
          have HD := Lib.hid (show (decide ((most : Int) < (L : Int)) = false ∧ decide (most < L) = false) ∧ (((L : Int) != (most : Int)) = false ∧ (L != most) = false) ∧ (((i : Int) == (n : Int)) = false ∧ (i == n) = false) ∧ (decide ((i : Int) < (n : Int)) = true ∧ decide (i < n) = true) from ⟨⟨by simp; omega, by simp; omega⟩, ⟨by simp; omega, by simp; omega⟩, ⟨by simp; omega, by simpa using hin⟩, ⟨by simp; omega, by simp; omega⟩⟩)
          clear hL hLm
          go_wp2_with fail
          with_reducible refine (HPC.out _ (HFR.out.allocS _)).mono ?_
          rintro e2 w2 ⟨A', c', PA, pc, rfl, ⟨hle, hcm2, hpm2⟩, hbs2, hnew, hf2⟩
          have hfx : Fresh wr ((w2.alloc (.cells #[.int .i64 T, .int .i64 st, .slice A' L c', .bool (spE e i), .bool false, .bool false, .int .i64 0, .int .i64 0, .int .i64 0, .int .i64 0, .int .i64 0, .int .i64 0, .bool false, .bool false, .slice PA 0 pc] 34)).alloc (.cells #[.int .i64 0, .bool false] 48)) := ((Fresh.alloc wr (.cells #[.int .i64 T, .int .i64 fl, .int .i64 st, .slice fA L fc] 46)).trans hf2).trans ((Fresh.alloc _ _).allocS _)
          have hfr2 : Blk w2 wr.heap.size 46 #[.int .i64 T, .int .i64 fl, .int .i64 st, .slice fA L fc] := (Blk.new wr 46 #[.int .i64 T, .int .i64 fl, .int .i64 st, .slice fA L fc]).fresh hf2
          have hszw2 : wr.heap.size + 1 ≤ w2.heap.size := by have := hf2.size; simpa using this
          have HON := Lib.hid (on_anyN p 300 (sT st t e most n i) v T st A' L c' (spP most t n i) (spE e i) false false 0 0 0 0 0 0 false false PA 0 pc [] ((w2.alloc (.cells #[.int .i64 T, .int .i64 st, .slice A' L c', .bool (spE e i), .bool false, .bool false, .int .i64 0, .int .i64 0, .int .i64 0, .int .i64 0, .int .i64 0, .int .i64 0, .bool false, .bool false, .slice PA 0 pc] 34)).alloc (.cells #[.int .i64 0, .bool false] 48)) (sT st t e most n (i + 1), spO st t e n i, false) (HAS.out.1.fresh hfx) HL.out rfl ⟨by rw [HL.out]; exact hle, hcm2, hbs2.fresh ((Fresh.alloc _ _).allocS _), by simp, hpm2, Many.nil _ _ _ _⟩ (fun _ b o e => by have := hnew b o e; have := HAS.out.1.lt.1; simp at this ⊢; simp at *; omega) HONS.out)
          have HX := Lib.hid (And.intro hfx (And.intro hfr2 hszw2))
          clear hfx hfr2 hbs2 hnew hf2 HPC hle hcm2 hpm2 hszw2
          go_wp2_with fail
          with_reducible refine HON.out.mono ?_
          rintro e3 w3 ⟨v', vb, rfl, has3, hon3, hv3, hvb3⟩
          rw [show spO st t e n i = none from if_neg hin]
          clear hvb3
          dsimp only [blkV, fltV, Option.isSome, if_false]
          obtain ⟨hfx, hfr2, hszw2⟩ := HX.out
          have hlt := HAS.out.1.lt
          have honly : Only (fun k => k = p ∨ v.ownBlock = some k) wr w3 := (Only.of_fresh hfx).trans hon3
          have hF3 : Fresh w1 w3 := (Only.of_fresh (S := fun k => k = p ∨ v.ownBlock = some k) HFR.out).trans honly |>.fresh (fun k hk hh => by
            rcases hh with rfl | hh
            · have := HPB.out; omega
            · have := HAS.out.2 k hh; omega)
          have hno : ∀ k, wr.heap.size ≤ k → ¬ (k = p ∨ v.ownBlock = some k) := fun k hk hh => by
            rcases hh with rfl | hh
            · omega
            · have := (hlt.2 k hh).2; omega
          have hfrm3 : Blk w3 wr.heap.size 46 #[.int .i64 T, .int .i64 fl, .int .i64 st, .slice fA L fc] := ((hfr2.alloc _).alloc _).only hon3 (hno _ (Nat.le_refl _))
          have hflt3 : Blk w3 (w2.heap.size + 1) 48 #[.int .i64 0, .bool false] := (Blk.mkAt (w := w2.alloc (.cells #[.int .i64 T, .int .i64 st, .slice A' L c', .bool (spE e i), .bool false, .bool false, .int .i64 0, .int .i64 0, .int .i64 0, .int .i64 0, .int .i64 0, .int .i64 0, .bool false, .bool false, .slice PA 0 pc] 34)) (by simp)).only hon3 (hno _ (by omega))
          have HAS3 := Lib.hid (And.intro has3 (fun k (hk : v'.ownBlock = some k) => show w1.heap.size ≤ k from by
            rcases hv3 k hk with h | h
            · exact HAS.out.2 k h
            · have := hfx.size; have := HFR.out.size; omega))
          have HF3 := Lib.hid hF3
          have HFM := Lib.hid hfrm3
          have HFT := Lib.hid hflt3
          clear has3 hon3 hv3 hF3 hfrm3 hflt3 honly hno hlt hfx hfr2 hszw2 HX HON
          go_upto_region 15 with fail
          refine wp_gen (fun W => Blk W wr.heap.size 46 #[.int .i64 T, .int .i64 fl, .int .i64 st, .slice fA L fc] ∧ Blk W (w2.heap.size + 1) 48 #[.int .i64 0, .bool false] ∧ Blk W w3.heap.size 52 #[.int .i64 0, .slice none 0 0, .bool false] ∧ Blk W (w3.heap.size + 1) 48 #[.int .i64 0, .bool false] ∧ Fresh w3 W) ?_ ?_
          focus
            exact ⟨(HFM.out.alloc _).alloc _, (HFT.out.alloc _).alloc _, (Blk.new _ _ _).alloc _, Blk.mkAt (by simp), (Fresh.alloc _ _).allocS _⟩
          intro W ⟨hb1, hb2, hb3, hb4, hfw⟩
          obtain ⟨z0, z1⟩ := hb2.c2
          have HB1 := Lib.hid hb1
          have HB3 := Lib.hid hb3
          have HB4 := Lib.hid hb4
          have HFW := Lib.hid hfw
          generalize wr.heap.size = q1 at *
          generalize w2.heap.size = q2 at *
          generalize w3.heap.size = q3 at *
          clear hb1 hb2 hb3 hb4 hfw HFM HFT
          go_wp2_with fail
          with_reducible refine (pok 0 false true (by decide) _).mono ?_
          rintro e6 w6 ⟨rfl, hf6⟩
          obtain ⟨f0, f1⟩ := (HB4.out.fresh hf6).c2
          have HF6 := Lib.hid hf6
          clear hf6
          go_wp2_with fail
          with_reducible refine (pok 0 false true (by decide) _).mono ?_
          rintro e7 w7 ⟨rfl, hf7⟩
          have hf67 := HFW.out.trans (HF6.out.trans hf7)
          obtain ⟨y0, y1, y2, y3⟩ := (HB1.out.fresh (HF6.out.trans hf7)).c4
          obtain ⟨x0, x1, x2⟩ := (HB3.out.fresh (HF6.out.trans hf7)).c3
          obtain ⟨⟨d1, d1'⟩, ⟨d2, d2'⟩, ⟨d3, d3'⟩, d4, d4'⟩ := HD.out
          have HR := Lib.hid (And.intro (HAS3.out.1.fresh hf67) (And.intro HAS3.out.2 (HF3.out.trans hf67)))
          clear hf67 hf7 HF6 HAS3 HF3
          go_wp2_with fail
          go_roundw
          case rel => exact ⟨i + 1, by omega, by go_num, v', HR.out.1, HR.out.2.1, HR.out.2.2⟩
          case measure => simp [intOf]; omega
      · obtain rfl : i = m := by omega
        clear has hvk HAS
        go_wp2_with fail
        with_reducible refine (blk_awake _).mono ?_
        rintro e9 w9 ⟨rfl, hf9⟩
        have HF9 := Lib.hid (HF1.out.trans (HFR.out.trans hf9))
        clear hf9
        go_wp2_with fail
        go_ret
        exact ⟨rfl, HF9.out⟩
end
end Go.Proofs.Ytapnlkmofldmdaa
