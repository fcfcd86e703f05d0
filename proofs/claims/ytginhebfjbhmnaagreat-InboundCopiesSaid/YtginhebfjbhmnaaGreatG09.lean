/-
  Texts laid together: Pay9 Pay90.
-/
import Derived.Test.YtginhebfjbhmnaaGreatG08
import Derived.Laws.EntriesVeiled
/-
  Contracts of package payload: Parse.
-/
namespace Go.Proofs.YtginhebfjbhmnaaGreat
set_option maxRecDepth 100000
set_option linter.unusedVariables false
open Go.RowKit

def lkC (k : Nat) : Int := if k = 1 ∨ k = 3 then 106 else 101
def lkD (k : Nat) (s0 : Bool) : Bool := if k < 3 then true else if k = 5 then s0 else false
theorem lkA_code (b : Nat) (s0 : Bool) (k : Nat) (hk : k < 6) : (lkA b s0)[k * 3]? = some (.int .i64 (lkC k)) := by
  match k, hk with
  | 0, _ => rfl
  | 1, _ => rfl
  | 2, _ => rfl
  | 3, _ => rfl
  | 4, _ => rfl
  | 5, _ => rfl
theorem lkA_conn (b : Nat) (s0 : Bool) (k : Nat) (hk : k < 6) : (lkA b s0)[k * 3 + 1]? = some (.bool (lkD k s0)) := by
  match k, hk with
  | 0, _ => rfl
  | 1, _ => rfl
  | 2, _ => rfl
  | 3, _ => rfl
  | 4, _ => rfl
  | 5, _ => rfl
/-- What is told of a frame, the code (0: none), whose it is. -/
def prsF (ty fl st : Int) (l : List UInt8) (k : Nat) : PR × Int × Bool :=
  if k < 6 then (PR0, lkC k, lkD k (st == 0)) else (prOf ty fl l, 0, false)
def FirstB (ty fl st : Int) (l : List UInt8) (k : Nat) : Prop := k ≤ 6 ∧ (∀ j, j < k → lookB ty fl st l j = false) ∧ (k < 6 → lookB ty fl st l k = true)
def flowN (ty : Int) (n : Nat) : Int := if ty = 0 then (n : Int) else 0
def ParseP (ty fl st : Int) (l : List UInt8) (w : World) (e : Ending) (w' : World) : Prop :=
  ∃ (x : ItV) (k : Nat), e = .returned (.tuple #[.agg x.cells.toArray, .agg #[.int .i64 (prsF ty fl st l k).2.1, .bool (prsF ty fl st l k).2.2]]) ∧ FirstB ty fl st l k ∧ x.Ok w' ∧ Says x (prsF ty fl st l k).1 ∧ (x.ty = ty ∧ x.st = st ∧ x.fl = flowN ty l.length) ∧ (∀ b o, x.A = some ⟨b, o, none⟩ → w.heap.size ≤ b) ∧ (∀ b o, x.PA = some ⟨b, o, none⟩ → w.heap.size ≤ b) ∧ Fresh w w'
structure PaW (w : World) (g : Nat) (ty fl st fw : Int) (A : Option Addr) (c : Nat) (l : List UInt8) (W : World) : Prop where
  fr : Fresh w W
  hg : w.heap.size ≤ g
  bx : Blk W g 34 #[.int .i64 ty, .int .i64 fl, .int .i64 st, .slice A l.length c]
  b1 : Blk W (g + 1) 98 (bareI 0 0 0).cells.toArray
  b2 : Blk W (g + 1 + 1) 32 #[.int .i64 0, .bool false]
  b3 : Blk W (g + 1 + 1 + 1) 98 (bareI ty st fw).cells.toArray
  bs : BS W A l
theorem PaW.fresh {w W W' : World} {g c : Nat} {ty fl st fw : Int} {A : Option Addr} {l : List UInt8} (h : PaW w g ty fl st fw A c l W) (hf : Fresh W W') : PaW w g ty fl st fw A c l W' :=
  ⟨h.fr.trans hf, h.hg, h.bx.fresh hf, h.b1.fresh hf, h.b2.fresh hf, h.b3.fresh hf, h.bs.fresh hf⟩
theorem PaW.lt {w W : World} {g c : Nat} {ty fl st fw : Int} {A : Option Addr} {l : List UInt8} (h : PaW w g ty fl st fw A c l W) : g + 3 < W.heap.size := h.b3.lt
theorem PaW.mk' (w : World) (ty fl st fw : Int) (A : Option Addr) (c : Nat) (l : List UInt8) (hA : BS w A l) :
    PaW w w.heap.size ty fl st fw A c l ((((w.alloc (.cells #[.int .i64 ty, .int .i64 fl, .int .i64 st, .slice A l.length c] 34)).alloc (.cells #[.int .i64 0, .int .i64 0, .slice none 0 0, .bool false, .bool false, .bool false, .int .i64 0, .int .i64 0, .int .i64 0, .int .i64 0, .int .i64 0, .int .i64 0, .bool false, .bool false, .slice none 0 0] 98)).alloc (.cells #[.int .i64 0, .bool false] 32)).alloc (.cells #[.int .i64 ty, .int .i64 st, .slice none 0 0, .bool false, .bool false, .bool false, .int .i64 fw, .int .i64 0, .int .i64 0, .int .i64 0, .int .i64 0, .int .i64 0, .bool false, .bool false, .slice none 0 0] 98)) := by
  have hf : Fresh w ((((w.alloc (.cells #[.int .i64 ty, .int .i64 fl, .int .i64 st, .slice A l.length c] 34)).alloc (.cells #[.int .i64 0, .int .i64 0, .slice none 0 0, .bool false, .bool false, .bool false, .int .i64 0, .int .i64 0, .int .i64 0, .int .i64 0, .int .i64 0, .int .i64 0, .bool false, .bool false, .slice none 0 0] 98)).alloc (.cells #[.int .i64 0, .bool false] 32)).alloc (.cells #[.int .i64 ty, .int .i64 st, .slice none 0 0, .bool false, .bool false, .bool false, .int .i64 fw, .int .i64 0, .int .i64 0, .int .i64 0, .int .i64 0, .int .i64 0, .bool false, .bool false, .slice none 0 0] 98)) := (((Fresh.alloc _ _).allocS _).allocS _).allocS _
  refine ⟨hf, Nat.le_refl _, ((((Blk.new _ _ _).alloc _).alloc _).alloc _), ?_, ?_, ?_, hA.fresh hf⟩
  · exact ((Blk.mkAt (by simp)).alloc _).alloc _
  · exact (Blk.mkAt (by simp)).alloc _
  · exact Blk.mkAt (by simp)
/-- Look k of a row answers in whatever world, if none ahead of it said yes. -/
theorem look_of {b c : Nat} {ty fl st : Int} {A : Option Addr} {l : List UInt8} (k : Nat) (hk : k < 6) (hn : ∀ j, j < k → lookB ty fl st l j = false) :
    ∃ f, (lkA b (st == 0))[k * 3 + 2]? = some (.func (Fn.func f) #[] #[.pointer (some ⟨b, 0, none⟩)]) ∧ (∀ args w, (callFunc f args).run Tryz.prog w = .ok (.enter f args) w) ∧ ∀ w, FB w b ty fl st A c l → Calls Tryz.prog f #[.pointer (some ⟨b, 0, none⟩)] w fun e w' => e = .returned (.bool (lookB ty fl st l k)) ∧ Fresh w w' := by
  match k, hk with
  | 0, hk => exact ⟨_, rfl, Tryz.call57, fun w h => by obtain ⟨f, e, hc⟩ := look_at h 0 hk hn; cases e; exact hc⟩
  | 1, hk => exact ⟨_, rfl, Tryz.call59, fun w h => by obtain ⟨f, e, hc⟩ := look_at h 1 hk hn; cases e; exact hc⟩
  | 2, hk => exact ⟨_, rfl, Tryz.call62, fun w h => by obtain ⟨f, e, hc⟩ := look_at h 2 hk hn; cases e; exact hc⟩
  | 3, hk => exact ⟨_, rfl, Tryz.call64, fun w h => by obtain ⟨f, e, hc⟩ := look_at h 3 hk hn; cases e; exact hc⟩
  | 4, hk => exact ⟨_, rfl, Tryz.call65, fun w h => by obtain ⟨f, e, hc⟩ := look_at h 4 hk hn; cases e; exact hc⟩
  | 5, hk => exact ⟨_, rfl, Tryz.call68, fun w h => by obtain ⟨f, e, hc⟩ := look_at h 5 hk hn; cases e; exact hc⟩
set_option maxRecDepth 100000 in
set_option maxHeartbeats 6400000 in
theorem pparse_n (ty : Int) (h0 : ¬ ty = 0) (fl st : Int) (A : Option Addr) (c : Nat) (l : List UInt8) (w : World) (hA : BS w A l) (hlc : l.length ≤ c) (hcm : c ≤ maxLen) (hmx : l.length ≤ 1000000) :
    Calls Tryz.prog 40 #[.agg #[.int .i64 ty, .int .i64 fl, .int .i64 st, .slice A l.length c]] w (ParseP ty fl st l w) := by
  have HLK := Lib.hid (fun w' => plooks ty fl st A l.length c w')
  obtain ⟨g, hgg⟩ : ∃ g, w.heap.size = g := ⟨_, rfl⟩
  have hW := PaW.mk' w ty fl st (0) A c l hA
  go_enter Tryz.func40, Tryz.ntmps40
  go_wp2_with fail
  revert hW
  rw [hgg]
  generalize ((((w.alloc (.cells #[.int .i64 ty, .int .i64 fl, .int .i64 st, .slice A l.length c] 34)).alloc (.cells #[.int .i64 0, .int .i64 0, .slice none 0 0, .bool false, .bool false, .bool false, .int .i64 0, .int .i64 0, .int .i64 0, .int .i64 0, .int .i64 0, .int .i64 0, .bool false, .bool false, .slice none 0 0] 98)).alloc (.cells #[.int .i64 0, .bool false] 32)).alloc (.cells #[.int .i64 ty, .int .i64 st, .slice none 0 0, .bool false, .bool false, .bool false, .int .i64 0, .int .i64 0, .int .i64 0, .int .i64 0, .int .i64 0, .int .i64 0, .bool false, .bool false, .slice none 0 0] 98)) = W
  intro hW
  have HW := Lib.hid hW
  have HAB : Hid (0 < l.length → ∀ b o, A = some ⟨b, o, none⟩ → b < g) := Lib.hid (fun hn b o e => by
    obtain ⟨b', o', e', hb, _⟩ := hA hn
    rw [e'] at e
    cases e
    omega)
  clear hW hA
  refine (HLK.out W).mono ?_
  rintro e w5 ⟨gl, fb, rfl, hgl, hfb, hlr, hfr, hf5⟩
  have HP5 := Lib.hid (HW.out.fresh hf5)
  have HL5 := Lib.hid hlr
  have HF5 : Hid (FB w5 fb ty fl st A c l) := Lib.hid ⟨hfr, HP5.out.bs, hlc, by unfold maxLen at *; omega⟩
  clear hgl hfb hlr hfr hf5 HW HLK
  go_wp2_with fail
  go_loopw [22] (fun i wr => ∃ (k : Nat), k ≤ 6 ∧ i = .int .i64 (k : Int) ∧ (∀ j, j < k → lookB ty fl st l j = false) ∧ PaW w g ty fl st (0) A c l wr ∧ Blk wr gl 119 (lkA fb (st == 0)) ∧ FB wr fb ty fl st A c l) (fun i _ => 6 - (intOf i).toNat)
  case atStart => exact ⟨0, by omega, rfl, fun j hj => by omega, HP5.out, HL5.out, HF5.out⟩
  case round =>
    obtain ⟨k, hk, rfl, hn, hp, hl, hfb⟩ := hrel
    have HN := Lib.hid hn
    have HP := Lib.hid hp
    have HL := Lib.hid hl
    have HF := Lib.hid hfb
    clear HP5 HL5 HF5
    by_cases hlt : k < 6
    · have hlt' : (k : Int) < 6 := by omega
      obtain ⟨f, hf, hcf, hcall⟩ := look_of (b := fb) (c := c) (A := A) k hlt hn
      obtain ⟨lb, hlb⟩ : ∃ lb, lookB ty fl st l k = lb := ⟨_, rfl⟩
      have HLB := Lib.hid hlb
      have c0 := hl.cell (k * 3)
      have c1 := hl.cell (k * 3 + 1)
      have c2 := hl.cell (k * 3 + 2)
      rw [lkA_code fb _ k hlt] at c0
      rw [lkA_conn fb _ k hlt] at c1
      rw [hf] at c2
      have hglt := hl.lt
      rw [hlb] at hcall
      have HC := Lib.hid hcall
      clear hn hp hl hfb hf hcall hlb
      generalize hcc : lkC k = cc at *
      generalize hdd : lkD k (st == 0) = dd at *
      have HCC := Lib.hid (And.intro hcc hdd)
      clear hcc hdd
      go_wp2_with fail
      with_reducible refine (HC.out _ (HF.out.fresh (Fresh.alloc _ _))).mono ?_
      rintro e w6 ⟨rfl, hf6⟩
      have HF6 := Lib.hid hf6
      cases lb with
      | false =>
        go_wp2_with fail
        go_roundw
        case rel => exact ⟨k + 1, by omega, by first | rfl | simp, fun j hj => by
          rcases Nat.lt_or_ge j k with h | h
          · exact HN.out j h
          · obtain rfl : j = k := by omega
            exact HLB.out, HP.out.fresh ((Fresh.alloc _ _).trans HF6.out), (HL.out.alloc _).fresh HF6.out, (HF.out.fresh (Fresh.alloc _ _)).fresh HF6.out⟩
        case measure => simp only [intOf]; omega
      | true =>
        have hP6 := HP.out.fresh ((Fresh.alloc _ _).trans HF6.out)
        have hx0 := (Blk.new wr 119 #[.int .i64 cc, .bool dd, .func (Fn.func f) #[] #[.pointer (some ⟨fb, 0, none⟩)]]).fresh HF6.out
        obtain ⟨d0, d1, _⟩ := hx0.c3
        have x0 := hP6.b3.cell 0
        have y0 := hP6.b1.cell 0
        have z0 := hP6.b1.frozen 0
        have x1 := hP6.b3.cell 1
        have y1 := hP6.b1.cell 1
        have z1 := hP6.b1.frozen 1
        have x2 := hP6.b3.cell 2
        have y2 := hP6.b1.cell 2
        have z2 := hP6.b1.frozen 2
        have x3 := hP6.b3.cell 3
        have y3 := hP6.b1.cell 3
        have z3 := hP6.b1.frozen 3
        have x4 := hP6.b3.cell 4
        have y4 := hP6.b1.cell 4
        have z4 := hP6.b1.frozen 4
        have x5 := hP6.b3.cell 5
        have y5 := hP6.b1.cell 5
        have z5 := hP6.b1.frozen 5
        have x6 := hP6.b3.cell 6
        have y6 := hP6.b1.cell 6
        have z6 := hP6.b1.frozen 6
        have x7 := hP6.b3.cell 7
        have y7 := hP6.b1.cell 7
        have z7 := hP6.b1.frozen 7
        have x8 := hP6.b3.cell 8
        have y8 := hP6.b1.cell 8
        have z8 := hP6.b1.frozen 8
        have x9 := hP6.b3.cell 9
        have y9 := hP6.b1.cell 9
        have z9 := hP6.b1.frozen 9
        have x10 := hP6.b3.cell 10
        have y10 := hP6.b1.cell 10
        have z10 := hP6.b1.frozen 10
        have x11 := hP6.b3.cell 11
        have y11 := hP6.b1.cell 11
        have z11 := hP6.b1.frozen 11
        have x12 := hP6.b3.cell 12
        have y12 := hP6.b1.cell 12
        have z12 := hP6.b1.frozen 12
        have x13 := hP6.b3.cell 13
        have y13 := hP6.b1.cell 13
        have z13 := hP6.b1.frozen 13
        have x14 := hP6.b3.cell 14
        have y14 := hP6.b1.cell 14
        have z14 := hP6.b1.frozen 14
        obtain ⟨f0, f1⟩ := hP6.b2.c2
        have z15 := hP6.b2.frozen 0
        have z16 := hP6.b2.frozen 1
        simp only [ItV.cells, bareI, List.getElem?_toArray, List.getElem?_cons_zero, List.getElem?_cons_succ, List.length_nil] at x0 y0 x1 y1 x2 y2 x3 y3 x4 y4 x5 y5 x6 y6 x7 y7 x8 y8 x9 y9 x10 y10 x11 y11 x12 y12 x13 y13 x14 y14
        have HP6 := Lib.hid hP6
        have hgl := HP.out.lt
        have e1 : ¬ g + 1 = wr.heap.size := by omega
        have e2 : ¬ wr.heap.size = g + 1 := by omega
        have e3 : ¬ g + 1 + 1 = wr.heap.size := by omega
        have e4 : ¬ wr.heap.size = g + 1 + 1 := by omega
        clear hf6 hP6 hx0 hcf c0 c1 c2 hglt
        go_wp2_with fail
        go_region
        go_wp2
        refine bodyPost_ret (v := .tuple #[.agg #[.int .i64 ty, .int .i64 st, .slice none 0 0, .bool false, .bool false, .bool false, .int .i64 0, .int .i64 0, .int .i64 0, .int .i64 0, .int .i64 0, .int .i64 0, .bool false, .bool false, .slice none 0 0], .agg #[.int .i64 cc, .bool dd]]) (by simp [results, Tryz.results40, go_sem, y0, y1, y2, y3, y4, y5, y6, y7, y8, y9, y10, y11, y12, y13, y14, f0, f1]) rfl ?_
        refine ⟨bareI ty st (0), k, by rw [prsF, if_pos hlt, HCC.out.1, HCC.out.2]; rfl, ⟨hk, HN.out, fun _ => HLB.out⟩, ⟨by simp [bareI], by simp [bareI, maxLen], BS.nil _ _, by simp [bareI], by simp [bareI, maxLen], Many.nil _ _ _ _⟩, by rw [prsF, if_pos hlt]; exact ⟨rfl, ⟨rfl, rfl, rfl, rfl, rfl⟩, ⟨rfl, rfl, rfl, rfl, rfl⟩, rfl⟩, ⟨rfl, rfl, by simp [flowN, h0, bareI]⟩, (fun b' o e => by cases e), (fun b' o e => by cases e), ?_⟩
        have hgs := HP.out.hg
        have hF := HP.out.fr.trans ((Fresh.alloc _ _).trans HF6.out)
        repeat (first | with_reducible exact hF | with_reducible apply Fresh.drewS | (with_reducible refine Fresh.step2 ?_ ?_; focus (simp only []; omega)))
    · obtain rfl : k = 6 := by omega
      have HRD := Lib.hid (read_all (f0 := 0) (fl := fl) (c := c) ty hp.b3 hp.bs (fun hl0 b o e => by have := HAB.out hl0 b o e; omega) hlc hmx (fun j hj => hn j hj))
      obtain ⟨c0, c1, c2, c3⟩ := hp.bx.c4
      clear hn hp hl hfb
      go_wp2_with fail
      refine HRD.out.mono ?_
      rintro e w7 ⟨x, rfl, hbx, hok, hsays, ⟨hx1, hx2, hx3⟩, hAn, hPn, ho7⟩
      have hb1 := HP.out.b1.only ho7 (by omega)
      have hb2 := HP.out.b2.only ho7 (by omega)
      have x0 := hbx.cell 0
      have y0 := hb1.cell 0
      have z0 := hb1.frozen 0
      have x1 := hbx.cell 1
      have y1 := hb1.cell 1
      have z1 := hb1.frozen 1
      have x2 := hbx.cell 2
      have y2 := hb1.cell 2
      have z2 := hb1.frozen 2
      have x3 := hbx.cell 3
      have y3 := hb1.cell 3
      have z3 := hb1.frozen 3
      have x4 := hbx.cell 4
      have y4 := hb1.cell 4
      have z4 := hb1.frozen 4
      have x5 := hbx.cell 5
      have y5 := hb1.cell 5
      have z5 := hb1.frozen 5
      have x6 := hbx.cell 6
      have y6 := hb1.cell 6
      have z6 := hb1.frozen 6
      have x7 := hbx.cell 7
      have y7 := hb1.cell 7
      have z7 := hb1.frozen 7
      have x8 := hbx.cell 8
      have y8 := hb1.cell 8
      have z8 := hb1.frozen 8
      have x9 := hbx.cell 9
      have y9 := hb1.cell 9
      have z9 := hb1.frozen 9
      have x10 := hbx.cell 10
      have y10 := hb1.cell 10
      have z10 := hb1.frozen 10
      have x11 := hbx.cell 11
      have y11 := hb1.cell 11
      have z11 := hb1.frozen 11
      have x12 := hbx.cell 12
      have y12 := hb1.cell 12
      have z12 := hb1.frozen 12
      have x13 := hbx.cell 13
      have y13 := hb1.cell 13
      have z13 := hb1.frozen 13
      have x14 := hbx.cell 14
      have y14 := hb1.cell 14
      have z14 := hb1.frozen 14
      obtain ⟨f0, f1⟩ := hb2.c2
      have z15 := hb2.frozen 0
      have z16 := hb2.frozen 1
      simp only [ItV.cells, bareI, List.getElem?_toArray, List.getElem?_cons_zero, List.getElem?_cons_succ, List.length_nil] at x0 y0 x1 y1 x2 y2 x3 y3 x4 y4 x5 y5 x6 y6 x7 y7 x8 y8 x9 y9 x10 y10 x11 y11 x12 y12 x13 y13 x14 y14
      have HX := Lib.hid (And.intro hok (And.intro hsays (And.intro hx1 (And.intro hx2 (And.intro hx3 (And.intro hAn (And.intro hPn ho7)))))))
      clear hok hsays hx1 hx2 hx3 hAn hPn ho7 hb1 hb2 hbx c0 c1 c2 c3
      go_wp2_with fail
      refine bodyPost_ret (v := .tuple #[.agg x.cells.toArray, .agg #[.int .i64 0, .bool false]]) (by simp [results, Tryz.results40, go_sem, ItV.cells, y0, y1, y2, y3, y4, y5, y6, y7, y8, y9, y10, y11, y12, y13, y14, f0, f1]) rfl ?_
      obtain ⟨hok, hsays, hx1, hx2, hx3, hAn, hPn, ho7⟩ := HX.out
      have hgs := HP.out.hg
      have hws := HP.out.fr.size
      have hpl := HP.out.lt
      have hF : Fresh w w7 := Only.fresh ((Only.of_fresh HP.out.fr).trans ho7) (fun i hi e => by omega)
      have hfin : ∀ F, Only (fun q => q = g + 1 ∨ q = g + 1 + 1) w7 F → ParseP ty fl st l w (.returned (.tuple #[.agg x.cells.toArray, .agg #[.int .i64 0, .bool false]])) F := fun F hpo =>
        ⟨x, 6, rfl, ⟨hk, HN.out, fun h => by omega⟩, hok.only hpo (fun b' o e => by have := hAn b' o e; omega) (fun b' o e => by have := hPn b' o e; omega), hsays, ⟨hx1, hx2, hx3.trans (by simp [flowN, h0])⟩, (fun b' o e => by have := hAn b' o e; omega), (fun b' o e => by have := hPn b' o e; omega), Only.fresh ((Only.of_fresh hF).trans hpo) (fun i hi e => by omega)⟩
      refine hfin _ ?_
      repeat (first | with_reducible exact Only.refl _ _ | with_reducible apply Only.drewS | (with_reducible refine Only.step2 (.inl (.inl rfl)) ?_) | (with_reducible refine Only.step2 (.inl (.inr rfl)) ?_))
end Go.Proofs.YtginhebfjbhmnaaGreat

/-
  Contracts of package payload: Parse of a Data frame; of whatever frame.
-/
namespace Go.Proofs.YtginhebfjbhmnaaGreat
set_option maxRecDepth 100000
set_option linter.unusedVariables false
open Go.RowKit

set_option maxRecDepth 100000 in
set_option maxHeartbeats 6400000 in
theorem pparse_0 (fl st : Int) (A : Option Addr) (c : Nat) (l : List UInt8) (w : World) (hA : BS w A l) (hlc : l.length ≤ c) (hcm : c ≤ maxLen) (hmx : l.length ≤ 1000000) :
    Calls Tryz.prog 40 #[.agg #[.int .i64 0, .int .i64 fl, .int .i64 st, .slice A l.length c]] w (ParseP 0 fl st l w) := by
  have HLK := Lib.hid (fun w' => plooks 0 fl st A l.length c w')
  obtain ⟨g, hgg⟩ : ∃ g, w.heap.size = g := ⟨_, rfl⟩
  have hW := PaW.mk' w 0 fl st ((l.length : Int)) A c l hA
  go_enter Tryz.func40, Tryz.ntmps40
  go_wp2_with fail
  revert hW
  rw [hgg]
  generalize ((((w.alloc (.cells #[.int .i64 0, .int .i64 fl, .int .i64 st, .slice A l.length c] 34)).alloc (.cells #[.int .i64 0, .int .i64 0, .slice none 0 0, .bool false, .bool false, .bool false, .int .i64 0, .int .i64 0, .int .i64 0, .int .i64 0, .int .i64 0, .int .i64 0, .bool false, .bool false, .slice none 0 0] 98)).alloc (.cells #[.int .i64 0, .bool false] 32)).alloc (.cells #[.int .i64 0, .int .i64 st, .slice none 0 0, .bool false, .bool false, .bool false, .int .i64 (l.length : Int), .int .i64 0, .int .i64 0, .int .i64 0, .int .i64 0, .int .i64 0, .bool false, .bool false, .slice none 0 0] 98)) = W
  intro hW
  have HW := Lib.hid hW
  have HAB : Hid (0 < l.length → ∀ b o, A = some ⟨b, o, none⟩ → b < g) := Lib.hid (fun hn b o e => by
    obtain ⟨b', o', e', hb, _⟩ := hA hn
    rw [e'] at e
    cases e
    omega)
  clear hW hA
  refine (HLK.out W).mono ?_
  rintro e w5 ⟨gl, fb, rfl, hgl, hfb, hlr, hfr, hf5⟩
  have HP5 := Lib.hid (HW.out.fresh hf5)
  have HL5 := Lib.hid hlr
  have HF5 : Hid (FB w5 fb 0 fl st A c l) := Lib.hid ⟨hfr, HP5.out.bs, hlc, by unfold maxLen at *; omega⟩
  clear hgl hfb hlr hfr hf5 HW HLK
  go_wp2_with fail
  go_loopw [22] (fun i wr => ∃ (k : Nat), k ≤ 6 ∧ i = .int .i64 (k : Int) ∧ (∀ j, j < k → lookB 0 fl st l j = false) ∧ PaW w g 0 fl st ((l.length : Int)) A c l wr ∧ Blk wr gl 119 (lkA fb (st == 0)) ∧ FB wr fb 0 fl st A c l) (fun i _ => 6 - (intOf i).toNat)
  case atStart => exact ⟨0, by omega, rfl, fun j hj => by omega, HP5.out, HL5.out, HF5.out⟩
  case round =>
    obtain ⟨k, hk, rfl, hn, hp, hl, hfb⟩ := hrel
    have HN := Lib.hid hn
    have HP := Lib.hid hp
    have HL := Lib.hid hl
    have HF := Lib.hid hfb
    clear HP5 HL5 HF5
    by_cases hlt : k < 6
    · have hlt' : (k : Int) < 6 := by omega
      obtain ⟨f, hf, hcf, hcall⟩ := look_of (b := fb) (c := c) (A := A) k hlt hn
      obtain ⟨lb, hlb⟩ : ∃ lb, lookB 0 fl st l k = lb := ⟨_, rfl⟩
      have HLB := Lib.hid hlb
      have c0 := hl.cell (k * 3)
      have c1 := hl.cell (k * 3 + 1)
      have c2 := hl.cell (k * 3 + 2)
      rw [lkA_code fb _ k hlt] at c0
      rw [lkA_conn fb _ k hlt] at c1
      rw [hf] at c2
      have hglt := hl.lt
      rw [hlb] at hcall
      have HC := Lib.hid hcall
      clear hn hp hl hfb hf hcall hlb
      generalize hcc : lkC k = cc at *
      generalize hdd : lkD k (st == 0) = dd at *
      have HCC := Lib.hid (And.intro hcc hdd)
      clear hcc hdd
      go_wp2_with fail
      with_reducible refine (HC.out _ (HF.out.fresh (Fresh.alloc _ _))).mono ?_
      rintro e w6 ⟨rfl, hf6⟩
      have HF6 := Lib.hid hf6
      cases lb with
      | false =>
        go_wp2_with fail
        go_roundw
        case rel => exact ⟨k + 1, by omega, by first | rfl | simp, fun j hj => by
          rcases Nat.lt_or_ge j k with h | h
          · exact HN.out j h
          · obtain rfl : j = k := by omega
            exact HLB.out, HP.out.fresh ((Fresh.alloc _ _).trans HF6.out), (HL.out.alloc _).fresh HF6.out, (HF.out.fresh (Fresh.alloc _ _)).fresh HF6.out⟩
        case measure => simp only [intOf]; omega
      | true =>
        have hP6 := HP.out.fresh ((Fresh.alloc _ _).trans HF6.out)
        have hx0 := (Blk.new wr 119 #[.int .i64 cc, .bool dd, .func (Fn.func f) #[] #[.pointer (some ⟨fb, 0, none⟩)]]).fresh HF6.out
        obtain ⟨d0, d1, _⟩ := hx0.c3
        have x0 := hP6.b3.cell 0
        have y0 := hP6.b1.cell 0
        have z0 := hP6.b1.frozen 0
        have x1 := hP6.b3.cell 1
        have y1 := hP6.b1.cell 1
        have z1 := hP6.b1.frozen 1
        have x2 := hP6.b3.cell 2
        have y2 := hP6.b1.cell 2
        have z2 := hP6.b1.frozen 2
        have x3 := hP6.b3.cell 3
        have y3 := hP6.b1.cell 3
        have z3 := hP6.b1.frozen 3
        have x4 := hP6.b3.cell 4
        have y4 := hP6.b1.cell 4
        have z4 := hP6.b1.frozen 4
        have x5 := hP6.b3.cell 5
        have y5 := hP6.b1.cell 5
        have z5 := hP6.b1.frozen 5
        have x6 := hP6.b3.cell 6
        have y6 := hP6.b1.cell 6
        have z6 := hP6.b1.frozen 6
        have x7 := hP6.b3.cell 7
        have y7 := hP6.b1.cell 7
        have z7 := hP6.b1.frozen 7
        have x8 := hP6.b3.cell 8
        have y8 := hP6.b1.cell 8
        have z8 := hP6.b1.frozen 8
        have x9 := hP6.b3.cell 9
        have y9 := hP6.b1.cell 9
        have z9 := hP6.b1.frozen 9
        have x10 := hP6.b3.cell 10
        have y10 := hP6.b1.cell 10
        have z10 := hP6.b1.frozen 10
        have x11 := hP6.b3.cell 11
        have y11 := hP6.b1.cell 11
        have z11 := hP6.b1.frozen 11
        have x12 := hP6.b3.cell 12
        have y12 := hP6.b1.cell 12
        have z12 := hP6.b1.frozen 12
        have x13 := hP6.b3.cell 13
        have y13 := hP6.b1.cell 13
        have z13 := hP6.b1.frozen 13
        have x14 := hP6.b3.cell 14
        have y14 := hP6.b1.cell 14
        have z14 := hP6.b1.frozen 14
        obtain ⟨f0, f1⟩ := hP6.b2.c2
        have z15 := hP6.b2.frozen 0
        have z16 := hP6.b2.frozen 1
        simp only [ItV.cells, bareI, List.getElem?_toArray, List.getElem?_cons_zero, List.getElem?_cons_succ, List.length_nil] at x0 y0 x1 y1 x2 y2 x3 y3 x4 y4 x5 y5 x6 y6 x7 y7 x8 y8 x9 y9 x10 y10 x11 y11 x12 y12 x13 y13 x14 y14
        have HP6 := Lib.hid hP6
        have hgl := HP.out.lt
        have e1 : ¬ g + 1 = wr.heap.size := by omega
        have e2 : ¬ wr.heap.size = g + 1 := by omega
        have e3 : ¬ g + 1 + 1 = wr.heap.size := by omega
        have e4 : ¬ wr.heap.size = g + 1 + 1 := by omega
        clear hf6 hP6 hx0 hcf c0 c1 c2 hglt
        go_wp2_with fail
        go_region
        go_wp2
        refine bodyPost_ret (v := .tuple #[.agg #[.int .i64 0, .int .i64 st, .slice none 0 0, .bool false, .bool false, .bool false, .int .i64 (l.length : Int), .int .i64 0, .int .i64 0, .int .i64 0, .int .i64 0, .int .i64 0, .bool false, .bool false, .slice none 0 0], .agg #[.int .i64 cc, .bool dd]]) (by simp [results, Tryz.results40, go_sem, y0, y1, y2, y3, y4, y5, y6, y7, y8, y9, y10, y11, y12, y13, y14, f0, f1]) rfl ?_
        refine ⟨bareI 0 st ((l.length : Int)), k, by rw [prsF, if_pos hlt, HCC.out.1, HCC.out.2]; rfl, ⟨hk, HN.out, fun _ => HLB.out⟩, ⟨by simp [bareI], by simp [bareI, maxLen], BS.nil _ _, by simp [bareI], by simp [bareI, maxLen], Many.nil _ _ _ _⟩, by rw [prsF, if_pos hlt]; exact ⟨rfl, ⟨rfl, rfl, rfl, rfl, rfl⟩, ⟨rfl, rfl, rfl, rfl, rfl⟩, rfl⟩, ⟨rfl, rfl, by simp [flowN, bareI]⟩, (fun b' o e => by cases e), (fun b' o e => by cases e), ?_⟩
        have hgs := HP.out.hg
        have hF := HP.out.fr.trans ((Fresh.alloc _ _).trans HF6.out)
        repeat (first | with_reducible exact hF | with_reducible apply Fresh.drewS | (with_reducible refine Fresh.step2 ?_ ?_; focus (simp only []; omega)))
    · obtain rfl : k = 6 := by omega
      have HRD := Lib.hid (read_all (f0 := (l.length : Int)) (fl := fl) (c := c) 0 hp.b3 hp.bs (fun hl0 b o e => by have := HAB.out hl0 b o e; omega) hlc hmx (fun j hj => hn j hj))
      obtain ⟨c0, c1, c2, c3⟩ := hp.bx.c4
      clear hn hp hl hfb
      go_wp2_with fail
      refine HRD.out.mono ?_
      rintro e w7 ⟨x, rfl, hbx, hok, hsays, ⟨hx1, hx2, hx3⟩, hAn, hPn, ho7⟩
      have hb1 := HP.out.b1.only ho7 (by omega)
      have hb2 := HP.out.b2.only ho7 (by omega)
      have x0 := hbx.cell 0
      have y0 := hb1.cell 0
      have z0 := hb1.frozen 0
      have x1 := hbx.cell 1
      have y1 := hb1.cell 1
      have z1 := hb1.frozen 1
      have x2 := hbx.cell 2
      have y2 := hb1.cell 2
      have z2 := hb1.frozen 2
      have x3 := hbx.cell 3
      have y3 := hb1.cell 3
      have z3 := hb1.frozen 3
      have x4 := hbx.cell 4
      have y4 := hb1.cell 4
      have z4 := hb1.frozen 4
      have x5 := hbx.cell 5
      have y5 := hb1.cell 5
      have z5 := hb1.frozen 5
      have x6 := hbx.cell 6
      have y6 := hb1.cell 6
      have z6 := hb1.frozen 6
      have x7 := hbx.cell 7
      have y7 := hb1.cell 7
      have z7 := hb1.frozen 7
      have x8 := hbx.cell 8
      have y8 := hb1.cell 8
      have z8 := hb1.frozen 8
      have x9 := hbx.cell 9
      have y9 := hb1.cell 9
      have z9 := hb1.frozen 9
      have x10 := hbx.cell 10
      have y10 := hb1.cell 10
      have z10 := hb1.frozen 10
      have x11 := hbx.cell 11
      have y11 := hb1.cell 11
      have z11 := hb1.frozen 11
      have x12 := hbx.cell 12
      have y12 := hb1.cell 12
      have z12 := hb1.frozen 12
      have x13 := hbx.cell 13
      have y13 := hb1.cell 13
      have z13 := hb1.frozen 13
      have x14 := hbx.cell 14
      have y14 := hb1.cell 14
      have z14 := hb1.frozen 14
      obtain ⟨f0, f1⟩ := hb2.c2
      have z15 := hb2.frozen 0
      have z16 := hb2.frozen 1
      simp only [ItV.cells, bareI, List.getElem?_toArray, List.getElem?_cons_zero, List.getElem?_cons_succ, List.length_nil] at x0 y0 x1 y1 x2 y2 x3 y3 x4 y4 x5 y5 x6 y6 x7 y7 x8 y8 x9 y9 x10 y10 x11 y11 x12 y12 x13 y13 x14 y14
      have HX := Lib.hid (And.intro hok (And.intro hsays (And.intro hx1 (And.intro hx2 (And.intro hx3 (And.intro hAn (And.intro hPn ho7)))))))
      clear hok hsays hx1 hx2 hx3 hAn hPn ho7 hb1 hb2 hbx c0 c1 c2 c3
      go_wp2_with fail
      refine bodyPost_ret (v := .tuple #[.agg x.cells.toArray, .agg #[.int .i64 0, .bool false]]) (by simp [results, Tryz.results40, go_sem, ItV.cells, y0, y1, y2, y3, y4, y5, y6, y7, y8, y9, y10, y11, y12, y13, y14, f0, f1]) rfl ?_
      obtain ⟨hok, hsays, hx1, hx2, hx3, hAn, hPn, ho7⟩ := HX.out
      have hgs := HP.out.hg
      have hws := HP.out.fr.size
      have hpl := HP.out.lt
      have hF : Fresh w w7 := Only.fresh ((Only.of_fresh HP.out.fr).trans ho7) (fun i hi e => by omega)
      have hfin : ∀ F, Only (fun q => q = g + 1 ∨ q = g + 1 + 1) w7 F → ParseP 0 fl st l w (.returned (.tuple #[.agg x.cells.toArray, .agg #[.int .i64 0, .bool false]])) F := fun F hpo =>
        ⟨x, 6, rfl, ⟨hk, HN.out, fun h => by omega⟩, hok.only hpo (fun b' o e => by have := hAn b' o e; omega) (fun b' o e => by have := hPn b' o e; omega), hsays, ⟨hx1, hx2, hx3.trans (by simp [flowN])⟩, (fun b' o e => by have := hAn b' o e; omega), (fun b' o e => by have := hPn b' o e; omega), Only.fresh ((Only.of_fresh hF).trans hpo) (fun i hi e => by omega)⟩
      refine hfin _ ?_
      repeat (first | with_reducible exact Only.refl _ _ | with_reducible apply Only.drewS | (with_reducible refine Only.step2 (.inl (.inl rfl)) ?_) | (with_reducible refine Only.step2 (.inl (.inr rfl)) ?_))
theorem pparse (ty fl st : Int) (A : Option Addr) (c : Nat) (l : List UInt8) (w : World) (hA : BS w A l) (hlc : l.length ≤ c) (hcm : c ≤ maxLen) (hmx : l.length ≤ 1000000) :
    Calls Tryz.prog 40 #[.agg #[.int .i64 ty, .int .i64 fl, .int .i64 st, .slice A l.length c]] w (ParseP ty fl st l w) := by
  by_cases h : ty = 0
  · subst h; exact pparse_0 fl st A c l w hA hlc hcm hmx
  · exact pparse_n ty h fl st A c l w hA hlc hcm hmx
end Go.Proofs.YtginhebfjbhmnaaGreat

