/-
  Texts laid together: Pay7 Pay70.
-/
import Derived.Test.YtginhebfjbhmnaaGreatG06
/-
  Contracts of package payload: what a frame without a fault says, by its type.
-/
namespace Go.Proofs.YtginhebfjbhmnaaGreat
set_option maxRecDepth 100000
set_option linter.unusedVariables false
open Go.RowKit

def bareI (ty st f0 : Int) : ItV := ⟨ty, st, none, 0, [], false, false, false, f0, 0, 0, 0, 0, 0, false, false, none, 0, []⟩
/-- What is said: text, marks, numbers, pairs. -/
structure PR where
  (l : List UInt8) (en eh ak : Bool) (co la inc de we : Int) (wd ex : Bool) (ps : List (Int × Int))
def PR0 : PR := ⟨[], false, false, false, 0, 0, 0, 0, 0, false, false, []⟩
structure Says (x : ItV) (r : PR) : Prop where
  l : x.l = r.l
  m : x.en = r.en ∧ x.eh = r.eh ∧ x.ak = r.ak ∧ x.wd = r.wd ∧ x.ex = r.ex
  n : x.co = r.co ∧ x.la = r.la ∧ x.inc = r.inc ∧ x.de = r.de ∧ x.we = r.we
  ps : x.ps = r.ps
def ReadP (p : Nat) (ty st f0 : Int) (r : PR) (w : World) (e : Ending) (w' : World) : Prop :=
  ∃ x : ItV, e = .returned (.tuple #[]) ∧ Blk w' p 98 x.cells.toArray ∧ x.Ok w' ∧ Says x r ∧ (x.ty = ty ∧ x.st = st ∧ x.fl = f0) ∧ (∀ b o, x.A = some ⟨b, o, none⟩ → w.heap.size ≤ b) ∧ (∀ b o, x.PA = some ⟨b, o, none⟩ → w.heap.size ≤ b) ∧ Only (· = p) w w'
theorem Only.bsx {w w' : World} {p : Nat} {A : Option Addr} {l : List UInt8} (h : BS w A l) (ho : Only (· = p) w w') (hA : 0 < l.length → ∀ b o, A = some ⟨b, o, none⟩ → b ≠ p) : BS w' A l := by
  cases l with
  | nil => exact BS.nil _ _
  | cons x l => exact h.only ho (fun b o e hh => hA (by simp) b o e hh)
/-- The frame's box, and the item's block, behind the box's making. -/
structure RdS (w : World) (p b : Nat) (x : ItV) (ty fl st : Int) (A : Option Addr) (c : Nat) (l : List UInt8) (W : World) : Prop where
  box : Blk W b 34 #[.int .i64 ty, .int .i64 fl, .int .i64 st, .slice A l.length c]
  it : Blk W p 98 x.cells.toArray
  bs : BS W A l
  fr : Fresh w W
  hb : w.heap.size ≤ b
  hp : p < w.heap.size
  hA : 0 < l.length → ∀ b o, A = some ⟨b, o, none⟩ → b ≠ p
theorem RdS.only {w W W' : World} {p b c : Nat} {x : ItV} {ty fl st : Int} {A : Option Addr} {l : List UInt8} (h : RdS w p b x ty fl st A c l W) (ho : Only (· = p) W W') : Blk W' b 34 #[.int .i64 ty, .int .i64 fl, .int .i64 st, .slice A l.length c] ∧ BS W' A l :=
  ⟨h.box.only ho (by have := h.hb; have := h.hp; omega), Only.bsx h.bs ho h.hA⟩
theorem RdS.start {w : World} {p c : Nat} {x : ItV} {ty fl st : Int} {A : Option Addr} {l : List UInt8} (hb : Blk w p 98 x.cells.toArray) (hA : BS w A l) (hAp : 0 < l.length → ∀ b o, A = some ⟨b, o, none⟩ → b ≠ p) :
    RdS w p w.heap.size x ty fl st A c l (w.alloc (.cells #[.int .i64 ty, .int .i64 fl, .int .i64 st, .slice A l.length c] 34)) :=
  ⟨Blk.new _ _ _, hb.alloc _, hA.fresh (Fresh.alloc _ _), Fresh.alloc _ _, Nat.le_refl _, hb.lt, hAp⟩
theorem many_own {w : World} {base n c : Nat} {A : Option Addr} {ps : List (Int × Int)} (h : Own w base 76 2 (.slice A n c) n (ps.flatMap pairC)) (hn : ps.length = n) : Many pairC 2 w A ps ∧ ∀ b o, A = some ⟨b, o, none⟩ → base ≤ b := by
  refine ⟨fun hp => ?_, fun b o e => ?_⟩
  · rcases h.form with ⟨e, h0, _⟩ | ⟨g, cap, e, hb, hlt, _, _, hc⟩
    · omega
    · injection e with e1
      refine ⟨g, 0, e1, hlt, fun i hi j hj => ?_⟩
      have hlen : (ps.flatMap pairC).length = ps.length * 2 := by
        clear h hn hp hc hi
        induction ps with
        | nil => rfl
        | cons q ps ih => rw [List.flatMap_cons, List.length_append, ih, List.length_cons]; show 2 + _ = _; omega
      have hget : ∀ (ps : List (Int × Int)) (i : Nat) (h : i < ps.length), (ps.flatMap pairC)[i * 2 + j]? = (pairC ps[i])[j]? := by
        intro ps
        induction ps with
        | nil => intro i h; simp at h
        | cons q ps ih =>
          intro i h
          rw [List.flatMap_cons]
          cases i with
          | zero => rw [List.getElem?_append_left (by simp [pairC]; omega)]; simp
          | succ i =>
            rw [List.getElem?_append_right (by simp [pairC]; omega)]
            have := ih i (by simpa using h)
            rw [show (i + 1) * 2 + j - (pairC q).length = i * 2 + j by simp [pairC]; omega, this]
            simp
      rw [Nat.zero_add, (hc (i * 2 + j) (by rw [hlen]; omega)).1, hget ps i hi]
  · obtain ⟨A', c', e', _, _, hat⟩ := h.slice
    cases e'
    exact (hat b o e).1
theorem read_hide {pr : Program} {f : FuncId} {args : Array Value} {w w0 : World} {p : Nat} {ty st f0 : Int} {R : PR} (h : ∀ rr, R = rr → Calls pr f args w (ReadP p ty st f0 rr w0)) : Calls pr f args w (ReadP p ty st f0 R w0) := h R rfl
end Go.Proofs.YtginhebfjbhmnaaGreat

/-
  Contracts of package payload: reading by type.
-/
namespace Go.Proofs.YtginhebfjbhmnaaGreat
set_option maxRecDepth 100000
set_option linter.unusedVariables false
open Go.RowKit
section
variable {p : Nat} {f0 fl st : Int} {A : Option Addr} {c : Nat} {l : List UInt8} {w : World}
set_option maxRecDepth 100000 in
set_option maxHeartbeats 3200000 in
theorem read_0 (hb : Blk w p 98 (bareI 0 st f0).cells.toArray) (hA : BS w A l) (hAp : 0 < l.length → ∀ b o, A = some ⟨b, o, none⟩ → b ≠ p) (hlc : l.length ≤ c) (hmx : l.length ≤ 1000000) (hp : pdB 0 fl = true → 0 < l.length) (ha : aheadN 0 fl + padN 0 fl l ≤ l.length) :
    Calls Tryz.prog 51 #[.pointer (some ⟨p, 0, none⟩), .agg #[.int .i64 0, .int .i64 fl, .int .i64 st, .slice A l.length c]] w (ReadP p 0 st f0 { PR0 with l := textL 0 fl l, en := hasB fl 1 } w) := by
  have hR0 := RdS.start (c := c) (ty := 0) (fl := fl) (st := st) hb hA hAp
  have HT := Lib.hid (fun w' hA => ptext 0 fl st A c l w' hA hlc (by omega) hp ha)
  have HTL : Hid ((textL 0 fl l).length = l.length - padN 0 fl l - aheadN 0 fl) := Lib.hid (by unfold textL; simp; omega)
  have HH1 := Lib.hid (fun w' => phas 0 fl st A l.length c 1 (hasB fl 1) w' rfl rfl)
  generalize hasB fl 1 = h1 at *
  generalize textL 0 fl l = T at *
  have hml : l.length - padN 0 fl l - aheadN 0 fl ≤ 1000000 := by omega
  generalize l.length - padN 0 fl l - aheadN 0 fl = m at *
  clear hp ha hb hA hAp
  go_enter Tryz.func51, Tryz.ntmps51
  go_wp2_with fail
  refine wp_gen (RdS w p w.heap.size (bareI 0 st f0) 0 fl st A c l) hR0 ?_
  intro W hR
  obtain ⟨b, hbb⟩ : ∃ b, w.heap.size = b := ⟨_, rfl⟩
  have HBB := Lib.hid hbb
  rw [hbb] at hR ⊢
  have HSK : Hid (∀ w', Only (· = p) W w' → w'.cell? ⟨b, 0, none⟩ = some (.int .i64 0) ∧ w'.cell? ⟨b, 1, none⟩ = some (.int .i64 fl) ∧ w'.cell? ⟨b, 2, none⟩ = some (.int .i64 st) ∧ w'.cell? ⟨b, 3, none⟩ = some (.slice A l.length c) ∧ Only (· = p) W w') := Lib.hid (fun w' hw => by
    obtain ⟨c0, c1, c2, c3⟩ := (hR.only hw).1.c4
    exact ⟨c0, c1, c2, c3, hw⟩)
  have HBS := Lib.hid (fun w' hw => (hR.only (W' := w') hw).2)
  have HIT := Lib.hid hR.it
  have HR := Lib.hid hR
  obtain ⟨g0, g1, g2, g3, g4⟩ := HSK.out W (Only.refl _ _)
  clear hR hR0 hbb
  go_region_held3 (fun w' => w'.cell? ⟨b, 0, none⟩ = some (.int .i64 0) ∧ w'.cell? ⟨b, 1, none⟩ = some (.int .i64 fl) ∧ w'.cell? ⟨b, 2, none⟩ = some (.int .i64 st) ∧ w'.cell? ⟨b, 3, none⟩ = some (.slice A l.length c) ∧ Only (· = p) W w')
    ((refine HSK.out _ ?_; first | with_reducible assumption | with_reducible exact Only.drewS (Only.refl _ _) | (with_reducible apply Only.drewS; with_reducible assumption) | (with_reducible refine Only.step2 (.inl rfl) ?_; with_reducible assumption) | (with_reducible refine Only.step2 (.inl rfl) (Only.step2 (.inl rfl) ?_); with_reducible assumption) | (with_reducible refine Only.step2 (.inl rfl) (Only.step2 (.inl rfl) (Only.step2 (.inl rfl) ?_)); with_reducible assumption)))
    (first
      | (go_at_call 70; (with_reducible refine (HT.out _ (HBS.out _ (by first | assumption | exact Only.drewS (Only.refl _ _)))).mono ?_); rintro e w3 ⟨g, rfl, hgg, hbg, hf3⟩; have hg3 : Only (· = p) W w3 := Only.freshS (by first | assumption | exact Only.drewS (Only.refl _ _)) hf3; have HG := Lib.hid (And.intro (show W.heap.size ≤ g from Nat.le_trans (Fresh.size (show Fresh W _ from (by first | assumption | exact Fresh.drew _))) hgg) hbg); have hi3 : Fresh W w3 := (Fresh.drew _).trans hf3; clear hgg hbg)
      | (go_at_call 38; (with_reducible refine (HH1.out _).mono ?_); rintro e w9 ⟨rfl, hf9⟩; have hi9 : Fresh W w9 := Fresh.trans (by first | exact hi3 | exact Fresh.drew _) hf9; have hg9 : Only (· = p) W w9 := Only.of_fresh hi9; have hit9 := HIT.out.fresh hi9; have q2 := hit9.cell 2; have z2 := hit9.frozen 2; have q3 := hit9.cell 3; have z3 := hit9.frozen 3; simp only [ItV.cells, bareI, List.getElem?_toArray, List.getElem?_cons_zero, List.getElem?_cons_succ] at q2 q3; have HI9 := Lib.hid hit9; clear hit9))
  go_wp2
  go_returns
  have hle := HTL.out
  have hgp : g ≠ p := by have := HG.out.1; have := HR.out.it.lt; omega
  have hbg := HG.out.2.fresh hf9
  refine ⟨{ bareI 0 st f0 with A := some ⟨g, 0, none⟩, c := m, l := T, en := h1 }, rfl, ?_, ⟨by show T.length ≤ m; omega, by show m ≤ maxLen; unfold maxLen; omega, ?_, by simp [bareI], by simp [bareI, maxLen], Many.nil _ _ _ _⟩, ⟨rfl, ⟨rfl, rfl, rfl, rfl, rfl⟩, ⟨rfl, rfl, rfl, rfl, rfl⟩, rfl⟩, ⟨rfl, rfl, rfl⟩, (fun b' o e => by cases e; have := HG.out.1; have := HR.out.fr.size; omega), (fun b' o e => by cases e), ?_⟩
  · have := (HI9.out.set 2 (.slice (some ⟨g, 0, none⟩) m m)).set 3 (.bool h1)
    simpa [ItV.cells, bareI, hle] using this
  · exact BS.row ((hbg.far (p := ⟨p, 2, none⟩) hgp _).far (p := ⟨p, 3, none⟩) hgp _)
  · refine Only.step2 (.inl rfl) (Only.step2 (.inl rfl) ?_)
    exact Only.of_fresh (HR.out.fr.trans hi9)
set_option maxRecDepth 100000 in
set_option maxHeartbeats 3200000 in
theorem read_2 (hb : Blk w p 98 (bareI 2 st f0).cells.toArray) (hA : BS w A l) (hAp : 0 < l.length → ∀ b o, A = some ⟨b, o, none⟩ → b ≠ p) (hlc : l.length ≤ c) (hmx : l.length ≤ 1000000) (hw : fromN 2 fl + 5 ≤ l.length) :
    Calls Tryz.prog 51 #[.pointer (some ⟨p, 0, none⟩), .agg #[.int .i64 2, .int .i64 fl, .int .i64 st, .slice A l.length c]] w (ReadP p 2 st f0 { PR0 with wd := true, ex := exB 2 fl l, de := (depN 2 fl l : Int), we := weL 2 fl l } w) := by
  have hR0 := RdS.start (c := c) (ty := 2) (fl := fl) (st := st) hb hA hAp
  have HWG := Lib.hid (fun p' x' w' hb hA => pweigh p' x' 2 fl st A c l w' hb hA hlc hw)
  clear hb hA hAp hw
  go_enter Tryz.func51, Tryz.ntmps51
  go_wp2_with fail
  have hR := hR0
  obtain ⟨W, hWW⟩ : ∃ W, w.alloc (.cells #[.int .i64 2, .int .i64 fl, .int .i64 st, .slice A l.length c] 34) = W := ⟨_, rfl⟩
  rw [hWW] at hR ⊢
  clear hWW
  obtain ⟨b, hbb⟩ : ∃ b, w.heap.size = b := ⟨_, rfl⟩
  have HBB := Lib.hid hbb
  rw [hbb] at hR ⊢
  have HSK : Hid (∀ w', Only (· = p) W w' → w'.cell? ⟨b, 0, none⟩ = some (.int .i64 2) ∧ w'.cell? ⟨b, 1, none⟩ = some (.int .i64 fl) ∧ w'.cell? ⟨b, 2, none⟩ = some (.int .i64 st) ∧ w'.cell? ⟨b, 3, none⟩ = some (.slice A l.length c) ∧ Only (· = p) W w') := Lib.hid (fun w' hw => by
    obtain ⟨c0, c1, c2, c3⟩ := (hR.only hw).1.c4
    exact ⟨c0, c1, c2, c3, hw⟩)
  have HBS := Lib.hid (fun w' hw => (hR.only (W' := w') hw).2)
  have HIT := Lib.hid hR.it
  have HR := Lib.hid hR
  obtain ⟨g0, g1, g2, g3, g4⟩ := HSK.out W (Only.refl _ _)
  clear hR hR0 hbb
  refine (HWG.out p (bareI 2 st f0) _ HIT.out (HBS.out _ (Only.refl _ _))).mono ?_
  rintro e w7 ⟨rfl, hb7, ho7⟩
  have HB7 := Lib.hid hb7
  have HO7 := Lib.hid ho7
  clear hb7 ho7
  go_wp2_with fail
  go_returns
  refine ⟨wgI 2 fl l (bareI 2 st f0), rfl, HB7.out, ⟨by simp [bareI, wgI], by simp [bareI, wgI, maxLen], BS.nil _ _, by simp [bareI, wgI], by simp [bareI, wgI, maxLen], Many.nil _ _ _ _⟩, ⟨rfl, ⟨rfl, rfl, rfl, rfl, rfl⟩, ⟨rfl, rfl, rfl, rfl, rfl⟩, rfl⟩, ⟨rfl, rfl, rfl⟩, (fun b' o e => by cases e), (fun b' o e => by cases e), (Only.of_fresh HR.out.fr).trans HO7.out⟩
set_option maxRecDepth 100000 in
set_option maxHeartbeats 3200000 in
theorem read_3 (hb : Blk w p 98 (bareI 3 st f0).cells.toArray) (hA : BS w A l) (hAp : 0 < l.length → ∀ b o, A = some ⟨b, o, none⟩ → b ≠ p) (hlc : l.length ≤ c) (hmx : l.length ≤ 1000000) (h4 : l.length = 4) :
    Calls Tryz.prog 51 #[.pointer (some ⟨p, 0, none⟩), .agg #[.int .i64 3, .int .i64 fl, .int .i64 st, .slice A l.length c]] w (ReadP p 3 st f0 { PR0 with co := (numL (l.take 4) : Int) } w) := by
  have hR0 := RdS.start (c := c) (ty := 3) (fl := fl) (st := st) hb hA hAp
  have HN := Lib.hid (fun w' hA => onewR A l.length c l w' rfl hA (by omega))
  have HF4 := Lib.hid (fun q g w' (hr : Rdr w' q g l 0) => pfour q g l 0 _ w' hr (by omega) rfl)
  simp only [List.drop_zero] at HF4
  generalize numL (l.take 4) = co at *
  clear hb hA hAp h4
  go_enter Tryz.func51, Tryz.ntmps51
  go_wp2_with fail
  have hR := hR0
  obtain ⟨W, hWW⟩ : ∃ W, w.alloc (.cells #[.int .i64 3, .int .i64 fl, .int .i64 st, .slice A l.length c] 34) = W := ⟨_, rfl⟩
  rw [hWW] at hR ⊢
  clear hWW
  obtain ⟨b, hbb⟩ : ∃ b, w.heap.size = b := ⟨_, rfl⟩
  have HBB := Lib.hid hbb
  rw [hbb] at hR ⊢
  have HSK : Hid (∀ w', Only (· = p) W w' → w'.cell? ⟨b, 0, none⟩ = some (.int .i64 3) ∧ w'.cell? ⟨b, 1, none⟩ = some (.int .i64 fl) ∧ w'.cell? ⟨b, 2, none⟩ = some (.int .i64 st) ∧ w'.cell? ⟨b, 3, none⟩ = some (.slice A l.length c) ∧ Only (· = p) W w') := Lib.hid (fun w' hw => by
    obtain ⟨c0, c1, c2, c3⟩ := (hR.only hw).1.c4
    exact ⟨c0, c1, c2, c3, hw⟩)
  have HBS := Lib.hid (fun w' hw => (hR.only (W' := w') hw).2)
  have HIT := Lib.hid hR.it
  have HR := Lib.hid hR
  obtain ⟨g0, g1, g2, g3, g4⟩ := HSK.out W (Only.refl _ _)
  clear hR hR0 hbb
  with_reducible refine (HN.out _ (HBS.out _ (Only.refl _ _))).mono ?_
  rintro e w3 ⟨q, g, rfl, hq, hg, hr, hf⟩
  have H1 := Lib.hid (And.intro hq (And.intro hg (And.intro hr hf)))
  clear hq hg hr hf
  go_wp2_with fail
  with_reducible refine (HF4.out q g _ H1.out.2.2.1.rdr).mono ?_
  rintro e w4 ⟨rfl, hr4, ho4⟩
  have HF4' : Hid (Fresh W w4) := Lib.hid (Only.fresh ((Only.of_fresh H1.out.2.2.2).trans ho4) (fun i hi e => by have := H1.out.1; omega))
  have HI4 := Lib.hid (HIT.out.fresh HF4'.out)
  clear hr4 ho4
  have q7 := (HI4.out).cell 7
  have z7 := (HI4.out).frozen 7
  simp only [ItV.cells, bareI, List.getElem?_toArray, List.getElem?_cons_zero, List.getElem?_cons_succ] at q7
  go_wp2_with fail
  go_returns
  refine ⟨{ bareI 3 st f0 with co := (co : Int) }, rfl, by simpa [ItV.cells, bareI] using HI4.out.set 7 (.int .i64 (co : Int)), ⟨by simp [bareI], by simp [bareI, maxLen], BS.nil _ _, by simp [bareI], by simp [bareI, maxLen], Many.nil _ _ _ _⟩, ⟨rfl, ⟨rfl, rfl, rfl, rfl, rfl⟩, ⟨rfl, rfl, rfl, rfl, rfl⟩, rfl⟩, ⟨rfl, rfl, rfl⟩, (fun b' o e => by cases e), (fun b' o e => by cases e), ?_⟩
  refine Only.step2 (.inl rfl) ?_
  exact Only.of_fresh (HR.out.fr.trans HF4'.out)
set_option maxRecDepth 100000 in
set_option maxHeartbeats 3200000 in
theorem read_8 (hb : Blk w p 98 (bareI 8 st f0).cells.toArray) (hA : BS w A l) (hAp : 0 < l.length → ∀ b o, A = some ⟨b, o, none⟩ → b ≠ p) (hlc : l.length ≤ c) (hmx : l.length ≤ 1000000) (h4 : l.length = 4) :
    Calls Tryz.prog 51 #[.pointer (some ⟨p, 0, none⟩), .agg #[.int .i64 8, .int .i64 fl, .int .i64 st, .slice A l.length c]] w (ReadP p 8 st f0 { PR0 with inc := (incN l : Int) } w) := by
  have hR0 := RdS.start (c := c) (ty := 8) (fl := fl) (st := st) hb hA hAp
  have HN := Lib.hid (fun w' hA => pincrement 8 fl st A c l w' hA (by omega) (by omega))
  generalize incN l = co at *
  clear hb hA hAp h4
  go_enter Tryz.func51, Tryz.ntmps51
  go_wp2_with fail
  have hR := hR0
  obtain ⟨W, hWW⟩ : ∃ W, w.alloc (.cells #[.int .i64 8, .int .i64 fl, .int .i64 st, .slice A l.length c] 34) = W := ⟨_, rfl⟩
  rw [hWW] at hR ⊢
  clear hWW
  obtain ⟨b, hbb⟩ : ∃ b, w.heap.size = b := ⟨_, rfl⟩
  have HBB := Lib.hid hbb
  rw [hbb] at hR ⊢
  have HSK : Hid (∀ w', Only (· = p) W w' → w'.cell? ⟨b, 0, none⟩ = some (.int .i64 8) ∧ w'.cell? ⟨b, 1, none⟩ = some (.int .i64 fl) ∧ w'.cell? ⟨b, 2, none⟩ = some (.int .i64 st) ∧ w'.cell? ⟨b, 3, none⟩ = some (.slice A l.length c) ∧ Only (· = p) W w') := Lib.hid (fun w' hw => by
    obtain ⟨c0, c1, c2, c3⟩ := (hR.only hw).1.c4
    exact ⟨c0, c1, c2, c3, hw⟩)
  have HBS := Lib.hid (fun w' hw => (hR.only (W' := w') hw).2)
  have HIT := Lib.hid hR.it
  have HR := Lib.hid hR
  obtain ⟨g0, g1, g2, g3, g4⟩ := HSK.out W (Only.refl _ _)
  clear hR hR0 hbb
  with_reducible refine (HN.out _ (HBS.out _ (Only.refl _ _))).mono ?_
  rintro e w4 ⟨rfl, hf⟩
  have HF4' := Lib.hid hf
  have HI4 := Lib.hid (HIT.out.fresh HF4'.out)
  clear hf
  have q9 := (HI4.out).cell 9
  have z9 := (HI4.out).frozen 9
  simp only [ItV.cells, bareI, List.getElem?_toArray, List.getElem?_cons_zero, List.getElem?_cons_succ] at q9
  go_wp2_with fail
  go_returns
  refine ⟨{ bareI 8 st f0 with inc := (co : Int) }, rfl, by simpa [ItV.cells, bareI] using HI4.out.set 9 (.int .i64 (co : Int)), ⟨by simp [bareI], by simp [bareI, maxLen], BS.nil _ _, by simp [bareI], by simp [bareI, maxLen], Many.nil _ _ _ _⟩, ⟨rfl, ⟨rfl, rfl, rfl, rfl, rfl⟩, ⟨rfl, rfl, rfl, rfl, rfl⟩, rfl⟩, ⟨rfl, rfl, rfl⟩, (fun b' o e => by cases e), (fun b' o e => by cases e), ?_⟩
  refine Only.step2 (.inl rfl) ?_
  exact Only.of_fresh (HR.out.fr.trans HF4'.out)
set_option maxRecDepth 100000 in
set_option maxHeartbeats 3200000 in
theorem read_6 (hb : Blk w p 98 (bareI 6 st f0).cells.toArray) (hA : BS w A l) (hAp : 0 < l.length → ∀ b o, A = some ⟨b, o, none⟩ → b ≠ p) (hlc : l.length ≤ c) (hmx : l.length ≤ 1000000) :
    Calls Tryz.prog 51 #[.pointer (some ⟨p, 0, none⟩), .agg #[.int .i64 6, .int .i64 fl, .int .i64 st, .slice A l.length c]] w (ReadP p 6 st f0 { PR0 with l := l, ak := hasB fl 1 } w) := by
  have hR0 := RdS.start (c := c) (ty := 6) (fl := fl) (st := st) hb hA hAp
  have HN := Lib.hid (fun w' hA => onewR A l.length c l w' rfl hA (by omega))
  have HH1 := Lib.hid (fun w' => phas 6 fl st A l.length c 1 (hasB fl 1) w' rfl rfl)
  generalize hasB fl 1 = h1 at *
  clear hb hA hAp
  go_enter Tryz.func51, Tryz.ntmps51
  go_wp2_with fail
  refine wp_gen (RdS w p w.heap.size (bareI 6 st f0) 6 fl st A c l) hR0 ?_
  intro W hR
  obtain ⟨b, hbb⟩ : ∃ b, w.heap.size = b := ⟨_, rfl⟩
  have HBB := Lib.hid hbb
  rw [hbb] at hR ⊢
  have HSK : Hid (∀ w', Only (· = p) W w' → w'.cell? ⟨b, 0, none⟩ = some (.int .i64 6) ∧ w'.cell? ⟨b, 1, none⟩ = some (.int .i64 fl) ∧ w'.cell? ⟨b, 2, none⟩ = some (.int .i64 st) ∧ w'.cell? ⟨b, 3, none⟩ = some (.slice A l.length c) ∧ Only (· = p) W w') := Lib.hid (fun w' hw => by
    obtain ⟨c0, c1, c2, c3⟩ := (hR.only hw).1.c4
    exact ⟨c0, c1, c2, c3, hw⟩)
  have HBS := Lib.hid (fun w' hw => (hR.only (W' := w') hw).2)
  have HIT := Lib.hid hR.it
  have HR := Lib.hid hR
  obtain ⟨g0, g1, g2, g3, g4⟩ := HSK.out W (Only.refl _ _)
  clear hR hR0 hbb
  go_region_held3 (fun w' => w'.cell? ⟨b, 0, none⟩ = some (.int .i64 6) ∧ w'.cell? ⟨b, 1, none⟩ = some (.int .i64 fl) ∧ w'.cell? ⟨b, 2, none⟩ = some (.int .i64 st) ∧ w'.cell? ⟨b, 3, none⟩ = some (.slice A l.length c) ∧ Only (· = p) W w')
    ((refine HSK.out _ ?_; first | with_reducible assumption | with_reducible exact Only.drewS (Only.refl _ _) | (with_reducible apply Only.drewS; with_reducible assumption) | (with_reducible refine Only.step2 (.inl rfl) ?_; with_reducible assumption) | (with_reducible refine Only.step2 (.inl rfl) (Only.step2 (.inl rfl) ?_); with_reducible assumption) | (with_reducible refine Only.step2 (.inl rfl) (Only.step2 (.inl rfl) (Only.step2 (.inl rfl) ?_)); with_reducible assumption)))
    (first
      | (go_at_call 44; (with_reducible refine (HN.out _ (HBS.out _ (by first | assumption | exact Only.drewS (Only.refl _ _)))).mono ?_); rintro e w3 ⟨q, g, rfl, hqq, hgg, hrd, hf3⟩; have hg3 : Only (· = p) W w3 := Only.freshS (by first | assumption | exact Only.drewS (Only.refl _ _)) hf3; have HG0 := Lib.hid (And.intro (show W.heap.size ≤ g from Nat.le_trans (Fresh.size (show Fresh W _ from (by first | assumption | exact Fresh.drew _))) hgg) (And.intro (show W.heap.size ≤ q from Nat.le_trans (Fresh.size (show Fresh W _ from (by first | assumption | exact Fresh.drew _))) hqq) hrd)); have hi3 : Fresh W w3 := (Fresh.drew _).trans hf3; clear hgg hqq hrd)
      | (go_at_call 45; (with_reducible refine (orest_new q g l _ _ HG0.out.2.2 rfl).mono ?_); rintro e w5 ⟨rfl, hb5, _, ho5⟩; have hi5 : Fresh W w5 := Only.fresh ((Only.of_fresh hi3).trans ho5) (fun i hi e => by have := HG0.out.2.1; omega); have hg5 : Only (· = p) W w5 := Only.of_fresh hi5; have HG := Lib.hid (And.intro HG0.out.1 hb5); clear hb5)
      | (go_at_call 38; (with_reducible refine (HH1.out _).mono ?_); rintro e w9 ⟨rfl, hf9⟩; have hi9 : Fresh W w9 := Fresh.trans (by first | exact hi5 | exact Fresh.drew _) hf9; have hg9 : Only (· = p) W w9 := Only.of_fresh hi9; have hit9 := HIT.out.fresh hi9; have q2 := hit9.cell 2; have z2 := hit9.frozen 2; have q5 := hit9.cell 5; have z5 := hit9.frozen 5; simp only [ItV.cells, bareI, List.getElem?_toArray, List.getElem?_cons_zero, List.getElem?_cons_succ] at q2 q5; have HI9 := Lib.hid hit9; clear hit9))
  go_wp2
  go_returns
  have hgp : g ≠ p := by have := HG.out.1; have := HR.out.it.lt; omega
  have hbg := HG.out.2.fresh hf9
  refine ⟨{ bareI 6 st f0 with A := some ⟨g, 0, none⟩, c := l.length, l := l, ak := h1 }, rfl, ?_, ⟨Nat.le_refl _, by show l.length ≤ maxLen; unfold maxLen; omega, ?_, by simp [bareI], by simp [bareI, maxLen], Many.nil _ _ _ _⟩, ⟨rfl, ⟨rfl, rfl, rfl, rfl, rfl⟩, ⟨rfl, rfl, rfl, rfl, rfl⟩, rfl⟩, ⟨rfl, rfl, rfl⟩, (fun b' o e => by cases e; have := HG.out.1; have := HR.out.fr.size; omega), (fun b' o e => by cases e), ?_⟩
  · have := (HI9.out.set 2 (.slice (some ⟨g, 0, none⟩) l.length l.length)).set 5 (.bool h1)
    simpa [ItV.cells, bareI] using this
  · exact BS.row ((hbg.far (p := ⟨p, 2, none⟩) hgp _).far (p := ⟨p, 5, none⟩) hgp _)
  · refine Only.step2 (.inl rfl) (Only.step2 (.inl rfl) ?_)
    exact Only.of_fresh (HR.out.fr.trans hi9)
set_option maxRecDepth 100000 in
set_option maxHeartbeats 3200000 in
theorem read_9 (hb : Blk w p 98 (bareI 9 st f0).cells.toArray) (hA : BS w A l) (hAp : 0 < l.length → ∀ b o, A = some ⟨b, o, none⟩ → b ≠ p) (hlc : l.length ≤ c) (hmx : l.length ≤ 1000000) :
    Calls Tryz.prog 51 #[.pointer (some ⟨p, 0, none⟩), .agg #[.int .i64 9, .int .i64 fl, .int .i64 st, .slice A l.length c]] w (ReadP p 9 st f0 { PR0 with l := l, eh := hasB fl 4 } w) := by
  have hR0 := RdS.start (c := c) (ty := 9) (fl := fl) (st := st) hb hA hAp
  have HN := Lib.hid (fun w' hA => onewR A l.length c l w' rfl hA (by omega))
  have HH4 := Lib.hid (fun w' => phas 9 fl st A l.length c 4 (hasB fl 4) w' rfl rfl)
  generalize hasB fl 4 = h4 at *
  clear hb hA hAp
  go_enter Tryz.func51, Tryz.ntmps51
  go_wp2_with fail
  refine wp_gen (RdS w p w.heap.size (bareI 9 st f0) 9 fl st A c l) hR0 ?_
  intro W hR
  obtain ⟨b, hbb⟩ : ∃ b, w.heap.size = b := ⟨_, rfl⟩
  have HBB := Lib.hid hbb
  rw [hbb] at hR ⊢
  have HSK : Hid (∀ w', Only (· = p) W w' → w'.cell? ⟨b, 0, none⟩ = some (.int .i64 9) ∧ w'.cell? ⟨b, 1, none⟩ = some (.int .i64 fl) ∧ w'.cell? ⟨b, 2, none⟩ = some (.int .i64 st) ∧ w'.cell? ⟨b, 3, none⟩ = some (.slice A l.length c) ∧ Only (· = p) W w') := Lib.hid (fun w' hw => by
    obtain ⟨c0, c1, c2, c3⟩ := (hR.only hw).1.c4
    exact ⟨c0, c1, c2, c3, hw⟩)
  have HBS := Lib.hid (fun w' hw => (hR.only (W' := w') hw).2)
  have HIT := Lib.hid hR.it
  have HR := Lib.hid hR
  obtain ⟨g0, g1, g2, g3, g4⟩ := HSK.out W (Only.refl _ _)
  clear hR hR0 hbb
  go_region_held3 (fun w' => w'.cell? ⟨b, 0, none⟩ = some (.int .i64 9) ∧ w'.cell? ⟨b, 1, none⟩ = some (.int .i64 fl) ∧ w'.cell? ⟨b, 2, none⟩ = some (.int .i64 st) ∧ w'.cell? ⟨b, 3, none⟩ = some (.slice A l.length c) ∧ Only (· = p) W w')
    ((refine HSK.out _ ?_; first | with_reducible assumption | with_reducible exact Only.drewS (Only.refl _ _) | (with_reducible apply Only.drewS; with_reducible assumption) | (with_reducible refine Only.step2 (.inl rfl) ?_; with_reducible assumption) | (with_reducible refine Only.step2 (.inl rfl) (Only.step2 (.inl rfl) ?_); with_reducible assumption) | (with_reducible refine Only.step2 (.inl rfl) (Only.step2 (.inl rfl) (Only.step2 (.inl rfl) ?_)); with_reducible assumption)))
    (first
      | (go_at_call 44; (with_reducible refine (HN.out _ (HBS.out _ (by first | assumption | exact Only.drewS (Only.refl _ _)))).mono ?_); rintro e w3 ⟨q, g, rfl, hqq, hgg, hrd, hf3⟩; have hg3 : Only (· = p) W w3 := Only.freshS (by first | assumption | exact Only.drewS (Only.refl _ _)) hf3; have HG0 := Lib.hid (And.intro (show W.heap.size ≤ g from Nat.le_trans (Fresh.size (show Fresh W _ from (by first | assumption | exact Fresh.drew _))) hgg) (And.intro (show W.heap.size ≤ q from Nat.le_trans (Fresh.size (show Fresh W _ from (by first | assumption | exact Fresh.drew _))) hqq) hrd)); have hi3 : Fresh W w3 := (Fresh.drew _).trans hf3; clear hgg hqq hrd)
      | (go_at_call 45; (with_reducible refine (orest_new q g l _ _ HG0.out.2.2 rfl).mono ?_); rintro e w5 ⟨rfl, hb5, _, ho5⟩; have hi5 : Fresh W w5 := Only.fresh ((Only.of_fresh hi3).trans ho5) (fun i hi e => by have := HG0.out.2.1; omega); have hg5 : Only (· = p) W w5 := Only.of_fresh hi5; have HG := Lib.hid (And.intro HG0.out.1 hb5); clear hb5)
      | (go_at_call 38; (with_reducible refine (HH4.out _).mono ?_); rintro e w9 ⟨rfl, hf9⟩; have hi9 : Fresh W w9 := Fresh.trans (by first | exact hi5 | exact Fresh.drew _) hf9; have hg9 : Only (· = p) W w9 := Only.of_fresh hi9; have hit9 := HIT.out.fresh hi9; have q2 := hit9.cell 2; have z2 := hit9.frozen 2; have q4 := hit9.cell 4; have z4 := hit9.frozen 4; simp only [ItV.cells, bareI, List.getElem?_toArray, List.getElem?_cons_zero, List.getElem?_cons_succ] at q2 q4; have HI9 := Lib.hid hit9; clear hit9))
  go_wp2
  go_returns
  have hgp : g ≠ p := by have := HG.out.1; have := HR.out.it.lt; omega
  have hbg := HG.out.2.fresh hf9
  refine ⟨{ bareI 9 st f0 with A := some ⟨g, 0, none⟩, c := l.length, l := l, eh := h4 }, rfl, ?_, ⟨Nat.le_refl _, by show l.length ≤ maxLen; unfold maxLen; omega, ?_, by simp [bareI], by simp [bareI, maxLen], Many.nil _ _ _ _⟩, ⟨rfl, ⟨rfl, rfl, rfl, rfl, rfl⟩, ⟨rfl, rfl, rfl, rfl, rfl⟩, rfl⟩, ⟨rfl, rfl, rfl⟩, (fun b' o e => by cases e; have := HG.out.1; have := HR.out.fr.size; omega), (fun b' o e => by cases e), ?_⟩
  · have := (HI9.out.set 2 (.slice (some ⟨g, 0, none⟩) l.length l.length)).set 4 (.bool h4)
    simpa [ItV.cells, bareI] using this
  · exact BS.row ((hbg.far (p := ⟨p, 2, none⟩) hgp _).far (p := ⟨p, 4, none⟩) hgp _)
  · refine Only.step2 (.inl rfl) (Only.step2 (.inl rfl) ?_)
    exact Only.of_fresh (HR.out.fr.trans hi9)
end
end Go.Proofs.YtginhebfjbhmnaaGreat

