/-
  Texts laid together: EncA EncB EncC EncD EncE.
-/
import Derived.Test.YtapikjhfgcbifaaGreatDoorLitP
import Derived.Test.YtapikjhfgcbifaaGreatDoorStatM
import Derived.Laws.IdiomStrings
import Derived.Test.YtapikjhfgcbifaaGreatDoorMake
/-
  Layer 8: a line's form: what it is; bytes of a string.
-/
namespace Go.Proofs.YtapikjhfgcbifaaGreatDoor
set_option linter.unusedVariables false
set_option linter.unusedSimpArgs false
open Go.RowKit
def IsShort (l P : List UInt8) : Prop := IsLit l (decide (litN l true < litN l false)) P
theorem IsShort.uniq {l P Q : List UInt8} (h : IsShort l P) (k : IsShort l Q) : P = Q := IsLit.uniq h k
/-- A line: its name's and its value's bytes, and whether it is never to be kept. -/
structure Ln where
  (n v : List UInt8) (nv : Bool)
/-- The form of a field whose value is written out. -/
def IsFormF (n v : List UInt8) (mark : Nat) (L : List UInt8) : Prop := ∃ i : Nat, i ≤ 61 ∧ FstIx (prN (strB n)) (i : Int) ∧ ∃ Pn Pv, IsShort n Pn ∧ IsShort v Pv ∧ L = encL i 4 mark ++ ((if i = 0 then Pn else []) ++ Pv)
theorem IsFormF.uniq {n v : List UInt8} {mark : Nat} {L M : List UInt8} (h : IsFormF n v mark L) (k : IsFormF n v mark M) : L = M := by
  obtain ⟨i, _, hi, Pn, Pv, h1, h2, rfl⟩ := h
  obtain ⟨j, _, hj, Qn, Qv, k1, k2, rfl⟩ := k
  have e := FstIx.uniq hi hj
  have e2 : i = j := by omega
  subst e2
  rw [h1.uniq k1, h2.uniq k2]
/-- The form of a line. -/
def IsLine (x : Ln) (L : List UInt8) : Prop := ∃ (z : Nat) (ex : Bool), z ≤ 61 ∧ FdIx (strB x.n, strB x.v) (z : Int) ex ∧ if x.nv then IsFormF x.n x.v 1 L else if ex then L = encL z 7 1 else IsFormF x.n x.v 0 L
theorem IsLine.uniq {x : Ln} {L M : List UInt8} (h : IsLine x L) (k : IsLine x M) : L = M := by
  obtain ⟨z, ex, _, hz, hl⟩ := h
  obtain ⟨y, ey, _, hy, kl⟩ := k
  obtain ⟨e1, rfl⟩ := FdIx.uniq hz hy
  have e2 : z = y := by omega
  subst e2
  obtain ⟨n, v, nv⟩ := x
  cases nv with
  | true => exact IsFormF.uniq hl kl
  | false =>
    cases ex with
    | true => exact Eq.trans hl (Eq.symm kl)
    | false => exact IsFormF.uniq hl kl
theorem FstIx.nat {pr : Fld → Bool} {z : Int} (h : FstIx pr z) : ∃ i : Nat, z = (i : Int) ∧ i ≤ 61 := by
  rcases h with ⟨rfl, _⟩ | ⟨k, hk, rfl, _⟩
  · exact ⟨0, rfl, by omega⟩
  · exact ⟨k + 1, by omega, by omega⟩
theorem FdIx.nat {q : Fld} {z : Int} {ex : Bool} (h : FdIx q z ex) : ∃ i : Nat, z = (i : Int) ∧ i ≤ 61 := by
  rcases h with ⟨k, hk, rfl, _⟩ | ⟨_, _, h⟩
  · exact ⟨k + 1, by omega, by omega⟩
  · exact h.nat
/-- Bytes of a string: a row of its own. -/
theorem conv_bytes (w : World) (l : List UInt8) : ∃ (c : Nat) (W : World), (convert 9 23 (.string (strB l))).run Tryz.prog w = .ok (.slice (some ⟨w.heap.size, 0, none⟩) l.length c) W ∧ BS W (some ⟨w.heap.size, 0, none⟩) l ∧ l.length ≤ c ∧ Fresh w W := by
  have h := run_bytes_of_string (P := Tryz.prog) w 9 23 5 (strB l) Tryz.underlying9 Tryz.underlying23 Tryz.underlying5
  rw [strB_size] at h
  have hge := grownCap_ge w l.length 0 5
  refine ⟨_, _, h, fun hn => ⟨_, 0, rfl, ?_, fun j hj => ?_⟩, hge, (Fresh.drew w).trans (Fresh.alloc _ _)⟩
  · show _ < (w.heap.push _).size
    rw [Array.size_push]; omega
  · generalize hz : ((bytesRow (strB l) (grownCap w l.length 0 5)).size, (bytesRow (strB l) (grownCap w l.length 0 5)).size + 1) = z
    have hh : (w.drew.alloc (.cells (bytesRow (strB l) (grownCap w l.length 0 5)) 5 z)).heap[w.heap.size]? = some (.cells (bytesRow (strB l) (grownCap w l.length 0 5)) 5 z) := by
      show (w.heap.push _)[w.heap.size]? = _
      simp
    rw [Nat.zero_add]
    simp only [World.cell?, hh]
    simp [bytesRow, strB, byteV, Array.getElem?_append, hj]
end Go.Proofs.YtapikjhfgcbifaaGreatDoor

/-
  Package encode: literal, Line.
-/
namespace Go.Proofs.YtapikjhfgcbifaaGreatDoor
set_option linter.unusedVariables false
set_option linter.unusedSimpArgs false
open Go.RowKit
/-- Bytes of which something is true, told in new memory, with no error. -/
def FormP (Q : List UInt8 → Prop) (w : World) (e : Ending) (w' : World) : Prop := ∃ (L : List UInt8) (A : Option Addr) (c : Nat), e = .returned (.tuple #[.slice A L.length c, .int .i64 0]) ∧ Q L ∧ Own w' w.heap.size 5 1 (.slice A L.length c) L.length (L.map byteV) ∧ Fresh w w'
set_option maxRecDepth 100000 in
set_option maxHeartbeats 3200000 in
theorem en_literal (n v : List UInt8) (m : Nat) (w : World) (hm : m < 2) (hn : n.length ≤ 4096) (hv : v.length ≤ 4096) :
    Calls Tryz.prog 55 #[.agg #[.string (strB n), .string (strB v)], .int .i64 (m : Int)] w (FormP (IsFormF n v m) w) := by
  have HNM := Lib.hid (fun W => st_name (strB n) W)
  have HE : Hid (∀ (i : Nat) W, i ≤ 61 → Calls Tryz.prog 56 #[.int .i64 (i : Int), .int .i64 4, .int .i64 (m : Int)] W (EncPost (encL i 4 m) W)) := Lib.hid (fun i W hi => enc_any i 4 m W (by omega) (by omega) (by omega) (by omega))
  have HSH : Hid (∀ (l : List UInt8) A c W, l.length ≤ 4096 → BS W A l → Calls Tryz.prog 79 #[.slice A l.length c] W (ShortP l W)) := Lib.hid (fun l A c W hl hb => lit_short A c l W hl hb)
  have HCN := Lib.hid (fun W => conv_bytes W n)
  have HCV := Lib.hid (fun W => conv_bytes W v)
  have HSN := Lib.hid hn
  have HSV := Lib.hid hv
  obtain ⟨SN, hSN⟩ : ∃ SN, strB n = SN := ⟨_, rfl⟩
  obtain ⟨SV, hSV⟩ : ∃ SV, strB v = SV := ⟨_, rfl⟩
  rw [hSN] at HCN HNM ⊢
  rw [hSV] at HCV ⊢
  have HN := Lib.hid hSN
  clear hSN hSV
  go_enter Tryz.func55, Tryz.ntmps55
  have hb0 := Blk.new w 29 #[.string SN, .string SV]
  have hc0 := hb0.cell 0
  simp only [List.getElem?_toArray, List.getElem?_cons_zero, List.getElem?_cons_succ] at hc0
  go_wp2_with fail
  with_reducible refine (HNM.out _).mono ?_
  rintro e w1 ⟨z, rfl, hz, hf1⟩
  obtain ⟨i, rfl, hi⟩ := FstIx.nat hz
  have HZ : Hid (FstIx (prN (strB n)) (i : Int)) := Lib.hid (by rw [HN.out]; exact hz)
  have HB1 := Lib.hid (hb0.fresh hf1)
  have HF1 := Lib.hid ((Fresh.alloc w (.cells #[.string SN, .string SV] 29)).trans hf1)
  clear hb0 hc0 hz hf1 HNM
  generalize hbx : w.heap.size = bx at HB1 ⊢
  clear hbx
  go_wp2_with fail
  with_reducible refine (HE.out i _ hi).mono ?_
  rintro e w2 ⟨A2, c2, rfl, ho2, hf2⟩
  have HO2 := Lib.hid ho2
  have HB2 := Lib.hid (HB1.out.fresh hf2)
  have HF2 := Lib.hid hf2
  have hxl := encL_length i 4 m (by omega)
  obtain ⟨X, hXX⟩ : ∃ X, encL i 4 m = X := ⟨_, rfl⟩
  have HXX := Lib.hid hXX
  rw [hXX] at HO2 hxl ⊢
  obtain ⟨x, hx⟩ : ∃ x, X.length = x := ⟨_, rfl⟩
  have HX := Lib.hid hx
  rw [hx] at HO2 hxl ⊢
  have hx1 : x ≤ 6 := hxl.2
  have HFP : Hid (∀ (L : List UInt8) (A : Option Addr) (c : Nat) (W : World), IsFormF n v m L → Own W w1.heap.size 5 1 (.slice A L.length c) L.length (L.map byteV) → Fresh w1 W → FormP (IsFormF n v m) w (.returned (.tuple #[.slice A L.length c, .int .i64 0])) W) := Lib.hid (fun L A c W h1 h2 h3 => ⟨L, A, c, rfl, h1, h2.base_le HF1.out.size, HF1.out.trans h3⟩)
  clear ho2 hf2 hx hxl hXX
  have c0 := HB2.out.cell 0
  have c1 := HB2.out.cell 1
  simp only [List.getElem?_toArray, List.getElem?_cons_zero, List.getElem?_cons_succ] at c0 c1
  have hsn := HSN.out
  have hsv := HSV.out
  by_cases hi0 : i = 0
  · subst hi0
    rw [show ((0 : Nat) : Int) = 0 from rfl]
    obtain ⟨cN, w3, hcv3, hb3, hcN, hf3⟩ := HCN.out w2
    go_wp2_with fail
    with_reducible refine (HSH.out n _ _ _ HSN.out hb3).mono ?_
    rintro e w4 ⟨Pn, A4, c4, rfl, hPn, ho4, hf4⟩
    have hpn := (litN_le n (decide (litN n true < litN n false)) (by omega)).2
    rw [← IsLit.len hPn] at hpn
    obtain ⟨y, hy⟩ : ∃ y, Pn.length = y := ⟨_, rfl⟩
    rw [hy] at hpn
    have hle4 : Pn.length ≤ c4 := by obtain ⟨_, _, e, h1, _⟩ := ho4.slice; cases e; exact h1
    obtain ⟨A5, c5, w5, hap5, ho5, hb5, _⟩ := Own.moreN (P := Tryz.prog) Tryz.underlying23 u8_infoH 23 ((HO2.out.fresh hf3).fresh hf4) ((HF2.out.trans hf3).trans hf4) (Nat.le_refl _) A4 c4 Pn y (x + y) hy rfl ho4.bytes.1 (by rw [← hy]; exact hle4) (by omega)
    have HO5 := Lib.hid ho5
    have HF5 : Hid (Fresh w1 w5) := Lib.hid hb5
    have HPN := Lib.hid hPn
    have HY := Lib.hid hy
    have HBS5 := Lib.hid (HB1.out.fresh HF5.out)
    have c51 := HBS5.out.cell 1
    simp only [List.getElem?_toArray, List.getElem?_cons_zero, List.getElem?_cons_succ] at c51
    obtain ⟨cV, w6, hcv6, hb6, hcV, hf6⟩ := HCV.out w5
    rw [hy]
    clear hPn ho4 hf4 ho5 hb5 hf3 hb3 hcv3 c0 c1
    go_wp2_with (at_builtin; refine wp_app rfl _ _ _ rfl hap5 rfl rfl rfl ?_)
    with_reducible refine (HSH.out v _ _ _ HSV.out hb6).mono ?_
    rintro e w7 ⟨Pv, A7, c7, rfl, hPv, ho7, hf7⟩
    have hpv := (litN_le v (decide (litN v true < litN v false)) (by omega)).2
    rw [← IsLit.len hPv] at hpv
    obtain ⟨u, hu⟩ : ∃ u, Pv.length = u := ⟨_, rfl⟩
    rw [hu] at hpv
    have hle7 : Pv.length ≤ c7 := by obtain ⟨_, _, e, h1, _⟩ := ho7.slice; cases e; exact h1
    obtain ⟨A8, c8, w8, hap8, ho8, hb8, _⟩ := Own.moreN (P := Tryz.prog) Tryz.underlying23 u8_infoH 23 ((HO5.out.fresh hf6).fresh hf7) ((HF5.out.trans hf6).trans hf7) (Nat.le_refl _) A7 c7 Pv u ((x + y + u)) hu rfl ho7.bytes.1 (by rw [← hu]; exact hle7) (by omega)
    have HFIN := Lib.hid (HFP.out ((X ++ Pn) ++ Pv) A8 c8 w8 ⟨0, by omega, HZ.out, Pn, Pv, HPN.out, hPv, by rw [if_pos rfl, HXX.out, List.append_assoc]⟩ (by
      have e : ((X ++ Pn) ++ Pv).length = (x + y + u) := by simp only [List.length_append, HX.out, HY.out, hu]
      rw [e]; exact ho8) hb8)
    rw [show ((X ++ Pn) ++ Pv).length = (x + y + u) by simp only [List.length_append, HX.out, HY.out, hu]] at HFIN
    rw [hu]
    clear hPv ho7 hf7 ho8 hb8 hf6 hb6 hcv6 HFP
    generalize FormP (IsFormF n v m) w = FP at *
    go_wp2_with (at_builtin; first | refine wp_app rfl _ _ _ rfl hap8 rfl rfl rfl ?_ | refine wp_app rfl _ _ _ rfl hap5 rfl rfl rfl ?_)
    exact HFIN.out
  · have hi0d : ((i : Int) == 0) = false := by simp; omega
    have hi0i : ¬ (i : Int) = 0 := by omega
    have HO5 := HO2
    have HF5 := HF2
    obtain ⟨cV, w6, hcv6, hb6, hcV, hf6⟩ := HCV.out w2
    go_wp2_with fail
    with_reducible refine (HSH.out v _ _ _ HSV.out hb6).mono ?_
    rintro e w7 ⟨Pv, A7, c7, rfl, hPv, ho7, hf7⟩
    have hpv := (litN_le v (decide (litN v true < litN v false)) (by omega)).2
    rw [← IsLit.len hPv] at hpv
    obtain ⟨u, hu⟩ : ∃ u, Pv.length = u := ⟨_, rfl⟩
    rw [hu] at hpv
    have hle7 : Pv.length ≤ c7 := by obtain ⟨_, _, e, h1, _⟩ := ho7.slice; cases e; exact h1
    obtain ⟨A8, c8, w8, hap8, ho8, hb8, _⟩ := Own.moreN (P := Tryz.prog) Tryz.underlying23 u8_infoH 23 ((HO5.out.fresh hf6).fresh hf7) ((HF5.out.trans hf6).trans hf7) (Nat.le_refl _) A7 c7 Pv u ((x + u)) hu rfl ho7.bytes.1 (by rw [← hu]; exact hle7) (by omega)
    have HFIN := Lib.hid (HFP.out (X ++ Pv) A8 c8 w8 (by
      obtain ⟨Pn, hPn⟩ := lit_ex n (decide (litN n true < litN n false))
      exact ⟨i, hi, HZ.out, Pn, Pv, hPn, hPv, by rw [if_neg hi0, HXX.out, List.nil_append]⟩) (by
      have e : (X ++ Pv).length = (x + u) := by simp only [List.length_append, HX.out, hu]
      rw [e]; exact ho8) hb8)
    rw [show (X ++ Pv).length = (x + u) by simp only [List.length_append, HX.out, hu]] at HFIN
    rw [hu]
    clear hPv ho7 hf7 ho8 hb8 hf6 hb6 hcv6 HFP
    generalize FormP (IsFormF n v m) w = FP at *
    go_wp2_with (at_builtin; refine wp_app rfl _ _ _ rfl hap8 rfl rfl rfl ?_)
    exact HFIN.out
end Go.Proofs.YtapikjhfgcbifaaGreatDoor

/-
  Package encode: Line.
-/
namespace Go.Proofs.YtapikjhfgcbifaaGreatDoor
set_option linter.unusedVariables false
set_option linter.unusedSimpArgs false
open Go.RowKit
def Ln.cells (x : Ln) : List Value := [.string (strB x.n), .string (strB x.v), .bool x.nv]
def Ln.val (x : Ln) : Value := .agg #[.string (strB x.n), .string (strB x.v), .bool x.nv]
/-- May a line's texts be? -/
def Ln.fits (x : Ln) : Bool := decide (x.n.length ≤ 4096) && decide (x.v.length ≤ 4096)
theorem FindP.ix {q : Fld} {w w' : World} {e : Ending} (h : FindP q w e w') : ∃ (z : Nat) (ex : Bool), z ≤ 61 ∧ FdIx q (z : Int) ex ∧ e = .returned (.tuple #[.int .i64 (z : Int), .bool ex]) ∧ Fresh w w' := by
  obtain ⟨z, ex, he, hix, hf⟩ := h
  have hix2 : FdIx q z ex := hix
  obtain ⟨i, rfl, hi⟩ := FdIx.nat hix2
  exact ⟨i, ex, hi, hix2, he, hf⟩
set_option maxRecDepth 100000 in
set_option maxHeartbeats 3200000 in
theorem en_line (x : Ln) (w : World) (hx : x.fits = true) :
    Calls Tryz.prog 39 #[x.val] w (FormP (IsLine x) w) := by
  obtain ⟨n, v, nv⟩ := x
  simp only [Ln.fits, Bool.and_eq_true, decide_eq_true_eq] at hx
  obtain ⟨hn, hv⟩ := hx
  have HFD := Lib.hid (fun W => st_find (strB n, strB v) W)
  have HLT : Hid (∀ (m : Nat) W, m < 2 → Calls Tryz.prog 55 #[.agg #[.string (strB n), .string (strB v)], .int .i64 (m : Int)] W (FormP (IsFormF n v m) W)) := Lib.hid (fun m W hm => en_literal n v m W hm hn hv)
  have HL0 : Hid (∀ W, Calls Tryz.prog 55 #[.agg #[.string (strB n), .string (strB v)], .int .i64 0] W (FormP (IsFormF n v 0) W)) := Lib.hid (fun W => HLT.out 0 W (by omega))
  have HL1 : Hid (∀ W, Calls Tryz.prog 55 #[.agg #[.string (strB n), .string (strB v)], .int .i64 1] W (FormP (IsFormF n v 1) W)) := Lib.hid (fun W => HLT.out 1 W (by omega))
  have HE : Hid (∀ (i : Nat) W, i ≤ 61 → Calls Tryz.prog 56 #[.int .i64 (i : Int), .int .i64 7, .int .i64 1] W (EncPost (encL i 7 1) W)) := Lib.hid (fun i W hi => enc_any i 7 1 W (by omega) (by omega) (by omega) (by omega))
  have hs1 : (strB n).size ≤ 4096 := by rw [strB_size]; exact hn
  have hs2 : (strB v).size ≤ 4096 := by rw [strB_size]; exact hv
  have HMK : Hid (∀ (z : Nat) (ex : Bool) (L : List UInt8), z ≤ 61 → FdIx (strB n, strB v) (z : Int) ex → (if nv then IsFormF n v 1 L else if ex then L = encL z 7 1 else IsFormF n v 0 L) → IsLine ⟨n, v, nv⟩ L) := Lib.hid (fun z ex L h1 h2 h3 => ⟨z, ex, h1, h2, h3⟩)
  have HFP : Hid (∀ (Q : List UInt8 → Prop) W, Fresh w W → (∀ L, Q L → IsLine ⟨n, v, nv⟩ L) → ∀ e W', FormP Q W e W' → ∃ (L : List UInt8) (A : Option Addr) (c : Nat), e = .returned (.tuple #[.slice A L.length c, .int .i64 0]) ∧ FormP (IsLine ⟨n, v, nv⟩) w (.returned (.tuple #[.slice A L.length c, .int .i64 0])) W') := Lib.hid (fun Q W hf hq e W' h => by
    obtain ⟨L, A, c, he, hL, ho, hf2⟩ := h
    exact ⟨L, A, c, he, L, A, c, rfl, hq L hL, ho.base_le hf.size, hf.trans hf2⟩)
  unfold Ln.val
  simp only
  generalize strB n = SN at *
  generalize strB v = SV at *
  clear HLT hn hv
  have hs1' : ¬ (4096 : Int) < (SN.size : Int) := by omega
  have hs2' : ¬ (4096 : Int) < (SV.size : Int) := by omega
  have hs1d : decide ((4096 : Int) < (SN.size : Int)) = false := by simpa using hs1'
  have hs2d : decide ((4096 : Int) < (SV.size : Int)) = false := by simpa using hs2'
  have hb0 := Blk.new w 38 #[.string SN, .string SV, .bool nv]
  obtain ⟨c0, c1, c2⟩ := hb0.c3
  have HF0 := Lib.hid (Fresh.alloc w (.cells #[.string SN, .string SV, .bool nv] 38))
  generalize FormP (IsLine ⟨n, v, nv⟩) w = FP at *
  go_enter Tryz.func39, Tryz.ntmps39
  go_wp2_with fail
  with_reducible refine (HFD.out _).mono ?_
  rintro e w1 he
  obtain ⟨z, ex, hz, hix, rfl, hf1⟩ := FindP.ix he
  have HF1 := Lib.hid (HF0.out.trans hf1)
  have HB1 := Lib.hid (hb0.fresh hf1)
  have HM1 := Lib.hid (fun L => HMK.out z ex L hz hix)
  obtain ⟨d0, d1, d2⟩ := HB1.out.c3
  clear he hf1 hix HMK HFD c0 c1 c2 hb0
  generalize hbx : w.heap.size = bx at d0 d1 d2 ⊢
  clear hbx
  cases nv with
  | true =>
    have HQ := Lib.hid (HFP.out (IsFormF n v 1) w1 HF1.out (fun L hL => HM1.out L (by rw [if_pos rfl]; exact hL)))
    go_wp2_with fail
    with_reducible refine (HL1.out _).mono ?_
    rintro e w2 he
    obtain ⟨L, A, c, rfl, hfin⟩ := HQ.out _ _ he
    have HFIN := Lib.hid hfin
    clear he hfin
    generalize L.length = m at *
    go_wp2
    exact HFIN.out
  | false =>
    cases ex with
    | true =>
      have HQ := Lib.hid (HFP.out (fun L => L = encL z 7 1) w1 HF1.out (fun L hL => HM1.out L (by simp [hL])))
      go_wp2_with fail
      with_reducible refine (HE.out z _ hz).mono ?_
      rintro e w2 ⟨A, c, rfl, ho, hf⟩
      obtain ⟨L, A', c', he', hfin⟩ := HQ.out _ w2 ⟨encL z 7 1, A, c, rfl, rfl, ho, hf⟩
      rw [← he'] at hfin
      have HFIN := Lib.hid hfin
      clear he' hfin ho hf
      generalize (encL z 7 1).length = m at *
      go_wp2
      exact HFIN.out
    | false =>
      have HQ := Lib.hid (HFP.out (IsFormF n v 0) w1 HF1.out (fun L hL => HM1.out L (by simpa using hL)))
      go_wp2_with fail
      with_reducible refine (HL0.out _).mono ?_
      rintro e w2 he
      obtain ⟨L, A, c, rfl, hfin⟩ := HQ.out _ _ he
      have HFIN := Lib.hid hfin
      clear he hfin
      generalize L.length = m at *
      go_wp2
      exact HFIN.out
set_option maxRecDepth 100000 in
set_option maxHeartbeats 3200000 in
theorem en_line_no (x : Ln) (w : World) (hx : x.fits = false) (h1 : x.n.length ≤ 9223372036854775807) (h2 : x.v.length ≤ 9223372036854775807) :
    Calls Tryz.prog 39 #[x.val] w fun e w' => e = .returned (.tuple #[.slice none 0 0, .int .i64 11]) ∧ Fresh w w' := by
  obtain ⟨n, v, nv⟩ := x
  have hs1 : (strB n).size = n.length := strB_size n
  have hs2 : (strB v).size = v.length := strB_size v
  unfold Ln.val
  simp only at *
  generalize strB n = SN at *
  generalize strB v = SV at *
  have hb0 := Blk.new w 38 #[.string SN, .string SV, .bool nv]
  obtain ⟨c0, c1, c2⟩ := hb0.c3
  have HF0 := Lib.hid (Fresh.alloc w (.cells #[.string SN, .string SV, .bool nv] 38))
  by_cases hn : 4096 < n.length
  · have hs1' : (4096 : Int) < (SN.size : Int) := by omega
    have hs1d : decide ((4096 : Int) < (SN.size : Int)) = true := by simpa using hs1'
    go_enter Tryz.func39, Tryz.ntmps39
    go_wp2
    go_ret2
    exact ⟨rfl, HF0.out⟩
  · have hv : 4096 < v.length := by
      simp only [Ln.fits, Bool.and_eq_false_iff, decide_eq_false_iff_not] at hx
      omega
    have hs1' : ¬ (4096 : Int) < (SN.size : Int) := by omega
    have hs1d : decide ((4096 : Int) < (SN.size : Int)) = false := by simpa using hs1'
    have hs2' : (4096 : Int) < (SV.size : Int) := by omega
    have hs2d : decide ((4096 : Int) < (SV.size : Int)) = true := by simpa using hs2'
    go_enter Tryz.func39, Tryz.ntmps39
    go_wp2
    go_ret2
    exact ⟨rfl, HF0.out⟩
end Go.Proofs.YtapikjhfgcbifaaGreatDoor

/-
  Package encode: Encode, Len.
-/
namespace Go.Proofs.YtapikjhfgcbifaaGreatDoor
set_option linter.unusedVariables false
set_option linter.unusedSimpArgs false
open Go.RowKit
theorem Many.at3 {w : World} {A : Option Addr} {xs : List Ln} (h : Many Ln.cells 3 w A xs) (k : Nat) (x : Ln) (hx : xs[k]? = some x) :
    ∃ b o, A = some ⟨b, o, none⟩ ∧ b < w.heap.size ∧ w.cell? ⟨b, o + k * 3, none⟩ = some (.string (strB x.n)) ∧ w.cell? ⟨b, o + k * 3 + 1, none⟩ = some (.string (strB x.v)) ∧ w.cell? ⟨b, o + k * 3 + 2, none⟩ = some (.bool x.nv) := by
  obtain ⟨hk, rfl⟩ := List.getElem?_eq_some_iff.1 hx
  obtain ⟨b, o, e, hb, hc⟩ := h (by omega)
  exact ⟨b, o, e, hb, hc k hk 0 (by omega), hc k hk 1 (by omega), hc k hk 2 (by omega)⟩
/-- The lines' forms one behind the other. -/
def RowE : List Ln → List UInt8 → Prop
  | [], F => F = []
  | x :: r, F => ∃ P F', IsLine x P ∧ RowE r F' ∧ F = P ++ F'
theorem RowE.snoc : ∀ {r : List Ln} {F P : List UInt8} {x : Ln}, RowE r F → IsLine x P → RowE (r ++ [x]) (F ++ P)
  | [], F, P, x, h, hp => by
    have h2 : F = [] := h
    subst h2
    exact ⟨P, [], hp, rfl, by simp⟩
  | y :: r, F, P, x, h, hp => by
    obtain ⟨Q, F', hq, hr, rfl⟩ := h
    exact ⟨Q, F' ++ P, hq, RowE.snoc hr hp, by rw [List.append_assoc]⟩
theorem RowE.uniq : ∀ {r : List Ln} {F G : List UInt8}, RowE r F → RowE r G → F = G
  | [], F, G, h, k => Eq.trans h (Eq.symm k)
  | x :: r, F, G, ⟨P, F', h1, h2, h3⟩, ⟨Q, G', k1, k2, k3⟩ => by rw [h3, k3, IsLine.uniq h1 k1, RowE.uniq h2 k2]
theorem IsFormF.len {n v : List UInt8} {m : Nat} {L : List UInt8} (h : IsFormF n v m L) (hn : n.length ≤ 4096) (hv : v.length ≤ 4096) : L.length ≤ 40000 := by
  obtain ⟨i, hi, _, Pn, Pv, h1, h2, rfl⟩ := h
  have e1 := (litN_le n (decide (litN n true < litN n false)) (by omega)).2
  have e2 := (litN_le v (decide (litN v true < litN v false)) (by omega)).2
  rw [← IsLit.len h1] at e1
  rw [← IsLit.len h2] at e2
  have e3 := encL_length i 4 m (by omega)
  by_cases h0 : i = 0
  · rw [if_pos h0, List.length_append, List.length_append]; omega
  · rw [if_neg h0, List.length_append, List.length_append]; simp; omega
theorem IsLine.len {x : Ln} {L : List UInt8} (h : IsLine x L) (hx : x.fits = true) : L.length ≤ 40000 := by
  obtain ⟨z, ex, hz, _, hl⟩ := h
  obtain ⟨n, v, nv⟩ := x
  simp only [Ln.fits, Bool.and_eq_true, decide_eq_true_eq] at hx
  cases nv with
  | true => exact IsFormF.len (show IsFormF n v 1 L from hl) hx.1 hx.2
  | false =>
    cases ex with
    | true =>
      have h2 : L = encL z 7 1 := hl
      rw [h2]
      have := encL_length z 7 1 (by omega)
      omega
    | false => exact IsFormF.len (show IsFormF n v 0 L from hl) hx.1 hx.2
def EncRP (xs : List Ln) (w : World) (e : Ending) (w' : World) : Prop := ((∀ x ∈ xs, x.fits = true) ∧ FormP (RowE xs) w e w') ∨ ((∃ x ∈ xs, x.fits = false) ∧ e = .returned (.tuple #[.slice none 0 0, .int .i64 11]) ∧ Fresh w w')
set_option maxRecDepth 100000 in
set_option maxHeartbeats 6400000 in
theorem en_encode (A : Option Addr) (c : Nat) (xs : List Ln) (w : World) (hm : Many Ln.cells 3 w A xs) (hn : xs.length ≤ 1000) (hsz : ∀ x ∈ xs, x.n.length ≤ 9223372036854775807 ∧ x.v.length ≤ 9223372036854775807) :
    Calls Tryz.prog 17 #[.slice A xs.length c] w (EncRP xs w) := by
  have HMY := Lib.hid hm
  have HSZ := Lib.hid hsz
  obtain ⟨n, hxn⟩ : ∃ n, xs.length = n := ⟨_, rfl⟩
  have HN := Lib.hid hxn
  rw [hxn] at hn ⊢
  clear hm hsz hxn
  have HYES : Hid (∀ (F : List UInt8) (A : Option Addr) (c : Nat) (W : World), (∀ x ∈ xs, x.fits = true) → RowE xs F → Own W w.heap.size 5 1 (.slice A F.length c) F.length (F.map byteV) → Fresh w W → EncRP xs w (.returned (.tuple #[.slice A F.length c, .int .i64 0])) W) := Lib.hid (fun F A c W h0 h1 h2 h3 => .inl ⟨h0, F, A, c, rfl, h1, h2, h3⟩)
  have HNO : Hid (∀ (W : World), (∃ x ∈ xs, x.fits = false) → Fresh w W → EncRP xs w (.returned (.tuple #[.slice none 0 0, .int .i64 11])) W) := Lib.hid (fun W h1 h2 => .inr ⟨h1, rfl, h2⟩)
  generalize EncRP xs w = EP at *
  go_enter Tryz.func17, Tryz.ntmps17
  go_wp2
  go_loopw [4, 11] (fun all i wr => ∃ (k : Nat) (F : List UInt8), k ≤ n ∧ i = .int .i64 (k : Int) ∧ F.length ≤ 40000 * k ∧ Own wr w.heap.size 5 1 all F.length (F.map byteV) ∧ RowE (xs.take k) F ∧ (∀ j (hj : j < xs.length), j < k → (xs[j]).fits = true) ∧ Fresh w wr) (fun _ i _ => n - (intOf i).toNat)
  case atStart => exact ⟨0, [], by omega, rfl, by simp, Own.nil _ _ _ _, by rw [List.take_zero]; rfl, fun j _ h => by omega, Fresh.refl _⟩
  case round =>
    obtain ⟨k, F, hk, rfl, hFl, hown, hrow, hsm, hf⟩ := hrel
    have HOWN := Lib.hid hown
    have HROW := Lib.hid hrow
    have HSM := Lib.hid hsm
    have HF := Lib.hid hf
    obtain ⟨A0, c0, rfl, _, _, _⟩ := hown.slice
    clear hown hrow hsm hf
    by_cases hlt : k < n
    · have hlt' : (k : Int) < (n : Int) := by omega
      have h0 : (0 : Int) ≤ (k : Int) := by omega
      have hkx : k < xs.length := by rw [HN.out]; exact hlt
      have HXM : Hid (xs[k] ∈ xs) := Lib.hid (List.getElem_mem hkx)
      obtain ⟨bq, o, rfl, hbq, hc0, hc1, hc2⟩ := HMY.out.at3 k xs[k] (List.getElem?_eq_getElem hkx)
      have e0 := (HF.out.cell (p := ⟨bq, o + k * 3, none⟩) hbq).trans hc0
      have e1 := (HF.out.cell (p := ⟨bq, o + k * 3 + 1, none⟩) hbq).trans hc1
      have e2 := (HF.out.cell (p := ⟨bq, o + k * 3 + 2, none⟩) hbq).trans hc2
      have HXK : Hid ((xs[k]).fits = true → ∀ j (hj : j < xs.length), j < k + 1 → (xs[j]).fits = true) := Lib.hid (fun hb j hj h => by
        by_cases e : j = k
        · subst e; exact hb
        · exact HSM.out j hj (by omega))
      have HTK : Hid (xs.take (k + 1) = xs.take k ++ [xs[k]]) := Lib.hid (List.take_succ_eq_append_getElem hkx)
      have hxz := HSZ.out _ HXM.out
      generalize xs[k] = x at *
      clear hc0 hc1 hc2
      have HLY := Lib.hid (fun W (h : x.fits = true) => en_line x W h)
      have HLN := Lib.hid (fun W (h : x.fits = false) => en_line_no x W h hxz.1 hxz.2)
      obtain ⟨xn, xv, xb⟩ := x
      unfold Ln.val at HLY HLN
      simp only at HLY HLN e0 e1 e2
      clear hxz
      cases hfit : Ln.fits ⟨xn, xv, xb⟩ with
      | true =>
        have HLY2 := Lib.hid (fun W => HLY.out W hfit)
        have HXK2 := Lib.hid (HXK.out hfit)
        have HFIT := Lib.hid hfit
        clear hfit HLY HLN HXK
        generalize strB xn = SN at *
        generalize strB xv = SV at *
        go_wp2_with fail
        with_reducible refine (HLY2.out _).mono ?_
        rintro e w2 ⟨P, A2, c2, rfl, hP, hown2, hf2⟩
        have hpl := hP.len HFIT.out
        have HF2 := Lib.hid (HF.out.trans (Fresh.tA hf2))
        have HO2 := Lib.hid (HOWN.out.fresh (Fresh.tA hf2))
        obtain ⟨z, hz⟩ : ∃ z, P.length = z := ⟨_, rfl⟩
        have hle2 : P.length ≤ c2 := by obtain ⟨_, _, e, h1, _⟩ := hown2.slice; cases e; exact h1
        obtain ⟨A3, c3, w3, hap, ho3, hb3, _⟩ := Own.moreN (P := Tryz.prog) Tryz.underlying23 u8_infoH 23 HO2.out HF2.out (Nat.le_refl _) A2 c2 P z (F ++ P).length hz (by rw [List.length_append, hz]) hown2.bytes.1 (by rw [← hz]; exact hle2) (by rw [List.length_append]; omega)
        have HREL : Hid ((F ++ P).length ≤ 40000 * (k + 1) ∧ Own w3 w.heap.size 5 1 (.slice A3 (F ++ P).length c3) (F ++ P).length ((F ++ P).map byteV) ∧ RowE (xs.take (k + 1)) (F ++ P) ∧ Fresh w w3) := Lib.hid ⟨by rw [List.length_append]; omega, ho3, by rw [HTK.out]; exact HROW.out.snoc hP, hb3⟩
        rw [hz]
        clear hP hown2 hf2 ho3 hb3 hz e0 e1 e2 hpl hle2
        obtain ⟨r, hr⟩ : ∃ r, (F ++ P).length = r := ⟨_, rfl⟩
        have HR := Lib.hid hr
        rw [hr] at hap HREL
        clear hr
        go_wp2_with (at_builtin; refine wp_app rfl _ _ _ rfl hap rfl rfl rfl ?_)
        go_roundw
        case rel => exact ⟨k + 1, F ++ P, by omega, by go_num, by rw [HR.out]; exact HREL.out.1, by rw [HR.out]; exact HREL.out.2.1, HREL.out.2.2.1, HXK2.out, HREL.out.2.2.2⟩
        case measure => simp [intOf]; omega
      | false =>
        have HLN2 := Lib.hid (fun W => HLN.out W hfit)
        have HNO2 := Lib.hid (fun W => HNO.out W ⟨_, HXM.out, hfit⟩)
        clear hfit HLY HLN HXK
        generalize strB xn = SN at *
        generalize strB xv = SV at *
        go_wp2_with fail
        with_reducible refine (HLN2.out _).mono ?_
        rintro e w2 ⟨rfl, hf2⟩
        have HFIN := Lib.hid (HNO2.out _ (HF.out.trans (Fresh.tA hf2)))
        clear hf2
        go_wp2
        exact HFIN.out
    · have hlt' : ¬ (k : Int) < (n : Int) := by omega
      obtain rfl : k = n := by omega
      have hrow := HROW.out
      rw [List.take_of_length_le (by rw [HN.out]; exact Nat.le_refl _)] at hrow
      have HFIN := Lib.hid (HYES.out F A0 c0 _ (fun x hx => by
        obtain ⟨j, hj, rfl⟩ := List.getElem_of_mem hx
        exact HSM.out j hj (by rw [← HN.out]; exact hj)) hrow HOWN.out HF.out)
      clear hrow
      generalize F.length = m at *
      go_wp2
      exact HFIN.out
-- How many bytes the lines have.
end Go.Proofs.YtapikjhfgcbifaaGreatDoor

/-
  The document's answers for layer 8.
-/
namespace Go.Proofs.YtapikjhfgcbifaaGreatDoor
set_option linter.unusedVariables false
set_option linter.unusedSimpArgs false
open Go.RowKit
end Go.Proofs.YtapikjhfgcbifaaGreatDoor

