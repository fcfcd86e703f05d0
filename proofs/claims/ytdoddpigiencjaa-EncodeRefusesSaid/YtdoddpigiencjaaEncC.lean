/-
  Package encode: Line.
-/
import Derived.Test.YtdoddpigiencjaaEncB
namespace Go.Proofs.Ytdoddpigiencjaa
set_option linter.unusedVariables false
set_option linter.unusedSimpArgs false
open Go.RowKit
def Ln.cells (x : Ln) : List Value := [.string (strB x.n), .string (strB x.v), .bool x.nv]
def Ln.val (x : Ln) : Value := .agg #[.string (strB x.n), .string (strB x.v), .bool x.nv]
/-- May a line's texts be? -/
def Ln.fits (x : Ln) : Bool := decide (x.n.length ≤ 4096) && decide (x.v.length ≤ 4096)
theorem FindP.ix {q : Fld} {w w' : World} {e : Ending} (h : FindP q w e w') : ∃ (z : Nat) (ex : Bool), z ≤ 61 ∧ FdIx q (z : Int) ex ∧ e = .returned (.tuple #[.int .i64 (z : Int), .bool ex]) ∧ Fresh w w' := by
  obtain ⟨z, ex, he, hix, hf⟩ := h
  have hix2 : FdIx q z ex := hix
  obtain ⟨i, rfl, hi⟩ := FdIx.nat hix2
  exact ⟨i, ex, hi, hix2, he, hf⟩
set_option maxRecDepth 100000 in
set_option maxHeartbeats 3200000 in
theorem en_line (x : Ln) (w : World) (hx : x.fits = true) :
    Calls Try.prog 10 #[x.val] w (FormP (IsLine x) w) := by
  obtain ⟨n, v, nv⟩ := x
  simp only [Ln.fits, Bool.and_eq_true, decide_eq_true_eq] at hx
  obtain ⟨hn, hv⟩ := hx
  have HFD := Lib.hid (fun W => st_find (strB n, strB v) W)
  have HLT : Hid (∀ (m : Nat) W, m < 2 → Calls Try.prog 25 #[.agg #[.string (strB n), .string (strB v)], .int .i64 (m : Int)] W (FormP (IsFormF n v m) W)) := Lib.hid (fun m W hm => en_literal n v m W hm hn hv)
  have HL0 : Hid (∀ W, Calls Try.prog 25 #[.agg #[.string (strB n), .string (strB v)], .int .i64 0] W (FormP (IsFormF n v 0) W)) := Lib.hid (fun W => HLT.out 0 W (by omega))
  have HL1 : Hid (∀ W, Calls Try.prog 25 #[.agg #[.string (strB n), .string (strB v)], .int .i64 1] W (FormP (IsFormF n v 1) W)) := Lib.hid (fun W => HLT.out 1 W (by omega))
  have HE : Hid (∀ (i : Nat) W, i ≤ 61 → Calls Try.prog 26 #[.int .i64 (i : Int), .int .i64 7, .int .i64 1] W (EncPost (encL i 7 1) W)) := Lib.hid (fun i W hi => enc_any i 7 1 W (by omega) (by omega) (by omega) (by omega))
  have hs1 : (strB n).size ≤ 4096 := by rw [strB_size]; exact hn
  have hs2 : (strB v).size ≤ 4096 := by rw [strB_size]; exact hv
  have HMK : Hid (∀ (z : Nat) (ex : Bool) (L : List UInt8), z ≤ 61 → FdIx (strB n, strB v) (z : Int) ex → (if nv then IsFormF n v 1 L else if ex then L = encL z 7 1 else IsFormF n v 0 L) → IsLine ⟨n, v, nv⟩ L) := Lib.hid (fun z ex L h1 h2 h3 => ⟨z, ex, h1, h2, h3⟩)
  have HFP : Hid (∀ (Q : List UInt8 → Prop) W, Fresh w W → (∀ L, Q L → IsLine ⟨n, v, nv⟩ L) → ∀ e W', FormP Q W e W' → ∃ (L : List UInt8) (A : Option Addr) (c : Nat), e = .returned (.tuple #[.slice A L.length c, .int .i64 0]) ∧ FormP (IsLine ⟨n, v, nv⟩) w (.returned (.tuple #[.slice A L.length c, .int .i64 0])) W') := Lib.hid (fun Q W hf hq e W' h => by
    obtain ⟨L, A, c, he, hL, ho, hf2⟩ := h
    exact ⟨L, A, c, he, L, A, c, rfl, hq L hL, ho.base_le hf.size, hf.trans hf2⟩)
  unfold Ln.val
  simp only
  generalize strB n = SN at *
  generalize strB v = SV at *
  clear HLT hn hv
  have hs1' : ¬ (4096 : Int) < (SN.size : Int) := by omega
  have hs2' : ¬ (4096 : Int) < (SV.size : Int) := by omega
  have hs1d : decide ((4096 : Int) < (SN.size : Int)) = false := by simpa using hs1'
  have hs2d : decide ((4096 : Int) < (SV.size : Int)) = false := by simpa using hs2'
  have hb0 := Blk.new w 28 #[.string SN, .string SV, .bool nv]
  obtain ⟨c0, c1, c2⟩ := hb0.c3
  have HF0 := Lib.hid (Fresh.alloc w (.cells #[.string SN, .string SV, .bool nv] 28))
  generalize FormP (IsLine ⟨n, v, nv⟩) w = FP at *
  go_enter Try.func10, Try.ntmps10
  go_wp2_with fail
  with_reducible refine (HFD.out _).mono ?_
  rintro e w1 he
  obtain ⟨z, ex, hz, hix, rfl, hf1⟩ := FindP.ix he
  have HF1 := Lib.hid (HF0.out.trans hf1)
  have HB1 := Lib.hid (hb0.fresh hf1)
  have HM1 := Lib.hid (fun L => HMK.out z ex L hz hix)
  obtain ⟨d0, d1, d2⟩ := HB1.out.c3
  clear he hf1 hix HMK HFD c0 c1 c2 hb0
  generalize hbx : w.heap.size = bx at d0 d1 d2 ⊢
  clear hbx
  cases nv with
  | true =>
    have HQ := Lib.hid (HFP.out (IsFormF n v 1) w1 HF1.out (fun L hL => HM1.out L (by rw [if_pos rfl]; exact hL)))
    go_wp2_with fail
    with_reducible refine (HL1.out _).mono ?_
    rintro e w2 he
    obtain ⟨L, A, c, rfl, hfin⟩ := HQ.out _ _ he
    have HFIN := Lib.hid hfin
    clear he hfin
    generalize L.length = m at *
    go_wp2
    exact HFIN.out
  | false =>
    cases ex with
    | true =>
      have HQ := Lib.hid (HFP.out (fun L => L = encL z 7 1) w1 HF1.out (fun L hL => HM1.out L (by simp [hL])))
      go_wp2_with fail
      with_reducible refine (HE.out z _ hz).mono ?_
      rintro e w2 ⟨A, c, rfl, ho, hf⟩
      obtain ⟨L, A', c', he', hfin⟩ := HQ.out _ w2 ⟨encL z 7 1, A, c, rfl, rfl, ho, hf⟩
      rw [← he'] at hfin
      have HFIN := Lib.hid hfin
      clear he' hfin ho hf
      generalize (encL z 7 1).length = m at *
      go_wp2
      exact HFIN.out
    | false =>
      have HQ := Lib.hid (HFP.out (IsFormF n v 0) w1 HF1.out (fun L hL => HM1.out L (by simpa using hL)))
      go_wp2_with fail
      with_reducible refine (HL0.out _).mono ?_
      rintro e w2 he
      obtain ⟨L, A, c, rfl, hfin⟩ := HQ.out _ _ he
      have HFIN := Lib.hid hfin
      clear he hfin
      generalize L.length = m at *
      go_wp2
      exact HFIN.out
set_option maxRecDepth 100000 in
set_option maxHeartbeats 3200000 in
theorem en_line_no (x : Ln) (w : World) (hx : x.fits = false) (h1 : x.n.length ≤ 9223372036854775807) (h2 : x.v.length ≤ 9223372036854775807) :
    Calls Try.prog 10 #[x.val] w fun e w' => e = .returned (.tuple #[.slice none 0 0, .int .i64 11]) ∧ Fresh w w' := by
  obtain ⟨n, v, nv⟩ := x
  have hs1 : (strB n).size = n.length := strB_size n
  have hs2 : (strB v).size = v.length := strB_size v
  unfold Ln.val
  simp only at *
  generalize strB n = SN at *
  generalize strB v = SV at *
  have hb0 := Blk.new w 28 #[.string SN, .string SV, .bool nv]
  obtain ⟨c0, c1, c2⟩ := hb0.c3
  have HF0 := Lib.hid (Fresh.alloc w (.cells #[.string SN, .string SV, .bool nv] 28))
  by_cases hn : 4096 < n.length
  · have hs1' : (4096 : Int) < (SN.size : Int) := by omega
    have hs1d : decide ((4096 : Int) < (SN.size : Int)) = true := by simpa using hs1'
    go_enter Try.func10, Try.ntmps10
    go_wp2
    go_ret2
    exact ⟨rfl, HF0.out⟩
  · have hv : 4096 < v.length := by
      simp only [Ln.fits, Bool.and_eq_false_iff, decide_eq_false_iff_not] at hx
      omega
    have hs1' : ¬ (4096 : Int) < (SN.size : Int) := by omega
    have hs1d : decide ((4096 : Int) < (SN.size : Int)) = false := by simpa using hs1'
    have hs2' : (4096 : Int) < (SV.size : Int) := by omega
    have hs2d : decide ((4096 : Int) < (SV.size : Int)) = true := by simpa using hs2'
    go_enter Try.func10, Try.ntmps10
    go_wp2
    go_ret2
    exact ⟨rfl, HF0.out⟩
end Go.Proofs.Ytdoddpigiencjaa

