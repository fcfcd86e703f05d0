/-
  The laws of layer 22: their fixed answer.
-/
import Derived.Test.YtapikjhfgcbifaaGreatDoorReqG
namespace Go.Proofs.YtapikjhfgcbifaaGreatDoor
set_option maxRecDepth 100000
set_option linter.unusedVariables false
set_option linter.unusedSimpArgs false
open Go.RowKit
def gR : RqV := ⟨⟨#[71, 69, 84]⟩, ⟨#[104, 116, 116, 112]⟩, ⟨#[47]⟩, ⟨#[]⟩, none, 0, [], none, 0, []⟩
def lR : RqV := ⟨⟨#[103, 101, 116]⟩, ⟨#[104, 116, 116, 112]⟩, ⟨#[47]⟩, ⟨#[]⟩, none, 0, [], none, 0, []⟩
def rR0 : LnD := ((⟨#[58, 115, 116, 97, 116, 117, 115]⟩, ⟨#[50, 48, 52]⟩), false)
def rR1 : LnD := ((⟨#[97]⟩, ⟨#[98]⟩), false)
def gxs : List LnD := [((mthN, gR.m), false), ((schN, gR.s), false), ((pthN, gR.p), false)]
theorem g_lin : linesR gR.m gR.s gR.p gR.a gR.fs = (0, gxs) := by
  unfold linesR rightR schB
  simp only [Lib.toList_data]
  rw [if_neg (by decide +kernel), if_neg (by simp [gR, clnR])]
  simp [gR, clnR, gxs, baseR, autL]
theorem l_lin : linesR lR.m lR.s lR.p lR.a lR.fs = (31, []) := by
  unfold linesR rightR schB
  simp only [Lib.toList_data]
  rw [if_pos (by decide +kernel)]
def gF : List UInt8 := [130, 134, 132]
theorem g_x0 : IsLine (lnE ((mthN, gR.m), false)) [130] := ⟨2, true, by omega, .inl ⟨1, by omega, rfl, rfl, by (simp only [prF, eqD_eq]; decide +kernel), by (simp only [prF, eqD_eq]; decide +kernel)⟩, (show ([130] : List UInt8) = encL 2 7 1 from by kernel_rfl)⟩
theorem g_x1 : IsLine (lnE ((schN, gR.s), false)) [134] := ⟨6, true, by omega, .inl ⟨5, by omega, rfl, rfl, by (simp only [prF, eqD_eq]; decide +kernel), by (simp only [prF, eqD_eq]; decide +kernel)⟩, (show ([134] : List UInt8) = encL 6 7 1 from by kernel_rfl)⟩
theorem g_x2 : IsLine (lnE ((pthN, gR.p), false)) [132] := ⟨4, true, by omega, .inl ⟨3, by omega, rfl, rfl, by (simp only [prF, eqD_eq]; decide +kernel), by (simp only [prF, eqD_eq]; decide +kernel)⟩, (show ([132] : List UInt8) = encL 4 7 1 from by kernel_rfl)⟩
theorem g_row : RowE (gxs.map lnE) gF := ⟨[130], [134, 132], g_x0, ⟨[134], [132], g_x1, ⟨[132], [], g_x2, rfl, rfl⟩, rfl⟩, rfl⟩
theorem g_fit : ∀ x ∈ gxs.map lnE, x.fits = true := by decide +kernel
theorem r_rsp : rspE [rR0, rR1] = 0 := by
  show (if rR0.1.1.data.toList ≠ stsL then 32 else if psB [rR1] = true then 32 else if stN rR0.1.2.data.toList = 0 then 31 else chkR [rR1]) = 0
  rw [if_neg (by decide +kernel), if_neg (by decide +kernel), if_neg (by decide +kernel)]
  unfold chkR wrongC hopB chkR
  simp only [Lib.toList_data]
  decide +kernel
theorem r_st : stN rR0.1.2.data.toList = 204 := by decide +kernel
theorem many_ln2 {w : World} {b : Nat} {t : TypeId} {x y : LnD} (h : Blk w b t #[.string x.1.1, .string x.1.2, .bool x.2, .string y.1.1, .string y.1.2, .bool y.2]) : Many lnD 3 w (some ⟨b, 0, none⟩) [x, y] := fun _ => by
  refine ⟨b, 0, rfl, h.lt, fun i hi j hj => ?_⟩
  rw [Nat.zero_add, h.cell]
  have hi2 : i < 2 := hi
  match i, j, hi2, hj with
  | 0, 0, _, _ => rfl
  | 0, 1, _, _ => rfl
  | 0, 2, _, _ => rfl
  | 1, 0, _, _ => rfl
  | 1, 1, _, _ => rfl
  | 1, 2, _, _ => rfl
theorem a22_block (w : World) : Calls Tryz.prog 16 #[.agg #[.string ⟨#[71, 69, 84]⟩, .string ⟨#[104, 116, 116, 112]⟩, .string ⟨#[47]⟩, .string ⟨#[]⟩, .slice none 0 0, .slice none 0 0], .int .i64 100] w fun e w' => ∃ (A : Option Addr) (c : Nat), e = .returned (.tuple #[.slice A 3 c, .int .i64 0]) ∧ BS w' A gF ∧ 3 ≤ c ∧ c ≤ maxLen ∧ Fresh w w' := by
  refine (show Calls Tryz.prog 16 #[.agg gR.arr, .int .i64 100] w (BlkQ gR 100 w) from rq_block gR 100 w (Many.nil _ _ _ _) (by decide) (by intro f hf; cases hf) (by decide)).mono ?_
  rintro e w' (⟨n, h0, h1, _⟩ | ⟨xs, F, A, c, h1, h2, h3, h4, rfl, h5, hf⟩ | ⟨xs, h1, h2, _⟩)
  · rw [g_lin] at h1
    exact absurd h1.symm h0
  · rw [g_lin] at h1
    cases h1
    have hF : gF = F := RowE.uniq g_row h3
    subst hF
    refine ⟨A, c, rfl, h5.bytes.1, ?_, ?_, hf⟩
    · obtain ⟨_, _, e, h1, _⟩ := h5.slice; cases e; exact h1
    · obtain ⟨_, _, e, h1, h2, _⟩ := h5.slice; cases e; exact h2
  · rw [g_lin] at h1
    cases h1
    exfalso
    rcases h2 with ⟨x, hx, hn⟩ | ⟨F, _, h3, h4⟩
    · rw [g_fit x hx] at hn
      cases hn
    · have hF : gF = F := RowE.uniq g_row h3
      subst hF
      have : gF.length = 3 := rfl
      omega
theorem a22_lines (w : World) : Calls Tryz.prog 11 #[.agg #[.string ⟨#[103, 101, 116]⟩, .string ⟨#[104, 116, 116, 112]⟩, .string ⟨#[47]⟩, .string ⟨#[]⟩, .slice none 0 0, .slice none 0 0]] w fun e w' => ∃ v : Value, e = .returned (.tuple #[v, .int .i64 31]) ∧ Fresh w w' := by
  refine (show Calls Tryz.prog 11 #[.agg lR.arr] w (LinP lR w) from rq_lines lR w (Many.nil _ _ _ _) (by decide) (by intro f hf; cases hf) (by decide)).mono ?_
  rintro e w' ⟨n, A, xs, c, h1, rfl, _, hf⟩
  rw [l_lin] at h1
  cases h1
  exact ⟨_, rfl, hf⟩
theorem a22_resp (w : World) (b : Nat) (hb : Blk w b 38 #[.string rR0.1.1, .string rR0.1.2, .bool rR0.2, .string rR1.1.1, .string rR1.1.2, .bool rR1.2]) : Calls Tryz.prog 24 #[.slice (some ⟨b, 0, none⟩) 2 2] w fun e w' => ∃ A : Option Addr, e = .returned (.tuple #[.agg #[.int .i64 204, .slice A 1 1], .int .i64 0]) ∧ Fresh w w' := by
  refine (rq_response (some ⟨b, 0, none⟩) 2 [rR0, rR1] w (many_ln2 hb) (by decide) (by decide) (by decide) (by decide)).mono ?_
  rintro e w' ⟨n, m, A, k, rfl, hn, h1, _, hf⟩
  rw [r_rsp] at hn
  subst hn
  obtain ⟨x, t, hx, rfl, _, rfl, _⟩ := h1 rfl
  cases hx
  rw [r_st]
  exact ⟨A, rfl, hf⟩
theorem a22_none (w : World) : Calls Tryz.prog 24 #[.slice none 0 0] w fun e w' => e = .returned (.tuple #[.agg #[.int .i64 0, .slice none 0 0], .int .i64 32]) ∧ Fresh w w' := by
  refine (rq_response none 0 [] w (Many.nil _ _ _ _) (by decide) (by decide) (by decide) (by intro x hx; cases hx)).mono ?_
  rintro e w' ⟨n, m, A, k, rfl, hn, _, h1, hf⟩
  have hn2 : n = 32 := hn
  subst hn2
  obtain ⟨rfl, rfl, rfl⟩ := h1 (by omega)
  exact ⟨rfl, hf⟩
set_option maxHeartbeats 6400000 in
theorem a22 (w : World) : Calls Tryz.prog 10 #[] w fun e w' => e = .returned (.bool true) ∧ Fresh w w' := by
  have H1 := Lib.hid a22_block
  have H2 := Lib.hid a22_lines
  have H3 : Hid (∀ w : World, Calls Tryz.prog 24 #[.slice (some ⟨w.heap.size, 0, none⟩) 2 2] (w.alloc (.cells #[.string ⟨#[58, 115, 116, 97, 116, 117, 115]⟩, .string ⟨#[50, 48, 52]⟩, .bool false, .string ⟨#[97]⟩, .string ⟨#[98]⟩, .bool false] 38)) fun e w' => ∃ A : Option Addr, e = .returned (.tuple #[.agg #[.int .i64 204, .slice A 1 1], .int .i64 0]) ∧ Fresh w w') := Lib.hid (fun w => (a22_resp _ _ (Blk.new w _ _)).mono (fun e w' ⟨A, h1, h2⟩ => ⟨A, h1, Fresh.tA h2⟩))
  have H4 := Lib.hid a22_none
  have H5 := Lib.hid rq_interim
  go_enter Tryz.func10, Tryz.ntmps10
  go_wp2_with fail
  with_reducible refine (H1.out _).mono ?_
  rintro e w1 ⟨A1, c1, rfl, hb1, hc1, hc2, hf1⟩
  have HB1 := Lib.hid hb1
  have HF1 := Lib.hid hf1
  clear hb1 hf1
  go_wp2_with fail
  with_reducible refine (H2.out _).mono ?_
  rintro e w2 ⟨v2, rfl, hf2⟩
  have HB2 := Lib.hid (HB1.out.fresh hf2)
  have HF2 := Lib.hid (HF1.out.trans hf2)
  clear hf2
  go_wp2_with fail
  with_reducible refine (H3.out _).mono ?_
  rintro e w3 ⟨A3, rfl, hf3⟩
  have HB3 := Lib.hid (HB2.out.fresh hf3)
  have HF3 := Lib.hid (HF2.out.trans hf3)
  clear hf3
  go_upto_region 4 with fail
  refine wp_gen (fun W => Blk W w3.heap.size 53 #[.int .i64 204, .slice A3 1 1] ∧ Fresh w3 W) ⟨Blk.new w3 _ _, Fresh.alloc _ _⟩ ?_
  rintro W3 ⟨hbw, hfw⟩
  obtain ⟨p, hp⟩ : ∃ p, w3.heap.size = p := ⟨_, rfl⟩
  rw [hp] at hbw ⊢
  clear hp
  have HBW := Lib.hid hbw
  have HB4 := Lib.hid (HB3.out.fresh hfw)
  have HF4 := Lib.hid (HF3.out.trans hfw)
  clear hbw hfw
  go_wp2_with fail
  with_reducible refine (H4.out _).mono ?_
  rintro e w5 ⟨rfl, hf5⟩
  go_upto_region 5 with fail
  refine wp_gen (fun W => Fresh W3 W) (by first | exact hf5.trans (Fresh.alloc _ _) | exact hf5) ?_
  rintro W5 hf6
  obtain ⟨g0, g1⟩ := (HBW.out.fresh hf6).c2
  have HF6 := Lib.hid (HF4.out.trans hf6)
  have hcv := run_str (P := Tryz.prog) (HB4.out.fresh hf6) 23 9 5 Tryz.underlying23 Tryz.underlying5 Tryz.underlying9 c1
  rw [show gF.length = 3 from rfl, show strB gF = { data := #[130, 134, 132] } from rfl] at hcv
  clear hf5 hf6
  go_wp2_with fail
  with_reducible refine (H5.out _ _ _).mono ?_
  rintro e w7 ⟨rfl, hf7⟩
  have HF7 := Lib.hid (HF6.out.trans hf7)
  clear hf7
  go_wp2_with fail
  go_ret
  exact ⟨rfl, HF7.out⟩
end Go.Proofs.YtapikjhfgcbifaaGreatDoor

