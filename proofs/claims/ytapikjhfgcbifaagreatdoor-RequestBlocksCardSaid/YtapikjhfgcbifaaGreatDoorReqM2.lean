/-
  Texts laid together: ReqG ReqH.
-/
import Derived.Test.YtapikjhfgcbifaaGreatDoorReqD
import Derived.Test.YtapikjhfgcbifaaGreatDoorReqM1
import Derived.Test.YtapikjhfgcbifaaGreatDoorEncN
/-
  Package request: Block; the laws' fixed answer.
-/
namespace Go.Proofs.YtapikjhfgcbifaaGreatDoor
set_option maxRecDepth 100000
set_option linter.unusedVariables false
set_option linter.unusedSimpArgs false
open Go.RowKit
def lnE (x : LnD) : Ln := ⟨x.1.1.data.toList, x.1.2.data.toList, x.2⟩
theorem many_lnE {w : World} {A : Option Addr} {xs : List LnD} (h : Many lnD 3 w A xs) : Many Ln.cells 3 w A (xs.map lnE) := fun hn => by
  obtain ⟨b, o, e, hb, hc⟩ := h (by simpa using hn)
  refine ⟨b, o, e, hb, fun k hk j hj => ?_⟩
  rw [hc k (by simpa using hk) j hj, List.getElem_map]
  rfl
/-- A request's block. -/
def BlkQ (r : RqV) (most : Int) (w : World) (e : Ending) (w' : World) : Prop :=
  (∃ n : Nat, n ≠ 0 ∧ (linesR r.m r.s r.p r.a r.fs).1 = n ∧ e = .returned (.tuple #[.slice none 0 0, .int .i64 (n : Int)]) ∧ Fresh w w') ∨
  (∃ (xs : List LnD) (F : List UInt8) (A : Option Addr) (c : Nat), linesR r.m r.s r.p r.a r.fs = (0, xs) ∧ (∀ x ∈ xs.map lnE, x.fits = true) ∧ RowE (xs.map lnE) F ∧ (F.length : Int) ≤ most ∧ e = .returned (.tuple #[.slice A F.length c, .int .i64 0]) ∧ Own w' w.heap.size 5 1 (.slice A F.length c) F.length (F.map byteV) ∧ Fresh w w') ∨
  (∃ (xs : List LnD), linesR r.m r.s r.p r.a r.fs = (0, xs) ∧ ((∃ x ∈ xs.map lnE, x.fits = false) ∨ ∃ F, (∀ x ∈ xs.map lnE, x.fits = true) ∧ RowE (xs.map lnE) F ∧ most < (F.length : Int)) ∧ e = .returned (.tuple #[.slice none 0 0, .int .i64 22]) ∧ Fresh w w')
theorem linesR_mem {m s p a : ByteArray} {fs : List FldT} {xs : List LnD} {B : Nat} (h : linesR m s p a fs = (0, xs)) (hB : 100 ≤ B) (hm : m.size ≤ B ∧ s.size ≤ B ∧ p.size ≤ B ∧ a.size ≤ B) (hf : ∀ f ∈ fs, f.1.size ≤ B ∧ f.2.size ≤ B) : xs.length ≤ 4 + fs.length ∧ ∀ x ∈ xs, x.1.1.size ≤ B ∧ x.1.2.size ≤ B := by
  unfold linesR at h
  split at h
  · injection h with h1 _; omega
  · split at h
    · rename_i hne
      injection h with h1 _
      exact absurd h1 hne
    · rename_i hne
      simp only [ne_eq, Classical.not_not] at hne
      injection h with _ h2
      subst h2
      have hc : clnR fs = (0, (clnR fs).2) := by rw [← hne]
      have hk := (clnR_yesR hc).2
      rw [hk]
      refine ⟨?_, fun x hx => ?_⟩
      · rw [List.length_append]
        have := base_len m s p a
        have := keepR_len fs
        omega
      · rcases List.mem_append.1 hx with hx | hx
        · have n1 : mthN.size = 7 := rfl
          have n2 : schN.size = 7 := rfl
          have n3 : pthN.size = 5 := rfl
          have n4 : autN.size = 10 := rfl
          unfold baseR autL at hx
          split at hx
          · simp only [List.append_nil, List.mem_cons, List.not_mem_nil, or_false] at hx
            rcases hx with rfl | rfl | rfl <;> (simp only; omega)
          · simp only [List.mem_append, List.mem_cons, List.not_mem_nil, or_false] at hx
            rcases hx with (rfl | rfl | rfl) | rfl <;> (simp only; omega)
        · unfold keepR at hx
          obtain ⟨f, hf1, rfl⟩ := List.mem_map.1 hx
          exact hf f (List.mem_filter.1 hf1).1
set_option maxHeartbeats 6400000 in
theorem rq_block (r : RqV) (most : Int) (w : World) (hm : Many fldD 2 w r.FA r.fs) (hl : r.fs.length ≤ 900) (hs : ∀ f ∈ r.fs, f.1.size ≤ 1000000 ∧ f.2.size ≤ 1000000) (hz : r.m.size ≤ 1000000 ∧ r.s.size ≤ 1000000 ∧ r.p.size ≤ 1000000 ∧ r.a.size ≤ 1000000) :
    Calls Tryz.prog 16 #[.agg r.arr, .int .i64 most] w (BlkQ r most w) := by
  have HL := Lib.hid (fun W (h : Fresh w W) => rq_lines r W (hm.fresh h) (by omega) (fun f hf => (hs f hf).2) ⟨by omega, by omega, by omega, by omega⟩)
  have HMEM : Hid (∀ xs, linesR r.m r.s r.p r.a r.fs = (0, xs) → xs.length ≤ 1000 ∧ ∀ x ∈ xs, x.1.1.size ≤ 1000000 ∧ x.1.2.size ≤ 1000000) := Lib.hid (fun xs h => by
    have := linesR_mem h (by omega : 100 ≤ 1000000) hz hs
    exact ⟨by omega, this.2⟩)
  have HE : Hid (∀ (n : Nat) xs W, linesR r.m r.s r.p r.a r.fs = (n, xs) → n ≠ 0 → Fresh w W → BlkQ r most w (.returned (.tuple #[.slice none 0 0, .int .i64 (n : Int)])) W) := Lib.hid (fun n xs W h h0 hf => .inl ⟨n, h0, by rw [h], rfl, hf⟩)
  have HY : Hid (∀ (xs : List LnD) (F : List UInt8) (A : Option Addr) (c : Nat) (N : Nat) W, linesR r.m r.s r.p r.a r.fs = (0, xs) → (∀ x ∈ xs.map lnE, x.fits = true) → RowE (xs.map lnE) F → F.length = N → (N : Int) ≤ most → Own W w.heap.size 5 1 (.slice A F.length c) F.length (F.map byteV) → Fresh w W → BlkQ r most w (.returned (.tuple #[.slice A N c, .int .i64 0])) W) := Lib.hid (fun xs F A c N W h h1 h2 h3 h4 h5 hf => by
    subst h3
    exact .inr (.inl ⟨xs, F, A, c, h, h1, h2, h4, rfl, h5, hf⟩))
  have HB : Hid (∀ (xs : List LnD) W, linesR r.m r.s r.p r.a r.fs = (0, xs) → ((∃ x ∈ xs.map lnE, x.fits = false) ∨ ∃ F, (∀ x ∈ xs.map lnE, x.fits = true) ∧ RowE (xs.map lnE) F ∧ most < (F.length : Int)) → Fresh w W → BlkQ r most w (.returned (.tuple #[.slice none 0 0, .int .i64 22])) W) := Lib.hid (fun xs W h h1 hf => .inr (.inr ⟨xs, h, h1, rfl, hf⟩))
  clear hm hl hs hz
  unfold LinP at HL
  generalize BlkQ r most w = PP at *
  obtain ⟨ar, har⟩ : ∃ ar, r.arr = ar := ⟨_, rfl⟩
  rw [har] at HL
  unfold RqV.arr at har ⊢
  go_enter Tryz.func16, Tryz.ntmps16
  go_upto_region 1 with fail
  refine wp_gen (fun W => Blk W w.heap.size 25 ar ∧ Fresh w W) ⟨by rw [← har]; exact Blk.new w _ _, Fresh.alloc _ _⟩ ?_
  rintro W1 ⟨hb1, hf1⟩
  obtain ⟨b, hb⟩ : ∃ b, w.heap.size = b := ⟨_, rfl⟩
  have HBB := Lib.hid hb
  rw [hb] at hb1 ⊢
  clear hb
  have e0 := hb1.cell 0
  have e1 := hb1.cell 1
  have e2 := hb1.cell 2
  have e3 := hb1.cell 3
  have e4 := hb1.cell 4
  have e5 := hb1.cell 5
  rw [← har] at e0 e1 e2 e3 e4 e5 HL
  simp at e0 e1 e2 e3 e4 e5
  have HF1 := Lib.hid hf1
  clear hb1 hf1 har
  go_wp2_with fail
  with_reducible refine (HL.out _ HF1.out).mono ?_
  rintro e w2 ⟨n, A, xs, c, hlin, rfl, hown, hf⟩
  have HF2 := Lib.hid (HF1.out.trans hf)
  have HM2 := Lib.hid (own_manyL hown)
  have HLN := Lib.hid hlin
  clear hf hlin hown HL e0 e1 e2 e3 e4 e5
  by_cases h0 : n = 0
  rotate_left
  · have d0 : ((n : Int) != 0) = true := by simp; omega
    have HX := Lib.hid (HE.out n xs w2 HLN.out h0 HF2.out)
    clear h0
    go_wp2_with fail
    exact HX.out
  subst h0
  rw [show ((0 : Nat) : Int) = 0 from rfl]
  obtain ⟨hx1, hx2⟩ := HMEM.out xs HLN.out
  have HEN := Lib.hid (en_encode A c (xs.map lnE) w2 (many_lnE HM2.out) (by rw [List.length_map]; exact hx1) (fun x hx => by
    obtain ⟨y, hy, rfl⟩ := List.mem_map.1 hx
    obtain ⟨z1, z2⟩ := hx2 y hy
    rw [Lib.size_eq] at z1 z2
    simp only [lnE]
    omega))
  rw [List.length_map] at HEN
  unfold EncRP FormP at HEN
  clear hx1 hx2
  go_wp2_with fail
  with_reducible refine HEN.out.mono ?_
  rintro e w3 hh
  rcases hh with ⟨hfit, F, A3, c3, rfl, hrow, hown, hf⟩ | ⟨hno, rfl, hf⟩
  · have HF3 := Lib.hid (HF2.out.trans hf)
    have HFI := Lib.hid hfit
    have HRW := Lib.hid hrow
    have HO3 : Hid (Own w3 w.heap.size 5 1 (.slice A3 F.length c3) F.length (F.map byteV)) := Lib.hid (by
      obtain ⟨h1, h2⟩ := hown
      refine ⟨h1, ?_⟩
      rcases h2 with h2 | ⟨g, cap, cur, k1, k2, k3⟩
      · exact .inl h2
      · exact .inr ⟨g, cap, cur, k1, Nat.le_trans HF2.out.size k2, k3⟩)
    clear hfit hrow hown hf HEN
    obtain ⟨N, hN⟩ : ∃ N, F.length = N := ⟨_, rfl⟩
    have HN := Lib.hid hN
    rw [hN]
    clear hN
    by_cases hle : (N : Int) ≤ most
    · have d0 : decide (most < (N : Int)) = false := decide_eq_false (by omega)
      have HX := Lib.hid (HY.out xs F A3 c3 N w3 HLN.out HFI.out HRW.out HN.out hle HO3.out HF3.out)
      clear hle
      go_wp2_with fail
      exact HX.out
    · have d0 : most < (N : Int) := by omega
      have HX := Lib.hid (HB.out xs w3 HLN.out (.inr ⟨F, HFI.out, HRW.out, by rw [HN.out]; exact d0⟩) HF3.out)
      clear hle
      go_wp2_with fail
      exact HX.out
  · have HX := Lib.hid (HB.out xs w3 HLN.out (.inl hno) (HF2.out.trans hf))
    clear hf hno HEN
    go_wp2_with fail
    exact HX.out
theorem rq_interim (n : Int) (v : Value) (w : World) : Calls Tryz.prog 29 #[.agg #[.int .i64 n, v]] w fun e w' => e = .returned (.bool (decide (n < 200))) ∧ Fresh w w' := by
  by_cases h : n < 200
  · rw [decide_eq_true h]
    go_enter Tryz.func29, Tryz.ntmps29
    go_wp2_with fail
    go_ret
    exact ⟨rfl, Fresh.alloc _ _⟩
  · rw [decide_eq_false h]
    have h2 : decide (n < 200) = false := decide_eq_false h
    clear h
    go_enter Tryz.func29, Tryz.ntmps29
    go_wp2_with fail
    go_ret
    exact ⟨rfl, Fresh.alloc _ _⟩
end Go.Proofs.YtapikjhfgcbifaaGreatDoor

/-
  The laws of layer 22: their fixed answer.
-/
namespace Go.Proofs.YtapikjhfgcbifaaGreatDoor
set_option maxRecDepth 100000
set_option linter.unusedVariables false
set_option linter.unusedSimpArgs false
open Go.RowKit
def gR : RqV := ⟨⟨#[71, 69, 84]⟩, ⟨#[104, 116, 116, 112]⟩, ⟨#[47]⟩, ⟨#[]⟩, none, 0, [], none, 0, []⟩
def lR : RqV := ⟨⟨#[103, 101, 116]⟩, ⟨#[104, 116, 116, 112]⟩, ⟨#[47]⟩, ⟨#[]⟩, none, 0, [], none, 0, []⟩
def rR0 : LnD := ((⟨#[58, 115, 116, 97, 116, 117, 115]⟩, ⟨#[50, 48, 52]⟩), false)
def rR1 : LnD := ((⟨#[97]⟩, ⟨#[98]⟩), false)
def gxs : List LnD := [((mthN, gR.m), false), ((schN, gR.s), false), ((pthN, gR.p), false)]
theorem g_lin : linesR gR.m gR.s gR.p gR.a gR.fs = (0, gxs) := by
  unfold linesR rightR schB
  simp only [Lib.toList_data]
  rw [if_neg (by decide +kernel), if_neg (by simp [gR, clnR])]
  simp [gR, clnR, gxs, baseR, autL]
theorem l_lin : linesR lR.m lR.s lR.p lR.a lR.fs = (31, []) := by
  unfold linesR rightR schB
  simp only [Lib.toList_data]
  rw [if_pos (by decide +kernel)]
def gF : List UInt8 := [130, 134, 132]
theorem g_x0 : IsLine (lnE ((mthN, gR.m), false)) [130] := ⟨2, true, by omega, .inl ⟨1, by omega, rfl, rfl, by (simp only [prF, eqD_eq]; decide +kernel), by (simp only [prF, eqD_eq]; decide +kernel)⟩, (show ([130] : List UInt8) = encL 2 7 1 from by kernel_rfl)⟩
theorem g_x1 : IsLine (lnE ((schN, gR.s), false)) [134] := ⟨6, true, by omega, .inl ⟨5, by omega, rfl, rfl, by (simp only [prF, eqD_eq]; decide +kernel), by (simp only [prF, eqD_eq]; decide +kernel)⟩, (show ([134] : List UInt8) = encL 6 7 1 from by kernel_rfl)⟩
theorem g_x2 : IsLine (lnE ((pthN, gR.p), false)) [132] := ⟨4, true, by omega, .inl ⟨3, by omega, rfl, rfl, by (simp only [prF, eqD_eq]; decide +kernel), by (simp only [prF, eqD_eq]; decide +kernel)⟩, (show ([132] : List UInt8) = encL 4 7 1 from by kernel_rfl)⟩
theorem g_row : RowE (gxs.map lnE) gF := ⟨[130], [134, 132], g_x0, ⟨[134], [132], g_x1, ⟨[132], [], g_x2, rfl, rfl⟩, rfl⟩, rfl⟩
theorem g_fit : ∀ x ∈ gxs.map lnE, x.fits = true := by decide +kernel
theorem r_rsp : rspE [rR0, rR1] = 0 := by
  show (if rR0.1.1.data.toList ≠ stsL then 32 else if psB [rR1] = true then 32 else if stN rR0.1.2.data.toList = 0 then 31 else chkR [rR1]) = 0
  rw [if_neg (by decide +kernel), if_neg (by decide +kernel), if_neg (by decide +kernel)]
  unfold chkR wrongC hopB chkR
  simp only [Lib.toList_data]
  decide +kernel
theorem r_st : stN rR0.1.2.data.toList = 204 := by decide +kernel
theorem many_ln2 {w : World} {b : Nat} {t : TypeId} {x y : LnD} (h : Blk w b t #[.string x.1.1, .string x.1.2, .bool x.2, .string y.1.1, .string y.1.2, .bool y.2]) : Many lnD 3 w (some ⟨b, 0, none⟩) [x, y] := fun _ => by
  refine ⟨b, 0, rfl, h.lt, fun i hi j hj => ?_⟩
  rw [Nat.zero_add, h.cell]
  have hi2 : i < 2 := hi
  match i, j, hi2, hj with
  | 0, 0, _, _ => rfl
  | 0, 1, _, _ => rfl
  | 0, 2, _, _ => rfl
  | 1, 0, _, _ => rfl
  | 1, 1, _, _ => rfl
  | 1, 2, _, _ => rfl
theorem a22_block (w : World) : Calls Tryz.prog 16 #[.agg #[.string ⟨#[71, 69, 84]⟩, .string ⟨#[104, 116, 116, 112]⟩, .string ⟨#[47]⟩, .string ⟨#[]⟩, .slice none 0 0, .slice none 0 0], .int .i64 100] w fun e w' => ∃ (A : Option Addr) (c : Nat), e = .returned (.tuple #[.slice A 3 c, .int .i64 0]) ∧ BS w' A gF ∧ 3 ≤ c ∧ c ≤ maxLen ∧ Fresh w w' := by
  refine (show Calls Tryz.prog 16 #[.agg gR.arr, .int .i64 100] w (BlkQ gR 100 w) from rq_block gR 100 w (Many.nil _ _ _ _) (by decide) (by intro f hf; cases hf) (by decide)).mono ?_
  rintro e w' (⟨n, h0, h1, _⟩ | ⟨xs, F, A, c, h1, h2, h3, h4, rfl, h5, hf⟩ | ⟨xs, h1, h2, _⟩)
  · rw [g_lin] at h1
    exact absurd h1.symm h0
  · rw [g_lin] at h1
    cases h1
    have hF : gF = F := RowE.uniq g_row h3
    subst hF
    refine ⟨A, c, rfl, h5.bytes.1, ?_, ?_, hf⟩
    · obtain ⟨_, _, e, h1, _⟩ := h5.slice; cases e; exact h1
    · obtain ⟨_, _, e, h1, h2, _⟩ := h5.slice; cases e; exact h2
  · rw [g_lin] at h1
    cases h1
    exfalso
    rcases h2 with ⟨x, hx, hn⟩ | ⟨F, _, h3, h4⟩
    · rw [g_fit x hx] at hn
      cases hn
    · have hF : gF = F := RowE.uniq g_row h3
      subst hF
      have : gF.length = 3 := rfl
      omega
theorem a22_lines (w : World) : Calls Tryz.prog 11 #[.agg #[.string ⟨#[103, 101, 116]⟩, .string ⟨#[104, 116, 116, 112]⟩, .string ⟨#[47]⟩, .string ⟨#[]⟩, .slice none 0 0, .slice none 0 0]] w fun e w' => ∃ v : Value, e = .returned (.tuple #[v, .int .i64 31]) ∧ Fresh w w' := by
  refine (show Calls Tryz.prog 11 #[.agg lR.arr] w (LinP lR w) from rq_lines lR w (Many.nil _ _ _ _) (by decide) (by intro f hf; cases hf) (by decide)).mono ?_
  rintro e w' ⟨n, A, xs, c, h1, rfl, _, hf⟩
  rw [l_lin] at h1
  cases h1
  exact ⟨_, rfl, hf⟩
theorem a22_resp (w : World) (b : Nat) (hb : Blk w b 38 #[.string rR0.1.1, .string rR0.1.2, .bool rR0.2, .string rR1.1.1, .string rR1.1.2, .bool rR1.2]) : Calls Tryz.prog 24 #[.slice (some ⟨b, 0, none⟩) 2 2] w fun e w' => ∃ A : Option Addr, e = .returned (.tuple #[.agg #[.int .i64 204, .slice A 1 1], .int .i64 0]) ∧ Fresh w w' := by
  refine (rq_response (some ⟨b, 0, none⟩) 2 [rR0, rR1] w (many_ln2 hb) (by decide) (by decide) (by decide) (by decide)).mono ?_
  rintro e w' ⟨n, m, A, k, rfl, hn, h1, _, hf⟩
  rw [r_rsp] at hn
  subst hn
  obtain ⟨x, t, hx, rfl, _, rfl, _⟩ := h1 rfl
  cases hx
  rw [r_st]
  exact ⟨A, rfl, hf⟩
theorem a22_none (w : World) : Calls Tryz.prog 24 #[.slice none 0 0] w fun e w' => e = .returned (.tuple #[.agg #[.int .i64 0, .slice none 0 0], .int .i64 32]) ∧ Fresh w w' := by
  refine (rq_response none 0 [] w (Many.nil _ _ _ _) (by decide) (by decide) (by decide) (by intro x hx; cases hx)).mono ?_
  rintro e w' ⟨n, m, A, k, rfl, hn, _, h1, hf⟩
  have hn2 : n = 32 := hn
  subst hn2
  obtain ⟨rfl, rfl, rfl⟩ := h1 (by omega)
  exact ⟨rfl, hf⟩
set_option maxHeartbeats 6400000 in
theorem a22 (w : World) : Calls Tryz.prog 10 #[] w fun e w' => e = .returned (.bool true) ∧ Fresh w w' := by
  have H1 := Lib.hid a22_block
  have H2 := Lib.hid a22_lines
  have H3 : Hid (∀ w : World, Calls Tryz.prog 24 #[.slice (some ⟨w.heap.size, 0, none⟩) 2 2] (w.alloc (.cells #[.string ⟨#[58, 115, 116, 97, 116, 117, 115]⟩, .string ⟨#[50, 48, 52]⟩, .bool false, .string ⟨#[97]⟩, .string ⟨#[98]⟩, .bool false] 38)) fun e w' => ∃ A : Option Addr, e = .returned (.tuple #[.agg #[.int .i64 204, .slice A 1 1], .int .i64 0]) ∧ Fresh w w') := Lib.hid (fun w => (a22_resp _ _ (Blk.new w _ _)).mono (fun e w' ⟨A, h1, h2⟩ => ⟨A, h1, Fresh.tA h2⟩))
  have H4 := Lib.hid a22_none
  have H5 := Lib.hid rq_interim
  go_enter Tryz.func10, Tryz.ntmps10
  go_wp2_with fail
  with_reducible refine (H1.out _).mono ?_
  rintro e w1 ⟨A1, c1, rfl, hb1, hc1, hc2, hf1⟩
  have HB1 := Lib.hid hb1
  have HF1 := Lib.hid hf1
  clear hb1 hf1
  go_wp2_with fail
  with_reducible refine (H2.out _).mono ?_
  rintro e w2 ⟨v2, rfl, hf2⟩
  have HB2 := Lib.hid (HB1.out.fresh hf2)
  have HF2 := Lib.hid (HF1.out.trans hf2)
  clear hf2
  go_wp2_with fail
  with_reducible refine (H3.out _).mono ?_
  rintro e w3 ⟨A3, rfl, hf3⟩
  have HB3 := Lib.hid (HB2.out.fresh hf3)
  have HF3 := Lib.hid (HF2.out.trans hf3)
  clear hf3
  go_upto_region 4 with fail
  refine wp_gen (fun W => Blk W w3.heap.size 53 #[.int .i64 204, .slice A3 1 1] ∧ Fresh w3 W) ⟨Blk.new w3 _ _, Fresh.alloc _ _⟩ ?_
  rintro W3 ⟨hbw, hfw⟩
  obtain ⟨p, hp⟩ : ∃ p, w3.heap.size = p := ⟨_, rfl⟩
  rw [hp] at hbw ⊢
  clear hp
  have HBW := Lib.hid hbw
  have HB4 := Lib.hid (HB3.out.fresh hfw)
  have HF4 := Lib.hid (HF3.out.trans hfw)
  clear hbw hfw
  go_wp2_with fail
  with_reducible refine (H4.out _).mono ?_
  rintro e w5 ⟨rfl, hf5⟩
  go_upto_region 5 with fail
  refine wp_gen (fun W => Fresh W3 W) (by first | exact hf5.trans (Fresh.alloc _ _) | exact hf5) ?_
  rintro W5 hf6
  obtain ⟨g0, g1⟩ := (HBW.out.fresh hf6).c2
  have HF6 := Lib.hid (HF4.out.trans hf6)
  have hcv := run_str (P := Tryz.prog) (HB4.out.fresh hf6) 23 9 5 Tryz.underlying23 Tryz.underlying5 Tryz.underlying9 c1
  rw [show gF.length = 3 from rfl, show strB gF = { data := #[130, 134, 132] } from rfl] at hcv
  clear hf5 hf6
  go_wp2_with fail
  with_reducible refine (H5.out _ _ _).mono ?_
  rintro e w7 ⟨rfl, hf7⟩
  have HF7 := Lib.hid (HF6.out.trans hf7)
  clear hf7
  go_wp2_with fail
  go_ret
  exact ⟨rfl, HF7.out⟩
end Go.Proofs.YtapikjhfgcbifaaGreatDoor

