/-
  The laws of layer 14: one step of both (its parts).
-/
import Derived.Test.YtjediikcfhdgiaaDoorRegG
import Derived.Test.YtjediikcfhdgiaaDoorRegB
namespace Go.Proofs.YtjediikcfhdgiaaDoor
set_option maxRecDepth 100000
set_option linter.unusedVariables false
set_option linter.unusedSimpArgs false
open Go.RowKit Go.Maps
theorem cntD_doc (n : Nat) (X : List StD) (o : Nat) : (cntD (docL n X) o : Int) = cntX n X o := by
  unfold cntD docL cntX
  rw [List.countP_map]
  rfl
theorem docL_length (n : Nat) (X : List StD) : (docL n X).length = X.length := by unfold docL; rw [List.length_map]
theorem docL_push (n : Nat) (X : List StD) (s : StD) (t : Int) (h1 : s.id = 2 * t + 1) (h2 : s.a = 1) : docL n (X ++ [s]) = docL n X ++ [⟨2 * t + 1, tenI n t, ⟨1, 1, 1, 0⟩⟩] := by
  unfold docL
  rw [List.map_append]
  congr 1
  unfold docS
  simp only [List.map_cons, List.map_nil]
  rw [h1, h2, own_ten]
  rfl
theorem upI_le {L : Nat → Int} {i : Nat} {z q : Int} (h : ∀ o, L o ≤ q) (hz : z ≤ q) (o : Nat) : upI L i z o ≤ q := by
  unfold upI
  split
  · exact hz
  · exact h o
/-- None of a registry's blocks is one of the document's rows. -/
theorem RegX.noRow {w : World} {base g mb lb n : Nat} {q last : Int} {N : Nat} {K : Int} {X : List StD} (h : RegX w base g mb lb n q last N K X) {k : Nat} {cs : Array Value} (hb : Blk w k 48 cs) : ¬ blkX g mb lb X k := by
  rintro (rfl | rfl | rfl | ⟨s, hs, rfl⟩)
  · exact h.reg.blk.ne hb (by decide) rfl
  · obtain ⟨es, clock, he, _⟩ := h.reg.map
    rw [show w.heap[k]? = _ from hb] at he
    cases he
  · obtain ⟨cs', _, h2, _⟩ := h.reg.live
    exact hb.ne h2 (by decide) rfl
  · exact hb.ne (h.runs s hs).1.blk (by decide) rfl
/-- Both, ahead of a step. -/
structure StI (w : World) (base g mb lb n : Nat) (q last : Int) (N : Nat) (K : Int) (X : List StD) (A : Option Addr) (c : Nat) : Prop where
  reg : RegX w base g mb lb n q last N K X
  tbl : Tbl w
  bT : 0 < base
  bw : base ≤ w.heap.size
  n1 : 1 ≤ n
  n2 : n ≤ 64
  q2 : q ≤ 65536
  nn : N < 1000000
  k0 : 0 ≤ K
  k1 : K ≤ 1000000000
  xl : X.length ≤ 1000
  doc : LD w A c (docL n X)
  cnt : ∀ o, cntX n X o ≤ q
structure StpR (w w' : World) (base g mb lb n : Nat) (q last : Int) (N : Nat) (K : Int) (X : List StD) (A : Option Addr) (c : Nat) (X' : List StD) : Prop where
  reg : RegX w' base g mb lb n q last (N + 1) (K + 1) X'
  doc : LD w' A c (docL n X')
  cnt : ∀ o, cntX n X' o ≤ q
  len : X'.length ≤ X.length + 1
  only : Only (blkX g mb lb X) w w'
  blk : ∀ k, blkX g mb lb X' k → blkX g mb lb X k ∨ w.heap.size ≤ k
def StepP (w : World) (base g mb lb n : Nat) (q : Int) (N : Nat) (K : Int) (X : List StD) (e : Ending) (w' : World) : Prop :=
  ∃ A' c' last' X', e = .returned (.tuple #[.slice A' X'.length c', .int .i64 last', .bool true]) ∧ StpR w w' base g mb lb n q last' N K X A' c' X'
/-- Where nothing changes. -/
theorem StI.same {w w' : World} {base g mb lb n : Nat} {q last : Int} {N : Nat} {K : Int} {X : List StD} {A : Option Addr} {c : Nat} (h : StI w base g mb lb n q last N K X A c) (hf : Fresh w w') : StpR w w' base g mb lb n q last N K X A c X :=
  ⟨(h.reg.fresh hf).mono (by omega) (by omega), h.doc.fresh hf, h.cnt, by omega, (Only.of_fresh hf), fun k hk => .inl hk⟩
section
variable {w : World} {base g mb lb n : Nat} {q last : Int} {N : Nat} {K : Int} {X : List StD} {A : Option Addr} {c : Nat}
/-- Every block of a registry is there. -/
theorem RegX.lt (h : RegX w base g mb lb n q last N K X) {k : Nat} (hk : blkX g mb lb X k) : k < w.heap.size := by
  have hal := h.alive
  rcases hk with rfl | rfl | rfl | ⟨s, hs, rfl⟩
  · exact hal.1
  · exact hal.2.1
  · exact hal.2.2.1
  · exact hal.2.2.2 s hs
set_option maxHeartbeats 6400000 in
theorem st_other (h : StI w base g mb lb n q last N K X A c) (k t e : Int) (hk1 : k ≠ 1) (hk2 : k ≠ 2) (hk3 : k ≠ 3) (zA : Option Addr) (zn zc : Nat) : Calls Tryd.prog 10 #[.pointer (some ⟨g, 0, none⟩), .slice A X.length c, .int .i64 last, .agg #[.int .i64 (n : Int), .int .i64 q, .slice zA zn zc], .agg #[.int .i64 k, .int .i64 t, .int .i64 e]] w (StepP w base g mb lb n q N K X) := by
  have HFIN : Hid (∀ (A' : Option Addr) (c' m' : Nat) (last' : Int) (X' : List StD) (W : World), X'.length = m' → StpR w W base g mb lb n q last' N K X A' c' X' → StepP w base g mb lb n q N K X (.returned (.tuple #[.slice A' m' c', .int .i64 last', .bool true])) W) := Lib.hid (fun A' c' m' last' X' W hm hs => ⟨A', c', last', X', by rw [hm], hs⟩)
  have H := Lib.hid h
  have hlt := fun k hk => h.reg.lt (k := k) hk
  have HLT := Lib.hid hlt
  obtain ⟨m, hm⟩ : ∃ m, X.length = m := ⟨_, rfl⟩
  have HM := Lib.hid hm
  have e1 : (k == 1) = false := beq_eq_false_iff_ne.2 hk1
  have e2 : (k == 2) = false := beq_eq_false_iff_ne.2 hk2
  have e3 : (k == 3) = false := beq_eq_false_iff_ne.2 hk3
  clear hk1 hk2 hk3
  rw [hm]
  clear h hlt hm
  generalize StepP w base g mb lb n q N K X = PP at *
  obtain ⟨b8, hb8⟩ : ∃ x, w.heap.size = x := ⟨_, rfl⟩
  obtain ⟨b9, hb9⟩ : ∃ x, b8 + 1 = x := ⟨_, rfl⟩
  have HNB := Lib.hid (And.intro hb8 hb9)
  go_enter Tryd.func10, Tryd.ntmps10
  go_upto_region 1 with fail
  refine wp_gen (fun W => Fresh w W ∧ Blk W b8 24 #[.int .i64 (n : Int), .int .i64 q, .slice zA zn zc] ∧ Blk W b9 34 #[.int .i64 k, .int .i64 t, .int .i64 e]) ⟨(Fresh.alloc _ _).allocS _, (Blk.mkAt hb8).alloc _, Blk.mkAt (by simp; omega)⟩ ?_
  rintro W1 ⟨hf1, h8, h9⟩
  have HF1 := Lib.hid hf1
  have H8 := Lib.hid h8
  have H9 := Lib.hid h9
  have c90 := h9.cell 0
  have c91 := h9.cell 1
  have c92 := h9.cell 2
  simp at c90 c91 c92
  clear hf1 h8 h9 hb8 hb9
  go_wp2
  go_ret3
  exact HFIN.out A c m last X _ HM.out (H.out.same HF1.out)

set_option maxHeartbeats 6400000 in
theorem st_fail (h : StI w base g mb lb n q last N K X A c) (k t e : Int) (hk : k = 3) (zA : Option Addr) (zn zc : Nat) : Calls Tryd.prog 10 #[.pointer (some ⟨g, 0, none⟩), .slice A X.length c, .int .i64 last, .agg #[.int .i64 (n : Int), .int .i64 q, .slice zA zn zc], .agg #[.int .i64 k, .int .i64 t, .int .i64 e]] w (StepP w base g mb lb n q N K X) := by
  have HFIN : Hid (∀ (A' : Option Addr) (c' m' : Nat) (last' : Int) (X' : List StD) (W : World), X'.length = m' → StpR w W base g mb lb n q last' N K X A' c' X' → StepP w base g mb lb n q N K X (.returned (.tuple #[.slice A' m' c', .int .i64 last', .bool true])) W) := Lib.hid (fun A' c' m' last' X' W hm hs => ⟨A', c', last', X', by rw [hm], hs⟩)
  have H := Lib.hid h
  have hlt := fun k hk => h.reg.lt (k := k) hk
  have HLT := Lib.hid hlt
  obtain ⟨m, hm⟩ : ∃ m, X.length = m := ⟨_, rfl⟩
  have HM := Lib.hid hm
  have HFL := Lib.hid (fun W (hf : Fresh w W) => rg_fail (h.reg.fresh hf) h.n1 h.n2)
  have e1 : (k == 1) = false := by rw [hk]; rfl
  have e2 : (k == 2) = false := by rw [hk]; rfl
  have e3 : (k == 3) = true := by rw [hk]; rfl
  have em : ((m : Int) == (m : Int)) = true := by simp
  clear hk
  rw [hm]
  clear h hlt hm
  generalize StepP w base g mb lb n q N K X = PP at *
  obtain ⟨b8, hb8⟩ : ∃ x, w.heap.size = x := ⟨_, rfl⟩
  obtain ⟨b9, hb9⟩ : ∃ x, b8 + 1 = x := ⟨_, rfl⟩
  have HNB := Lib.hid (And.intro hb8 hb9)
  go_enter Tryd.func10, Tryd.ntmps10
  go_upto_region 1 with fail
  refine wp_gen (fun W => Fresh w W ∧ Blk W b8 24 #[.int .i64 (n : Int), .int .i64 q, .slice zA zn zc] ∧ Blk W b9 34 #[.int .i64 k, .int .i64 t, .int .i64 e]) ⟨(Fresh.alloc _ _).allocS _, (Blk.mkAt hb8).alloc _, Blk.mkAt (by simp; omega)⟩ ?_
  rintro W1 ⟨hf1, h8, h9⟩
  have HF1 := Lib.hid hf1
  have H8 := Lib.hid h8
  have H9 := Lib.hid h9
  have c90 := h9.cell 0
  have c91 := h9.cell 1
  have c92 := h9.cell 2
  simp at c90 c91 c92
  clear hf1 h8 h9 hb8 hb9
  go_wp2_with fail
  with_reducible refine (HFL.out _ HF1.out).mono ?_
  rintro e' w2 ⟨rfl, hX2, ho2⟩
  rw [HM.out]
  have HX2 := Lib.hid hX2
  have HO2 := Lib.hid ho2
  clear hX2 ho2
  go_wp2
  go_ret3
  refine HFIN.out none 0 0 last [] _ rfl ⟨HX2.out.mono (by omega) (by have := H.out.k0; omega), by exact LD.nil _, fun o => by rw [cnt_nil]; have := (cnt_le n X o).1; have := H.out.cnt o; show (0 : Int) ≤ q; omega, by simp, (Only.of_fresh HF1.out).trans HO2.out, fun k' hk' => ?_⟩
  rcases hk' with e | e | e | ⟨s, hs, e⟩
  · exact .inl (.inl e)
  · exact .inl (.inr (.inl e))
  · exact .inl (.inr (.inr (.inl e)))
  · cases hs

set_option maxHeartbeats 6400000 in
theorem st_open_range (h : StI w base g mb lb n q last N K X A c) (k t e : Int) (hk : k = 1) (ht : ¬ (0 ≤ t ∧ t ≤ 1073741823)) (zA : Option Addr) (zn zc : Nat) : Calls Tryd.prog 10 #[.pointer (some ⟨g, 0, none⟩), .slice A X.length c, .int .i64 last, .agg #[.int .i64 (n : Int), .int .i64 q, .slice zA zn zc], .agg #[.int .i64 k, .int .i64 t, .int .i64 e]] w (StepP w base g mb lb n q N K X) := by
  have HFIN : Hid (∀ (A' : Option Addr) (c' m' : Nat) (last' : Int) (X' : List StD) (W : World), X'.length = m' → StpR w W base g mb lb n q last' N K X A' c' X' → StepP w base g mb lb n q N K X (.returned (.tuple #[.slice A' m' c', .int .i64 last', .bool true])) W) := Lib.hid (fun A' c' m' last' X' W hm hs => ⟨A', c', last', X', by rw [hm], hs⟩)
  have H := Lib.hid h
  have hlt := fun k hk => h.reg.lt (k := k) hk
  have HLT := Lib.hid hlt
  obtain ⟨m, hm⟩ : ∃ m, X.length = m := ⟨_, rfl⟩
  have HM := Lib.hid hm
  have HOP := Lib.hid (fun W => rg_open_range g t W ht)
  have HTT := Lib.hid ht
  have e1 : (k == 1) = true := by rw [hk]; rfl
  clear hk ht
  rw [hm]
  clear h hlt hm
  generalize StepP w base g mb lb n q N K X = PP at *
  obtain ⟨b8, hb8⟩ : ∃ x, w.heap.size = x := ⟨_, rfl⟩
  obtain ⟨b9, hb9⟩ : ∃ x, b8 + 1 = x := ⟨_, rfl⟩
  have HNB := Lib.hid (And.intro hb8 hb9)
  go_enter Tryd.func10, Tryd.ntmps10
  go_upto_region 1 with fail
  refine wp_gen (fun W => Fresh w W ∧ Blk W b8 24 #[.int .i64 (n : Int), .int .i64 q, .slice zA zn zc] ∧ Blk W b9 34 #[.int .i64 k, .int .i64 t, .int .i64 e]) ⟨(Fresh.alloc _ _).allocS _, (Blk.mkAt hb8).alloc _, Blk.mkAt (by simp; omega)⟩ ?_
  rintro W1 ⟨hf1, h8, h9⟩
  have HF1 := Lib.hid hf1
  have H8 := Lib.hid h8
  have H9 := Lib.hid h9
  have c90 := h9.cell 0
  have c91 := h9.cell 1
  have c92 := h9.cell 2
  simp at c90 c91 c92
  clear hf1 h8 h9 hb8 hb9
  go_wp2_with fail
  with_reducible refine (HOP.out _).mono ?_
  rintro e' w2 ⟨rfl, hw2⟩
  obtain rfl : W1 = w2 := hw2.symm
  by_cases h0 : t < 0
  · have d0 : decide (t < 0) = true := decide_eq_true h0
    go_wp2_with fail
    go_ret3
    exact HFIN.out A c m last X _ HM.out (H.out.same HF1.out)
  · have d0 : decide (t < 0) = false := decide_eq_false h0
    have d1 : decide (1073741823 < t) = true := decide_eq_true (by have := HTT.out; omega)
    have d2 : decide (t > 1073741823) = true := d1
    go_wp2_with fail
    go_ret3
    exact HFIN.out A c m last X _ HM.out (H.out.same HF1.out)

set_option maxHeartbeats 6400000 in
theorem st_open_old (h : StI w base g mb lb n q last N K X A c) (k t e : Int) (hk : k = 1) (h0 : 0 ≤ t) (h1 : t ≤ 1073741823) (hl : 2 * t + 1 ≤ last) (zA : Option Addr) (zn zc : Nat) : Calls Tryd.prog 10 #[.pointer (some ⟨g, 0, none⟩), .slice A X.length c, .int .i64 last, .agg #[.int .i64 (n : Int), .int .i64 q, .slice zA zn zc], .agg #[.int .i64 k, .int .i64 t, .int .i64 e]] w (StepP w base g mb lb n q N K X) := by
  have HFIN : Hid (∀ (A' : Option Addr) (c' m' : Nat) (last' : Int) (X' : List StD) (W : World), X'.length = m' → StpR w W base g mb lb n q last' N K X A' c' X' → StepP w base g mb lb n q N K X (.returned (.tuple #[.slice A' m' c', .int .i64 last', .bool true])) W) := Lib.hid (fun A' c' m' last' X' W hm hs => ⟨A', c', last', X', by rw [hm], hs⟩)
  have H := Lib.hid h
  have hlt := fun k hk => h.reg.lt (k := k) hk
  have HLT := Lib.hid hlt
  obtain ⟨m, hm⟩ : ∃ m, X.length = m := ⟨_, rfl⟩
  have HM := Lib.hid hm
  have HRO := Lib.hid (fun W (hd : LD W A c (docL n X)) => rf_open A c (docL n X) n q last t W hd (by rw [docL_length]; have := h.xl; omega) h0 h1 h.n1 h.n2)
  rw [docL_length, hm] at HRO
  have d0 : decide (t < 0) = false := decide_eq_false (by omega)
  have d1 : decide (1073741823 < t) = false := decide_eq_false (by omega)
  have d2 : decide (t > 1073741823) = false := d1
  have e1 : (k == 1) = true := by rw [hk]; rfl
  have HOP := Lib.hid (fun W (hf : Fresh w W) => rg_open_state (h.reg.fresh hf).reg h0 h1 hl)
  have HTT := Lib.hid hl
  clear hk h0 h1 hl
  rw [hm]
  clear h hlt hm
  generalize StepP w base g mb lb n q N K X = PP at *
  obtain ⟨b8, hb8⟩ : ∃ x, w.heap.size = x := ⟨_, rfl⟩
  obtain ⟨b9, hb9⟩ : ∃ x, b8 + 1 = x := ⟨_, rfl⟩
  have HNB := Lib.hid (And.intro hb8 hb9)
  go_enter Tryd.func10, Tryd.ntmps10
  go_upto_region 1 with fail
  refine wp_gen (fun W => Fresh w W ∧ Blk W b8 24 #[.int .i64 (n : Int), .int .i64 q, .slice zA zn zc] ∧ Blk W b9 34 #[.int .i64 k, .int .i64 t, .int .i64 e]) ⟨(Fresh.alloc _ _).allocS _, (Blk.mkAt hb8).alloc _, Blk.mkAt (by simp; omega)⟩ ?_
  rintro W1 ⟨hf1, h8, h9⟩
  have HF1 := Lib.hid hf1
  have H8 := Lib.hid h8
  have H9 := Lib.hid h9
  have c90 := h9.cell 0
  have c91 := h9.cell 1
  have c92 := h9.cell 2
  simp at c90 c91 c92
  clear hf1 h8 h9 hb8 hb9
  go_wp2_with fail
  with_reducible refine (HOP.out _ HF1.out).mono ?_
  rintro e' w2 ⟨rfl, hw2⟩
  obtain rfl : W1 = w2 := hw2.symm
  have c80 := H8.out.cell 0
  have c81 := H8.out.cell 1
  simp at c80 c81
  go_wp2_with fail
  with_reducible refine (HRO.out _ (H.out.doc.fresh HF1.out)).mono ?_
  rintro e' w3 ⟨hf3, hcs⟩
  obtain rfl : e' = .returned (.tuple #[.slice A m c, .int .i64 25]) := by
    rw [docL_length, HM.out] at hcs
    rcases hcs with ⟨_, hr⟩ | ⟨hr, _⟩ | ⟨hr, _⟩
    · exact hr
    · have := HTT.out; omega
    · have := HTT.out; omega
  have HF3 := Lib.hid (HF1.out.trans hf3)
  have c91 := (H9.out.fresh hf3).cell 1
  simp at c91
  clear hcs hf3 c80 c81
  go_wp2_with fail
  go_ret3
  exact HFIN.out A c m last X _ HM.out (H.out.same HF3.out)

set_option maxHeartbeats 6400000 in
theorem st_open_new (h : StI w base g mb lb n q last N K X A c) (k t e : Int) (hk : k = 1) (h0 : 0 ≤ t) (h1 : t ≤ 1073741823) (hl : last < 2 * t + 1) (zA : Option Addr) (zn zc : Nat) : Calls Tryd.prog 10 #[.pointer (some ⟨g, 0, none⟩), .slice A X.length c, .int .i64 last, .agg #[.int .i64 (n : Int), .int .i64 q, .slice zA zn zc], .agg #[.int .i64 k, .int .i64 t, .int .i64 e]] w (StepP w base g mb lb n q N K X) := by
  have HFIN : Hid (∀ (A' : Option Addr) (c' m' : Nat) (last' : Int) (X' : List StD) (W : World), X'.length = m' → StpR w W base g mb lb n q last' N K X A' c' X' → StepP w base g mb lb n q N K X (.returned (.tuple #[.slice A' m' c', .int .i64 last', .bool true])) W) := Lib.hid (fun A' c' m' last' X' W hm hs => ⟨A', c', last', X', by rw [hm], hs⟩)
  have H := Lib.hid h
  have hlt := fun k hk => h.reg.lt (k := k) hk
  have HLT := Lib.hid hlt
  obtain ⟨m, hm⟩ : ∃ m, X.length = m := ⟨_, rfl⟩
  have HM := Lib.hid hm
  have HRO := Lib.hid (fun W (hd : LD W A c (docL n X)) => rf_open A c (docL n X) n q last t W hd (by rw [docL_length]; have := h.xl; omega) h0 h1 h.n1 h.n2)
  rw [docL_length, hm] at HRO
  have d0 : decide (t < 0) = false := decide_eq_false (by omega)
  have d1 : decide (1073741823 < t) = false := decide_eq_false (by omega)
  have d2 : decide (t > 1073741823) = false := d1
  have e1 : (k == 1) = true := by rw [hk]; rfl
  have HOP := Lib.hid (fun W (hf : Fresh w W) => rg_openX (h.reg.fresh hf) (h.tbl.fresh hf) h.bT (by have := hf.size; have := h.bw; omega) h0 h1 h.n1 h.n2 hl h.q2 h.nn h.k0)
  have HTT := Lib.hid hl
  have HT0 := Lib.hid (And.intro h0 h1)
  have hw1 : IntKind.i64.wrap (2 * t) = 2 * t := IntWalk.i64_in _ (by omega)
  have hw2 : IntKind.i64.wrap (2 * t + 1) = 2 * t + 1 := IntWalk.i64_in _ (by omega)
  have htt : ((2 * t + 1) == (2 * t + 1)) = true := by simp
  clear hk h0 h1 hl
  rw [hm]
  clear h hlt hm
  generalize StepP w base g mb lb n q N K X = PP at *
  obtain ⟨b8, hb8⟩ : ∃ x, w.heap.size = x := ⟨_, rfl⟩
  obtain ⟨b9, hb9⟩ : ∃ x, b8 + 1 = x := ⟨_, rfl⟩
  have HNB := Lib.hid (And.intro hb8 hb9)
  go_enter Tryd.func10, Tryd.ntmps10
  go_upto_region 1 with fail
  refine wp_gen (fun W => Fresh w W ∧ Blk W b8 24 #[.int .i64 (n : Int), .int .i64 q, .slice zA zn zc] ∧ Blk W b9 34 #[.int .i64 k, .int .i64 t, .int .i64 e]) ⟨(Fresh.alloc _ _).allocS _, (Blk.mkAt hb8).alloc _, Blk.mkAt (by simp; omega)⟩ ?_
  rintro W1 ⟨hf1, h8, h9⟩
  have HF1 := Lib.hid hf1
  have H8 := Lib.hid h8
  have H9 := Lib.hid h9
  have c90 := h9.cell 0
  have c91 := h9.cell 1
  have c92 := h9.cell 2
  simp at c90 c91 c92
  clear hf1 h8 h9 hb8 hb9
  go_wp2_with fail
  with_reducible refine (HOP.out _ HF1.out).mono ?_
  rintro e' w2 (⟨hq, s, hs, ha, rfl, hX2, hp, ho⟩ | ⟨hq, rfl, hX2, hf2⟩)
  · have hnx : ∀ j, (j = b8 ∨ j = b9) → ¬ (j = g ∨ j = mb ∨ j = lb) := fun j hj hk' => by
      have h1 := HLT.out j (by rcases hk' with e | e | e; exact .inl e; exact .inr (.inl e); exact .inr (.inr (.inl e)))
      have := HNB.out
      rcases hj with e | e <;> omega
    have h82 := H8.out.only ho (hnx b8 (.inl rfl))
    have h92 := H9.out.only ho (hnx b9 (.inr rfl))
    have HX2 := Lib.hid hX2
    have HO2 := Lib.hid ((Only.of_fresh HF1.out).trans (ho.mono (fun j hj => (show blkX g mb lb X j by rcases hj with e | e | e; exact .inl e; exact .inr (.inl e); exact .inr (.inr (.inl e))))))
    have HD2 := Lib.hid ((H.out.doc.fresh HF1.out).only ho (fun j cs hb e => (H.out.reg.fresh HF1.out).noRow hb (by rcases e with e | e | e; exact .inl e; exact .inr (.inl e); exact .inr (.inr (.inl e)))))
    have HSS := Lib.hid (And.intro hs (And.intro ha (And.intro hq hp)))
    have H92 := Lib.hid h92
    have c80 := h82.cell 0
    have c81 := h82.cell 1
    have c91 := h92.cell 1
    simp at c80 c81 c91
    clear hnx h82 h92 hX2 ho hs ha hq hp c90 c92
    go_wp2_with fail
    with_reducible refine (HRO.out _ HD2.out).mono ?_
    rintro e' w3 ⟨hf3, hcs⟩
    obtain ⟨A', c', rfl, hld⟩ : ∃ A' c', e' = .returned (.tuple #[.slice A' (m + 1) c', .int .i64 0]) ∧ LD w3 A' c' (docL n (X ++ [s])) := by
      rw [docL_push n X s t HSS.out.1 HSS.out.2.1]
      rw [cntD_doc, docL_length, HM.out] at hcs
      rcases hcs with ⟨hr, _⟩ | ⟨_, hr, _⟩ | ⟨_, _, hr⟩
      · have := HTT.out; omega
      · have := HSS.out.2.2.1; omega
      · exact hr
    have HLD := Lib.hid hld
    have HF3 := Lib.hid hf3
    have HSK : Hid (∀ w', Fresh w3 w' → w'.cell? ⟨b9, 1, none⟩ = some (.int .i64 t) ∧ Fresh w3 w') := Lib.hid (fun w' hw => ⟨((H92.out.fresh HF3.out).fresh hw).cell 1, hw⟩)
    have c91 := (H92.out.fresh hf3).cell 1
    simp at c91
    clear hld hf3 hcs c80 c81
    go_wp2_with fail
    refine wp_noPanic ?_
    refine wp_region_held_drew (S := (fun w' => w'.cell? ⟨b9, 1, none⟩ = some (.int .i64 t) ∧ Fresh w3 w')) (by kernel_rfl) (HSK.out _ (Fresh.drew _)) (fun hHeld => ?_)
    refine wpAnyH_take (i := 0) (v := ?_) rfl (by kernel_rfl) (by kernel_rfl) (by kernel_rfl) (fun _ _ _ h => h) (Or.inl ⟨by rfl, ?_⟩) (by assumption) ?_; rotate_left; focus (intro w hSw; (try dsimp only at hSw); go_simp; (try with_reducible rfl); done)
    (try simp only [Act.put, List.getElem_toArray, List.getElem_cons_zero, List.getElem_cons_succ, List.setIfInBounds_toArray, List.set_cons_zero, List.set_cons_succ])
    refine wpAnyH_take (i := 1) (v := ?_) rfl (by kernel_rfl) (by kernel_rfl) (by kernel_rfl) (fun _ _ _ h => h) (Or.inl ⟨by rfl, ?_⟩) (by assumption) ?_; rotate_left; focus (intro w hSw; (try dsimp only at hSw); go_simp; (try with_reducible rfl); done)
    (try simp only [Act.put, List.getElem_toArray, List.getElem_cons_zero, List.getElem_cons_succ, List.setIfInBounds_toArray, List.set_cons_zero, List.set_cons_succ])
    refine wpAnyH_take (i := 2) (v := ?_) rfl (by kernel_rfl) (by kernel_rfl) (by kernel_rfl) (fun _ _ _ h => h) (Or.inl ⟨by rfl, ?_⟩) (by assumption) ?_; rotate_left; focus (intro w hSw; (try dsimp only at hSw); go_simp; (try with_reducible rfl); done)
    (try simp only [Act.put, List.getElem_toArray, List.getElem_cons_zero, List.getElem_cons_succ, List.setIfInBounds_toArray, List.set_cons_zero, List.set_cons_succ])
    refine wpAnyH_take (i := 3) (v := ?_) rfl (by kernel_rfl) (by kernel_rfl) (by kernel_rfl) (fun _ _ _ h => h) (Or.inl ⟨by rfl, ?_⟩) (by assumption) ?_; rotate_left; focus (intro w hSw; (try dsimp only at hSw); go_simp; (try with_reducible rfl); done)
    (try simp only [Act.put, List.getElem_toArray, List.getElem_cons_zero, List.getElem_cons_succ, List.setIfInBounds_toArray, List.set_cons_zero, List.set_cons_succ])
    refine wpAnyH_take (i := 4) (v := ?_) rfl (by kernel_rfl) (by kernel_rfl) (by kernel_rfl) (fun _ _ _ h => h) (Or.inl ⟨by rfl, ?_⟩) (by assumption) ?_; rotate_left; focus (intro w hSw; (try dsimp only at hSw); go_simp; (try with_reducible rfl); done)
    (try simp only [Act.put, List.getElem_toArray, List.getElem_cons_zero, List.getElem_cons_succ, List.setIfInBounds_toArray, List.set_cons_zero, List.set_cons_succ])
    refine wpAnyH_take (i := 5) (v := ?_) rfl (by kernel_rfl) (by kernel_rfl) (by kernel_rfl) (fun _ _ _ h => h) (Or.inl ⟨by rfl, ?_⟩) (by assumption) ?_; rotate_left; focus (intro w hSw; (try dsimp only at hSw); go_simp; (try with_reducible rfl); done)
    (try simp only [Act.put, List.getElem_toArray, List.getElem_cons_zero, List.getElem_cons_succ, List.setIfInBounds_toArray, List.set_cons_zero, List.set_cons_succ])
    refine wpAnyH_take (i := 6) (v := ?_) rfl (by kernel_rfl) (by kernel_rfl) (by kernel_rfl) (fun _ _ _ h => h) (Or.inl ⟨by rfl, ?_⟩) (by assumption) ?_; rotate_left; focus (intro w hSw; (try dsimp only at hSw); go_simp; (try with_reducible rfl); done)
    (try simp only [Act.put, List.getElem_toArray, List.getElem_cons_zero, List.getElem_cons_succ, List.setIfInBounds_toArray, List.set_cons_zero, List.set_cons_succ])
    refine wpAnyH_take (i := 7) (v := ?_) rfl (by kernel_rfl) (by kernel_rfl) (by kernel_rfl) (fun _ _ _ h => h) (Or.inl ⟨by rfl, ?_⟩) (by assumption) ?_; rotate_left; focus (intro w hSw; (try dsimp only at hSw); go_simp; (try with_reducible rfl); done)
    (try simp only [Act.put, List.getElem_toArray, List.getElem_cons_zero, List.getElem_cons_succ, List.setIfInBounds_toArray, List.set_cons_zero, List.set_cons_succ])
    refine wpAnyH_take (i := 8) (v := ?_) rfl (by kernel_rfl) (by kernel_rfl) (by kernel_rfl) (fun _ _ _ h => h) (Or.inl ⟨by rfl, ?_⟩) (by assumption) ?_; rotate_left; focus (intro w hSw; (try dsimp only at hSw); go_simp; (try with_reducible rfl); done)
    (try simp only [Act.put, List.getElem_toArray, List.getElem_cons_zero, List.getElem_cons_succ, List.setIfInBounds_toArray, List.set_cons_zero, List.set_cons_succ])
    refine wpAnyH_take (i := 9) (v := ?_) rfl (by kernel_rfl) (by kernel_rfl) (by kernel_rfl) (fun _ _ _ h => h) (Or.inl ⟨by rfl, ?_⟩) (by assumption) ?_; rotate_left; focus (intro w hSw; (try dsimp only at hSw); go_simp; (try with_reducible rfl); done)
    (try simp only [Act.put, List.getElem_toArray, List.getElem_cons_zero, List.getElem_cons_succ, List.setIfInBounds_toArray, List.set_cons_zero, List.set_cons_succ])
    refine wpAnyH_take (i := 10) (v := ?_) rfl (by kernel_rfl) (by kernel_rfl) (by kernel_rfl) (fun _ _ _ h => h) (Or.inl ⟨by rfl, ?_⟩) (by assumption) ?_; rotate_left; focus (intro w hSw; (try dsimp only at hSw); go_simp; (try with_reducible rfl); done)
    (try simp only [Act.put, List.getElem_toArray, List.getElem_cons_zero, List.getElem_cons_succ, List.setIfInBounds_toArray, List.set_cons_zero, List.set_cons_succ])
    refine wpAnyH_take (i := 11) (v := ?_) rfl (by kernel_rfl) (by kernel_rfl) (by kernel_rfl) (fun _ _ _ h => h) (Or.inl ⟨by rfl, ?_⟩) (by assumption) ?_; rotate_left; focus (intro w hSw; (try dsimp only at hSw); go_simp; (try with_reducible rfl); done)
    (try simp only [Act.put, List.getElem_toArray, List.getElem_cons_zero, List.getElem_cons_succ, List.setIfInBounds_toArray, List.set_cons_zero, List.set_cons_succ])
    refine wpAnyH_take (i := 12) (v := ?_) rfl (by kernel_rfl) (by kernel_rfl) (by kernel_rfl) (fun _ _ _ h => h) (Or.inl ⟨by rfl, ?_⟩) (by assumption) ?_; rotate_left; focus (intro w hSw; (try dsimp only at hSw); go_simp; (try with_reducible rfl); done)
    (try simp only [Act.put, List.getElem_toArray, List.getElem_cons_zero, List.getElem_cons_succ, List.setIfInBounds_toArray, List.set_cons_zero, List.set_cons_succ])
    refine wpAnyH_take (i := 13) (v := ?_) rfl (by kernel_rfl) (by kernel_rfl) (by kernel_rfl) (fun _ _ _ h => h) (Or.inl ⟨by rfl, ?_⟩) (by assumption) ?_; rotate_left; focus (intro w hSw; (try dsimp only at hSw); go_simp; (try with_reducible rfl); done)
    (try simp only [Act.put, List.getElem_toArray, List.getElem_cons_zero, List.getElem_cons_succ, List.setIfInBounds_toArray, List.set_cons_zero, List.set_cons_succ])
    refine wpAnyH_take (i := 14) (v := ?_) rfl (by kernel_rfl) (by kernel_rfl) (by kernel_rfl) (fun _ _ _ h => h) (Or.inl ⟨by rfl, ?_⟩) (by assumption) ?_; rotate_left; focus (intro w hSw; (try dsimp only at hSw); go_simp; (try with_reducible rfl); done)
    (try simp only [Act.put, List.getElem_toArray, List.getElem_cons_zero, List.getElem_cons_succ, List.setIfInBounds_toArray, List.set_cons_zero, List.set_cons_succ])
    refine wpAnyH_take (i := 15) (v := ?_) rfl (by kernel_rfl) (by kernel_rfl) (by kernel_rfl) (fun _ _ _ h => h) (Or.inl ⟨by rfl, ?_⟩) (by assumption) ?_; rotate_left; focus (intro w hSw; (try dsimp only at hSw); go_simp; (try with_reducible rfl); done)
    (try simp only [Act.put, List.getElem_toArray, List.getElem_cons_zero, List.getElem_cons_succ, List.setIfInBounds_toArray, List.set_cons_zero, List.set_cons_succ])
    refine wpAnyH_take (i := 16) (v := ?_) rfl (by kernel_rfl) (by kernel_rfl) (by kernel_rfl) (fun _ _ _ h => h) (Or.inl ⟨by rfl, ?_⟩) (by assumption) ?_; rotate_left; focus (intro w hSw; (try dsimp only at hSw); go_simp; (try with_reducible rfl); done)
    (try simp only [Act.put, List.getElem_toArray, List.getElem_cons_zero, List.getElem_cons_succ, List.setIfInBounds_toArray, List.set_cons_zero, List.set_cons_succ])
    refine wpAnyH_take (i := 17) (v := ?_) rfl (by kernel_rfl) (by kernel_rfl) (by kernel_rfl) (fun _ _ _ h => h) (Or.inl ⟨by rfl, ?_⟩) (by assumption) ?_; rotate_left; focus (intro w hSw; (try dsimp only at hSw); go_simp; (try with_reducible rfl); done)
    (try simp only [Act.put, List.getElem_toArray, List.getElem_cons_zero, List.getElem_cons_succ, List.setIfInBounds_toArray, List.set_cons_zero, List.set_cons_succ])
    refine wpAnyH_done (by kernel_rfl) ?_ _
    refine NoPanic.normal ?_
    go_wp2
    go_ret3
    have HF4 : Fresh w3 w3.drew := Fresh.drew _
    refine HFIN.out A' c' (m + 1) (2 * t + 1) (X ++ [s]) _ (by rw [List.length_append, HM.out]; rfl) ⟨HX2.out.fresh (HF3.out.trans HF4), HLD.out.fresh HF4, fun o => ?_, by simp, HO2.out.trans ((Only.of_fresh (HF3.out.trans HF4))), fun j hj => ?_⟩
    · rw [cnt_push, HSS.out.1, own_ten]
      exact upI_le H.out.cnt (by have := HSS.out.2.2.1; omega) o
    · rcases hj with e | e | e | ⟨u, hu, e⟩
      · exact .inl (.inl e)
      · exact .inl (.inr (.inl e))
      · exact .inl (.inr (.inr (.inl e)))
      · rcases List.mem_append.1 hu with hu | hu
        · exact .inl (.inr (.inr (.inr ⟨u, hu, e⟩)))
        · simp only [List.mem_cons, List.not_mem_nil, or_false] at hu
          subst hu
          exact .inr (by have := HSS.out.2.2.2; have := HF1.out.size; omega)
  · have HF2 := Lib.hid (HF1.out.trans hf2)
    have HQQ := Lib.hid hq
    have c80 := (H8.out.fresh hf2).cell 0
    have c81 := (H8.out.fresh hf2).cell 1
    have c91 := (H9.out.fresh hf2).cell 1
    simp at c80 c81 c91
    clear hq hX2 hf2 c90 c92
    go_wp2_with fail
    with_reducible refine (HRO.out _ (H.out.doc.fresh HF2.out)).mono ?_
    rintro e' w3 ⟨hf3, hcs⟩
    obtain rfl : e' = .returned (.tuple #[.slice A m c, .int .i64 33]) := by
      rw [cntD_doc, docL_length, HM.out] at hcs
      rcases hcs with ⟨hr, _⟩ | ⟨_, _, hr⟩ | ⟨_, hr, _⟩
      · have := HTT.out; omega
      · exact hr
      · have := HQQ.out; omega
    have HF3 := Lib.hid (HF2.out.trans hf3)
    clear hcs hf3 c80 c81
    go_wp2_with fail
    go_ret3
    exact HFIN.out A c m last X _ HM.out (H.out.same HF3.out)

end
end Go.Proofs.YtjediikcfhdgiaaDoor

