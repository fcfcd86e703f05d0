/-
  The laws of layer 14: one step of both: an event; any step.
-/
import Derived.Test.YtjediikcfhdgiaaDoorRegH
import Derived.Test.YtjediikcfhdgiaaDoorRegD
namespace Go.Proofs.YtjediikcfhdgiaaDoor
set_option maxRecDepth 100000
set_option linter.unusedVariables false
set_option linter.unusedSimpArgs false
open Go.RowKit Go.Maps
theorem step_ids {X : List StD} {id e : Int} : ∀ u ∈ stepX X id e, ∃ v ∈ X, u.id = v.id := by
  intro u h
  unfold stepX at h
  split at h
  · split at h
    · exact ⟨u, (gone_mem h).1, rfl⟩
    · obtain ⟨v, hv, rfl⟩ := led_mem h
      exact ⟨v, hv, by split <;> rfl⟩
  · exact ⟨u, h, rfl⟩
theorem led_cnt (n : Nat) (s : StD) (a : Int) (cs : List Int) (X : List StD) : cntX n (led s a cs X) = cntX n X := by
  refine cnt_same ?_
  have h := congrArg (fun l : List (Int × Nat) => l.map Prod.fst) (led_ids s a cs X)
  simpa [List.map_map, Function.comp_def] using h
theorem gone_cnt (n : Nat) (id : Int) (X : List StD) (o : Nat) : cntX n (gone id X) o ≤ cntX n X o := by
  unfold cntX gone
  have := (List.filter_sublist (p := fun s : StD => decide (s.id ≠ id)) (l := X)).countP_le (p := fun s : StD => decide (ownI n s.id = o))
  omega
theorem step_cnt {n : Nat} {X : List StD} {id e q : Int} (h : ∀ o, cntX n X o ≤ q) (o : Nat) : cntX n (stepX X id e) o ≤ q := by
  unfold stepX
  split
  · split
    · exact Int.le_trans (gone_cnt n id X o) (h o)
    · rw [led_cnt]; exact h o
  · exact h o
theorem step_len {X : List StD} {id e : Int} : (stepX X id e).length ≤ X.length := by
  unfold stepX
  split
  · split
    · exact List.length_filter_le _ _
    · unfold led; rw [List.length_map]; exact Nat.le_refl _
  · exact Nat.le_refl _
/-- An event that there is not changes no stream of the document's. -/
theorem docL_bad {n : Nat} {X : List StD} {id e : Int} (hr : X.Pairwise (fun s t => s.id < t.id)) (hst : ∀ s ∈ X, 1 ≤ s.a ∧ s.a ≤ 3) (he : ¬ (0 ≤ e ∧ e ≤ 8)) : docL n (stepX X id e) = docL n X := by
  have hA : ∀ a, doA a e = a := fun a => by unfold doA; rw [if_neg (by omega), if_neg (by omega)]
  unfold stepX
  split
  · next s hs =>
    have h3 := hst s (find_mem hs).1
    rw [hA, if_neg (by omega)]
    unfold led docL
    rw [List.map_map]
    apply List.map_congr_left
    intro t ht
    simp only [Function.comp]
    split
    · next hid =>
      have := ris_ne hr ht (find_mem hs).1 hid
      subst this
      rfl
    · rfl
  · rfl
theorem dV_bad {X : List StD} {id e : Int} {s : StD} (hf : X.find? (fun s => decide (s.id = id)) = some s) (he : ¬ (0 ≤ e ∧ e ≤ 8)) : dV X id e = (11, 0, false) := by
  unfold dV
  rw [hf]
  simp only
  unfold doE doC doB
  rw [if_neg (by omega), if_neg (by omega), if_neg (by omega), if_neg (by omega)]
theorem dV_none {X : List StD} {id e : Int} (hf : X.find? (fun s => decide (s.id = id)) = none) : dV X id e = (14, 0, false) := by
  unfold dV
  rw [hf]
theorem stepX_none {X : List StD} {id e : Int} (hf : X.find? (fun s => decide (s.id = id)) = none) : stepX X id e = X := by
  unfold stepX
  rw [hf]
/-- What is said of an event that there is. -/
theorem dV_good {X : List StD} {id e : Int} {s : StD} (hf : X.find? (fun s => decide (s.id = id)) = some s) (h1 : 1 ≤ s.a) (h3 : s.a ≤ 3) (h0 : 0 ≤ e) (h8 : e ≤ 8) :
    ((dV X id e).1 == 25) = (refW (stX s.a) e == 1) ∧ (decide ((dV X id e).2.1 = 0) && !(dV X id e).2.2) = decide (refW (stX s.a) e < 2) := by
  obtain ⟨k1, k2⟩ := stX_in h1 h3
  have he : e = ((e.toNat : Nat) : Int) := by omega
  have := rs_fit0 _ k1 ⟨e.toNat, by omega⟩
  simp only [k2, ← he] at this
  unfold dV
  rw [hf]
  simp only
  obtain ⟨_, _, _, _, h5, h6, _⟩ := this
  refine ⟨?_, h6⟩
  by_cases hx : doE s.a e = 25
  · rw [decide_eq_true hx] at h5
    have := of_decide_eq_true h5.symm
    rw [hx, this]
    rfl
  · rw [decide_eq_false hx] at h5
    have := of_decide_eq_false h5.symm
    rw [beq_eq_false_iff_ne.2 hx, beq_eq_false_iff_ne.2 this]
section
variable {w : World} {base g mb lb n : Nat} {q last : Int} {N : Nat} {K : Int} {X : List StD} {A : Option Addr} {c : Nat}
set_option maxHeartbeats 6400000 in
theorem st_do_none (h : StI w base g mb lb n q last N K X A c) (k t e : Int) (hk : k = 2) (hid : -9223372036854775808 ≤ t ∧ t ≤ 9223372036854775807) (hf : X.find? (fun s => decide (s.id = t)) = none) (zA : Option Addr) (zn zc : Nat) : Calls Tryd.prog 10 #[.pointer (some ⟨g, 0, none⟩), .slice A X.length c, .int .i64 last, .agg #[.int .i64 (n : Int), .int .i64 q, .slice zA zn zc], .agg #[.int .i64 k, .int .i64 t, .int .i64 e]] w (StepP w base g mb lb n q N K X) := by
  have HFIN : Hid (∀ (A' : Option Addr) (c' m' : Nat) (last' : Int) (X' : List StD) (W : World), X'.length = m' → StpR w W base g mb lb n q last' N K X A' c' X' → StepP w base g mb lb n q N K X (.returned (.tuple #[.slice A' m' c', .int .i64 last', .bool true])) W) := Lib.hid (fun A' c' m' last' X' W hm hs => ⟨A', c', last', X', by rw [hm], hs⟩)
  have H := Lib.hid h
  have hlt := fun k hk => h.reg.lt (k := k) hk
  have HLT := Lib.hid hlt
  obtain ⟨m, hm⟩ : ∃ m, X.length = m := ⟨_, rfl⟩
  have HM := Lib.hid hm
  have HDO := Lib.hid (fun W (hf : Fresh w W) => rg_do (h.reg.fresh hf) (h.tbl.fresh hf) h.bT h.n1 h.n2 h.k0 (by have := h.k1; omega) (by have := h.xl; omega) t e hid)
  have HFI := Lib.hid (fun W (hd : LD W A c (docL n X)) => rf_find A c (docL n X) t W hd (by rw [docL_length]; have := h.xl; omega))
  rw [docL_length, hm] at HFI
  have e1 : (k == 1) = false := by rw [hk]; rfl
  have e2 : (k == 2) = true := by rw [hk]; rfl
  rw [fd_none hf] at HFI
  have HDV := Lib.hid (dV_none (e := e) hf)
  have HSX := Lib.hid (stepX_none (e := e) hf)
  have HFK := Lib.hid (fun W => fok 0 false W)
  clear hk hid hf
  rw [hm]
  clear h hlt hm
  generalize StepP w base g mb lb n q N K X = PP at *
  obtain ⟨b8, hb8⟩ : ∃ x, w.heap.size = x := ⟨_, rfl⟩
  obtain ⟨b9, hb9⟩ : ∃ x, b8 + 1 = x := ⟨_, rfl⟩
  have HNB := Lib.hid (And.intro hb8 hb9)
  go_enter Tryd.func10, Tryd.ntmps10
  go_upto_region 1 with fail
  refine wp_gen (fun W => Fresh w W ∧ Blk W b8 24 #[.int .i64 (n : Int), .int .i64 q, .slice zA zn zc] ∧ Blk W b9 34 #[.int .i64 k, .int .i64 t, .int .i64 e]) ⟨(Fresh.alloc _ _).allocS _, (Blk.mkAt hb8).alloc _, Blk.mkAt (by simp; omega)⟩ ?_
  rintro W1 ⟨hf1, h8, h9⟩
  have HF1 := Lib.hid hf1
  have H8 := Lib.hid h8
  have H9 := Lib.hid h9
  have c90 := h9.cell 0
  have c91 := h9.cell 1
  have c92 := h9.cell 2
  simp at c90 c91 c92
  clear hf1 h8 h9 hb8 hb9
  go_wp2_with fail
  with_reducible refine (HDO.out _ HF1.out).mono ?_
  rintro e' w2 ⟨rfl, hX2, ho2⟩
  rw [HDV.out]
  dsimp only
  have hn8 : ¬ blkX g mb lb X b8 := fun hk' => by have := HLT.out b8 hk'; have := HNB.out; omega
  have hn9 : ¬ blkX g mb lb X b9 := fun hk' => by have := HLT.out b9 hk'; have := HNB.out; omega
  have H82 := Lib.hid (H8.out.only ho2 hn8)
  have H92 := Lib.hid (H9.out.only ho2 hn9)
  have HX2 := Lib.hid hX2
  have HO2 := Lib.hid ((Only.of_fresh HF1.out).trans ho2)
  have HD2 := Lib.hid ((H.out.doc.fresh HF1.out).only ho2 (fun j cs hb e => (H.out.reg.fresh HF1.out).noRow hb e))
  clear hn8 hn9 hX2 ho2 c90 c91 c92
  go_upto_region 12 with fail
  obtain ⟨b18, hb18⟩ : ∃ x, w2.heap.size = x := ⟨_, rfl⟩
  rw [hb18]
  refine wp_gen (fun W => Fresh w2 W ∧ Blk W b18 56 #[.int .i64 0, .bool false]) ⟨by repeat (first | with_reducible exact Fresh.alloc _ _ | with_reducible exact Fresh.refl _), by first | exact Blk.mkAt hb18 | (rw [← hb18]; exact Blk.new _ _ _)⟩ ?_
  clear hb18
  rintro W3 ⟨hf3, hb18⟩
  have HF3 := Lib.hid hf3
  have HB18 := Lib.hid hb18
  have c91 := (H92.out.fresh hf3).cell 1
  have c92 := (H92.out.fresh hf3).cell 2
  simp at c91 c92
  clear hf3 hb18
  go_wp2_with fail
  with_reducible refine (HFI.out _ (HD2.out.fresh HF3.out)).mono ?_
  rintro e' w4 ⟨rfl, hf4⟩
  have HF4 := Lib.hid (HF3.out.trans hf4)
  have HB4 := Lib.hid (HB18.out.fresh hf4)
  have c180 := (HB18.out.fresh hf4).cell 0
  have c181 := (HB18.out.fresh hf4).cell 1
  have c92 := (H92.out.fresh (HF3.out.trans hf4)).cell 2
  simp at c180 c181 c92
  clear hf4 c91
  go_wp2_with fail
  with_reducible refine (HFK.out _).mono ?_
  rintro e' w5 ⟨rfl, hf5⟩
  have HF5 := Lib.hid (HF4.out.trans hf5)
  clear hf5
  go_wp2
  go_ret3
  refine HFIN.out A c m last (stepX X t e) _ (by rw [HSX.out]; exact HM.out) ⟨(HX2.out.fresh HF5.out).mono (by omega) (by omega), by rw [HSX.out]; exact HD2.out.fresh HF5.out, step_cnt H.out.cnt, by have := step_len (X := X) (id := t) (e := e); omega, HO2.out.trans (Only.of_fresh HF5.out), fun j hj => ?_⟩
  rcases hj with e | e | e | ⟨u, hu, e⟩
  · exact .inl (.inl e)
  · exact .inl (.inr (.inl e))
  · exact .inl (.inr (.inr (.inl e)))
  · obtain ⟨v, hv, e2⟩ := step_blk hu
    exact .inl (.inr (.inr (.inr ⟨v, hv, e.trans e2⟩)))

set_option maxHeartbeats 6400000 in
theorem st_do_low (h : StI w base g mb lb n q last N K X A c) (k t e : Int) (hk : k = 2) (hid : -9223372036854775808 ≤ t ∧ t ≤ 9223372036854775807) {s : StD} (hf : X.find? (fun s => decide (s.id = t)) = some s) (he : e < 0) (zA : Option Addr) (zn zc : Nat) : Calls Tryd.prog 10 #[.pointer (some ⟨g, 0, none⟩), .slice A X.length c, .int .i64 last, .agg #[.int .i64 (n : Int), .int .i64 q, .slice zA zn zc], .agg #[.int .i64 k, .int .i64 t, .int .i64 e]] w (StepP w base g mb lb n q N K X) := by
  have HFIN : Hid (∀ (A' : Option Addr) (c' m' : Nat) (last' : Int) (X' : List StD) (W : World), X'.length = m' → StpR w W base g mb lb n q last' N K X A' c' X' → StepP w base g mb lb n q N K X (.returned (.tuple #[.slice A' m' c', .int .i64 last', .bool true])) W) := Lib.hid (fun A' c' m' last' X' W hm hs => ⟨A', c', last', X', by rw [hm], hs⟩)
  have H := Lib.hid h
  have hlt := fun k hk => h.reg.lt (k := k) hk
  have HLT := Lib.hid hlt
  obtain ⟨m, hm⟩ : ∃ m, X.length = m := ⟨_, rfl⟩
  have HM := Lib.hid hm
  have HDO := Lib.hid (fun W (hf : Fresh w W) => rg_do (h.reg.fresh hf) (h.tbl.fresh hf) h.bT h.n1 h.n2 h.k0 (by have := h.k1; omega) (by have := h.xl; omega) t e hid)
  have HFI := Lib.hid (fun W (hd : LD W A c (docL n X)) => rf_find A c (docL n X) t W hd (by rw [docL_length]; have := h.xl; omega))
  rw [docL_length, hm] at HFI
  have e1 : (k == 1) = false := by rw [hk]; rfl
  have e2 : (k == 2) = true := by rw [hk]; rfl
  have HST := Lib.hid (h.reg.st s (find_mem hf).1)
  obtain ⟨kk, hxk, hsk, hnk⟩ := find_at hf
  rw [fd_some hxk hsk hnk] at HFI
  have HDV := Lib.hid (dV_bad hf (show ¬ (0 ≤ e ∧ e ≤ 8) by omega))
  have HDL := Lib.hid (docL_bad (n := n) (id := t) h.reg.ris h.reg.st (show ¬ (0 ≤ e ∧ e ≤ 8) by omega))
  have HML : Hid ((stepX X t e).length = m) := Lib.hid (by rw [← docL_length n (stepX X t e), HDL.out, docL_length, hm])
  have HFK := Lib.hid (fun W => fok 0 false W)
  have dk : decide ((kk : Int) < 0) = false := decide_eq_false (by omega)
  have de : decide (e < 0) = true := decide_eq_true he
  clear hk hid hf he hxk hsk hnk
  rw [hm]
  clear h hlt hm
  generalize StepP w base g mb lb n q N K X = PP at *
  obtain ⟨b8, hb8⟩ : ∃ x, w.heap.size = x := ⟨_, rfl⟩
  obtain ⟨b9, hb9⟩ : ∃ x, b8 + 1 = x := ⟨_, rfl⟩
  have HNB := Lib.hid (And.intro hb8 hb9)
  go_enter Tryd.func10, Tryd.ntmps10
  go_upto_region 1 with fail
  refine wp_gen (fun W => Fresh w W ∧ Blk W b8 24 #[.int .i64 (n : Int), .int .i64 q, .slice zA zn zc] ∧ Blk W b9 34 #[.int .i64 k, .int .i64 t, .int .i64 e]) ⟨(Fresh.alloc _ _).allocS _, (Blk.mkAt hb8).alloc _, Blk.mkAt (by simp; omega)⟩ ?_
  rintro W1 ⟨hf1, h8, h9⟩
  have HF1 := Lib.hid hf1
  have H8 := Lib.hid h8
  have H9 := Lib.hid h9
  have c90 := h9.cell 0
  have c91 := h9.cell 1
  have c92 := h9.cell 2
  simp at c90 c91 c92
  clear hf1 h8 h9 hb8 hb9
  go_wp2_with fail
  with_reducible refine (HDO.out _ HF1.out).mono ?_
  rintro e' w2 ⟨rfl, hX2, ho2⟩
  rw [HDV.out]
  dsimp only
  have hn8 : ¬ blkX g mb lb X b8 := fun hk' => by have := HLT.out b8 hk'; have := HNB.out; omega
  have hn9 : ¬ blkX g mb lb X b9 := fun hk' => by have := HLT.out b9 hk'; have := HNB.out; omega
  have H82 := Lib.hid (H8.out.only ho2 hn8)
  have H92 := Lib.hid (H9.out.only ho2 hn9)
  have HX2 := Lib.hid hX2
  have HO2 := Lib.hid ((Only.of_fresh HF1.out).trans ho2)
  have HD2 := Lib.hid ((H.out.doc.fresh HF1.out).only ho2 (fun j cs hb e => (H.out.reg.fresh HF1.out).noRow hb e))
  clear hn8 hn9 hX2 ho2 c90 c91 c92
  go_upto_region 12 with fail
  obtain ⟨b18, hb18⟩ : ∃ x, w2.heap.size = x := ⟨_, rfl⟩
  rw [hb18]
  refine wp_gen (fun W => Fresh w2 W ∧ Blk W b18 56 #[.int .i64 0, .bool false]) ⟨by repeat (first | with_reducible exact Fresh.alloc _ _ | with_reducible exact Fresh.refl _), by first | exact Blk.mkAt hb18 | (rw [← hb18]; exact Blk.new _ _ _)⟩ ?_
  clear hb18
  rintro W3 ⟨hf3, hb18⟩
  have HF3 := Lib.hid hf3
  have HB18 := Lib.hid hb18
  have c91 := (H92.out.fresh hf3).cell 1
  have c92 := (H92.out.fresh hf3).cell 2
  simp at c91 c92
  clear hf3 hb18
  go_wp2_with fail
  with_reducible refine (HFI.out _ (HD2.out.fresh HF3.out)).mono ?_
  rintro e' w4 ⟨rfl, hf4⟩
  have HF4 := Lib.hid (HF3.out.trans hf4)
  have HB4 := Lib.hid (HB18.out.fresh hf4)
  have c180 := (HB18.out.fresh hf4).cell 0
  have c181 := (HB18.out.fresh hf4).cell 1
  have c92 := (H92.out.fresh (HF3.out.trans hf4)).cell 2
  simp at c180 c181 c92
  clear hf4 c91
  go_wp2_with fail
  with_reducible refine (HFK.out _).mono ?_
  rintro e' w5 ⟨rfl, hf5⟩
  have HF5 := Lib.hid (HF4.out.trans hf5)
  clear hf5
  go_wp2
  go_ret3
  refine HFIN.out A c m last (stepX X t e) _ HML.out ⟨(HX2.out.fresh HF5.out).mono (by omega) (by omega), by rw [HDL.out]; exact HD2.out.fresh HF5.out, step_cnt H.out.cnt, by have := step_len (X := X) (id := t) (e := e); omega, HO2.out.trans (Only.of_fresh HF5.out), fun j hj => ?_⟩
  rcases hj with e | e | e | ⟨u, hu, e⟩
  · exact .inl (.inl e)
  · exact .inl (.inr (.inl e))
  · exact .inl (.inr (.inr (.inl e)))
  · obtain ⟨v, hv, e2⟩ := step_blk hu
    exact .inl (.inr (.inr (.inr ⟨v, hv, e.trans e2⟩)))

set_option maxHeartbeats 6400000 in
theorem st_do_high (h : StI w base g mb lb n q last N K X A c) (k t e : Int) (hk : k = 2) (hid : -9223372036854775808 ≤ t ∧ t ≤ 9223372036854775807) {s : StD} (hf : X.find? (fun s => decide (s.id = t)) = some s) (he : 8 < e) (zA : Option Addr) (zn zc : Nat) : Calls Tryd.prog 10 #[.pointer (some ⟨g, 0, none⟩), .slice A X.length c, .int .i64 last, .agg #[.int .i64 (n : Int), .int .i64 q, .slice zA zn zc], .agg #[.int .i64 k, .int .i64 t, .int .i64 e]] w (StepP w base g mb lb n q N K X) := by
  have HFIN : Hid (∀ (A' : Option Addr) (c' m' : Nat) (last' : Int) (X' : List StD) (W : World), X'.length = m' → StpR w W base g mb lb n q last' N K X A' c' X' → StepP w base g mb lb n q N K X (.returned (.tuple #[.slice A' m' c', .int .i64 last', .bool true])) W) := Lib.hid (fun A' c' m' last' X' W hm hs => ⟨A', c', last', X', by rw [hm], hs⟩)
  have H := Lib.hid h
  have hlt := fun k hk => h.reg.lt (k := k) hk
  have HLT := Lib.hid hlt
  obtain ⟨m, hm⟩ : ∃ m, X.length = m := ⟨_, rfl⟩
  have HM := Lib.hid hm
  have HDO := Lib.hid (fun W (hf : Fresh w W) => rg_do (h.reg.fresh hf) (h.tbl.fresh hf) h.bT h.n1 h.n2 h.k0 (by have := h.k1; omega) (by have := h.xl; omega) t e hid)
  have HFI := Lib.hid (fun W (hd : LD W A c (docL n X)) => rf_find A c (docL n X) t W hd (by rw [docL_length]; have := h.xl; omega))
  rw [docL_length, hm] at HFI
  have e1 : (k == 1) = false := by rw [hk]; rfl
  have e2 : (k == 2) = true := by rw [hk]; rfl
  have HST := Lib.hid (h.reg.st s (find_mem hf).1)
  obtain ⟨kk, hxk, hsk, hnk⟩ := find_at hf
  rw [fd_some hxk hsk hnk] at HFI
  have HDV := Lib.hid (dV_bad hf (show ¬ (0 ≤ e ∧ e ≤ 8) by omega))
  have HDL := Lib.hid (docL_bad (n := n) (id := t) h.reg.ris h.reg.st (show ¬ (0 ≤ e ∧ e ≤ 8) by omega))
  have HML : Hid ((stepX X t e).length = m) := Lib.hid (by rw [← docL_length n (stepX X t e), HDL.out, docL_length, hm])
  have HFK := Lib.hid (fun W => fok 0 false W)
  have dk : decide ((kk : Int) < 0) = false := decide_eq_false (by omega)
  have de : decide (e < 0) = false := decide_eq_false (by omega)
  have df : decide (8 < e) = true := decide_eq_true he
  clear hk hid hf he hxk hsk hnk
  rw [hm]
  clear h hlt hm
  generalize StepP w base g mb lb n q N K X = PP at *
  obtain ⟨b8, hb8⟩ : ∃ x, w.heap.size = x := ⟨_, rfl⟩
  obtain ⟨b9, hb9⟩ : ∃ x, b8 + 1 = x := ⟨_, rfl⟩
  have HNB := Lib.hid (And.intro hb8 hb9)
  go_enter Tryd.func10, Tryd.ntmps10
  go_upto_region 1 with fail
  refine wp_gen (fun W => Fresh w W ∧ Blk W b8 24 #[.int .i64 (n : Int), .int .i64 q, .slice zA zn zc] ∧ Blk W b9 34 #[.int .i64 k, .int .i64 t, .int .i64 e]) ⟨(Fresh.alloc _ _).allocS _, (Blk.mkAt hb8).alloc _, Blk.mkAt (by simp; omega)⟩ ?_
  rintro W1 ⟨hf1, h8, h9⟩
  have HF1 := Lib.hid hf1
  have H8 := Lib.hid h8
  have H9 := Lib.hid h9
  have c90 := h9.cell 0
  have c91 := h9.cell 1
  have c92 := h9.cell 2
  simp at c90 c91 c92
  clear hf1 h8 h9 hb8 hb9
  go_wp2_with fail
  with_reducible refine (HDO.out _ HF1.out).mono ?_
  rintro e' w2 ⟨rfl, hX2, ho2⟩
  rw [HDV.out]
  dsimp only
  have hn8 : ¬ blkX g mb lb X b8 := fun hk' => by have := HLT.out b8 hk'; have := HNB.out; omega
  have hn9 : ¬ blkX g mb lb X b9 := fun hk' => by have := HLT.out b9 hk'; have := HNB.out; omega
  have H82 := Lib.hid (H8.out.only ho2 hn8)
  have H92 := Lib.hid (H9.out.only ho2 hn9)
  have HX2 := Lib.hid hX2
  have HO2 := Lib.hid ((Only.of_fresh HF1.out).trans ho2)
  have HD2 := Lib.hid ((H.out.doc.fresh HF1.out).only ho2 (fun j cs hb e => (H.out.reg.fresh HF1.out).noRow hb e))
  clear hn8 hn9 hX2 ho2 c90 c91 c92
  go_upto_region 12 with fail
  obtain ⟨b18, hb18⟩ : ∃ x, w2.heap.size = x := ⟨_, rfl⟩
  rw [hb18]
  refine wp_gen (fun W => Fresh w2 W ∧ Blk W b18 56 #[.int .i64 0, .bool false]) ⟨by repeat (first | with_reducible exact Fresh.alloc _ _ | with_reducible exact Fresh.refl _), by first | exact Blk.mkAt hb18 | (rw [← hb18]; exact Blk.new _ _ _)⟩ ?_
  clear hb18
  rintro W3 ⟨hf3, hb18⟩
  have HF3 := Lib.hid hf3
  have HB18 := Lib.hid hb18
  have c91 := (H92.out.fresh hf3).cell 1
  have c92 := (H92.out.fresh hf3).cell 2
  simp at c91 c92
  clear hf3 hb18
  go_wp2_with fail
  with_reducible refine (HFI.out _ (HD2.out.fresh HF3.out)).mono ?_
  rintro e' w4 ⟨rfl, hf4⟩
  have HF4 := Lib.hid (HF3.out.trans hf4)
  have HB4 := Lib.hid (HB18.out.fresh hf4)
  have c180 := (HB18.out.fresh hf4).cell 0
  have c181 := (HB18.out.fresh hf4).cell 1
  have c92 := (H92.out.fresh (HF3.out.trans hf4)).cell 2
  simp at c180 c181 c92
  clear hf4 c91
  go_wp2_with fail
  with_reducible refine (HFK.out _).mono ?_
  rintro e' w5 ⟨rfl, hf5⟩
  have HF5 := Lib.hid (HF4.out.trans hf5)
  clear hf5
  go_wp2
  go_ret3
  refine HFIN.out A c m last (stepX X t e) _ HML.out ⟨(HX2.out.fresh HF5.out).mono (by omega) (by omega), by rw [HDL.out]; exact HD2.out.fresh HF5.out, step_cnt H.out.cnt, by have := step_len (X := X) (id := t) (e := e); omega, HO2.out.trans (Only.of_fresh HF5.out), fun j hj => ?_⟩
  rcases hj with e | e | e | ⟨u, hu, e⟩
  · exact .inl (.inl e)
  · exact .inl (.inr (.inl e))
  · exact .inl (.inr (.inr (.inl e)))
  · obtain ⟨v, hv, e2⟩ := step_blk hu
    exact .inl (.inr (.inr (.inr ⟨v, hv, e.trans e2⟩)))

set_option maxHeartbeats 6400000 in
theorem st_do_good (h : StI w base g mb lb n q last N K X A c) (k t e : Int) (hk : k = 2) (hid : -9223372036854775808 ≤ t ∧ t ≤ 9223372036854775807) {s : StD} (hf : X.find? (fun s => decide (s.id = t)) = some s) (h0 : 0 ≤ e) (h8 : e ≤ 8) (zA : Option Addr) (zn zc : Nat) : Calls Tryd.prog 10 #[.pointer (some ⟨g, 0, none⟩), .slice A X.length c, .int .i64 last, .agg #[.int .i64 (n : Int), .int .i64 q, .slice zA zn zc], .agg #[.int .i64 k, .int .i64 t, .int .i64 e]] w (StepP w base g mb lb n q N K X) := by
  have HFIN : Hid (∀ (A' : Option Addr) (c' m' : Nat) (last' : Int) (X' : List StD) (W : World), X'.length = m' → StpR w W base g mb lb n q last' N K X A' c' X' → StepP w base g mb lb n q N K X (.returned (.tuple #[.slice A' m' c', .int .i64 last', .bool true])) W) := Lib.hid (fun A' c' m' last' X' W hm hs => ⟨A', c', last', X', by rw [hm], hs⟩)
  have H := Lib.hid h
  have hlt := fun k hk => h.reg.lt (k := k) hk
  have HLT := Lib.hid hlt
  obtain ⟨m, hm⟩ : ∃ m, X.length = m := ⟨_, rfl⟩
  have HM := Lib.hid hm
  have HDO := Lib.hid (fun W (hf : Fresh w W) => rg_do (h.reg.fresh hf) (h.tbl.fresh hf) h.bT h.n1 h.n2 h.k0 (by have := h.k1; omega) (by have := h.xl; omega) t e hid)
  have HFI := Lib.hid (fun W (hd : LD W A c (docL n X)) => rf_find A c (docL n X) t W hd (by rw [docL_length]; have := h.xl; omega))
  rw [docL_length, hm] at HFI
  have e1 : (k == 1) = false := by rw [hk]; rfl
  have e2 : (k == 2) = true := by rw [hk]; rfl
  have HST := Lib.hid (h.reg.st s (find_mem hf).1)
  obtain ⟨kk, hxk, hsk, hnk⟩ := find_at hf
  rw [fd_some hxk hsk hnk] at HFI
  have hs3 := h.reg.st s (find_mem hf).1
  have hxd : (docL n X)[kk]? = some (docS n s) := by unfold docL; rw [List.getElem?_map, hxk]; rfl
  have HRD := Lib.hid (fun W (hd : LD W A c (docL n X)) => rf14_do A c (docL n X) kk (docS n s) e W hd (by rw [docL_length]; have := h.xl; omega) hxd (stX_in hs3.1 hs3.2).1 h0 h8)
  rw [docL_length, hm] at HRD
  have HDS : Hid (doD (docL n X) kk (docS n s) e = docL n (stepX X t e)) := Lib.hid (by
    have := doc_step (n := n) (e := e) h.reg.ris hxk (by rw [hsk]; exact hf) hs3.1 hs3.2 h0 h8
    rw [hsk] at this
    exact this)
  have HGD := Lib.hid (dV_good hf hs3.1 hs3.2 h0 h8)
  have dk : decide ((kk : Int) < 0) = false := decide_eq_false (by omega)
  have de : decide (e < 0) = false := decide_eq_false (by omega)
  have df : decide (8 < e) = false := decide_eq_false (by omega)
  have hxw : (docS n s).x = stX s.a := rfl
  have HXW := Lib.hid hxw
  clear hk hid hf h0 h8 hxk hsk hnk hs3 hxd hxw
  rw [hm]
  clear h hlt hm
  generalize StepP w base g mb lb n q N K X = PP at *
  obtain ⟨b8, hb8⟩ : ∃ x, w.heap.size = x := ⟨_, rfl⟩
  obtain ⟨b9, hb9⟩ : ∃ x, b8 + 1 = x := ⟨_, rfl⟩
  have HNB := Lib.hid (And.intro hb8 hb9)
  go_enter Tryd.func10, Tryd.ntmps10
  go_upto_region 1 with fail
  refine wp_gen (fun W => Fresh w W ∧ Blk W b8 24 #[.int .i64 (n : Int), .int .i64 q, .slice zA zn zc] ∧ Blk W b9 34 #[.int .i64 k, .int .i64 t, .int .i64 e]) ⟨(Fresh.alloc _ _).allocS _, (Blk.mkAt hb8).alloc _, Blk.mkAt (by simp; omega)⟩ ?_
  rintro W1 ⟨hf1, h8, h9⟩
  have HF1 := Lib.hid hf1
  have H8 := Lib.hid h8
  have H9 := Lib.hid h9
  have c90 := h9.cell 0
  have c91 := h9.cell 1
  have c92 := h9.cell 2
  simp at c90 c91 c92
  clear hf1 h8 h9 hb8 hb9
  go_wp2_with fail
  with_reducible refine (HDO.out _ HF1.out).mono ?_
  rintro e' w2 ⟨rfl, hX2, ho2⟩
  obtain ⟨hg1, hg2⟩ := HGD.out
  generalize (dV X t e).1 = E at *
  generalize (dV X t e).2.1 = C at *
  generalize (dV X t e).2.2 = B at *
  generalize hW : refW (stX s.a) e = W at *
  have HW := Lib.hid hW
  have HG2 := Lib.hid hg2
  have HG1 := Lib.hid hg1
  clear hW hg1 hg2
  have hn8 : ¬ blkX g mb lb X b8 := fun hk' => by have := HLT.out b8 hk'; have := HNB.out; omega
  have hn9 : ¬ blkX g mb lb X b9 := fun hk' => by have := HLT.out b9 hk'; have := HNB.out; omega
  have H82 := Lib.hid (H8.out.only ho2 hn8)
  have H92 := Lib.hid (H9.out.only ho2 hn9)
  have HX2 := Lib.hid hX2
  have HO2 := Lib.hid ((Only.of_fresh HF1.out).trans ho2)
  have HD2 := Lib.hid ((H.out.doc.fresh HF1.out).only ho2 (fun j cs hb e => (H.out.reg.fresh HF1.out).noRow hb e))
  clear hn8 hn9 hX2 ho2 c90 c91 c92
  go_upto_region 12 with fail
  obtain ⟨b18, hb18⟩ : ∃ x, w2.heap.size = x := ⟨_, rfl⟩
  rw [hb18]
  refine wp_gen (fun W => Fresh w2 W ∧ Blk W b18 56 #[.int .i64 C, .bool B]) ⟨by repeat (first | with_reducible exact Fresh.alloc _ _ | with_reducible exact Fresh.refl _), by first | exact Blk.mkAt hb18 | (rw [← hb18]; exact Blk.new _ _ _)⟩ ?_
  clear hb18
  rintro W3 ⟨hf3, hb18⟩
  have HF3 := Lib.hid hf3
  have HB18 := Lib.hid hb18
  have c91 := (H92.out.fresh hf3).cell 1
  have c92 := (H92.out.fresh hf3).cell 2
  simp at c91 c92
  clear hf3 hb18
  go_wp2_with fail
  with_reducible refine (HFI.out _ (HD2.out.fresh HF3.out)).mono ?_
  rintro e' w4 ⟨rfl, hf4⟩
  have HF4 := Lib.hid (HF3.out.trans hf4)
  have HB4 := Lib.hid (HB18.out.fresh hf4)
  have c180 := (HB18.out.fresh hf4).cell 0
  have c181 := (HB18.out.fresh hf4).cell 1
  have c92 := (H92.out.fresh (HF3.out.trans hf4)).cell 2
  simp at c180 c181 c92
  clear hf4 c91
  go_wp2_with fail
  with_reducible refine (HRD.out _ (HD2.out.fresh HF4.out)).mono ?_
  rintro e' w5 ⟨A', c', rfl, hd5, hf5⟩
  rw [HDS.out] at hd5 ⊢
  rw [docL_length, HXW.out, HW.out]
  have HD5 := Lib.hid hd5
  have HF5 := Lib.hid (HF4.out.trans hf5)
  have hb5 := HB4.out.fresh hf5
  have c180 := hb5.cell 0
  have c181 := hb5.cell 1
  simp at c180 c181
  obtain ⟨b1, hb1⟩ : ∃ b, (W == 1) = b := ⟨_, rfl⟩
  obtain ⟨b2, hb2⟩ : ∃ b, decide (W < 2) = b := ⟨_, rfl⟩
  have hE := HG1.out
  rw [hb1] at hE
  have HFK := Lib.hid (fun W' => fok C B W')
  rw [HG2.out, hb2] at HFK
  have h11 : (b1 == b1) = true := by simp
  have h22 : (b2 == b2) = true := by simp
  clear hd5 hf5 hb5
  dsimp only
  go_wp2_with fail
  with_reducible refine (HFK.out _).mono ?_
  rintro e' w6 ⟨rfl, hf6⟩
  have HF6 := Lib.hid (HF5.out.trans hf6)
  have HD6 := Lib.hid (HD5.out.fresh hf6)
  clear hf6
  go_wp2
  go_ret3
  refine HFIN.out A' c' _ last (stepX X t e) _ rfl ⟨(HX2.out.fresh HF6.out).mono (by omega) (by omega), HD6.out, step_cnt H.out.cnt, by have := step_len (X := X) (id := t) (e := e); omega, HO2.out.trans (Only.of_fresh HF6.out), fun j hj => ?_⟩
  rcases hj with e | e | e | ⟨u, hu, e⟩
  · exact .inl (.inl e)
  · exact .inl (.inr (.inl e))
  · exact .inl (.inr (.inr (.inl e)))
  · obtain ⟨v, hv, e2⟩ := step_blk hu
    exact .inl (.inr (.inr (.inr ⟨v, hv, e.trans e2⟩)))
theorem l14_step (h : StI w base g mb lb n q last N K X A c) (k t e : Int) (hid : -9223372036854775808 ≤ t ∧ t ≤ 9223372036854775807) (zA : Option Addr) (zn zc : Nat) : Calls Tryd.prog 10 #[.pointer (some ⟨g, 0, none⟩), .slice A X.length c, .int .i64 last, .agg #[.int .i64 (n : Int), .int .i64 q, .slice zA zn zc], .agg #[.int .i64 k, .int .i64 t, .int .i64 e]] w (StepP w base g mb lb n q N K X) := by
  by_cases h1 : k = 1
  · by_cases hr : 0 ≤ t ∧ t ≤ 1073741823
    · by_cases hl : last < 2 * t + 1
      · exact st_open_new h k t e h1 hr.1 hr.2 hl zA zn zc
      · exact st_open_old h k t e h1 hr.1 hr.2 (by omega) zA zn zc
    · exact st_open_range h k t e h1 hr zA zn zc
  by_cases h2 : k = 2
  · cases hf : X.find? (fun s => decide (s.id = t)) with
    | none => exact st_do_none h k t e h2 hid hf zA zn zc
    | some s =>
      by_cases he : e < 0
      · exact st_do_low h k t e h2 hid hf he zA zn zc
      by_cases he8 : 8 < e
      · exact st_do_high h k t e h2 hid hf he8 zA zn zc
      exact st_do_good h k t e h2 hid hf (by omega) (by omega) zA zn zc
  by_cases h3 : k = 3
  · exact st_fail h k t e h3 zA zn zc
  exact st_other h k t e h1 h2 h3 zA zn zc

end
end Go.Proofs.YtjediikcfhdgiaaDoor

