/-
  Texts laid together: DecE DecF.
-/
import Derived.Test.YtginhebfjbhmnaaGreatG32
/-
  Package decode: line.
-/
namespace Go.Proofs.YtginhebfjbhmnaaGreat
set_option maxRecDepth 100000
set_option maxRecDepth 100000
set_option linter.unusedVariables false
set_option linter.unusedSimpArgs false
open Go.RowKit
def lineE (f : FldT) (nv : Bool) (u er : Nat) : Ending := .returned (.tuple #[.agg #[.string f.1, .string f.2, .bool nv], .int .i64 (u : Int), .int .i64 (er : Int)])
set_option maxHeartbeats 1600000 in
theorem de_line_a (d : Nat) (n : Nat) (S : Value) (F1 F2 : ByteArray) (er : Nat) (w : World)
    (HEN : Hid (∀ W, Fresh w W → Calls Tryz.prog 87 #[.pointer (some ⟨d, 0, none⟩), .int .i64 (n : Int)] W fun e w' => e = .returned (.tuple #[.agg #[.string F1, .string F2], .int .i64 (er : Int)]) ∧ Fresh W w')) :
    Calls Tryz.prog 82 #[.pointer (some ⟨d, 0, none⟩), .int .i64 0, .int .i64 (n : Int), S] w fun e w' => e = lineE (F1, F2) false 0 er ∧ Fresh w w' := by
  unfold lineE
  simp only
  go_enter Tryz.func82, Tryz.ntmps82
  go_wp2_with fail
  with_reducible refine (HEN.out _ (Fresh.alloc _ _)).mono ?_
  rintro e w1 ⟨rfl, hf1⟩
  have hb1 := (Blk.new w 64 #[.string ⟨#[]⟩, .string ⟨#[]⟩, .bool false]).fresh hf1
  have hf1' := Fresh.tA hf1
  clear hf1
  go_upto_region 3 with fail
  refine wp_gen (fun W => Blk W w.heap.size 64 #[.string ⟨#[]⟩, .string ⟨#[]⟩, .bool false] ∧ Blk W w1.heap.size 62 #[.string F1, .string F2] ∧ Fresh w W) ⟨hb1.alloc _, Blk.new w1 _ _, hf1'.allocS _⟩ ?_
  rintro W2 ⟨hb2, hb3, hf2⟩
  have HB1 := Lib.hid hb2
  have HF1 := Lib.hid hf2
  obtain ⟨d0, d1, d2⟩ := HB1.out.c3
  obtain ⟨g0, g1⟩ := hb3.c2
  have z0 := HB1.out.frozen 0
  have z1 := HB1.out.frozen 1
  have z2 := HB1.out.frozen 2
  clear hb1 hf1' hb2 hf2 hb3
  go_wp2
  refine wx_gen (fun W => Blk W w.heap.size 64 #[.string F1, .string F2, .bool false] ∧ Fresh w W) ⟨((HB1.out.set 0 (.string F1)).set 1 (.string F2)).set 2 (.bool false), by repeat (first | with_reducible exact HF1.out | (with_reducible refine Fresh.step2 ?_ ?_; focus (exact Nat.le_refl _)))⟩ ?_
  rintro W7 ⟨hb7, hf7⟩
  obtain ⟨r0, r1, r2⟩ := hb7.c3
  exact bodyPost_ret (v := .tuple #[.agg #[.string F1, .string F2, .bool false], .int .i64 0, .int .i64 (er : Int)]) (by simp [results, Tryz.f82, go_sem, r0, r1, r2]) rfl ⟨rfl, hf7⟩
set_option maxHeartbeats 1600000 in
theorem de_line_n (d : Nat) (k n : Nat) (A : Option Addr) (m c : Nat) (F1 F2 : ByteArray) (u er : Nat) (w : World) (hk : 1 ≤ k) (her : er ≠ 0)
    (HFD : Hid (∀ W, Fresh w W → Calls Tryz.prog 88 #[.pointer (some ⟨d, 0, none⟩), .int .i64 (n : Int), .slice A m c] W fun e w' => e = .returned (.tuple #[.agg #[.string F1, .string F2], .int .i64 (u : Int), .int .i64 (er : Int)]) ∧ Fresh W w')) :
    Calls Tryz.prog 82 #[.pointer (some ⟨d, 0, none⟩), .int .i64 (k : Int), .int .i64 (n : Int), .slice A m c] w fun e w' => e = lineE (strB [], strB []) false 0 er ∧ Fresh w w' := by
  unfold lineE
  simp only
  have k0 : ¬ (k : Int) = 0 := by omega
  have h0d : ((er : Int) != 0) = true := by simp; omega
  have h0i : ¬ (er : Int) = 0 := by omega
  go_enter Tryz.func82, Tryz.ntmps82
  go_wp2_with fail
  with_reducible refine (HFD.out _ (Fresh.alloc _ _)).mono ?_
  rintro e w1 ⟨rfl, hf1⟩
  have hb1 := (Blk.new w 64 #[.string ⟨#[]⟩, .string ⟨#[]⟩, .bool false]).fresh hf1
  have hf1' := Fresh.tA hf1
  clear hf1
  go_upto_region 5 with fail
  refine wp_gen (fun W => Blk W w.heap.size 64 #[.string ⟨#[]⟩, .string ⟨#[]⟩, .bool false] ∧ Fresh w W) ⟨hb1.alloc _, hf1'.allocS _⟩ ?_
  rintro W2 ⟨hb2, hf2⟩
  have HB1 := Lib.hid hb2
  have HF1 := Lib.hid hf2
  obtain ⟨d0, d1, d2⟩ := HB1.out.c3
  have z0 := HB1.out.frozen 0
  have z1 := HB1.out.frozen 1
  have z2 := HB1.out.frozen 2
  clear hb1 hf1' hb2 hf2
  go_wp2
  refine wx_gen (fun W => Blk W w.heap.size 64 #[.string ⟨#[]⟩, .string ⟨#[]⟩, .bool false] ∧ Fresh w W) ⟨((HB1.out.set 0 (.string ⟨#[]⟩)).set 1 (.string ⟨#[]⟩)).set 2 (.bool false), by repeat (first | with_reducible exact HF1.out | (with_reducible refine Fresh.step2 ?_ ?_; focus (exact Nat.le_refl _)))⟩ ?_
  rintro W7 ⟨hb7, hf7⟩
  obtain ⟨r0, r1, r2⟩ := hb7.c3
  exact bodyPost_ret (v := .tuple #[.agg #[.string ⟨#[]⟩, .string ⟨#[]⟩, .bool false], .int .i64 0, .int .i64 (er : Int)]) (by simp [results, Tryz.f82, go_sem, r0, r1, r2]) rfl ⟨rfl, hf7⟩
set_option maxHeartbeats 1600000 in
theorem de_line_f (d : Nat) (k n : Nat) (A : Option Addr) (m c : Nat) (F1 F2 : ByteArray) (u : Nat) (w : World) (hk : 2 ≤ k)
    (HFD : Hid (∀ W, Fresh w W → Calls Tryz.prog 88 #[.pointer (some ⟨d, 0, none⟩), .int .i64 (n : Int), .slice A m c] W fun e w' => e = .returned (.tuple #[.agg #[.string F1, .string F2], .int .i64 (u : Int), .int .i64 0]) ∧ Fresh W w')) :
    Calls Tryz.prog 82 #[.pointer (some ⟨d, 0, none⟩), .int .i64 (k : Int), .int .i64 (n : Int), .slice A m c] w fun e w' => e = lineE (F1, F2) (decide (k = 3)) u 0 ∧ Fresh w w' := by
  unfold lineE
  simp only
  have k0 : ¬ (k : Int) = 0 := by omega
  have k1 : ¬ (k : Int) = 1 := by omega
  obtain ⟨nv, hnv⟩ : ∃ nv, decide (k = 3) = nv := ⟨_, rfl⟩
  have k3 : ((k : Int) == 3) = nv := by rw [← hnv]; by_cases h : k = 3 <;> simp [h] <;> omega
  have k3d : decide ((k : Int) = 3) = nv := by rw [← hnv]; by_cases h : k = 3 <;> simp [h] <;> omega
  rw [hnv]
  clear hnv
  go_enter Tryz.func82, Tryz.ntmps82
  go_wp2_with fail
  with_reducible refine (HFD.out _ (Fresh.alloc _ _)).mono ?_
  rintro e w1 ⟨rfl, hf1⟩
  have hb1 := (Blk.new w 64 #[.string ⟨#[]⟩, .string ⟨#[]⟩, .bool false]).fresh hf1
  have hf1' := Fresh.tA hf1
  clear hf1
  go_upto_region 5 with fail
  refine wp_gen (fun W => Blk W w.heap.size 64 #[.string ⟨#[]⟩, .string ⟨#[]⟩, .bool false] ∧ Blk W w1.heap.size 62 #[.string F1, .string F2] ∧ Fresh w W) ⟨hb1.alloc _, Blk.new w1 _ _, hf1'.allocS _⟩ ?_
  rintro W2 ⟨hb2, hb3, hf2⟩
  have HB1 := Lib.hid hb2
  have HF1 := Lib.hid hf2
  obtain ⟨d0, d1, d2⟩ := HB1.out.c3
  obtain ⟨g0, g1⟩ := hb3.c2
  have z0 := HB1.out.frozen 0
  have z1 := HB1.out.frozen 1
  have z2 := HB1.out.frozen 2
  clear hb1 hf1' hb2 hf2 hb3
  go_wp2
  refine wx_gen (fun W => Blk W w.heap.size 64 #[.string F1, .string F2, .bool nv] ∧ Fresh w W) ⟨((HB1.out.set 0 (.string F1)).set 1 (.string F2)).set 2 (.bool nv), by repeat (first | with_reducible exact HF1.out | (with_reducible refine Fresh.step2 ?_ ?_; focus (exact Nat.le_refl _)))⟩ ?_
  rintro W7 ⟨hb7, hf7⟩
  obtain ⟨r0, r1, r2⟩ := hb7.c3
  exact bodyPost_ret (v := .tuple #[.agg #[.string F1, .string F2, .bool nv], .int .i64 (u : Int), .int .i64 0]) (by simp [results, Tryz.f82, go_sem, r0, r1, r2]) rfl ⟨rfl, hf7⟩
set_option maxHeartbeats 3200000 in
theorem de_line_d (base d p : Nat) (v : Value) (fs : List FldT) (lim most bound : Int) (dead : Bool) (n : Nat) (A : Option Addr) (m c : Nat) (f : FldT) (u : Nat) (w : World) (h : DecAt w base d p v fs lim most bound dead) (hz : tz fs + fz f ≤ 4503599627370496) (hbase : base ≤ w.heap.size) (h0 : 0 ≤ lim) (h1 : lim ≤ 65536) (hm : fs.length ≤ 1000000) (hdp : d ≠ p) (hdv : ∀ k, v.ownBlock = some k → k ≠ d)
    (HFD : Hid (∀ W, Fresh w W → Calls Tryz.prog 88 #[.pointer (some ⟨d, 0, none⟩), .int .i64 (n : Int), .slice A m c] W fun e w' => e = .returned (.tuple #[.agg #[.string f.1, .string f.2], .int .i64 (u : Int), .int .i64 0]) ∧ Fresh W w')) :
    Calls Tryz.prog 82 #[.pointer (some ⟨d, 0, none⟩), .int .i64 1, .int .i64 (n : Int), .slice A m c] w fun e w' => e = lineE f false u 0 ∧ ∃ v', DecAt w' base d p v' (addF fs lim f) lim most bound dead ∧ (∀ k, v'.ownBlock = some k → v.ownBlock = some k ∨ w.heap.size ≤ k) ∧ Only (fun k => k = p ∨ v.ownBlock = some k) w w' := by
  have HAD : Hid (∀ W, Fresh w W → Calls Tryz.prog 89 #[.pointer (some ⟨p, 0, none⟩), .agg #[.string f.1, .string f.2]] W fun e w' => (∃ gn : Int, e = .returned (.int .i64 gn)) ∧ ∃ v', TabAt w' base p v' (addF fs lim f) lim ∧ (∀ k, v'.ownBlock = some k → v.ownBlock = some k ∨ W.heap.size ≤ k) ∧ Only (fun k => k = p ∨ v.ownBlock = some k) W w') := Lib.hid (fun W hf => (dy_add f (h.tab.fresh hf) hz (Nat.le_trans hbase hf.size) h0 h1 hm).mono (fun e w' hh => ⟨⟨_, hh.1⟩, hh.2⟩))
  have HBK := Lib.hid h.blk
  have hpw : p < w.heap.size := h.tab.blk.lt
  have hvw := fun k hk => (h.tab.ne k hk).2
  have HPW := Lib.hid hpw
  have HVW := Lib.hid hvw
  clear h hz hbase h0 h1 hm hpw hvw
  unfold lineE
  obtain ⟨F1, F2⟩ := f
  simp only at HFD HAD ⊢
  go_enter Tryz.func82, Tryz.ntmps82
  go_wp2_with fail
  with_reducible refine (HFD.out _ (Fresh.alloc _ _)).mono ?_
  rintro e w1 ⟨rfl, hf1⟩
  have hb1 := (Blk.new w 64 #[.string ⟨#[]⟩, .string ⟨#[]⟩, .bool false]).fresh hf1
  have hf1' := Fresh.tA hf1
  clear hf1
  have hge1 : w.heap.size ≤ w1.heap.size := hf1'.size
  go_upto_region 8 with fail
  refine wp_gen (fun W => Blk W w.heap.size 64 #[.string ⟨#[]⟩, .string ⟨#[]⟩, .bool false] ∧ Blk W w1.heap.size 62 #[.string F1, .string F2] ∧ Fresh w W) ⟨hb1.alloc _, Blk.new w1 _ _, hf1'.allocS _⟩ ?_
  rintro W2 ⟨hb2, hb3, hf2⟩
  have HB1 := Lib.hid hb2
  have HB3 := Lib.hid hb3
  have HF1 := Lib.hid hf2
  clear hb1 hf1' hb2 hf2 hb3
  generalize w1.heap.size = g1 at *
  have hgd : ∀ k, (k = p ∨ v.ownBlock = some k) → k ≠ d ∧ k ≠ g1 := by
    have a := HPW.out
    rintro k (e | e)
    · exact ⟨fun h => hdp (h.symm.trans e), by omega⟩
    · have b := HVW.out _ e
      exact ⟨hdv _ e, by omega⟩
  have HSK : Hid (∀ w', Only (fun k => k = p ∨ v.ownBlock = some k) W2 w' → w'.cell? ⟨d, 0, none⟩ = some (.pointer (some ⟨p, 0, none⟩)) ∧ w'.cell? ⟨g1, 0, none⟩ = some (.string F1) ∧ w'.cell? ⟨g1, 1, none⟩ = some (.string F2)) := Lib.hid (fun w' hw => ⟨(((HBK.out.fresh HF1.out).only hw (fun e => (hgd _ e).1 rfl)).c4).1, (HB3.out.only hw (fun e => (hgd _ e).2 rfl)).c2.1, (HB3.out.only hw (fun e => (hgd _ e).2 rfl)).c2.2⟩)
  refine wp_region_held_drew (S := (fun w' => w'.cell? ⟨d, 0, none⟩ = some (.pointer (some ⟨p, 0, none⟩)) ∧ w'.cell? ⟨g1, 0, none⟩ = some (.string F1) ∧ w'.cell? ⟨g1, 1, none⟩ = some (.string F2))) (by kernel_rfl) (HSK.out _ (Only.of_fresh (Fresh.drew _))) (fun hHeld => ?_)
  refine wpAnyH_take (i := 0) (v := ?_) rfl (by kernel_rfl) (by kernel_rfl) (by kernel_rfl) (fun _ _ _ h => h) (Or.inl ⟨by rfl, ?_⟩) (by assumption) ?_; rotate_left; focus (intro w hSw; (try dsimp only at hSw); go_simp; (try with_reducible rfl); done)
  (try simp only [Act.put, List.getElem_toArray, List.getElem_cons_zero, List.getElem_cons_succ, List.setIfInBounds_toArray, List.set_cons_zero, List.set_cons_succ])
  refine wpAnyH_take (i := 1) (v := ?_) rfl (by kernel_rfl) (by kernel_rfl) (by kernel_rfl) (fun _ _ _ h => h) (Or.inl ⟨by rfl, ?_⟩) (by assumption) ?_; rotate_left; focus (intro w hSw; (try dsimp only at hSw); go_simp; (try with_reducible rfl); done)
  (try simp only [Act.put, List.getElem_toArray, List.getElem_cons_zero, List.getElem_cons_succ, List.setIfInBounds_toArray, List.set_cons_zero, List.set_cons_succ])
  refine wpAnyH_take (i := 2) (v := ?_) rfl (by kernel_rfl) (by kernel_rfl) (by kernel_rfl) (fun _ _ _ h => h) (Or.inl ⟨by rfl, ?_⟩) (by assumption) ?_; rotate_left; focus (intro w hSw; (try dsimp only at hSw); go_simp; (try with_reducible rfl); done)
  (try simp only [Act.put, List.getElem_toArray, List.getElem_cons_zero, List.getElem_cons_succ, List.setIfInBounds_toArray, List.set_cons_zero, List.set_cons_succ])
  refine wpAnyH_take (i := 3) (v := ?_) rfl (by kernel_rfl) (by kernel_rfl) (by kernel_rfl) (fun _ _ _ h => h) (Or.inl ⟨by rfl, ?_⟩) (by assumption) ?_; rotate_left; focus (intro w hSw; (try dsimp only at hSw); go_simp; (try with_reducible rfl); done)
  (try simp only [Act.put, List.getElem_toArray, List.getElem_cons_zero, List.getElem_cons_succ, List.setIfInBounds_toArray, List.set_cons_zero, List.set_cons_succ])
  refine wpAnyH_take (i := 4) (v := ?_) rfl (by kernel_rfl) (by kernel_rfl) (by kernel_rfl) (fun _ _ _ h => h) (Or.inl ⟨by rfl, ?_⟩) (by assumption) ?_; rotate_left; focus (intro w hSw; (try dsimp only at hSw); go_simp; (try with_reducible rfl); done)
  (try simp only [Act.put, List.getElem_toArray, List.getElem_cons_zero, List.getElem_cons_succ, List.setIfInBounds_toArray, List.set_cons_zero, List.set_cons_succ])
  refine wpAnyH_ready (rs := [5]) (by kernel_rfl) (by simp) ?_
  refine AllReadyH.cons rfl (fun K hK => ?_) AllReadyH.nil
  (go_simp; go_at_call 89; (with_reducible refine (HAD.out _ (HF1.out.trans (Fresh.drew _))).mono ?_); rintro e w4 ⟨⟨gn, rfl⟩, v', ht, hv, ho4⟩; have ho : Only (fun k => k = p ∨ v.ownBlock = some k) W2 w4 := (Only.of_fresh (Fresh.drew _)).trans ho4; clear ho4)
  refine hK.out _ _ (HSK.out _ ho) (fun hHeld => ?_)
  clear hK K
  (try simp only [Act.put, List.getElem_toArray, List.getElem_cons_zero, List.getElem_cons_succ, List.setIfInBounds_toArray, List.set_cons_zero, List.set_cons_succ])
  refine wpAnyH_done (by kernel_rfl) ?_ _
  have hbx : Blk w4 w.heap.size 64 #[.string ⟨#[]⟩, .string ⟨#[]⟩, .bool false] := HB1.out.only ho (by
    rintro (e | e)
    · exact absurd e (by have := HPW.out; omega)
    · exact absurd (HVW.out _ e) (Nat.lt_irrefl _))
  have HGE : w.heap.size ≤ g1 := hge1
  have hby : Blk w4 g1 62 #[.string F1, .string F2] := HB3.out.only ho (by
    rintro (e | e)
    · have := HPW.out; omega
    · have := HVW.out _ e; omega)
  have HB4 := Lib.hid hbx
  have HO4 : Hid (Only (fun k => k = p ∨ v.ownBlock = some k) w w4) := Lib.hid ((Only.of_fresh HF1.out).trans ho)
  have HDW : Hid (d < w.heap.size) := Lib.hid HBK.out.lt
  have HNE : Hid (∀ k, v'.ownBlock = some k → k ≠ w.heap.size) := Lib.hid (fun k hk => by
    rcases hv k hk with e | e
    · have := HVW.out _ e; omega
    · have := HB1.out.lt; have hx := (Fresh.drew W2).size; omega)
  have HV4 : Hid (∀ k, v'.ownBlock = some k → v.ownBlock = some k ∨ w.heap.size ≤ k) := Lib.hid (fun k hk => (hv k hk).imp id (fun h => Nat.le_trans HF1.out.size h))
  have HDC : Hid (DecAt w4 base d p v' (addF fs lim (F1, F2)) lim most bound dead) := Lib.hid ⟨HBK.out.only HO4.out (by
    rintro (e | e)
    · exact hdp e
    · exact hdv _ e rfl), ht⟩
  obtain ⟨x0, x1, x2⟩ := HB4.out.c3
  obtain ⟨y0, y1⟩ := hby.c2
  have z0 := HB4.out.frozen 0
  have z1 := HB4.out.frozen 1
  have z2 := HB4.out.frozen 2
  clear hbx hby ho ht hv HSK HFD HAD
  go_wp2
  refine wx_gen (fun W => Blk W w.heap.size 64 #[.string F1, .string F2, .bool false] ∧ Only (· = w.heap.size) w4 W ∧ Only (fun k => k = p ∨ v.ownBlock = some k) w W) ⟨((HB4.out.set 0 (.string F1)).set 1 (.string F2)).set 2 (.bool false), ?_, ?_⟩ ?_
  · repeat (first | with_reducible exact Only.of_fresh (Fresh.refl _) | (with_reducible refine Only.step2 ?_ ?_; focus (exact .inl rfl)))
  · repeat (first | with_reducible exact HO4.out | (with_reducible refine Only.step2 ?_ ?_; focus (exact .inr (Nat.le_refl _))))
  rintro W7 ⟨hb7, ho7, how⟩
  obtain ⟨r0, r1, r2⟩ := hb7.c3
  have hne : ∀ k, v'.ownBlock = some k → k ≠ w.heap.size := HNE.out
  exact bodyPost_ret (v := .tuple #[.agg #[.string F1, .string F2, .bool false], .int .i64 (u : Int), .int .i64 0]) (by simp [results, Tryz.f82, go_sem, r0, r1, r2]) rfl ⟨rfl, v', ⟨HDC.out.blk.only ho7 (fun e => absurd HDW.out (by rw [e]; exact Nat.lt_irrefl _)), HDC.out.tab.only ho7 (fun e => absurd HPW.out (by rw [e]; exact Nat.lt_irrefl _)) hne⟩, HV4.out, how⟩
/-- The table behind a line. -/
def fsL (fs : List FldT) (lim : Int) (k n : Nat) (l : List UInt8) : List FldT := if k = 1 ∧ (lineR fs k n l).1 = 0 then addF fs lim (lineR fs k n l).2.1 else fs
/-- What a line says, and what its decoder is then. -/
def LineP (w : World) (base d p : Nat) (v : Value) (fs : List FldT) (lim most bound : Int) (dead : Bool) (k n : Nat) (l : List UInt8) (e : Ending) (w' : World) : Prop :=
  e = lineE (lineR fs k n l).2.1 (decide (k = 3 ∧ (lineR fs k n l).1 = 0)) (lineR fs k n l).2.2 (lineR fs k n l).1 ∧ ∃ v', DecAt w' base d p v' (fsL fs lim k n l) lim most bound dead ∧ (∀ k, v'.ownBlock = some k → v.ownBlock = some k ∨ w.heap.size ≤ k) ∧ DecOnly d p v w w'
theorem fieldR_aux (nm : Nat × ByteArray × Nat) (l : List UInt8) (h : (if nm.1 = 0 then (if (litR (l.drop nm.2.2) 4096).2.2 = 0 then (0, (nm.2.1, strB (litR (l.drop nm.2.2) 4096).1), nm.2.2 + (litR (l.drop nm.2.2) 4096).2.1) else ((litR (l.drop nm.2.2) 4096).2.2, (strB [], strB []), 0))
  else (nm.1, (strB [], strB []), 0)).1 ≠ 0) : (if nm.1 = 0 then (if (litR (l.drop nm.2.2) 4096).2.2 = 0 then (0, (nm.2.1, strB (litR (l.drop nm.2.2) 4096).1), nm.2.2 + (litR (l.drop nm.2.2) 4096).2.1) else ((litR (l.drop nm.2.2) 4096).2.2, (strB [], strB []), 0))
  else (nm.1, (strB [], strB []), 0)).2 = ((strB [], strB []), 0) := by
  by_cases h1 : nm.1 = 0
  · rw [if_pos h1] at h ⊢
    by_cases h2 : (litR (l.drop nm.2.2) 4096).2.2 = 0
    · rw [if_pos h2] at h
      exact absurd rfl h
    · rw [if_neg h2]
  · rw [if_neg h1]
theorem fieldR_err {fs : List FldT} {n : Nat} {l : List UInt8} (h : (fieldR fs n l).1 ≠ 0) : (fieldR fs n l).2 = ((strB [], strB []), 0) := fieldR_aux _ l h
theorem de_line (base d p : Nat) (v : Value) (fs : List FldT) (lim most bound : Int) (dead : Bool) (k n : Nat) (A : Option Addr) (c : Nat) (l : List UInt8) (w : World) (h : DecAt w base d p v fs lim most bound dead) (hk : k ≠ 2) (hz : tz fs + fz (lineR fs k n l).2.1 ≤ 4503599627370496) (hbase : base ≤ w.heap.size) (h0 : 0 ≤ lim) (h1 : lim ≤ 65536) (hm : fs.length ≤ 1000000) (hdp : d ≠ p) (hdv : ∀ k, v.ownBlock = some k → k ≠ d) (hn : n ≤ 2147483647) (hl : l.length ≤ 100000000) (hlc : l.length ≤ c) (hcm : c ≤ maxLen) (hB : BS w A l) :
    Calls Tryz.prog 82 #[.pointer (some ⟨d, 0, none⟩), .int .i64 (k : Int), .int .i64 (n : Int), .slice A l.length c] w (LineP w base d p v fs lim most bound dead k n l) := by
  have HFD := Lib.hid (fun W (hf : Fresh w W) => de_field base d p v fs lim most bound dead n A c l W (h.fresh hf) hm hn hl hlc hcm (hB.fresh hf))
  have hst : ∀ w', Fresh w w' → ∃ v', DecAt w' base d p v' fs lim most bound dead ∧ (∀ k, v'.ownBlock = some k → v.ownBlock = some k ∨ w.heap.size ≤ k) ∧ DecOnly d p v w w' := fun w' hf => ⟨v, h.fresh hf, fun k hk => .inl hk, Only.of_fresh hf⟩
  by_cases hk0 : k = 0
  · subst hk0
    have hfs : fsL fs lim 0 n l = fs := if_neg (by simp)
    cases hen : entR fs n with
    | some f =>
      have hr : lineR fs 0 n l = (0, f, 0) := by unfold lineR; rw [if_pos rfl, hen]
      refine (de_line_a d n (.slice A l.length c) f.1 f.2 0 w (Lib.hid (fun W hf => (de_entry base d p v fs lim most bound dead n W (h.fresh hf) hm hn).mono (fun e w' hh => by unfold EnP at hh; rw [hen] at hh; exact hh)))).mono ?_
      rintro e w' ⟨he, hf⟩
      unfold LineP
      rw [hfs, hr]
      exact ⟨he, hst w' hf⟩
    | none =>
      have hr : lineR fs 0 n l = (23, (strB [], strB []), 0) := by unfold lineR; rw [if_pos rfl, hen]
      refine (de_line_a d n (.slice A l.length c) (strB []) (strB []) 23 w (Lib.hid (fun W hf => (de_entry base d p v fs lim most bound dead n W (h.fresh hf) hm hn).mono (fun e w' hh => by unfold EnP at hh; rw [hen] at hh; exact hh)))).mono ?_
      rintro e w' ⟨he, hf⟩
      unfold LineP
      rw [hfs, hr]
      exact ⟨he, hst w' hf⟩
  have hr : lineR fs k n l = fieldR fs n l := by unfold lineR; rw [if_neg hk0]
  rw [hr] at hz
  unfold FieldP at HFD
  by_cases he0 : (fieldR fs n l).1 = 0
  · by_cases hk1 : k = 1
    · subst hk1
      have hfs : fsL fs lim 1 n l = addF fs lim (fieldR fs n l).2.1 := by unfold fsL; rw [hr]; exact if_pos ⟨rfl, he0⟩
      refine (de_line_d base d p v fs lim most bound dead n A l.length c (fieldR fs n l).2.1 (fieldR fs n l).2.2 w h hz hbase h0 h1 hm hdp hdv (Lib.hid (fun W hf => (HFD.out W hf).mono (fun e w' hh => by rw [he0] at hh; exact hh)))).mono ?_
      rintro e w' ⟨he, hh⟩
      unfold LineP
      rw [hfs, hr, he0]
      exact ⟨he, hh⟩
    · have hfs : fsL fs lim k n l = fs := if_neg (fun h => hk1 h.1)
      refine (de_line_f d k n A l.length c (fieldR fs n l).2.1.1 (fieldR fs n l).2.1.2 (fieldR fs n l).2.2 w (by omega) (Lib.hid (fun W hf => (HFD.out W hf).mono (fun e w' hh => by rw [he0] at hh; exact hh)))).mono ?_
      rintro e w' ⟨he, hf⟩
      unfold LineP
      rw [hfs, hr, he0]
      exact ⟨by rw [he]; simp, hst w' hf⟩
  · have hfs : fsL fs lim k n l = fs := if_neg (fun h => he0 (by rw [← hr]; exact h.2))
    have hx := fieldR_err he0
    refine (de_line_n d k n A l.length c (fieldR fs n l).2.1.1 (fieldR fs n l).2.1.2 (fieldR fs n l).2.2 (fieldR fs n l).1 w (by omega) he0 (Lib.hid (fun W hf => HFD.out W hf))).mono ?_
    rintro e w' ⟨he, hf⟩
    unfold LineP
    rw [hfs, hr, hx]
    exact ⟨by rw [he]; simp [he0], hst w' hf⟩
end Go.Proofs.YtginhebfjbhmnaaGreat

/-
  Package decode: what a block says; sizes; the row of lines.
-/
namespace Go.Proofs.YtginhebfjbhmnaaGreat
set_option maxRecDepth 100000
set_option maxRecDepth 100000
set_option linter.unusedVariables false
set_option linter.unusedSimpArgs false
open Go.RowKit
theorem tz_lenD (fs : List FldT) : fs.length * 32 ≤ tz fs := by
  induction fs with
  | nil => simp [tz]
  | cons f r ih => rw [tz_cons]; simp only [List.length_cons]; unfold fz; omega
theorem tz_goneD (fs : List FldT) (room : Int) (h : 0 ≤ room) : (tz (fs.drop (goneN fs room)) : Int) ≤ room := by
  induction fs with
  | nil => simp [tz]; exact h
  | cons f r ih =>
    rw [goneN]
    split
    · rw [List.drop_succ_cons]; exact ih
    · rw [List.drop_zero]; omega
theorem tz_addD (fs : List FldT) (lim : Int) (f : FldT) (h : 0 ≤ lim) : (tz (addF fs lim f) : Int) ≤ lim := by
  unfold addF
  split
  · rename_i hf
    rw [tz_append]
    have := tz_goneD fs (lim - fz f) (by omega)
    simp [tz] at this ⊢
    omega
  · rename_i hf
    rw [goneN_neg _ _ (by omega), List.drop_length]
    simpa [tz] using h
theorem litR_len (l : List UInt8) : (litR l 4096).1.length ≤ 4096 := by
  unfold litR
  split
  rename_i n u e _
  by_cases h1 : e ≠ 0
  · rw [if_pos h1]; simp
  rw [if_neg h1]
  by_cases h2 : (l.length : Int) < u + n
  · rw [if_pos h2]; simp
  rw [if_neg h2]
  simp only
  by_cases h3 : (textR ((l.drop u.toNat).take n.toNat) (decide (1 ≤ (l.headD 0).toNat / 128)) 4096).1 = 0
  · rw [if_pos h3]
    revert h3
    unfold textR
    simp only
    generalize (if decide (1 ≤ (l.headD 0).toNat / 128) = true then decE (bitsL ((l.drop u.toNat).take n.toNat)) else (0, (l.drop u.toNat).take n.toNat)) = r
    by_cases h4 : r.1 = 0
    · rw [if_pos h4]
      by_cases h5 : (4096 : Int) < (r.2.length : Int)
      · rw [if_pos h5]; simp
      · rw [if_neg h5]; intro _; omega
    · rw [if_neg h4]; simp
  · rw [if_neg h3]; simp
theorem fld_small (k : Nat) : fz (fldAt k) ≤ 1000 := by
  by_cases h : k < 61
  · have : ∀ j : Fin 61, fz (fldAt j.val) ≤ 1000 := by decide
    exact this ⟨k, h⟩
  · have : fldAt k = (⟨#[]⟩, ⟨#[]⟩) := by
      unfold fldAt
      rw [List.getD_eq_getElem?_getD, List.getElem?_eq_none (by
        have : tblF.length = 61 := by decide
        omega)]
      rfl
    rw [this]
    decide
theorem fz_mem {fs : List FldT} {f : FldT} (h : f ∈ fs) : fz f ≤ tz fs := by
  induction fs with
  | nil => cases h
  | cons g r ih =>
    rw [tz_cons]
    rcases List.mem_cons.1 h with rfl | h
    · omega
    · have := ih h; omega
theorem entR_fz {fs : List FldT} {n : Nat} {f : FldT} (h : entR fs n = some f) (ht : tz fs ≤ 65536) : fz f ≤ 70000 := by
  unfold entR at h
  split at h
  · injection h with h
    rw [← h]
    have := fld_small (n - 1)
    omega
  · split at h
    · have := fz_mem (List.mem_of_getElem? h)
      omega
    · cases h
theorem fieldR_fz (fs : List FldT) (n : Nat) (l : List UInt8) (ht : tz fs ≤ 65536) : fz (fieldR fs n l).2.1 ≤ 100000 := by
  have hval : ∀ (nm : ByteArray) (u : Nat), nm.size ≤ 70000 → fz (valR nm u l).2.1 ≤ 100000 := by
    intro nm u hn
    unfold valR
    split
    · have := litR_len (l.drop u)
      unfold fz
      simp only
      rw [strB_size]
      omega
    · simp [fz, strB_size]
  by_cases h0 : n = 0
  · subst h0
    by_cases he : (litR l 4096).2.2 = 0
    · rw [fieldR_text he]
      exact hval _ _ (by rw [strB_size]; have := litR_len l; omega)
    · rw [fieldR_text_no he]
      simp [fz, strB_size]
  · cases hen : entR fs n with
    | some f =>
      rw [fieldR_entry h0 hen]
      exact hval _ _ (by have := entR_fz hen ht; unfold fz at this; omega)
    | none =>
      rw [fieldR_entry_no h0 hen]
      simp [fz, strB_size]
theorem lineR_fz (fs : List FldT) (k n : Nat) (l : List UInt8) (ht : tz fs ≤ 65536) : fz (lineR fs k n l).2.1 ≤ 100000 := by
  unfold lineR
  split
  · cases hen : entR fs n with
    | some f => have := entR_fz hen ht; simp only; omega
    | none => simp [fz, strB_size]
  · exact fieldR_fz fs n l ht
theorem lineR_used (fs : List FldT) (k n : Nat) (l : List UInt8) : (lineR fs k n l).2.2 ≤ l.length := by
  have hval : ∀ (nm : ByteArray) (u : Nat), u ≤ l.length → (valR nm u l).2.2 ≤ l.length := by
    intro nm u hn
    unfold valR
    split
    · rename_i h
      have := (litR_used (l.drop u) 4096 h).2
      rw [List.length_drop] at this
      simp only
      omega
    · simp
  unfold lineR
  split
  · cases entR fs n <;> simp
  · by_cases h0 : n = 0
    · subst h0
      by_cases he : (litR l 4096).2.2 = 0
      · rw [fieldR_text he]
        exact hval _ _ (litR_used l 4096 he).2
      · rw [fieldR_text_no he]
        simp
    · cases hen : entR fs n with
      | some f => rw [fieldR_entry h0 hen]; exact hval _ _ (Nat.zero_le _)
      | none => rw [fieldR_entry_no h0 hen]; simp
/-- What a block says: an error's number, its lines, the table behind it. -/
def blockR (most bound : Int) : Nat → List FldT → Int → Nat → List LnD → List UInt8 → Nat × List LnD × List FldT × Int
  | 0, fs, lim, _, out, _ => (0, out, fs, lim)
  | _ + 1, fs, lim, _, out, [] => (0, out, fs, lim)
  | m + 1, fs, lim, size, out, c :: r =>
    if (decL (c :: r) (bitsR c.toNat)).2.2 ≠ 0 then ((decL (c :: r) (bitsR c.toNat)).2.2.toNat, [], fs, lim)
    else if kindR c.toNat = 2 then
      (if 0 < out.length ∨ most < (decL (c :: r) (bitsR c.toNat)).1 then (24, [], fs, lim)
       else blockR most bound m (fs.drop (goneN fs (decL (c :: r) (bitsR c.toNat)).1)) (decL (c :: r) (bitsR c.toNat)).1 size out ((c :: r).drop (decL (c :: r) (bitsR c.toNat)).2.1.toNat))
    else
      let k := kindR c.toNat
      let n := (decL (c :: r) (bitsR c.toNat)).1.toNat
      let l := (c :: r).drop (decL (c :: r) (bitsR c.toNat)).2.1.toNat
      if (lineR fs k n l).1 ≠ 0 then ((lineR fs k n l).1, [], fsL fs lim k n l, lim)
      else if bound < (size : Int) + fz (lineR fs k n l).2.1 then (22, [], fsL fs lim k n l, lim)
      else blockR most bound m (fsL fs lim k n l) lim (size + fz (lineR fs k n l).2.1) (out ++ [((lineR fs k n l).2.1, decide (k = 3))]) (l.drop (lineR fs k n l).2.2)
theorem blockR_nil (most bound : Int) (m : Nat) (fs : List FldT) (lim : Int) (size : Nat) (out : List LnD) : blockR most bound m fs lim size out [] = (0, out, fs, lim) := by
  cases m <;> rfl
theorem blockR_num {most bound : Int} {m : Nat} {fs : List FldT} {lim : Int} {size : Nat} {out : List LnD} {c : UInt8} {r : List UInt8} {e : Nat} (he : decL (c :: r) (bitsR c.toNat) = (0, 0, (e : Int))) (h : e ≠ 0) : blockR most bound (m + 1) fs lim size out (c :: r) = (e, [], fs, lim) := by
  rw [blockR, he]
  simp [h]
theorem blockR_lim_no {most bound : Int} {m : Nat} {fs : List FldT} {lim : Int} {size : Nat} {out : List LnD} {c : UInt8} {r : List UInt8} {n u : Nat} (he : decL (c :: r) (bitsR c.toNat) = ((n : Int), (u : Int), 0)) (hk : kindR c.toNat = 2) (h : 0 < out.length ∨ most < (n : Int)) : blockR most bound (m + 1) fs lim size out (c :: r) = (24, [], fs, lim) := by
  rw [blockR, he]
  simp only [ne_eq, not_true, if_false, if_pos hk, if_pos h]
theorem blockR_lim {most bound : Int} {m : Nat} {fs : List FldT} {lim : Int} {size : Nat} {out : List LnD} {c : UInt8} {r : List UInt8} {n u : Nat} (he : decL (c :: r) (bitsR c.toNat) = ((n : Int), (u : Int), 0)) (hk : kindR c.toNat = 2) (h : ¬ (0 < out.length ∨ most < (n : Int))) : blockR most bound (m + 1) fs lim size out (c :: r) = blockR most bound m (fs.drop (goneN fs n)) n size out ((c :: r).drop u) := by
  rw [blockR, he]
  simp only [ne_eq, not_true, if_false, if_pos hk, if_neg h, Int.toNat_natCast]
theorem blockR_line {most bound : Int} {m : Nat} {fs : List FldT} {lim : Int} {size : Nat} {out : List LnD} {c : UInt8} {r : List UInt8} {n u : Nat} (he : decL (c :: r) (bitsR c.toNat) = ((n : Int), (u : Int), 0)) (k : Nat) (hk : kindR c.toNat = k) (hk2 : k ≠ 2) (l : List UInt8) (hl : (c :: r).drop u = l) : blockR most bound (m + 1) fs lim size out (c :: r) = if (lineR fs k n l).1 ≠ 0 then ((lineR fs k n l).1, [], fsL fs lim k n l, lim)
      else if bound < (size : Int) + fz (lineR fs k n l).2.1 then (22, [], fsL fs lim k n l, lim)
      else blockR most bound m (fsL fs lim k n l) lim (size + fz (lineR fs k n l).2.1) (out ++ [((lineR fs k n l).2.1, decide (k = 3))]) (l.drop (lineR fs k n l).2.2) := by
  subst hk hl
  rw [blockR, he]
  simp only [ne_eq, not_true, if_false, if_neg hk2, Int.toNat_natCast]
theorem DecAt.only {S : Nat → Prop} {w w' : World} {base d p : Nat} {v : Value} {fs : List FldT} {lim most bound : Int} {dead : Bool} (h : DecAt w base d p v fs lim most bound dead) (ho : Only S w w') (hd : ¬ S d) (hp : ¬ S p) (hv : ∀ k, v.ownBlock = some k → ¬ S k) : DecAt w' base d p v fs lim most bound dead := ⟨h.blk.only ho hd, h.tab.only ho hp hv⟩
end Go.Proofs.YtginhebfjbhmnaaGreat

