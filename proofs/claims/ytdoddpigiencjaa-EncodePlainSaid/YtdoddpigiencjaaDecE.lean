/-
  Package decode: line.
-/
import Derived.Test.YtdoddpigiencjaaDecK1
namespace Go.Proofs.Ytdoddpigiencjaa
set_option maxRecDepth 100000
set_option linter.unusedVariables false
set_option linter.unusedSimpArgs false
open Go.RowKit
def lineE (f : FldT) (nv : Bool) (u er : Nat) : Ending := .returned (.tuple #[.agg #[.string f.1, .string f.2, .bool nv], .int .i64 (u : Int), .int .i64 (er : Int)])
set_option maxHeartbeats 1600000 in
theorem de_line_a (d : Nat) (n : Nat) (S : Value) (F1 F2 : ByteArray) (er : Nat) (w : World)
    (HEN : Hid (∀ W, Fresh w W → Calls Try.prog 69 #[.pointer (some ⟨d, 0, none⟩), .int .i64 (n : Int)] W fun e w' => e = .returned (.tuple #[.agg #[.string F1, .string F2], .int .i64 (er : Int)]) ∧ Fresh W w')) :
    Calls Try.prog 54 #[.pointer (some ⟨d, 0, none⟩), .int .i64 0, .int .i64 (n : Int), S] w fun e w' => e = lineE (F1, F2) false 0 er ∧ Fresh w w' := by
  unfold lineE
  simp only
  go_enter Try.func54, Try.ntmps54
  go_wp2_with fail
  with_reducible refine (HEN.out _ (Fresh.alloc _ _)).mono ?_
  rintro e w1 ⟨rfl, hf1⟩
  have hb1 := (Blk.new w 28 #[.string ⟨#[]⟩, .string ⟨#[]⟩, .bool false]).fresh hf1
  have hf1' := Fresh.tA hf1
  clear hf1
  go_upto_region 3 with fail
  refine wp_gen (fun W => Blk W w.heap.size 28 #[.string ⟨#[]⟩, .string ⟨#[]⟩, .bool false] ∧ Blk W w1.heap.size 26 #[.string F1, .string F2] ∧ Fresh w W) ⟨hb1.alloc _, Blk.new w1 _ _, hf1'.allocS _⟩ ?_
  rintro W2 ⟨hb2, hb3, hf2⟩
  have HB1 := Lib.hid hb2
  have HF1 := Lib.hid hf2
  obtain ⟨d0, d1, d2⟩ := HB1.out.c3
  obtain ⟨g0, g1⟩ := hb3.c2
  have z0 := HB1.out.frozen 0
  have z1 := HB1.out.frozen 1
  have z2 := HB1.out.frozen 2
  clear hb1 hf1' hb2 hf2 hb3
  go_wp2
  refine wx_gen (fun W => Blk W w.heap.size 28 #[.string F1, .string F2, .bool false] ∧ Fresh w W) ⟨((HB1.out.set 0 (.string F1)).set 1 (.string F2)).set 2 (.bool false), by repeat (first | with_reducible exact HF1.out | (with_reducible refine Fresh.step2 ?_ ?_; focus (exact Nat.le_refl _)))⟩ ?_
  rintro W7 ⟨hb7, hf7⟩
  obtain ⟨r0, r1, r2⟩ := hb7.c3
  exact bodyPost_ret (v := .tuple #[.agg #[.string F1, .string F2, .bool false], .int .i64 0, .int .i64 (er : Int)]) (by simp [results, Try.f54, go_sem, r0, r1, r2]) rfl ⟨rfl, hf7⟩
set_option maxHeartbeats 1600000 in
theorem de_line_n (d : Nat) (k n : Nat) (A : Option Addr) (m c : Nat) (F1 F2 : ByteArray) (u er : Nat) (w : World) (hk : 1 ≤ k) (her : er ≠ 0)
    (HFD : Hid (∀ W, Fresh w W → Calls Try.prog 70 #[.pointer (some ⟨d, 0, none⟩), .int .i64 (n : Int), .slice A m c] W fun e w' => e = .returned (.tuple #[.agg #[.string F1, .string F2], .int .i64 (u : Int), .int .i64 (er : Int)]) ∧ Fresh W w')) :
    Calls Try.prog 54 #[.pointer (some ⟨d, 0, none⟩), .int .i64 (k : Int), .int .i64 (n : Int), .slice A m c] w fun e w' => e = lineE (strB [], strB []) false 0 er ∧ Fresh w w' := by
  unfold lineE
  simp only
  have k0 : ¬ (k : Int) = 0 := by omega
  have h0d : ((er : Int) != 0) = true := by simp; omega
  have h0i : ¬ (er : Int) = 0 := by omega
  go_enter Try.func54, Try.ntmps54
  go_wp2_with fail
  with_reducible refine (HFD.out _ (Fresh.alloc _ _)).mono ?_
  rintro e w1 ⟨rfl, hf1⟩
  have hb1 := (Blk.new w 28 #[.string ⟨#[]⟩, .string ⟨#[]⟩, .bool false]).fresh hf1
  have hf1' := Fresh.tA hf1
  clear hf1
  go_upto_region 5 with fail
  refine wp_gen (fun W => Blk W w.heap.size 28 #[.string ⟨#[]⟩, .string ⟨#[]⟩, .bool false] ∧ Fresh w W) ⟨hb1.alloc _, hf1'.allocS _⟩ ?_
  rintro W2 ⟨hb2, hf2⟩
  have HB1 := Lib.hid hb2
  have HF1 := Lib.hid hf2
  obtain ⟨d0, d1, d2⟩ := HB1.out.c3
  have z0 := HB1.out.frozen 0
  have z1 := HB1.out.frozen 1
  have z2 := HB1.out.frozen 2
  clear hb1 hf1' hb2 hf2
  go_wp2
  refine wx_gen (fun W => Blk W w.heap.size 28 #[.string ⟨#[]⟩, .string ⟨#[]⟩, .bool false] ∧ Fresh w W) ⟨((HB1.out.set 0 (.string ⟨#[]⟩)).set 1 (.string ⟨#[]⟩)).set 2 (.bool false), by repeat (first | with_reducible exact HF1.out | (with_reducible refine Fresh.step2 ?_ ?_; focus (exact Nat.le_refl _)))⟩ ?_
  rintro W7 ⟨hb7, hf7⟩
  obtain ⟨r0, r1, r2⟩ := hb7.c3
  exact bodyPost_ret (v := .tuple #[.agg #[.string ⟨#[]⟩, .string ⟨#[]⟩, .bool false], .int .i64 0, .int .i64 (er : Int)]) (by simp [results, Try.f54, go_sem, r0, r1, r2]) rfl ⟨rfl, hf7⟩
set_option maxHeartbeats 1600000 in
theorem de_line_f (d : Nat) (k n : Nat) (A : Option Addr) (m c : Nat) (F1 F2 : ByteArray) (u : Nat) (w : World) (hk : 2 ≤ k)
    (HFD : Hid (∀ W, Fresh w W → Calls Try.prog 70 #[.pointer (some ⟨d, 0, none⟩), .int .i64 (n : Int), .slice A m c] W fun e w' => e = .returned (.tuple #[.agg #[.string F1, .string F2], .int .i64 (u : Int), .int .i64 0]) ∧ Fresh W w')) :
    Calls Try.prog 54 #[.pointer (some ⟨d, 0, none⟩), .int .i64 (k : Int), .int .i64 (n : Int), .slice A m c] w fun e w' => e = lineE (F1, F2) (decide (k = 3)) u 0 ∧ Fresh w w' := by
  unfold lineE
  simp only
  have k0 : ¬ (k : Int) = 0 := by omega
  have k1 : ¬ (k : Int) = 1 := by omega
  obtain ⟨nv, hnv⟩ : ∃ nv, decide (k = 3) = nv := ⟨_, rfl⟩
  have k3 : ((k : Int) == 3) = nv := by rw [← hnv]; by_cases h : k = 3 <;> simp [h] <;> omega
  have k3d : decide ((k : Int) = 3) = nv := by rw [← hnv]; by_cases h : k = 3 <;> simp [h] <;> omega
  rw [hnv]
  clear hnv
  go_enter Try.func54, Try.ntmps54
  go_wp2_with fail
  with_reducible refine (HFD.out _ (Fresh.alloc _ _)).mono ?_
  rintro e w1 ⟨rfl, hf1⟩
  have hb1 := (Blk.new w 28 #[.string ⟨#[]⟩, .string ⟨#[]⟩, .bool false]).fresh hf1
  have hf1' := Fresh.tA hf1
  clear hf1
  go_upto_region 5 with fail
  refine wp_gen (fun W => Blk W w.heap.size 28 #[.string ⟨#[]⟩, .string ⟨#[]⟩, .bool false] ∧ Blk W w1.heap.size 26 #[.string F1, .string F2] ∧ Fresh w W) ⟨hb1.alloc _, Blk.new w1 _ _, hf1'.allocS _⟩ ?_
  rintro W2 ⟨hb2, hb3, hf2⟩
  have HB1 := Lib.hid hb2
  have HF1 := Lib.hid hf2
  obtain ⟨d0, d1, d2⟩ := HB1.out.c3
  obtain ⟨g0, g1⟩ := hb3.c2
  have z0 := HB1.out.frozen 0
  have z1 := HB1.out.frozen 1
  have z2 := HB1.out.frozen 2
  clear hb1 hf1' hb2 hf2 hb3
  go_wp2
  refine wx_gen (fun W => Blk W w.heap.size 28 #[.string F1, .string F2, .bool nv] ∧ Fresh w W) ⟨((HB1.out.set 0 (.string F1)).set 1 (.string F2)).set 2 (.bool nv), by repeat (first | with_reducible exact HF1.out | (with_reducible refine Fresh.step2 ?_ ?_; focus (exact Nat.le_refl _)))⟩ ?_
  rintro W7 ⟨hb7, hf7⟩
  obtain ⟨r0, r1, r2⟩ := hb7.c3
  exact bodyPost_ret (v := .tuple #[.agg #[.string F1, .string F2, .bool nv], .int .i64 (u : Int), .int .i64 0]) (by simp [results, Try.f54, go_sem, r0, r1, r2]) rfl ⟨rfl, hf7⟩
set_option maxHeartbeats 3200000 in
theorem de_line_d (base d p : Nat) (v : Value) (fs : List FldT) (lim most bound : Int) (dead : Bool) (n : Nat) (A : Option Addr) (m c : Nat) (f : FldT) (u : Nat) (w : World) (h : DecAt w base d p v fs lim most bound dead) (hz : tz fs + fz f ≤ 4503599627370496) (hbase : base ≤ w.heap.size) (h0 : 0 ≤ lim) (h1 : lim ≤ 65536) (hm : fs.length ≤ 1000000) (hdp : d ≠ p) (hdv : ∀ k, v.ownBlock = some k → k ≠ d)
    (HFD : Hid (∀ W, Fresh w W → Calls Try.prog 70 #[.pointer (some ⟨d, 0, none⟩), .int .i64 (n : Int), .slice A m c] W fun e w' => e = .returned (.tuple #[.agg #[.string f.1, .string f.2], .int .i64 (u : Int), .int .i64 0]) ∧ Fresh W w')) :
    Calls Try.prog 54 #[.pointer (some ⟨d, 0, none⟩), .int .i64 1, .int .i64 (n : Int), .slice A m c] w fun e w' => e = lineE f false u 0 ∧ ∃ v', DecAt w' base d p v' (addF fs lim f) lim most bound dead ∧ (∀ k, v'.ownBlock = some k → v.ownBlock = some k ∨ w.heap.size ≤ k) ∧ Only (fun k => k = p ∨ v.ownBlock = some k) w w' := by
  have HAD : Hid (∀ W, Fresh w W → Calls Try.prog 71 #[.pointer (some ⟨p, 0, none⟩), .agg #[.string f.1, .string f.2]] W fun e w' => (∃ gn : Int, e = .returned (.int .i64 gn)) ∧ ∃ v', TabAt w' base p v' (addF fs lim f) lim ∧ (∀ k, v'.ownBlock = some k → v.ownBlock = some k ∨ W.heap.size ≤ k) ∧ Only (fun k => k = p ∨ v.ownBlock = some k) W w') := Lib.hid (fun W hf => (dy_add f (h.tab.fresh hf) hz (Nat.le_trans hbase hf.size) h0 h1 hm).mono (fun e w' hh => ⟨⟨_, hh.1⟩, hh.2⟩))
  have HBK := Lib.hid h.blk
  have hpw : p < w.heap.size := h.tab.blk.lt
  have hvw := fun k hk => (h.tab.ne k hk).2
  have HPW := Lib.hid hpw
  have HVW := Lib.hid hvw
  clear h hz hbase h0 h1 hm hpw hvw
  unfold lineE
  obtain ⟨F1, F2⟩ := f
  simp only at HFD HAD ⊢
  go_enter Try.func54, Try.ntmps54
  go_wp2_with fail
  with_reducible refine (HFD.out _ (Fresh.alloc _ _)).mono ?_
  rintro e w1 ⟨rfl, hf1⟩
  have hb1 := (Blk.new w 28 #[.string ⟨#[]⟩, .string ⟨#[]⟩, .bool false]).fresh hf1
  have hf1' := Fresh.tA hf1
  clear hf1
  have hge1 : w.heap.size ≤ w1.heap.size := hf1'.size
  go_upto_region 8 with fail
  refine wp_gen (fun W => Blk W w.heap.size 28 #[.string ⟨#[]⟩, .string ⟨#[]⟩, .bool false] ∧ Blk W w1.heap.size 26 #[.string F1, .string F2] ∧ Fresh w W) ⟨hb1.alloc _, Blk.new w1 _ _, hf1'.allocS _⟩ ?_
  rintro W2 ⟨hb2, hb3, hf2⟩
  have HB1 := Lib.hid hb2
  have HB3 := Lib.hid hb3
  have HF1 := Lib.hid hf2
  clear hb1 hf1' hb2 hf2 hb3
  generalize w1.heap.size = g1 at *
  have hgd : ∀ k, (k = p ∨ v.ownBlock = some k) → k ≠ d ∧ k ≠ g1 := by
    have a := HPW.out
    rintro k (e | e)
    · exact ⟨fun h => hdp (h.symm.trans e), by omega⟩
    · have b := HVW.out _ e
      exact ⟨hdv _ e, by omega⟩
  have HSK : Hid (∀ w', Only (fun k => k = p ∨ v.ownBlock = some k) W2 w' → w'.cell? ⟨d, 0, none⟩ = some (.pointer (some ⟨p, 0, none⟩)) ∧ w'.cell? ⟨g1, 0, none⟩ = some (.string F1) ∧ w'.cell? ⟨g1, 1, none⟩ = some (.string F2)) := Lib.hid (fun w' hw => ⟨(((HBK.out.fresh HF1.out).only hw (fun e => (hgd _ e).1 rfl)).c4).1, (HB3.out.only hw (fun e => (hgd _ e).2 rfl)).c2.1, (HB3.out.only hw (fun e => (hgd _ e).2 rfl)).c2.2⟩)
  refine wp_region_held_drew (S := (fun w' => w'.cell? ⟨d, 0, none⟩ = some (.pointer (some ⟨p, 0, none⟩)) ∧ w'.cell? ⟨g1, 0, none⟩ = some (.string F1) ∧ w'.cell? ⟨g1, 1, none⟩ = some (.string F2))) (by kernel_rfl) (HSK.out _ (Only.of_fresh (Fresh.drew _))) (fun hHeld => ?_)
  refine wpAnyH_take (i := 0) (v := ?_) rfl (by kernel_rfl) (by kernel_rfl) (by kernel_rfl) (fun _ _ _ h => h) (Or.inl ⟨by rfl, ?_⟩) (by assumption) ?_; rotate_left; focus (intro w hSw; (try dsimp only at hSw); go_simp; (try with_reducible rfl); done)
  (try simp only [Act.put, List.getElem_toArray, List.getElem_cons_zero, List.getElem_cons_succ, List.setIfInBounds_toArray, List.set_cons_zero, List.set_cons_succ])
  refine wpAnyH_take (i := 1) (v := ?_) rfl (by kernel_rfl) (by kernel_rfl) (by kernel_rfl) (fun _ _ _ h => h) (Or.inl ⟨by rfl, ?_⟩) (by assumption) ?_; rotate_left; focus (intro w hSw; (try dsimp only at hSw); go_simp; (try with_reducible rfl); done)
  (try simp only [Act.put, List.getElem_toArray, List.getElem_cons_zero, List.getElem_cons_succ, List.setIfInBounds_toArray, List.set_cons_zero, List.set_cons_succ])
  refine wpAnyH_take (i := 2) (v := ?_) rfl (by kernel_rfl) (by kernel_rfl) (by kernel_rfl) (fun _ _ _ h => h) (Or.inl ⟨by rfl, ?_⟩) (by assumption) ?_; rotate_left; focus (intro w hSw; (try dsimp only at hSw); go_simp; (try with_reducible rfl); done)
  (try simp only [Act.put, List.getElem_toArray, List.getElem_cons_zero, List.getElem_cons_succ, List.setIfInBounds_toArray, List.set_cons_zero, List.set_cons_succ])
  refine wpAnyH_take (i := 3) (v := ?_) rfl (by kernel_rfl) (by kernel_rfl) (by kernel_rfl) (fun _ _ _ h => h) (Or.inl ⟨by rfl, ?_⟩) (by assumption) ?_; rotate_left; focus (intro w hSw; (try dsimp only at hSw); go_simp; (try with_reducible rfl); done)
  (try simp only [Act.put, List.getElem_toArray, List.getElem_cons_zero, List.getElem_cons_succ, List.setIfInBounds_toArray, List.set_cons_zero, List.set_cons_succ])
  refine wpAnyH_take (i := 4) (v := ?_) rfl (by kernel_rfl) (by kernel_rfl) (by kernel_rfl) (fun _ _ _ h => h) (Or.inl ⟨by rfl, ?_⟩) (by assumption) ?_; rotate_left; focus (intro w hSw; (try dsimp only at hSw); go_simp; (try with_reducible rfl); done)
  (try simp only [Act.put, List.getElem_toArray, List.getElem_cons_zero, List.getElem_cons_succ, List.setIfInBounds_toArray, List.set_cons_zero, List.set_cons_succ])
  refine wpAnyH_ready (rs := [5]) (by kernel_rfl) (by simp) ?_
  refine AllReadyH.cons rfl (fun K hK => ?_) AllReadyH.nil
  (go_simp; go_at_call 71; (with_reducible refine (HAD.out _ (HF1.out.trans (Fresh.drew _))).mono ?_); rintro e w4 ⟨⟨gn, rfl⟩, v', ht, hv, ho4⟩; have ho : Only (fun k => k = p ∨ v.ownBlock = some k) W2 w4 := (Only.of_fresh (Fresh.drew _)).trans ho4; clear ho4)
  refine hK.out _ _ (HSK.out _ ho) (fun hHeld => ?_)
  clear hK K
  (try simp only [Act.put, List.getElem_toArray, List.getElem_cons_zero, List.getElem_cons_succ, List.setIfInBounds_toArray, List.set_cons_zero, List.set_cons_succ])
  refine wpAnyH_done (by kernel_rfl) ?_ _
  have hbx : Blk w4 w.heap.size 28 #[.string ⟨#[]⟩, .string ⟨#[]⟩, .bool false] := HB1.out.only ho (by
    rintro (e | e)
    · exact absurd e (by have := HPW.out; omega)
    · exact absurd (HVW.out _ e) (Nat.lt_irrefl _))
  have HGE : w.heap.size ≤ g1 := hge1
  have hby : Blk w4 g1 26 #[.string F1, .string F2] := HB3.out.only ho (by
    rintro (e | e)
    · have := HPW.out; omega
    · have := HVW.out _ e; omega)
  have HB4 := Lib.hid hbx
  have HO4 : Hid (Only (fun k => k = p ∨ v.ownBlock = some k) w w4) := Lib.hid ((Only.of_fresh HF1.out).trans ho)
  have HDW : Hid (d < w.heap.size) := Lib.hid HBK.out.lt
  have HNE : Hid (∀ k, v'.ownBlock = some k → k ≠ w.heap.size) := Lib.hid (fun k hk => by
    rcases hv k hk with e | e
    · have := HVW.out _ e; omega
    · have := HB1.out.lt; have hx := (Fresh.drew W2).size; omega)
  have HV4 : Hid (∀ k, v'.ownBlock = some k → v.ownBlock = some k ∨ w.heap.size ≤ k) := Lib.hid (fun k hk => (hv k hk).imp id (fun h => Nat.le_trans HF1.out.size h))
  have HDC : Hid (DecAt w4 base d p v' (addF fs lim (F1, F2)) lim most bound dead) := Lib.hid ⟨HBK.out.only HO4.out (by
    rintro (e | e)
    · exact hdp e
    · exact hdv _ e rfl), ht⟩
  obtain ⟨x0, x1, x2⟩ := HB4.out.c3
  obtain ⟨y0, y1⟩ := hby.c2
  have z0 := HB4.out.frozen 0
  have z1 := HB4.out.frozen 1
  have z2 := HB4.out.frozen 2
  clear hbx hby ho ht hv HSK HFD HAD
  go_wp2
  refine wx_gen (fun W => Blk W w.heap.size 28 #[.string F1, .string F2, .bool false] ∧ Only (· = w.heap.size) w4 W ∧ Only (fun k => k = p ∨ v.ownBlock = some k) w W) ⟨((HB4.out.set 0 (.string F1)).set 1 (.string F2)).set 2 (.bool false), ?_, ?_⟩ ?_
  · repeat (first | with_reducible exact Only.of_fresh (Fresh.refl _) | (with_reducible refine Only.step2 ?_ ?_; focus (exact .inl rfl)))
  · repeat (first | with_reducible exact HO4.out | (with_reducible refine Only.step2 ?_ ?_; focus (exact .inr (Nat.le_refl _))))
  rintro W7 ⟨hb7, ho7, how⟩
  obtain ⟨r0, r1, r2⟩ := hb7.c3
  have hne : ∀ k, v'.ownBlock = some k → k ≠ w.heap.size := HNE.out
  exact bodyPost_ret (v := .tuple #[.agg #[.string F1, .string F2, .bool false], .int .i64 (u : Int), .int .i64 0]) (by simp [results, Try.f54, go_sem, r0, r1, r2]) rfl ⟨rfl, v', ⟨HDC.out.blk.only ho7 (fun e => absurd HDW.out (by rw [e]; exact Nat.lt_irrefl _)), HDC.out.tab.only ho7 (fun e => absurd HPW.out (by rw [e]; exact Nat.lt_irrefl _)) hne⟩, HV4.out, how⟩
/-- The table behind a line. -/
def fsL (fs : List FldT) (lim : Int) (k n : Nat) (l : List UInt8) : List FldT := if k = 1 ∧ (lineR fs k n l).1 = 0 then addF fs lim (lineR fs k n l).2.1 else fs
/-- What a line says, and what its decoder is then. -/
def LineP (w : World) (base d p : Nat) (v : Value) (fs : List FldT) (lim most bound : Int) (dead : Bool) (k n : Nat) (l : List UInt8) (e : Ending) (w' : World) : Prop :=
  e = lineE (lineR fs k n l).2.1 (decide (k = 3 ∧ (lineR fs k n l).1 = 0)) (lineR fs k n l).2.2 (lineR fs k n l).1 ∧ ∃ v', DecAt w' base d p v' (fsL fs lim k n l) lim most bound dead ∧ (∀ k, v'.ownBlock = some k → v.ownBlock = some k ∨ w.heap.size ≤ k) ∧ DecOnly d p v w w'
theorem fieldR_aux (nm : Nat × ByteArray × Nat) (l : List UInt8) (h : (if nm.1 = 0 then (if (litR (l.drop nm.2.2) 4096).2.2 = 0 then (0, (nm.2.1, strB (litR (l.drop nm.2.2) 4096).1), nm.2.2 + (litR (l.drop nm.2.2) 4096).2.1) else ((litR (l.drop nm.2.2) 4096).2.2, (strB [], strB []), 0))
  else (nm.1, (strB [], strB []), 0)).1 ≠ 0) : (if nm.1 = 0 then (if (litR (l.drop nm.2.2) 4096).2.2 = 0 then (0, (nm.2.1, strB (litR (l.drop nm.2.2) 4096).1), nm.2.2 + (litR (l.drop nm.2.2) 4096).2.1) else ((litR (l.drop nm.2.2) 4096).2.2, (strB [], strB []), 0))
  else (nm.1, (strB [], strB []), 0)).2 = ((strB [], strB []), 0) := by
  by_cases h1 : nm.1 = 0
  · rw [if_pos h1] at h ⊢
    by_cases h2 : (litR (l.drop nm.2.2) 4096).2.2 = 0
    · rw [if_pos h2] at h
      exact absurd rfl h
    · rw [if_neg h2]
  · rw [if_neg h1]
theorem fieldR_err {fs : List FldT} {n : Nat} {l : List UInt8} (h : (fieldR fs n l).1 ≠ 0) : (fieldR fs n l).2 = ((strB [], strB []), 0) := fieldR_aux _ l h
theorem de_line (base d p : Nat) (v : Value) (fs : List FldT) (lim most bound : Int) (dead : Bool) (k n : Nat) (A : Option Addr) (c : Nat) (l : List UInt8) (w : World) (h : DecAt w base d p v fs lim most bound dead) (hk : k ≠ 2) (hz : tz fs + fz (lineR fs k n l).2.1 ≤ 4503599627370496) (hbase : base ≤ w.heap.size) (h0 : 0 ≤ lim) (h1 : lim ≤ 65536) (hm : fs.length ≤ 1000000) (hdp : d ≠ p) (hdv : ∀ k, v.ownBlock = some k → k ≠ d) (hn : n ≤ 2147483647) (hl : l.length ≤ 100000000) (hlc : l.length ≤ c) (hcm : c ≤ maxLen) (hB : BS w A l) :
    Calls Try.prog 54 #[.pointer (some ⟨d, 0, none⟩), .int .i64 (k : Int), .int .i64 (n : Int), .slice A l.length c] w (LineP w base d p v fs lim most bound dead k n l) := by
  have HFD := Lib.hid (fun W (hf : Fresh w W) => de_field base d p v fs lim most bound dead n A c l W (h.fresh hf) hm hn hl hlc hcm (hB.fresh hf))
  have hst : ∀ w', Fresh w w' → ∃ v', DecAt w' base d p v' fs lim most bound dead ∧ (∀ k, v'.ownBlock = some k → v.ownBlock = some k ∨ w.heap.size ≤ k) ∧ DecOnly d p v w w' := fun w' hf => ⟨v, h.fresh hf, fun k hk => .inl hk, Only.of_fresh hf⟩
  by_cases hk0 : k = 0
  · subst hk0
    have hfs : fsL fs lim 0 n l = fs := if_neg (by simp)
    cases hen : entR fs n with
    | some f =>
      have hr : lineR fs 0 n l = (0, f, 0) := by unfold lineR; rw [if_pos rfl, hen]
      refine (de_line_a d n (.slice A l.length c) f.1 f.2 0 w (Lib.hid (fun W hf => (de_entry base d p v fs lim most bound dead n W (h.fresh hf) hm hn).mono (fun e w' hh => by unfold EnP at hh; rw [hen] at hh; exact hh)))).mono ?_
      rintro e w' ⟨he, hf⟩
      unfold LineP
      rw [hfs, hr]
      exact ⟨he, hst w' hf⟩
    | none =>
      have hr : lineR fs 0 n l = (23, (strB [], strB []), 0) := by unfold lineR; rw [if_pos rfl, hen]
      refine (de_line_a d n (.slice A l.length c) (strB []) (strB []) 23 w (Lib.hid (fun W hf => (de_entry base d p v fs lim most bound dead n W (h.fresh hf) hm hn).mono (fun e w' hh => by unfold EnP at hh; rw [hen] at hh; exact hh)))).mono ?_
      rintro e w' ⟨he, hf⟩
      unfold LineP
      rw [hfs, hr]
      exact ⟨he, hst w' hf⟩
  have hr : lineR fs k n l = fieldR fs n l := by unfold lineR; rw [if_neg hk0]
  rw [hr] at hz
  unfold FieldP at HFD
  by_cases he0 : (fieldR fs n l).1 = 0
  · by_cases hk1 : k = 1
    · subst hk1
      have hfs : fsL fs lim 1 n l = addF fs lim (fieldR fs n l).2.1 := by unfold fsL; rw [hr]; exact if_pos ⟨rfl, he0⟩
      refine (de_line_d base d p v fs lim most bound dead n A l.length c (fieldR fs n l).2.1 (fieldR fs n l).2.2 w h hz hbase h0 h1 hm hdp hdv (Lib.hid (fun W hf => (HFD.out W hf).mono (fun e w' hh => by rw [he0] at hh; exact hh)))).mono ?_
      rintro e w' ⟨he, hh⟩
      unfold LineP
      rw [hfs, hr, he0]
      exact ⟨he, hh⟩
    · have hfs : fsL fs lim k n l = fs := if_neg (fun h => hk1 h.1)
      refine (de_line_f d k n A l.length c (fieldR fs n l).2.1.1 (fieldR fs n l).2.1.2 (fieldR fs n l).2.2 w (by omega) (Lib.hid (fun W hf => (HFD.out W hf).mono (fun e w' hh => by rw [he0] at hh; exact hh)))).mono ?_
      rintro e w' ⟨he, hf⟩
      unfold LineP
      rw [hfs, hr, he0]
      exact ⟨by rw [he]; simp, hst w' hf⟩
  · have hfs : fsL fs lim k n l = fs := if_neg (fun h => he0 (by rw [← hr]; exact h.2))
    have hx := fieldR_err he0
    refine (de_line_n d k n A l.length c (fieldR fs n l).2.1.1 (fieldR fs n l).2.1.2 (fieldR fs n l).2.2 (fieldR fs n l).1 w (by omega) he0 (Lib.hid (fun W hf => HFD.out W hf))).mono ?_
    rintro e w' ⟨he, hf⟩
    unfold LineP
    rw [hfs, hr, hx]
    exact ⟨by rw [he]; simp [he0], hst w' hf⟩
end Go.Proofs.Ytdoddpigiencjaa

