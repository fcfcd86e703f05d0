/-
  Texts laid together: DecE DecF DecG DecH DecO.
-/
import Derived.Test.YtapikjhfgcbifaaGreatDoorDecK1
import Derived.StillTailTactics
/-
  Package decode: line.
-/
namespace Go.Proofs.YtapikjhfgcbifaaGreatDoor
set_option maxRecDepth 100000
set_option linter.unusedVariables false
set_option linter.unusedSimpArgs false
open Go.RowKit
def lineE (f : FldT) (nv : Bool) (u er : Nat) : Ending := .returned (.tuple #[.agg #[.string f.1, .string f.2, .bool nv], .int .i64 (u : Int), .int .i64 (er : Int)])
set_option maxHeartbeats 1600000 in
theorem de_line_a (d : Nat) (n : Nat) (S : Value) (F1 F2 : ByteArray) (er : Nat) (w : World)
    (HEN : Hid (∀ W, Fresh w W → Calls Tryz.prog 84 #[.pointer (some ⟨d, 0, none⟩), .int .i64 (n : Int)] W fun e w' => e = .returned (.tuple #[.agg #[.string F1, .string F2], .int .i64 (er : Int)]) ∧ Fresh W w')) :
    Calls Tryz.prog 63 #[.pointer (some ⟨d, 0, none⟩), .int .i64 0, .int .i64 (n : Int), S] w fun e w' => e = lineE (F1, F2) false 0 er ∧ Fresh w w' := by
  unfold lineE
  simp only
  go_enter Tryz.func63, Tryz.ntmps63
  go_wp2_with fail
  with_reducible refine (HEN.out _ (Fresh.alloc _ _)).mono ?_
  rintro e w1 ⟨rfl, hf1⟩
  have hb1 := (Blk.new w 38 #[.string ⟨#[]⟩, .string ⟨#[]⟩, .bool false]).fresh hf1
  have hf1' := Fresh.tA hf1
  clear hf1
  go_upto_region 3 with fail
  refine wp_gen (fun W => Blk W w.heap.size 38 #[.string ⟨#[]⟩, .string ⟨#[]⟩, .bool false] ∧ Blk W w1.heap.size 29 #[.string F1, .string F2] ∧ Fresh w W) ⟨hb1.alloc _, Blk.new w1 _ _, hf1'.allocS _⟩ ?_
  rintro W2 ⟨hb2, hb3, hf2⟩
  have HB1 := Lib.hid hb2
  have HF1 := Lib.hid hf2
  obtain ⟨d0, d1, d2⟩ := HB1.out.c3
  obtain ⟨g0, g1⟩ := hb3.c2
  have z0 := HB1.out.frozen 0
  have z1 := HB1.out.frozen 1
  have z2 := HB1.out.frozen 2
  clear hb1 hf1' hb2 hf2 hb3
  go_wp2
  refine wx_gen (fun W => Blk W w.heap.size 38 #[.string F1, .string F2, .bool false] ∧ Fresh w W) ⟨((HB1.out.set 0 (.string F1)).set 1 (.string F2)).set 2 (.bool false), by repeat (first | with_reducible exact HF1.out | (with_reducible refine Fresh.step2 ?_ ?_; focus (exact Nat.le_refl _)))⟩ ?_
  rintro W7 ⟨hb7, hf7⟩
  obtain ⟨r0, r1, r2⟩ := hb7.c3
  exact bodyPost_ret (v := .tuple #[.agg #[.string F1, .string F2, .bool false], .int .i64 0, .int .i64 (er : Int)]) (by simp [results, Tryz.f63, go_sem, r0, r1, r2]) rfl ⟨rfl, hf7⟩
set_option maxHeartbeats 1600000 in
theorem de_line_n (d : Nat) (k n : Nat) (A : Option Addr) (m c : Nat) (F1 F2 : ByteArray) (u er : Nat) (w : World) (hk : 1 ≤ k) (her : er ≠ 0)
    (HFD : Hid (∀ W, Fresh w W → Calls Tryz.prog 85 #[.pointer (some ⟨d, 0, none⟩), .int .i64 (n : Int), .slice A m c] W fun e w' => e = .returned (.tuple #[.agg #[.string F1, .string F2], .int .i64 (u : Int), .int .i64 (er : Int)]) ∧ Fresh W w')) :
    Calls Tryz.prog 63 #[.pointer (some ⟨d, 0, none⟩), .int .i64 (k : Int), .int .i64 (n : Int), .slice A m c] w fun e w' => e = lineE (strB [], strB []) false 0 er ∧ Fresh w w' := by
  unfold lineE
  simp only
  have k0 : ¬ (k : Int) = 0 := by omega
  have h0d : ((er : Int) != 0) = true := by simp; omega
  have h0i : ¬ (er : Int) = 0 := by omega
  go_enter Tryz.func63, Tryz.ntmps63
  go_wp2_with fail
  with_reducible refine (HFD.out _ (Fresh.alloc _ _)).mono ?_
  rintro e w1 ⟨rfl, hf1⟩
  have hb1 := (Blk.new w 38 #[.string ⟨#[]⟩, .string ⟨#[]⟩, .bool false]).fresh hf1
  have hf1' := Fresh.tA hf1
  clear hf1
  go_upto_region 5 with fail
  refine wp_gen (fun W => Blk W w.heap.size 38 #[.string ⟨#[]⟩, .string ⟨#[]⟩, .bool false] ∧ Fresh w W) ⟨hb1.alloc _, hf1'.allocS _⟩ ?_
  rintro W2 ⟨hb2, hf2⟩
  have HB1 := Lib.hid hb2
  have HF1 := Lib.hid hf2
  obtain ⟨d0, d1, d2⟩ := HB1.out.c3
  have z0 := HB1.out.frozen 0
  have z1 := HB1.out.frozen 1
  have z2 := HB1.out.frozen 2
  clear hb1 hf1' hb2 hf2
  go_wp2
  refine wx_gen (fun W => Blk W w.heap.size 38 #[.string ⟨#[]⟩, .string ⟨#[]⟩, .bool false] ∧ Fresh w W) ⟨((HB1.out.set 0 (.string ⟨#[]⟩)).set 1 (.string ⟨#[]⟩)).set 2 (.bool false), by repeat (first | with_reducible exact HF1.out | (with_reducible refine Fresh.step2 ?_ ?_; focus (exact Nat.le_refl _)))⟩ ?_
  rintro W7 ⟨hb7, hf7⟩
  obtain ⟨r0, r1, r2⟩ := hb7.c3
  exact bodyPost_ret (v := .tuple #[.agg #[.string ⟨#[]⟩, .string ⟨#[]⟩, .bool false], .int .i64 0, .int .i64 (er : Int)]) (by simp [results, Tryz.f63, go_sem, r0, r1, r2]) rfl ⟨rfl, hf7⟩
set_option maxHeartbeats 1600000 in
theorem de_line_f (d : Nat) (k n : Nat) (A : Option Addr) (m c : Nat) (F1 F2 : ByteArray) (u : Nat) (w : World) (hk : 2 ≤ k)
    (HFD : Hid (∀ W, Fresh w W → Calls Tryz.prog 85 #[.pointer (some ⟨d, 0, none⟩), .int .i64 (n : Int), .slice A m c] W fun e w' => e = .returned (.tuple #[.agg #[.string F1, .string F2], .int .i64 (u : Int), .int .i64 0]) ∧ Fresh W w')) :
    Calls Tryz.prog 63 #[.pointer (some ⟨d, 0, none⟩), .int .i64 (k : Int), .int .i64 (n : Int), .slice A m c] w fun e w' => e = lineE (F1, F2) (decide (k = 3)) u 0 ∧ Fresh w w' := by
  unfold lineE
  simp only
  have k0 : ¬ (k : Int) = 0 := by omega
  have k1 : ¬ (k : Int) = 1 := by omega
  obtain ⟨nv, hnv⟩ : ∃ nv, decide (k = 3) = nv := ⟨_, rfl⟩
  have k3 : ((k : Int) == 3) = nv := by rw [← hnv]; by_cases h : k = 3 <;> simp [h] <;> omega
  have k3d : decide ((k : Int) = 3) = nv := by rw [← hnv]; by_cases h : k = 3 <;> simp [h] <;> omega
  rw [hnv]
  clear hnv
  go_enter Tryz.func63, Tryz.ntmps63
  go_wp2_with fail
  with_reducible refine (HFD.out _ (Fresh.alloc _ _)).mono ?_
  rintro e w1 ⟨rfl, hf1⟩
  have hb1 := (Blk.new w 38 #[.string ⟨#[]⟩, .string ⟨#[]⟩, .bool false]).fresh hf1
  have hf1' := Fresh.tA hf1
  clear hf1
  go_upto_region 5 with fail
  refine wp_gen (fun W => Blk W w.heap.size 38 #[.string ⟨#[]⟩, .string ⟨#[]⟩, .bool false] ∧ Blk W w1.heap.size 29 #[.string F1, .string F2] ∧ Fresh w W) ⟨hb1.alloc _, Blk.new w1 _ _, hf1'.allocS _⟩ ?_
  rintro W2 ⟨hb2, hb3, hf2⟩
  have HB1 := Lib.hid hb2
  have HF1 := Lib.hid hf2
  obtain ⟨d0, d1, d2⟩ := HB1.out.c3
  obtain ⟨g0, g1⟩ := hb3.c2
  have z0 := HB1.out.frozen 0
  have z1 := HB1.out.frozen 1
  have z2 := HB1.out.frozen 2
  clear hb1 hf1' hb2 hf2 hb3
  go_wp2
  refine wx_gen (fun W => Blk W w.heap.size 38 #[.string F1, .string F2, .bool nv] ∧ Fresh w W) ⟨((HB1.out.set 0 (.string F1)).set 1 (.string F2)).set 2 (.bool nv), by repeat (first | with_reducible exact HF1.out | (with_reducible refine Fresh.step2 ?_ ?_; focus (exact Nat.le_refl _)))⟩ ?_
  rintro W7 ⟨hb7, hf7⟩
  obtain ⟨r0, r1, r2⟩ := hb7.c3
  exact bodyPost_ret (v := .tuple #[.agg #[.string F1, .string F2, .bool nv], .int .i64 (u : Int), .int .i64 0]) (by simp [results, Tryz.f63, go_sem, r0, r1, r2]) rfl ⟨rfl, hf7⟩
set_option maxHeartbeats 3200000 in
theorem de_line_d (base d p : Nat) (v : Value) (fs : List FldT) (lim most bound : Int) (dead : Bool) (n : Nat) (A : Option Addr) (m c : Nat) (f : FldT) (u : Nat) (w : World) (h : DecAt w base d p v fs lim most bound dead) (hz : tz fs + fz f ≤ 4503599627370496) (hbase : base ≤ w.heap.size) (h0 : 0 ≤ lim) (h1 : lim ≤ 65536) (hm : fs.length ≤ 1000000) (hdp : d ≠ p) (hdv : ∀ k, v.ownBlock = some k → k ≠ d)
    (HFD : Hid (∀ W, Fresh w W → Calls Tryz.prog 85 #[.pointer (some ⟨d, 0, none⟩), .int .i64 (n : Int), .slice A m c] W fun e w' => e = .returned (.tuple #[.agg #[.string f.1, .string f.2], .int .i64 (u : Int), .int .i64 0]) ∧ Fresh W w')) :
    Calls Tryz.prog 63 #[.pointer (some ⟨d, 0, none⟩), .int .i64 1, .int .i64 (n : Int), .slice A m c] w fun e w' => e = lineE f false u 0 ∧ ∃ v', DecAt w' base d p v' (addF fs lim f) lim most bound dead ∧ (∀ k, v'.ownBlock = some k → v.ownBlock = some k ∨ w.heap.size ≤ k) ∧ Only (fun k => k = p ∨ v.ownBlock = some k) w w' := by
  have HAD : Hid (∀ W, Fresh w W → Calls Tryz.prog 86 #[.pointer (some ⟨p, 0, none⟩), .agg #[.string f.1, .string f.2]] W fun e w' => (∃ gn : Int, e = .returned (.int .i64 gn)) ∧ ∃ v', TabAt w' base p v' (addF fs lim f) lim ∧ (∀ k, v'.ownBlock = some k → v.ownBlock = some k ∨ W.heap.size ≤ k) ∧ Only (fun k => k = p ∨ v.ownBlock = some k) W w') := Lib.hid (fun W hf => (dy_add f (h.tab.fresh hf) hz (Nat.le_trans hbase hf.size) h0 h1 hm).mono (fun e w' hh => ⟨⟨_, hh.1⟩, hh.2⟩))
  have HBK := Lib.hid h.blk
  have hpw : p < w.heap.size := h.tab.blk.lt
  have hvw := fun k hk => (h.tab.ne k hk).2
  have HPW := Lib.hid hpw
  have HVW := Lib.hid hvw
  clear h hz hbase h0 h1 hm hpw hvw
  unfold lineE
  obtain ⟨F1, F2⟩ := f
  simp only at HFD HAD ⊢
  go_enter Tryz.func63, Tryz.ntmps63
  go_wp2_with fail
  with_reducible refine (HFD.out _ (Fresh.alloc _ _)).mono ?_
  rintro e w1 ⟨rfl, hf1⟩
  have hb1 := (Blk.new w 38 #[.string ⟨#[]⟩, .string ⟨#[]⟩, .bool false]).fresh hf1
  have hf1' := Fresh.tA hf1
  clear hf1
  have hge1 : w.heap.size ≤ w1.heap.size := hf1'.size
  go_upto_region 8 with fail
  refine wp_gen (fun W => Blk W w.heap.size 38 #[.string ⟨#[]⟩, .string ⟨#[]⟩, .bool false] ∧ Blk W w1.heap.size 29 #[.string F1, .string F2] ∧ Fresh w W) ⟨hb1.alloc _, Blk.new w1 _ _, hf1'.allocS _⟩ ?_
  rintro W2 ⟨hb2, hb3, hf2⟩
  have HB1 := Lib.hid hb2
  have HB3 := Lib.hid hb3
  have HF1 := Lib.hid hf2
  clear hb1 hf1' hb2 hf2 hb3
  generalize w1.heap.size = g1 at *
  have hgd : ∀ k, (k = p ∨ v.ownBlock = some k) → k ≠ d ∧ k ≠ g1 := by
    have a := HPW.out
    rintro k (e | e)
    · exact ⟨fun h => hdp (h.symm.trans e), by omega⟩
    · have b := HVW.out _ e
      exact ⟨hdv _ e, by omega⟩
  have HSK : Hid (∀ w', Only (fun k => k = p ∨ v.ownBlock = some k) W2 w' → w'.cell? ⟨d, 0, none⟩ = some (.pointer (some ⟨p, 0, none⟩)) ∧ w'.cell? ⟨g1, 0, none⟩ = some (.string F1) ∧ w'.cell? ⟨g1, 1, none⟩ = some (.string F2)) := Lib.hid (fun w' hw => ⟨(((HBK.out.fresh HF1.out).only hw (fun e => (hgd _ e).1 rfl)).c4).1, (HB3.out.only hw (fun e => (hgd _ e).2 rfl)).c2.1, (HB3.out.only hw (fun e => (hgd _ e).2 rfl)).c2.2⟩)
  refine wp_region_held_drew (S := (fun w' => w'.cell? ⟨d, 0, none⟩ = some (.pointer (some ⟨p, 0, none⟩)) ∧ w'.cell? ⟨g1, 0, none⟩ = some (.string F1) ∧ w'.cell? ⟨g1, 1, none⟩ = some (.string F2))) (by kernel_rfl) (HSK.out _ (Only.of_fresh (Fresh.drew _))) (fun hHeld => ?_)
  refine wpAnyH_take (i := 0) (v := ?_) rfl (by kernel_rfl) (by kernel_rfl) (by kernel_rfl) (fun _ _ _ h => h) (Or.inl ⟨by rfl, ?_⟩) (by assumption) ?_; rotate_left; focus (intro w hSw; (try dsimp only at hSw); go_simp; (try with_reducible rfl); done)
  (try simp only [Act.put, List.getElem_toArray, List.getElem_cons_zero, List.getElem_cons_succ, List.setIfInBounds_toArray, List.set_cons_zero, List.set_cons_succ])
  refine wpAnyH_take (i := 1) (v := ?_) rfl (by kernel_rfl) (by kernel_rfl) (by kernel_rfl) (fun _ _ _ h => h) (Or.inl ⟨by rfl, ?_⟩) (by assumption) ?_; rotate_left; focus (intro w hSw; (try dsimp only at hSw); go_simp; (try with_reducible rfl); done)
  (try simp only [Act.put, List.getElem_toArray, List.getElem_cons_zero, List.getElem_cons_succ, List.setIfInBounds_toArray, List.set_cons_zero, List.set_cons_succ])
  refine wpAnyH_take (i := 2) (v := ?_) rfl (by kernel_rfl) (by kernel_rfl) (by kernel_rfl) (fun _ _ _ h => h) (Or.inl ⟨by rfl, ?_⟩) (by assumption) ?_; rotate_left; focus (intro w hSw; (try dsimp only at hSw); go_simp; (try with_reducible rfl); done)
  (try simp only [Act.put, List.getElem_toArray, List.getElem_cons_zero, List.getElem_cons_succ, List.setIfInBounds_toArray, List.set_cons_zero, List.set_cons_succ])
  refine wpAnyH_take (i := 3) (v := ?_) rfl (by kernel_rfl) (by kernel_rfl) (by kernel_rfl) (fun _ _ _ h => h) (Or.inl ⟨by rfl, ?_⟩) (by assumption) ?_; rotate_left; focus (intro w hSw; (try dsimp only at hSw); go_simp; (try with_reducible rfl); done)
  (try simp only [Act.put, List.getElem_toArray, List.getElem_cons_zero, List.getElem_cons_succ, List.setIfInBounds_toArray, List.set_cons_zero, List.set_cons_succ])
  refine wpAnyH_take (i := 4) (v := ?_) rfl (by kernel_rfl) (by kernel_rfl) (by kernel_rfl) (fun _ _ _ h => h) (Or.inl ⟨by rfl, ?_⟩) (by assumption) ?_; rotate_left; focus (intro w hSw; (try dsimp only at hSw); go_simp; (try with_reducible rfl); done)
  (try simp only [Act.put, List.getElem_toArray, List.getElem_cons_zero, List.getElem_cons_succ, List.setIfInBounds_toArray, List.set_cons_zero, List.set_cons_succ])
  refine wpAnyH_ready (rs := [5]) (by kernel_rfl) (by simp) ?_
  refine AllReadyH.cons rfl (fun K hK => ?_) AllReadyH.nil
  (go_simp; go_at_call 86; (with_reducible refine (HAD.out _ (HF1.out.trans (Fresh.drew _))).mono ?_); rintro e w4 ⟨⟨gn, rfl⟩, v', ht, hv, ho4⟩; have ho : Only (fun k => k = p ∨ v.ownBlock = some k) W2 w4 := (Only.of_fresh (Fresh.drew _)).trans ho4; clear ho4)
  refine hK.out _ _ (HSK.out _ ho) (fun hHeld => ?_)
  clear hK K
  (try simp only [Act.put, List.getElem_toArray, List.getElem_cons_zero, List.getElem_cons_succ, List.setIfInBounds_toArray, List.set_cons_zero, List.set_cons_succ])
  refine wpAnyH_done (by kernel_rfl) ?_ _
  have hbx : Blk w4 w.heap.size 38 #[.string ⟨#[]⟩, .string ⟨#[]⟩, .bool false] := HB1.out.only ho (by
    rintro (e | e)
    · exact absurd e (by have := HPW.out; omega)
    · exact absurd (HVW.out _ e) (Nat.lt_irrefl _))
  have HGE : w.heap.size ≤ g1 := hge1
  have hby : Blk w4 g1 29 #[.string F1, .string F2] := HB3.out.only ho (by
    rintro (e | e)
    · have := HPW.out; omega
    · have := HVW.out _ e; omega)
  have HB4 := Lib.hid hbx
  have HO4 : Hid (Only (fun k => k = p ∨ v.ownBlock = some k) w w4) := Lib.hid ((Only.of_fresh HF1.out).trans ho)
  have HDW : Hid (d < w.heap.size) := Lib.hid HBK.out.lt
  have HNE : Hid (∀ k, v'.ownBlock = some k → k ≠ w.heap.size) := Lib.hid (fun k hk => by
    rcases hv k hk with e | e
    · have := HVW.out _ e; omega
    · have := HB1.out.lt; have hx := (Fresh.drew W2).size; omega)
  have HV4 : Hid (∀ k, v'.ownBlock = some k → v.ownBlock = some k ∨ w.heap.size ≤ k) := Lib.hid (fun k hk => (hv k hk).imp id (fun h => Nat.le_trans HF1.out.size h))
  have HDC : Hid (DecAt w4 base d p v' (addF fs lim (F1, F2)) lim most bound dead) := Lib.hid ⟨HBK.out.only HO4.out (by
    rintro (e | e)
    · exact hdp e
    · exact hdv _ e rfl), ht⟩
  obtain ⟨x0, x1, x2⟩ := HB4.out.c3
  obtain ⟨y0, y1⟩ := hby.c2
  have z0 := HB4.out.frozen 0
  have z1 := HB4.out.frozen 1
  have z2 := HB4.out.frozen 2
  clear hbx hby ho ht hv HSK HFD HAD
  go_wp2
  refine wx_gen (fun W => Blk W w.heap.size 38 #[.string F1, .string F2, .bool false] ∧ Only (· = w.heap.size) w4 W ∧ Only (fun k => k = p ∨ v.ownBlock = some k) w W) ⟨((HB4.out.set 0 (.string F1)).set 1 (.string F2)).set 2 (.bool false), ?_, ?_⟩ ?_
  · repeat (first | with_reducible exact Only.of_fresh (Fresh.refl _) | (with_reducible refine Only.step2 ?_ ?_; focus (exact .inl rfl)))
  · repeat (first | with_reducible exact HO4.out | (with_reducible refine Only.step2 ?_ ?_; focus (exact .inr (Nat.le_refl _))))
  rintro W7 ⟨hb7, ho7, how⟩
  obtain ⟨r0, r1, r2⟩ := hb7.c3
  have hne : ∀ k, v'.ownBlock = some k → k ≠ w.heap.size := HNE.out
  exact bodyPost_ret (v := .tuple #[.agg #[.string F1, .string F2, .bool false], .int .i64 (u : Int), .int .i64 0]) (by simp [results, Tryz.f63, go_sem, r0, r1, r2]) rfl ⟨rfl, v', ⟨HDC.out.blk.only ho7 (fun e => absurd HDW.out (by rw [e]; exact Nat.lt_irrefl _)), HDC.out.tab.only ho7 (fun e => absurd HPW.out (by rw [e]; exact Nat.lt_irrefl _)) hne⟩, HV4.out, how⟩
/-- The table behind a line. -/
def fsL (fs : List FldT) (lim : Int) (k n : Nat) (l : List UInt8) : List FldT := if k = 1 ∧ (lineR fs k n l).1 = 0 then addF fs lim (lineR fs k n l).2.1 else fs
/-- What a line says, and what its decoder is then. -/
def LineP (w : World) (base d p : Nat) (v : Value) (fs : List FldT) (lim most bound : Int) (dead : Bool) (k n : Nat) (l : List UInt8) (e : Ending) (w' : World) : Prop :=
  e = lineE (lineR fs k n l).2.1 (decide (k = 3 ∧ (lineR fs k n l).1 = 0)) (lineR fs k n l).2.2 (lineR fs k n l).1 ∧ ∃ v', DecAt w' base d p v' (fsL fs lim k n l) lim most bound dead ∧ (∀ k, v'.ownBlock = some k → v.ownBlock = some k ∨ w.heap.size ≤ k) ∧ DecOnly d p v w w'
theorem fieldR_aux (nm : Nat × ByteArray × Nat) (l : List UInt8) (h : (if nm.1 = 0 then (if (litR (l.drop nm.2.2) 4096).2.2 = 0 then (0, (nm.2.1, strB (litR (l.drop nm.2.2) 4096).1), nm.2.2 + (litR (l.drop nm.2.2) 4096).2.1) else ((litR (l.drop nm.2.2) 4096).2.2, (strB [], strB []), 0))
  else (nm.1, (strB [], strB []), 0)).1 ≠ 0) : (if nm.1 = 0 then (if (litR (l.drop nm.2.2) 4096).2.2 = 0 then (0, (nm.2.1, strB (litR (l.drop nm.2.2) 4096).1), nm.2.2 + (litR (l.drop nm.2.2) 4096).2.1) else ((litR (l.drop nm.2.2) 4096).2.2, (strB [], strB []), 0))
  else (nm.1, (strB [], strB []), 0)).2 = ((strB [], strB []), 0) := by
  by_cases h1 : nm.1 = 0
  · rw [if_pos h1] at h ⊢
    by_cases h2 : (litR (l.drop nm.2.2) 4096).2.2 = 0
    · rw [if_pos h2] at h
      exact absurd rfl h
    · rw [if_neg h2]
  · rw [if_neg h1]
theorem fieldR_err {fs : List FldT} {n : Nat} {l : List UInt8} (h : (fieldR fs n l).1 ≠ 0) : (fieldR fs n l).2 = ((strB [], strB []), 0) := fieldR_aux _ l h
theorem de_line (base d p : Nat) (v : Value) (fs : List FldT) (lim most bound : Int) (dead : Bool) (k n : Nat) (A : Option Addr) (c : Nat) (l : List UInt8) (w : World) (h : DecAt w base d p v fs lim most bound dead) (hk : k ≠ 2) (hz : tz fs + fz (lineR fs k n l).2.1 ≤ 4503599627370496) (hbase : base ≤ w.heap.size) (h0 : 0 ≤ lim) (h1 : lim ≤ 65536) (hm : fs.length ≤ 1000000) (hdp : d ≠ p) (hdv : ∀ k, v.ownBlock = some k → k ≠ d) (hn : n ≤ 2147483647) (hl : l.length ≤ 100000000) (hlc : l.length ≤ c) (hcm : c ≤ maxLen) (hB : BS w A l) :
    Calls Tryz.prog 63 #[.pointer (some ⟨d, 0, none⟩), .int .i64 (k : Int), .int .i64 (n : Int), .slice A l.length c] w (LineP w base d p v fs lim most bound dead k n l) := by
  have HFD := Lib.hid (fun W (hf : Fresh w W) => de_field base d p v fs lim most bound dead n A c l W (h.fresh hf) hm hn hl hlc hcm (hB.fresh hf))
  have hst : ∀ w', Fresh w w' → ∃ v', DecAt w' base d p v' fs lim most bound dead ∧ (∀ k, v'.ownBlock = some k → v.ownBlock = some k ∨ w.heap.size ≤ k) ∧ DecOnly d p v w w' := fun w' hf => ⟨v, h.fresh hf, fun k hk => .inl hk, Only.of_fresh hf⟩
  by_cases hk0 : k = 0
  · subst hk0
    have hfs : fsL fs lim 0 n l = fs := if_neg (by simp)
    cases hen : entR fs n with
    | some f =>
      have hr : lineR fs 0 n l = (0, f, 0) := by unfold lineR; rw [if_pos rfl, hen]
      refine (de_line_a d n (.slice A l.length c) f.1 f.2 0 w (Lib.hid (fun W hf => (de_entry base d p v fs lim most bound dead n W (h.fresh hf) hm hn).mono (fun e w' hh => by unfold EnP at hh; rw [hen] at hh; exact hh)))).mono ?_
      rintro e w' ⟨he, hf⟩
      unfold LineP
      rw [hfs, hr]
      exact ⟨he, hst w' hf⟩
    | none =>
      have hr : lineR fs 0 n l = (23, (strB [], strB []), 0) := by unfold lineR; rw [if_pos rfl, hen]
      refine (de_line_a d n (.slice A l.length c) (strB []) (strB []) 23 w (Lib.hid (fun W hf => (de_entry base d p v fs lim most bound dead n W (h.fresh hf) hm hn).mono (fun e w' hh => by unfold EnP at hh; rw [hen] at hh; exact hh)))).mono ?_
      rintro e w' ⟨he, hf⟩
      unfold LineP
      rw [hfs, hr]
      exact ⟨he, hst w' hf⟩
  have hr : lineR fs k n l = fieldR fs n l := by unfold lineR; rw [if_neg hk0]
  rw [hr] at hz
  unfold FieldP at HFD
  by_cases he0 : (fieldR fs n l).1 = 0
  · by_cases hk1 : k = 1
    · subst hk1
      have hfs : fsL fs lim 1 n l = addF fs lim (fieldR fs n l).2.1 := by unfold fsL; rw [hr]; exact if_pos ⟨rfl, he0⟩
      refine (de_line_d base d p v fs lim most bound dead n A l.length c (fieldR fs n l).2.1 (fieldR fs n l).2.2 w h hz hbase h0 h1 hm hdp hdv (Lib.hid (fun W hf => (HFD.out W hf).mono (fun e w' hh => by rw [he0] at hh; exact hh)))).mono ?_
      rintro e w' ⟨he, hh⟩
      unfold LineP
      rw [hfs, hr, he0]
      exact ⟨he, hh⟩
    · have hfs : fsL fs lim k n l = fs := if_neg (fun h => hk1 h.1)
      refine (de_line_f d k n A l.length c (fieldR fs n l).2.1.1 (fieldR fs n l).2.1.2 (fieldR fs n l).2.2 w (by omega) (Lib.hid (fun W hf => (HFD.out W hf).mono (fun e w' hh => by rw [he0] at hh; exact hh)))).mono ?_
      rintro e w' ⟨he, hf⟩
      unfold LineP
      rw [hfs, hr, he0]
      exact ⟨by rw [he]; simp, hst w' hf⟩
  · have hfs : fsL fs lim k n l = fs := if_neg (fun h => he0 (by rw [← hr]; exact h.2))
    have hx := fieldR_err he0
    refine (de_line_n d k n A l.length c (fieldR fs n l).2.1.1 (fieldR fs n l).2.1.2 (fieldR fs n l).2.2 (fieldR fs n l).1 w (by omega) he0 (Lib.hid (fun W hf => HFD.out W hf))).mono ?_
    rintro e w' ⟨he, hf⟩
    unfold LineP
    rw [hfs, hr, hx]
    exact ⟨by rw [he]; simp [he0], hst w' hf⟩
end Go.Proofs.YtapikjhfgcbifaaGreatDoor

/-
  Package decode: what a block says; sizes; the row of lines.
-/
namespace Go.Proofs.YtapikjhfgcbifaaGreatDoor
set_option maxRecDepth 100000
set_option linter.unusedVariables false
set_option linter.unusedSimpArgs false
open Go.RowKit
theorem tz_lenD (fs : List FldT) : fs.length * 32 ≤ tz fs := by
  induction fs with
  | nil => simp [tz]
  | cons f r ih => rw [tz_cons]; simp only [List.length_cons]; unfold fz; omega
theorem tz_goneD (fs : List FldT) (room : Int) (h : 0 ≤ room) : (tz (fs.drop (goneN fs room)) : Int) ≤ room := by
  induction fs with
  | nil => simp [tz]; exact h
  | cons f r ih =>
    rw [goneN]
    split
    · rw [List.drop_succ_cons]; exact ih
    · rw [List.drop_zero]; omega
theorem tz_addD (fs : List FldT) (lim : Int) (f : FldT) (h : 0 ≤ lim) : (tz (addF fs lim f) : Int) ≤ lim := by
  unfold addF
  split
  · rename_i hf
    rw [tz_append]
    have := tz_goneD fs (lim - fz f) (by omega)
    simp [tz] at this ⊢
    omega
  · rename_i hf
    rw [goneN_neg _ _ (by omega), List.drop_length]
    simpa [tz] using h
theorem litR_len (l : List UInt8) : (litR l 4096).1.length ≤ 4096 := by
  unfold litR
  split
  rename_i n u e _
  by_cases h1 : e ≠ 0
  · rw [if_pos h1]; simp
  rw [if_neg h1]
  by_cases h2 : (l.length : Int) < u + n
  · rw [if_pos h2]; simp
  rw [if_neg h2]
  simp only
  by_cases h3 : (textR ((l.drop u.toNat).take n.toNat) (decide (1 ≤ (l.headD 0).toNat / 128)) 4096).1 = 0
  · rw [if_pos h3]
    revert h3
    unfold textR
    simp only
    generalize (if decide (1 ≤ (l.headD 0).toNat / 128) = true then decE (bitsL ((l.drop u.toNat).take n.toNat)) else (0, (l.drop u.toNat).take n.toNat)) = r
    by_cases h4 : r.1 = 0
    · rw [if_pos h4]
      by_cases h5 : (4096 : Int) < (r.2.length : Int)
      · rw [if_pos h5]; simp
      · rw [if_neg h5]; intro _; omega
    · rw [if_neg h4]; simp
  · rw [if_neg h3]; simp
theorem fld_small (k : Nat) : fz (fldAt k) ≤ 1000 := by
  by_cases h : k < 61
  · have : ∀ j : Fin 61, fz (fldAt j.val) ≤ 1000 := by decide
    exact this ⟨k, h⟩
  · have : fldAt k = (⟨#[]⟩, ⟨#[]⟩) := by
      unfold fldAt
      rw [List.getD_eq_getElem?_getD, List.getElem?_eq_none (by
        have : tblF.length = 61 := by decide
        omega)]
      rfl
    rw [this]
    decide
theorem fz_mem {fs : List FldT} {f : FldT} (h : f ∈ fs) : fz f ≤ tz fs := by
  induction fs with
  | nil => cases h
  | cons g r ih =>
    rw [tz_cons]
    rcases List.mem_cons.1 h with rfl | h
    · omega
    · have := ih h; omega
theorem entR_fz {fs : List FldT} {n : Nat} {f : FldT} (h : entR fs n = some f) (ht : tz fs ≤ 65536) : fz f ≤ 70000 := by
  unfold entR at h
  split at h
  · injection h with h
    rw [← h]
    have := fld_small (n - 1)
    omega
  · split at h
    · have := fz_mem (List.mem_of_getElem? h)
      omega
    · cases h
theorem fieldR_fz (fs : List FldT) (n : Nat) (l : List UInt8) (ht : tz fs ≤ 65536) : fz (fieldR fs n l).2.1 ≤ 100000 := by
  have hval : ∀ (nm : ByteArray) (u : Nat), nm.size ≤ 70000 → fz (valR nm u l).2.1 ≤ 100000 := by
    intro nm u hn
    unfold valR
    split
    · have := litR_len (l.drop u)
      unfold fz
      simp only
      rw [strB_size]
      omega
    · simp [fz, strB_size]
  by_cases h0 : n = 0
  · subst h0
    by_cases he : (litR l 4096).2.2 = 0
    · rw [fieldR_text he]
      exact hval _ _ (by rw [strB_size]; have := litR_len l; omega)
    · rw [fieldR_text_no he]
      simp [fz, strB_size]
  · cases hen : entR fs n with
    | some f =>
      rw [fieldR_entry h0 hen]
      exact hval _ _ (by have := entR_fz hen ht; unfold fz at this; omega)
    | none =>
      rw [fieldR_entry_no h0 hen]
      simp [fz, strB_size]
theorem lineR_fz (fs : List FldT) (k n : Nat) (l : List UInt8) (ht : tz fs ≤ 65536) : fz (lineR fs k n l).2.1 ≤ 100000 := by
  unfold lineR
  split
  · cases hen : entR fs n with
    | some f => have := entR_fz hen ht; simp only; omega
    | none => simp [fz, strB_size]
  · exact fieldR_fz fs n l ht
theorem lineR_used (fs : List FldT) (k n : Nat) (l : List UInt8) : (lineR fs k n l).2.2 ≤ l.length := by
  have hval : ∀ (nm : ByteArray) (u : Nat), u ≤ l.length → (valR nm u l).2.2 ≤ l.length := by
    intro nm u hn
    unfold valR
    split
    · rename_i h
      have := (litR_used (l.drop u) 4096 h).2
      rw [List.length_drop] at this
      simp only
      omega
    · simp
  unfold lineR
  split
  · cases entR fs n <;> simp
  · by_cases h0 : n = 0
    · subst h0
      by_cases he : (litR l 4096).2.2 = 0
      · rw [fieldR_text he]
        exact hval _ _ (litR_used l 4096 he).2
      · rw [fieldR_text_no he]
        simp
    · cases hen : entR fs n with
      | some f => rw [fieldR_entry h0 hen]; exact hval _ _ (Nat.zero_le _)
      | none => rw [fieldR_entry_no h0 hen]; simp
/-- What a block says: an error's number, its lines, the table behind it. -/
def blockR (most bound : Int) : Nat → List FldT → Int → Nat → List LnD → List UInt8 → Nat × List LnD × List FldT × Int
  | 0, fs, lim, _, out, _ => (0, out, fs, lim)
  | _ + 1, fs, lim, _, out, [] => (0, out, fs, lim)
  | m + 1, fs, lim, size, out, c :: r =>
    if (decL (c :: r) (bitsR c.toNat)).2.2 ≠ 0 then ((decL (c :: r) (bitsR c.toNat)).2.2.toNat, [], fs, lim)
    else if kindR c.toNat = 2 then
      (if 0 < out.length ∨ most < (decL (c :: r) (bitsR c.toNat)).1 then (24, [], fs, lim)
       else blockR most bound m (fs.drop (goneN fs (decL (c :: r) (bitsR c.toNat)).1)) (decL (c :: r) (bitsR c.toNat)).1 size out ((c :: r).drop (decL (c :: r) (bitsR c.toNat)).2.1.toNat))
    else
      let k := kindR c.toNat
      let n := (decL (c :: r) (bitsR c.toNat)).1.toNat
      let l := (c :: r).drop (decL (c :: r) (bitsR c.toNat)).2.1.toNat
      if (lineR fs k n l).1 ≠ 0 then ((lineR fs k n l).1, [], fsL fs lim k n l, lim)
      else if bound < (size : Int) + fz (lineR fs k n l).2.1 then (22, [], fsL fs lim k n l, lim)
      else blockR most bound m (fsL fs lim k n l) lim (size + fz (lineR fs k n l).2.1) (out ++ [((lineR fs k n l).2.1, decide (k = 3))]) (l.drop (lineR fs k n l).2.2)
theorem blockR_nil (most bound : Int) (m : Nat) (fs : List FldT) (lim : Int) (size : Nat) (out : List LnD) : blockR most bound m fs lim size out [] = (0, out, fs, lim) := by
  cases m <;> rfl
theorem blockR_num {most bound : Int} {m : Nat} {fs : List FldT} {lim : Int} {size : Nat} {out : List LnD} {c : UInt8} {r : List UInt8} {e : Nat} (he : decL (c :: r) (bitsR c.toNat) = (0, 0, (e : Int))) (h : e ≠ 0) : blockR most bound (m + 1) fs lim size out (c :: r) = (e, [], fs, lim) := by
  rw [blockR, he]
  simp [h]
theorem blockR_lim_no {most bound : Int} {m : Nat} {fs : List FldT} {lim : Int} {size : Nat} {out : List LnD} {c : UInt8} {r : List UInt8} {n u : Nat} (he : decL (c :: r) (bitsR c.toNat) = ((n : Int), (u : Int), 0)) (hk : kindR c.toNat = 2) (h : 0 < out.length ∨ most < (n : Int)) : blockR most bound (m + 1) fs lim size out (c :: r) = (24, [], fs, lim) := by
  rw [blockR, he]
  simp only [ne_eq, not_true, if_false, if_pos hk, if_pos h]
theorem blockR_lim {most bound : Int} {m : Nat} {fs : List FldT} {lim : Int} {size : Nat} {out : List LnD} {c : UInt8} {r : List UInt8} {n u : Nat} (he : decL (c :: r) (bitsR c.toNat) = ((n : Int), (u : Int), 0)) (hk : kindR c.toNat = 2) (h : ¬ (0 < out.length ∨ most < (n : Int))) : blockR most bound (m + 1) fs lim size out (c :: r) = blockR most bound m (fs.drop (goneN fs n)) n size out ((c :: r).drop u) := by
  rw [blockR, he]
  simp only [ne_eq, not_true, if_false, if_pos hk, if_neg h, Int.toNat_natCast]
theorem blockR_line {most bound : Int} {m : Nat} {fs : List FldT} {lim : Int} {size : Nat} {out : List LnD} {c : UInt8} {r : List UInt8} {n u : Nat} (he : decL (c :: r) (bitsR c.toNat) = ((n : Int), (u : Int), 0)) (k : Nat) (hk : kindR c.toNat = k) (hk2 : k ≠ 2) (l : List UInt8) (hl : (c :: r).drop u = l) : blockR most bound (m + 1) fs lim size out (c :: r) = if (lineR fs k n l).1 ≠ 0 then ((lineR fs k n l).1, [], fsL fs lim k n l, lim)
      else if bound < (size : Int) + fz (lineR fs k n l).2.1 then (22, [], fsL fs lim k n l, lim)
      else blockR most bound m (fsL fs lim k n l) lim (size + fz (lineR fs k n l).2.1) (out ++ [((lineR fs k n l).2.1, decide (k = 3))]) (l.drop (lineR fs k n l).2.2) := by
  subst hk hl
  rw [blockR, he]
  simp only [ne_eq, not_true, if_false, if_neg hk2, Int.toNat_natCast]
theorem DecAt.only {S : Nat → Prop} {w w' : World} {base d p : Nat} {v : Value} {fs : List FldT} {lim most bound : Int} {dead : Bool} (h : DecAt w base d p v fs lim most bound dead) (ho : Only S w w') (hd : ¬ S d) (hp : ¬ S p) (hv : ∀ k, v.ownBlock = some k → ¬ S k) : DecAt w' base d p v fs lim most bound dead := ⟨h.blk.only ho hd, h.tab.only ho hp hv⟩
end Go.Proofs.YtapikjhfgcbifaaGreatDoor

/-
  Package decode: block.
-/
namespace Go.Proofs.YtapikjhfgcbifaaGreatDoor
set_option maxRecDepth 100000
set_option linter.unusedVariables false
set_option linter.unusedSimpArgs false
open Go.RowKit
def lenD (v : Value) : Nat := match v with
  | .slice _ n _ => n
  | _ => 0
/-- A decoder and its lines, in a block. -/
structure BkAt (w wr : World) (base d p : Nat) (v v' ov : Value) (fs : List FldT) (lim most bound : Int) (dead : Bool) (out : List LnD) : Prop where
  dec : DecAt wr base d p v' fs lim most bound dead
  own : Own wr w.heap.size 38 3 ov out.length (rowL out)
  only : DecOnly d p v w wr
  grow : ∀ k, v'.ownBlock = some k → v.ownBlock = some k ∨ w.heap.size ≤ k
  sep : ∀ k, v'.ownBlock = some k → ov.ownBlock ≠ some k
  hd : d < w.heap.size
  hp : p < w.heap.size
  dp : d ≠ p
  dv : ∀ k, v'.ownBlock = some k → k ≠ d
section
variable {w wr W : World} {base d p : Nat} {v v' ov : Value} {fs : List FldT} {lim most bound : Int} {dead : Bool} {out : List LnD}
theorem BkAt.fresh (h : BkAt w wr base d p v v' ov fs lim most bound dead out) (hf : Fresh wr W) : BkAt w W base d p v v' ov fs lim most bound dead out :=
  { h with dec := h.dec.fresh hf, own := h.own.fresh hf, only := Only.trans h.only (Only.of_fresh hf) }
theorem BkAt.tab (h : BkAt w wr base d p v v' ov fs lim most bound dead out) {v2 : Value} {gs : List FldT} {lm : Int} (h2 : DecAt W base d p v2 gs lm most bound dead) (hv : ∀ k, v2.ownBlock = some k → v'.ownBlock = some k ∨ wr.heap.size ≤ k) (ho : DecOnly d p v' wr W) : BkAt w W base d p v v2 ov gs lm most bound dead out := by
  have hsz : w.heap.size ≤ wr.heap.size := h.only.size
  have hlt : ∀ k, ov.ownBlock = some k → w.heap.size ≤ k ∧ k < wr.heap.size := fun k hk => ⟨(h.own.lt k hk).1, (h.own.lt k hk).2⟩
  refine ⟨h2, h.own.only ho ?_, Only.trans' h.only ho ?_, ?_, ?_, h.hd, h.hp, h.dp, ?_⟩
  · rintro k hk (e | e)
    · have := hlt k hk; have := h.hp; omega
    · exact h.sep k e hk
  · rintro k hk (e | e)
    · exact .inl e
    · rcases h.grow k e with e | e
      · exact .inr e
      · omega
  · intro k hk
    rcases hv k hk with e | e
    · exact h.grow k e
    · exact .inr (by omega)
  · intro k hk e2
    rcases hv k hk with e | e
    · exact h.sep k e e2
    · have := hlt k e2; omega
  · intro k hk
    rcases hv k hk with e | e
    · exact h.dv k e
    · have := h.hd; omega
theorem BkAt.push (h : BkAt w wr base d p v v' ov fs lim most bound dead out) {A' : Option Addr} {c' : Nat} {x : LnD} (h2 : Own W w.heap.size 38 3 (.slice A' (out.length + 1) c') (out ++ [x]).length (rowL (out ++ [x]))) (ho : Only (fun k => ov.ownBlock = some k) wr W) (hv : ∀ k, (Value.slice A' (out.length + 1) c').ownBlock = some k → ov.ownBlock = some k ∨ wr.heap.size < k) : BkAt w W base d p v v' (.slice A' (out.length + 1) c') fs lim most bound dead (out ++ [x]) := by
  have hsz : w.heap.size ≤ wr.heap.size := h.only.size
  have hlt : ∀ k, ov.ownBlock = some k → w.heap.size ≤ k := fun k hk => (h.own.lt k hk).1
  refine ⟨h.dec.only ho ?_ ?_ ?_, h2, Only.trans' h.only ho ?_, h.grow, ?_, h.hd, h.hp, h.dp, h.dv⟩
  · intro e; have := hlt _ e; have := h.hd; omega
  · intro e; have := hlt _ e; have := h.hp; omega
  · intro k hk e; exact h.sep k hk e
  · intro k hk e; have := hlt _ e; omega
  · intro k hk e
    rcases hv k e with e | e
    · exact h.sep k hk e
    · have := (h.dec.tab.ne k hk).2; omega
end
/-- What block does. -/
def BlockP (w : World) (base d p : Nat) (v : Value) (most bound : Int) (dead : Bool) (R : Nat × List LnD × List FldT × Int) (e : Ending) (W : World) : Prop :=
  (∃ v' A' c', R.1 = 0 ∧ e = .returned (.tuple #[.slice A' R.2.1.length c', .int .i64 0]) ∧ BkAt w W base d p v v' (.slice A' R.2.1.length c') R.2.2.1 R.2.2.2 most bound dead R.2.1) ∨
  (∃ v' ov out, R.1 ≠ 0 ∧ e = .returned (.tuple #[.slice none 0 0, .int .i64 (R.1 : Int)]) ∧ BkAt w W base d p v v' ov R.2.2.1 R.2.2.2 most bound dead out)
def NotIn (p : Nat) (v : Value) (A : Option Addr) (l : List UInt8) : Prop := 0 < l.length → ∀ b o, A = some ⟨b, o, none⟩ → ¬ (b = p ∨ v.ownBlock = some b)
theorem NotIn.cut {p : Nat} {v : Value} {A : Option Addr} {l : List UInt8} {w : World} (h : NotIn p v A l) (hb : BS w A l) (u c : Nat) (hc : l.length ≤ c) : NotIn p v (cutA A u c) (l.drop u) := fun hn b o e => by
  rw [List.length_drop] at hn
  obtain ⟨b', o', rfl, _, _⟩ := hb (by omega)
  rw [cutA_some _ _ _ _ (by omega)] at e
  injection e with e
  injection e with e1 e2
  subst e1
  exact h (by omega) _ _ rfl
theorem BS.only3 {w w' : World} {S : Nat → Prop} {A : Option Addr} {l : List UInt8} (h : BS w A l) (hf : Only S w w') (hs : 0 < l.length → ∀ b o, A = some ⟨b, o, none⟩ → ¬ S b) : BS w' A l := fun hn => by
  obtain ⟨b, o, e, hb, hc⟩ := h hn
  exact ⟨b, o, e, by have := hf.size; omega, fun j hj => (hf.cell (p := ⟨b, _, none⟩) hb (hs hn b o e)).trans (hc j hj)⟩
theorem bk_push {ol sz : Nat} {bound : Int} (h1 : ol * 32 ≤ sz) (h2 : (sz : Int) ≤ bound) (h3 : bound ≤ 16384) : (ol + 1) * 40 ≤ 140737488355328 := by omega
theorem bk_rest {a l2 us c2 n : Nat} (h : a = l2 - us) (h1 : l2 < n) (h2 : l2 ≤ c2) (h3 : c2 ≤ maxLen) (h4 : l2 ≤ 100000000) (h5 : us ≤ l2) : a < n ∧ a ≤ c2 - us ∧ c2 - us ≤ maxLen ∧ a ≤ 100000000 := ⟨by omega, by omega, by omega, by omega⟩
theorem bk_size {ol sz z : Nat} {bound : Int} (h1 : ol * 32 ≤ sz) (h2 : 32 ≤ z) (h3 : ¬ bound < (sz : Int) + (z : Int)) : (ol + 1) * 32 ≤ sz + z ∧ ((sz + z : Nat) : Int) ≤ bound ∧ ((sz + z : Nat) : Int) = (sz : Int) + (z : Int) := ⟨by omega, by omega, by omega⟩
theorem tz_gone_nat (gs : List FldT) (N : Nat) : (tz (gs.drop (goneN gs N)) : Int) ≤ (N : Int) := tz_goneD gs N (by omega)
theorem blockR_fuel (most bound : Int) : ∀ (a : Nat) (m : Nat) (fs : List FldT) (lim : Int) (size : Nat) (out : List LnD) (l : List UInt8), l.length ≤ a → l.length ≤ m → blockR most bound a fs lim size out l = blockR most bound m fs lim size out l
  | _, m, fs, lim, size, out, [], _, _ => by rw [blockR_nil, blockR_nil]
  | 0, m, fs, lim, size, out, c :: r, h, _ => by simp at h
  | a + 1, 0, fs, lim, size, out, c :: r, _, h => by simp at h
  | a + 1, m + 1, fs, lim, size, out, c :: r, h1, h2 => by
    rcases decL_casesB (bitsR c.toNat) (by have := bitsR_bd c.toNat; omega) (c :: r) with he | he | ⟨N, u, he, hu1, hu2, _⟩
    · rw [blockR_num (e := 22) he (by omega), blockR_num (e := 22) he (by omega)]
    · rw [blockR_num (e := 16) he (by omega), blockR_num (e := 16) he (by omega)]
    · simp only [List.length_cons] at h1 h2 hu2
      have hdl : ((c :: r).drop u).length ≤ r.length := by rw [List.length_drop, List.length_cons]; omega
      by_cases hk : kindR c.toNat = 2
      · by_cases hno : 0 < out.length ∨ most < (N : Int)
        · rw [blockR_lim_no he hk hno, blockR_lim_no he hk hno]
        · rw [blockR_lim he hk hno, blockR_lim he hk hno]
          exact blockR_fuel most bound a m _ _ _ _ _ (by omega) (by omega)
      · rw [blockR_line he _ rfl hk _ rfl, blockR_line he _ rfl hk _ rfl]
        split
        · rfl
        split
        · rfl
        · exact blockR_fuel most bound a m _ _ _ _ _ (by rw [List.length_drop]; omega) (by rw [List.length_drop]; omega)
theorem tz_fsL (fs : List FldT) (lim : Int) (k n : Nat) (l : List UInt8) (h0 : 0 ≤ lim) (h : (tz fs : Int) ≤ lim) : (tz (fsL fs lim k n l) : Int) ≤ lim := by
  unfold fsL
  split
  · exact tz_addD _ _ _ h0
  · exact h
set_option maxHeartbeats 12800000 in
theorem de_block (base d p : Nat) (v : Value) (fs : List FldT) (lim most bound : Int) (dead : Bool) (A : Option Addr) (c : Nat) (l : List UInt8) (w : World) (h : DecAt w base d p v fs lim most bound dead) (hbase : base ≤ w.heap.size) (h0 : 0 ≤ lim) (h1 : lim ≤ most) (hmx : most ≤ 65536) (htz : (tz fs : Int) ≤ lim) (hdp : d ≠ p) (hdv : ∀ k, v.ownBlock = some k → k ≠ d) (hb0 : 0 ≤ bound) (hb1 : bound ≤ 16384) (hl : l.length ≤ 100000000) (hlc : l.length ≤ c) (hcm : c ≤ maxLen) (hB : BS w A l) (hNI : NotIn p v A l) :
    Calls Tryz.prog 42 #[.pointer (some ⟨d, 0, none⟩), .slice A l.length c] w (BlockP w base d p v most bound dead (blockR most bound l.length fs lim 0 [] l)) := by
  have HBASE := Lib.hid hbase
  have HMX := Lib.hid hmx
  have HYES : Hid (∀ (W : World) (v' : Value) (A' : Option Addr) (c' : Nat) (out : List LnD) (gs : List FldT) (lm : Int), blockR most bound l.length fs lim 0 [] l = (0, out, gs, lm) → BkAt w W base d p v v' (.slice A' out.length c') gs lm most bound dead out → BlockP w base d p v most bound dead (blockR most bound l.length fs lim 0 [] l) (.returned (.tuple #[.slice A' out.length c', .int .i64 0])) W) := Lib.hid (fun W v' A' c' out gs lm hr hk => by
    rw [hr]
    exact .inl ⟨v', A', c', rfl, rfl, hk⟩)
  have HNO : Hid (∀ (W : World) (v' ov : Value) (er : Nat) (o2 out : List LnD) (gs : List FldT) (lm : Int), er ≠ 0 → blockR most bound l.length fs lim 0 [] l = (er, o2, gs, lm) → BkAt w W base d p v v' ov gs lm most bound dead out → BlockP w base d p v most bound dead (blockR most bound l.length fs lim 0 [] l) (.returned (.tuple #[.slice none 0 0, .int .i64 (er : Int)])) W) := Lib.hid (fun W v' ov er o2 out gs lm h0 hr hk => by
    rw [hr]
    exact .inr ⟨v', ov, out, h0, rfl, hk⟩)
  have HST : Hid (BkAt w w base d p v v (.slice none 0 0) fs lim most bound dead []) := Lib.hid ⟨h, Own.nil _ _ _ _, Only.of_fresh (Fresh.refl _), fun k hk => .inl hk, fun k hk e => (by cases e), h.blk.lt, h.tab.blk.lt, hdp, hdv⟩
  have HBS := Lib.hid hB
  have HNI := Lib.hid hNI
  obtain ⟨FR, hFR⟩ : ∃ FR, blockR most bound l.length fs lim 0 [] l = FR := ⟨_, rfl⟩
  have HFR := Lib.hid hFR
  rw [hFR] at HYES HNO ⊢
  generalize BlockP w base d p v most bound dead FR = BP at *
  have HL := Lib.hid hl
  have HLC := Lib.hid hlc
  have HCM := Lib.hid hcm
  have HLIM := Lib.hid (show 0 ≤ lim ∧ lim ≤ most ∧ (tz fs : Int) ≤ lim from ⟨h0, h1, htz⟩)
  clear h hB hNI hFR hl hlc hcm h0 h1 htz hbase hdv hmx
  go_enter Tryz.func42, Tryz.ntmps42
  go_wp2
  go_loopw [1, 6, 7] (fun bx ox sx wr => ∃ (A' : Option Addr) (r : List UInt8) (c' : Nat) (O' : Option Addr) (out : List LnD) (oc : Nat) (sz : Nat) (gs : List FldT) (lm : Int) (v' : Value), bx = .slice A' r.length c' ∧ ox = .slice O' out.length oc ∧ sx = .int .i64 (sz : Int) ∧ r.length ≤ 100000000 ∧ r.length ≤ c' ∧ c' ≤ maxLen ∧ BS w A' r ∧ NotIn p v A' r ∧ (sz : Int) ≤ bound ∧ out.length * 32 ≤ sz ∧ 0 ≤ lm ∧ lm ≤ most ∧ (tz gs : Int) ≤ lm ∧ FR = blockR most bound r.length gs lm sz out r ∧ BkAt w wr base d p v v' (.slice O' out.length oc) gs lm most bound dead out) (fun bx _ _ _ => lenD bx)
  case atStart => exact ⟨A, l, c, none, [], 0, 0, fs, lim, v, rfl, rfl, rfl, HL.out, HLC.out, HCM.out, HBS.out, HNI.out, hb0, by simp, HLIM.out.1, HLIM.out.2.1, HLIM.out.2.2, HFR.out.symm, HST.out⟩
  case round =>
    obtain ⟨A', r, c', O', out, oc, sz, gs, lm, v', rfl, rfl, rfl, hr1, hr2, hr3, hbs, hni, hsb, hos, hl0, hl1, hl2', hfr, hbk⟩ := hrel
    have HFQ := Lib.hid hfr
    have HBK := Lib.hid hbk
    have HBR := Lib.hid (hbs.only3 hbk.only hni)
    have HBW := Lib.hid hbs
    have HNI := Lib.hid hni
    clear hfr hbk hbs hni
    cases r with
    | nil =>
      simp only [List.length_nil] at hr1 hr2 ⊢
      have h00 : (([] : List UInt8).length : Int) = 0 := rfl
      have HF2 := HFQ.out
      rw [blockR_nil] at HF2
      have HFIN := Lib.hid (HYES.out _ v' O' oc out gs lm HF2 HBK.out)
      clear HF2
      go_wp2
      exact HFIN.out
    | cons x r =>
      obtain ⟨b, o, rfl, hbl, hcs⟩ := HBR.out.addr (by simp)
      have e0 := hcs 0 (by simp)
      simp only [List.getElem_cons_zero, Nat.add_zero] at e0
      obtain ⟨n, hn⟩ : ∃ n, (x :: r).length = n := ⟨_, rfl⟩
      have HN := Lib.hid hn
      have hnp : 0 < n := by rw [← hn]; simp
      have hgt : (0 : Int) < (n : Int) := by omega
      have h00 : (0 : Int) ≤ 0 := Int.le_refl _
      have hbd := bitsR_bd x.toNat
      have HW := Lib.hid (fun W => de_which x W)
      have HPX := Lib.hid (fun W (hf : Fresh wr W) => dec_any (some ⟨b, o, none⟩) c' (bitsR x.toNat) (x :: r) W (by omega) (by omega) (by omega) (HBR.out.fresh hf))
      have HCT : Hid (∀ u : Nat, u ≤ n → ∀ W, (Instr.slice 23 (.slice (some ⟨b, o, none⟩) n c') (some (.int .i64 (u : Int))) none none).run Tryz.prog W = .ok (.slice (cutA (some ⟨b, o, none⟩) u c') (n - u) (c' - u)) W) := Lib.hid (fun u hu => run_cut_from (P := Tryz.prog) Tryz.underlying23 u8_sizeL (some ⟨b, o, none⟩) n c' u hu)
      rw [hn] at hr1 hr2 HPX ⊢
      clear hcs hn
      have hdc := decL_casesB (bitsR x.toNat) (by omega) (x :: r)
      have hnum : ∀ e : Nat, e ≠ 0 → decL (x :: r) (bitsR x.toNat) = (0, 0, (e : Int)) → ∀ W, Fresh wr W → BP (.returned (.tuple #[.slice none 0 0, .int .i64 (e : Int)])) W := fun e he hd W hf => HNO.out W v' _ e [] out gs lm he (by
        have := HFQ.out
        rw [List.length_cons, blockR_num hd he] at this
        exact this) (HBK.out.fresh hf)
      have HNUM := Lib.hid hnum
      clear hnum
      have hxb := UInt8.toNat_lt x
      unfold byteV at e0
      by_cases hde : ∃ N u : Nat, decL (x :: r) (bitsR x.toNat) = ((N : Int), (u : Int), 0) ∧ 1 ≤ u ∧ u ≤ (x :: r).length ∧ N ≤ 2147483647
      · obtain ⟨N, u, hd, hu1, hu2, hN⟩ := hde
        rw [HN.out] at hu2
        rw [hd] at HPX
        unfold decV at HPX
        simp only at HPX
        obtain ⟨l2, hl2⟩ : ∃ l2, (x :: r).drop u = l2 := ⟨_, rfl⟩
        have hlen2 : l2.length = n - u := by rw [← hl2, List.length_drop, HN.out]
        have hcu := HCT.out u hu2
        have HB2W : Hid (BS w (cutA (some ⟨b, o, none⟩) u c') l2) := Lib.hid (by rw [← hl2]; exact HBW.out.cut u c' (by rw [HN.out]; exact hr2))
        have HNI2 : Hid (NotIn p v (cutA (some ⟨b, o, none⟩) u c') l2) := Lib.hid (by rw [← hl2]; exact HNI.out.cut HBW.out u c' (by rw [HN.out]; exact hr2))
        have hc2a : l2.length ≤ c' - u := by omega
        have hc2b : c' - u ≤ maxLen := by omega
        have hln2 : l2.length ≤ 100000000 := by omega
        rw [← hlen2] at hcu
        generalize cutA (some ⟨b, o, none⟩) u c' = A2 at *
        generalize c' - u = c2 at *
        have HLT : Hid (l2.length < n) := Lib.hid (by omega)
        obtain ⟨kd, hkd⟩ : ∃ kd, kindR x.toNat = kd := ⟨_, rfl⟩
        rw [hkd] at HW
        clear HCT HNUM hdc hlen2
        by_cases hk2 : kd = 2
        · rw [hk2] at hkd HW
          rw [show ((2 : Nat) : Int) = 2 from rfl] at HW
          by_cases hno : 0 < out.length ∨ most < (N : Int)
          · have HRZ := Lib.hid (fun W (hf : Fresh wr W) => de_resize_no d N out.length _ most W (HBK.out.dec.blk.fresh hf) rfl hno.symm.symm)
            have hf2 := HFQ.out
            rw [List.length_cons, blockR_lim_no hd hkd hno] at hf2
            have HFIN := Lib.hid (fun W (hf : Fresh wr W) => HNO.out W v' _ 24 [] out gs lm (by omega) hf2 (HBK.out.fresh hf))
            rw [show ((24 : Nat) : Int) = 24 from rfl] at HFIN
            clear hf2 hd hkd hno hl2
            generalize bitsR x.toNat = bt at *
            generalize x.toNat = xn at *
            go_wp2_with fail
            with_reducible refine (HW.out _).mono ?_
            rintro e5 w5 ⟨rfl, rfl⟩
            go_wp2_with fail
            with_reducible refine (HPX.out _ (Fresh.refl _)).mono ?_
            rintro e5 w5 ⟨rfl, hf5⟩
            have HF5 := Lib.hid hf5
            clear hf5
            go_wp2_with fail
            with_reducible refine (HRZ.out _ HF5.out).mono ?_
            rintro e6 w6 ⟨rfl, hf6⟩
            have HFIN2 := Lib.hid (HFIN.out _ (HF5.out.trans hf6))
            clear hf6
            go_wp2
            exact HFIN2.out
          · have hol : out.length = 0 := by omega
            have hNm : (N : Int) ≤ most := by omega
            have htz : tz gs ≤ 4503599627370496 := by have := HMX.out; omega
            have HRZ : Hid (∀ W, Fresh wr W → Calls Tryz.prog 62 #[.pointer (some ⟨d, 0, none⟩), .int .i64 (N : Int), .int .i64 (out.length : Int)] W fun e w' => e = .returned (.int .i64 0) ∧ ∃ v2, DecAt w' base d p v2 (gs.drop (goneN gs N)) N most bound dead ∧ v2.ownBlock = v'.ownBlock ∧ Only (fun k => k = p ∨ v'.ownBlock = some k) W w') := Lib.hid (fun W hf => by
              rw [hol]
              exact de_resize base d p v' gs lm most bound dead N W (HBK.out.dec.fresh hf) htz hNm HMX.out hdp HBK.out.dv)
            have hf2 := HFQ.out
            rw [List.length_cons, blockR_lim hd hkd hno, hl2] at hf2
            have hrl : r.length = l2.length + (u - 1) := by
              have h1 := congrArg List.length hl2
              have h2 := HN.out
              simp at h1 h2
              omega
            have HGO : Hid (FR = blockR most bound l2.length (gs.drop (goneN gs N)) N sz out l2) := Lib.hid (by rw [hf2]; exact blockR_fuel _ _ r.length l2.length _ _ _ _ _ (by omega) (Nat.le_refl _))
            have HZ : Hid ((tz (gs.drop (goneN gs N)) : Int) ≤ (N : Int)) := Lib.hid (tz_gone_nat gs N)
            clear hf2 hd hkd hno hl2 hol hrl htz
            generalize bitsR x.toNat = bt at *
            generalize x.toNat = xn at *
            go_wp2_with fail
            with_reducible refine (HW.out _).mono ?_
            rintro e5 w5 ⟨rfl, rfl⟩
            go_wp2_with fail
            with_reducible refine (HPX.out _ (Fresh.refl _)).mono ?_
            rintro e5 w5 ⟨rfl, hf5⟩
            have HF5 := Lib.hid hf5
            clear hf5
            go_wp2_with fail
            with_reducible refine (HRZ.out _ HF5.out).mono ?_
            rintro e6 w6 ⟨rfl, v2, hd2, hv2, ho2⟩
            have HK2 := Lib.hid ((HBK.out.fresh HF5.out).tab hd2 (fun k hk => .inl (by rw [← hv2]; exact hk)) ho2)
            clear hd2 hv2 ho2
            go_wp2
            exact ⟨⟨A2, l2, c2, O', out, oc, sz, gs.drop (goneN gs N), N, v2, rfl, rfl, rfl, hln2, hc2a, hc2b, HB2W.out, HNI2.out, hsb, hos, by omega, hNm, HZ.out, HGO.out, HK2.out⟩, by simp only [lenD]; exact HLT.out⟩
        · have hf2 := HFQ.out
          rw [List.length_cons, blockR_line hd kd hkd hk2 l2 hl2] at hf2
          have hrl : r.length = l2.length + (u - 1) := by
            have h1 := congrArg List.length hl2
            have h2 := HN.out
            simp at h1 h2
            omega
          have hus := lineR_used gs kd N l2
          have htz5 : tz gs ≤ 65536 := by have := HMX.out; omega
          have hfz := lineR_fz gs kd N l2 htz5
          have hzG := tz_fsL gs lm kd N l2 hl0 hl2'
          have HLN : Hid (∀ W, Fresh wr W → Calls Tryz.prog 63 #[.pointer (some ⟨d, 0, none⟩), .int .i64 (kd : Int), .int .i64 (N : Int), .slice A2 l2.length c2] W (LineP W base d p v' gs lm most bound dead kd N l2)) := Lib.hid (fun W hf => de_line base d p v' gs lm most bound dead kd N A2 c2 l2 W (HBK.out.dec.fresh hf) hk2 (by omega) (by have := HBASE.out; have := HBK.out.only.size; have := hf.size; omega) hl0 (by have := HMX.out; omega) (by have := tz_lenD gs; omega) hdp HBK.out.dv hN hln2 hc2a hc2b (HB2W.out.only3 ((HBK.out.fresh hf).only) HNI2.out))
          have HCU2 := Lib.hid (fun (us : Nat) (hu : us ≤ l2.length) => run_cut_from (P := Tryz.prog) Tryz.underlying23 u8_sizeL A2 l2.length c2 us hu)
          unfold LineP at HLN
          generalize fsL gs lm kd N l2 = G at *
          obtain ⟨R, hR⟩ : ∃ R, lineR gs kd N l2 = R := ⟨_, rfl⟩
          rw [hR] at hf2 hus hfz HLN
          obtain ⟨er, f, us⟩ := R
          unfold lineE at HLN
          simp only at hf2 hus hfz HLN
          have HFQ2 := Lib.hid hf2
          clear hf2 hR hd hkd hl2
          by_cases her : er ≠ 0
          · have hf3 := HFQ2.out
            rw [if_pos her] at hf3
            have HFIN := Lib.hid (fun W (v2 : Value) h => HNO.out W v2 (.slice O' out.length oc) er [] out G lm her hf3 h)
            have h0d : ((er : Int) != 0) = true := by simp; omega
            have h0i : ¬ (er : Int) = 0 := by omega
            have k2i : ¬ (kd : Int) = 2 := by omega
            generalize decide (kd = 3 ∧ er = 0) = nv at *
            clear hf3 HFQ2 HCU2
            generalize bitsR x.toNat = bt at *
            generalize x.toNat = xn at *
            go_wp2_with fail
            with_reducible refine (HW.out _).mono ?_
            rintro e5 w5 ⟨rfl, rfl⟩
            go_wp2_with fail
            with_reducible refine (HPX.out _ (Fresh.refl _)).mono ?_
            rintro e5 w5 ⟨rfl, hf5⟩
            have HF5 := Lib.hid hf5
            clear hf5
            go_wp2_with fail
            with_reducible refine (HLN.out _ HF5.out).mono ?_
            rintro e6 w6 ⟨rfl, v2, hd2, hv2, ho2⟩
            have HFIN2 := Lib.hid (HFIN.out _ v2 ((((HBK.out.fresh HF5.out).tab hd2 hv2 ho2)).fresh (Fresh.alloc w6 (.cells #[.string f.1, .string f.2, .bool nv] 38))))
            clear hd2 hv2 ho2
            go_wp2
            exact HFIN2.out
          · have her0 : er = 0 := by omega
            subst her0
            have hnv : decide (kd = 3 ∧ 0 = 0) = decide (kd = 3) := by simp
            rw [hnv] at HLN
            have hf3 := HFQ2.out
            rw [if_neg her] at hf3
            have HFQ3 := Lib.hid hf3
            clear hf3 HFQ2 her hnv
            generalize decide (kd = 3) = nv at *
            have k2i : ¬ (kd : Int) = 2 := by omega
            have hct2 := HCU2.out us hus
            have hwz : IntKind.i64.wrap ((sz : Int) + (fz f : Int)) = (sz : Int) + (fz f : Int) := IntWalk.i64_in _ (by omega)
            have hwz64 : wrap64 ((sz : Int) + (fz f : Int)) = (sz : Int) + (fz f : Int) := (wrap_eq64 _).symm.trans hwz
            have HSZ := Lib.hid (fun W => dy_size f W (by omega))
            have hf1s : 32 ≤ fz f := by unfold fz; omega
            rw [show ((0 : Nat) : Int) = 0 from rfl] at HLN
            generalize bitsR x.toNat = bt at *
            generalize x.toNat = xn at *
            go_wp2_with fail
            with_reducible refine (HW.out _).mono ?_
            rintro e5 w5 ⟨rfl, rfl⟩
            go_wp2_with fail
            with_reducible refine (HPX.out _ (Fresh.refl _)).mono ?_
            rintro e5 w5 ⟨rfl, hf5⟩
            have HF5 := Lib.hid hf5
            clear hf5
            go_wp2_with fail
            with_reducible refine (HLN.out _ HF5.out).mono ?_
            rintro e6 w6 ⟨rfl, v2, hd2, hv2, ho2⟩
            have HK2 := Lib.hid ((HBK.out.fresh HF5.out).tab hd2 hv2 ho2)
            clear hd2 hv2 ho2
            go_upto_region 14 with fail
            refine wp_gen (fun W => BkAt w W base d p v v2 (.slice O' out.length oc) G lm most bound dead out ∧ Blk W w6.heap.size 38 #[.string f.1, .string f.2, .bool nv]) ⟨HK2.out.fresh (Fresh.alloc _ _), Blk.new w6 _ _⟩ ?_
            rintro W1 ⟨hk3, hb3⟩
            have HK3 := Lib.hid hk3
            have HB3 := Lib.hid hb3
            obtain ⟨y0, y1, y2⟩ := hb3.c3
            clear hk3 hb3 HK2
            generalize w6.heap.size = g6 at *
            obtain ⟨f1, f2⟩ := f
            simp only at *
            go_wp2_with fail
            with_reducible refine (HSZ.out _).mono ?_
            rintro e7 w7 ⟨rfl, hf7⟩
            have HK7 := Lib.hid (HK3.out.fresh hf7)
            obtain ⟨x0, x1, x2⟩ := (HB3.out.fresh hf7).c3
            obtain ⟨q0, q1, q2, q3⟩ := HK7.out.dec.blk.c4
            clear hf7 y0 y1 y2
            generalize fz (f1, f2) = fzz at *
            by_cases hbg : bound < (sz : Int) + (fzz : Int)
            · have hf3 := HFQ3.out
              rw [if_pos hbg] at hf3
              have HFIN := Lib.hid (HNO.out w7 v2 (.slice O' out.length oc) 22 [] out G lm (by omega) hf3 HK7.out)
              rw [show ((22 : Nat) : Int) = 22 from rfl] at HFIN
              clear hf3
              have hbgd : decide (bound < (sz : Int) + (fzz : Int)) = true := decide_eq_true hbg
              go_wp2
              exact HFIN.out
            · have hf3 := HFQ3.out
              rw [if_neg hbg] at hf3
              have hbgd : decide (bound < (sz : Int) + (fzz : Int)) = false := decide_eq_false hbg
              have hld : (l2.drop us).length = l2.length - us := List.length_drop ..
              have HRS := Lib.hid (bk_rest hld HLT.out hc2a hc2b hln2 hus)
              have HSS := Lib.hid (bk_size hos hf1s hbg)
              have HGO : Hid (FR = blockR most bound (l2.drop us).length G lm (sz + fzz) (out ++ [((f1, f2), nv)]) (l2.drop us)) := Lib.hid (hf3.trans (blockR_fuel _ _ r.length _ _ _ _ _ _ (by have := HRS.out.1; omega) (Nat.le_refl _)))
              obtain ⟨A7, c7, w8, hap, hO7, hF7, hat7⟩ := ln_push (w := w7) HK7.out.own HK7.out.only.size ((f1, f2), nv) (bk_push hos hsb hb1) w7.heap.size rfl
              have HK8 := Lib.hid (HK7.out.push hO7 hF7 hat7)
              have HB3W : Hid (BS w (cutA A2 us c2) (l2.drop us)) := Lib.hid (HB2W.out.cut us c2 hc2a)
              have HNI3 : Hid (NotIn p v (cutA A2 us c2) (l2.drop us)) := Lib.hid (HNI2.out.cut HB2W.out us c2 hc2a)
              have HLD := Lib.hid hld
              have HLO : Hid ((out ++ [((f1, f2), nv)]).length = out.length + 1) := Lib.hid (by simp)
              clear hf3 hO7 hF7 hat7 hld HFQ3 HSZ
              generalize l2.drop us = l3 at *
              go_wp2_with (at_builtin; with_reducible refine wp_app rfl _ _ _ rfl hap rfl rfl rfl ?_)
              exact ⟨⟨cutA A2 us c2, l3, c2 - us, A7, out ++ [((f1, f2), nv)], c7, sz + fzz, G, lm, v2, by rw [HLD.out], by rw [HLO.out], by rw [HSS.out.2.2], HRS.out.2.2.2, HRS.out.2.1, HRS.out.2.2.1, HB3W.out, HNI3.out, HSS.out.2.1, by rw [HLO.out]; exact HSS.out.1, hl0, hl1, hzG, HGO.out, by rw [HLO.out]; exact HK8.out⟩, by simp only [lenD]; rw [← HLD.out]; exact HRS.out.1⟩
      · obtain ⟨e, he, hd⟩ : ∃ e : Nat, e ≠ 0 ∧ decL (x :: r) (bitsR x.toNat) = (0, 0, (e : Int)) := by
          rcases hdc with h | h | h
          · exact ⟨22, by omega, h⟩
          · exact ⟨16, by omega, h⟩
          · exact absurd h hde
        have HFIN := Lib.hid (HNUM.out e he hd)
        rw [hd] at HPX
        unfold decV at HPX
        have h0d : ((e : Int) != 0) = true := by simp; omega
        have h0i : ¬ (e : Int) = 0 := by omega
        clear hde hdc hd HNUM HCT
        generalize bitsR x.toNat = bt at *
        generalize kindR x.toNat = kd at *
        generalize x.toNat = xn at *
        go_wp2_with fail
        with_reducible refine (HW.out _).mono ?_
        rintro e5 w5 ⟨rfl, rfl⟩
        go_wp2_with fail
        with_reducible refine (HPX.out _ (Fresh.refl _)).mono ?_
        rintro e5 w5 ⟨rfl, hf5⟩
        have HFIN2 := Lib.hid (HFIN.out _ hf5)
        clear hf5
        go_wp2
        exact HFIN2.out
end Go.Proofs.YtapikjhfgcbifaaGreatDoor

/-
  Package decode: Decode.
-/
namespace Go.Proofs.YtapikjhfgcbifaaGreatDoor
set_option maxRecDepth 100000
set_option linter.unusedVariables false
set_option linter.unusedSimpArgs false
open Go.RowKit
theorem de_decode_dead (base d p : Nat) (v : Value) (fs : List FldT) (lim most bound : Int) (A : Option Addr) (n c : Nat) (w : World) (h : DecAt w base d p v fs lim most bound true) :
    Calls Tryz.prog 20 #[.pointer (some ⟨d, 0, none⟩), .slice A n c] w fun e w' => e = .returned (.tuple #[.slice none 0 0, .int .i64 25]) ∧ w = w' := by
  obtain ⟨c0, c1, c2, c3⟩ := h.blk.c4
  clear h
  go_enter Tryz.func20, Tryz.ntmps20
  go_wp2
  go_ret2
  exact ⟨rfl, rfl⟩
theorem BkAt.die {w wr : World} {base d p : Nat} {v v' ov : Value} {fs : List FldT} {lim most bound : Int} {out : List LnD} (h : BkAt w wr base d p v v' ov fs lim most bound false out) : DecAt (wr.setCell ⟨d, 3, none⟩ (.bool true)) base d p v' fs lim most bound true ∧ Only (fun k => k = d ∨ k = p ∨ v.ownBlock = some k) w (wr.setCell ⟨d, 3, none⟩ (.bool true)) := by
  have ho : Only (· = d) wr (wr.setCell ⟨d, 3, none⟩ (.bool true)) := (Only.of_fresh (Fresh.refl _)).step _ _ (.inl rfl)
  refine ⟨⟨h.dec.blk.set 3 _, h.dec.tab.only ho (fun e => h.dp e.symm) h.dv⟩, Only.trans' (Only.trans' (Only.of_fresh (Fresh.refl w)) h.only (fun i _ e => .inr e)) ho (fun i _ e => .inl e)⟩
/-- What Decode does with a decoder that isn't dead. -/
def DecodeP (w : World) (base d p : Nat) (v : Value) (most bound : Int) (R : Nat × List LnD × List FldT × Int) (e : Ending) (W : World) : Prop :=
  (∃ v' A' c', R.1 = 0 ∧ e = .returned (.tuple #[.slice A' R.2.1.length c', .int .i64 0]) ∧ BkAt w W base d p v v' (.slice A' R.2.1.length c') R.2.2.1 R.2.2.2 most bound false R.2.1) ∨
  (∃ v', R.1 ≠ 0 ∧ e = .returned (.tuple #[.slice none 0 0, .int .i64 (R.1 : Int)]) ∧ DecAt W base d p v' R.2.2.1 R.2.2.2 most bound true ∧ (∀ k, v'.ownBlock = some k → v.ownBlock = some k ∨ w.heap.size ≤ k) ∧ (∀ k, v'.ownBlock = some k → k ≠ d) ∧ Only (fun k => k = d ∨ k = p ∨ v.ownBlock = some k) w W)
set_option maxHeartbeats 1600000 in
theorem de_decode (base d p : Nat) (v : Value) (fs : List FldT) (lim most bound : Int) (A : Option Addr) (c : Nat) (l : List UInt8) (w : World) (h : DecAt w base d p v fs lim most bound false) (hbase : base ≤ w.heap.size) (h0 : 0 ≤ lim) (h1 : lim ≤ most) (hmx : most ≤ 65536) (htz : (tz fs : Int) ≤ lim) (hdp : d ≠ p) (hdv : ∀ k, v.ownBlock = some k → k ≠ d) (hb0 : 0 ≤ bound) (hb1 : bound ≤ 16384) (hl : l.length ≤ 100000000) (hlc : l.length ≤ c) (hcm : c ≤ maxLen) (hB : BS w A l) (hNI : NotIn p v A l) :
    Calls Tryz.prog 20 #[.pointer (some ⟨d, 0, none⟩), .slice A l.length c] w (DecodeP w base d p v most bound (blockR most bound l.length fs lim 0 [] l)) := by
  have HBLK := Lib.hid (de_block base d p v fs lim most bound false A c l w h hbase h0 h1 hmx htz hdp hdv hb0 hb1 hl hlc hcm hB hNI)
  obtain ⟨c0, c1, c2, c3⟩ := h.blk.c4
  obtain ⟨R, hR⟩ : ∃ R, blockR most bound l.length fs lim 0 [] l = R := ⟨_, rfl⟩
  rw [hR] at HBLK ⊢
  clear hR h hB hNI htz h0 h1 hmx hbase hdv hl hlc hcm hb0 hb1 hdp
  obtain ⟨er, out, gs, lm⟩ := R
  by_cases her : er = 0
  · subst her
    have HB2 : Hid (Calls Tryz.prog 42 #[.pointer (some ⟨d, 0, none⟩), .slice A l.length c] w fun e W => ∃ v' A' c', e = .returned (.tuple #[.slice A' out.length c', .int .i64 0]) ∧ BkAt w W base d p v v' (.slice A' out.length c') gs lm most bound false out) := Lib.hid (HBLK.out.mono (fun e W hh => by
      rcases hh with ⟨v', A', c', _, e1, e2⟩ | ⟨_, _, _, e1, _⟩
      · exact ⟨v', A', c', e1, e2⟩
      · exact absurd rfl e1))
    clear HBLK
    go_enter Tryz.func20, Tryz.ntmps20
    go_wp2_with fail
    with_reducible refine HB2.out.mono ?_
    rintro e w1 ⟨v', A', c', rfl, hk⟩
    have HK := Lib.hid hk
    clear hk c0 c1 c2 c3
    go_wp2
    go_ret2
    exact .inl ⟨v', A', c', rfl, rfl, HK.out⟩
  · have HB2 : Hid (Calls Tryz.prog 42 #[.pointer (some ⟨d, 0, none⟩), .slice A l.length c] w fun e W => ∃ v' ov o2, e = .returned (.tuple #[.slice none 0 0, .int .i64 (er : Int)]) ∧ BkAt w W base d p v v' ov gs lm most bound false o2) := Lib.hid (HBLK.out.mono (fun e W hh => by
      rcases hh with ⟨v', A', c', e0, e1, e2⟩ | ⟨v', ov, o2, _, e1, e2⟩
      · exact absurd e0 her
      · exact ⟨v', ov, o2, e1, e2⟩))
    clear HBLK
    have h0d : ((er : Int) != 0) = true := by simp; omega
    have h0i : ¬ (er : Int) = 0 := by omega
    go_enter Tryz.func20, Tryz.ntmps20
    go_wp2_with fail
    with_reducible refine HB2.out.mono ?_
    rintro e w1 ⟨v', ov, o2, rfl, hk⟩
    have HK := Lib.hid hk
    obtain ⟨d0, d1, d2, d3⟩ := hk.dec.blk.c4
    have z3 := hk.dec.blk.frozen 3
    clear hk c0 c1 c2 c3
    go_wp2
    go_ret2
    exact .inr ⟨v', her, rfl, HK.out.die.1, HK.out.grow, HK.out.dv, HK.out.die.2⟩
end Go.Proofs.YtapikjhfgcbifaaGreatDoor

/-
  Package dyn: Clone of a row, Copy of a table.
-/
namespace Go.Proofs.YtapikjhfgcbifaaGreatDoor
set_option linter.unusedVariables false
set_option linter.unusedSimpArgs false
open Go.RowKit
theorem fld_slice_nil (w : World) (a : Option Addr) (n c : Nat) : (binOp .eql 22 (.slice a n c) (.slice none 0 0)).run Tryz.prog w = .ok (.bool a.isNone) w := Lib.run_eql_slice_nil w _ _ a n c 0 0 Tryz.underlying22
def DynClnP (base : Nat) (fs : List FldT) (w : World) (e : Ending) (w' : World) : Prop := ∃ v', e = .returned v' ∧ Own w' w.heap.size 29 2 v' fs.length (rowD fs) ∧ Fresh w w' ∧ ∀ k, v'.ownBlock = some k → w.heap.size ≤ k
def CpyP (base p : Nat) (fs : List FldT) (lim : Int) (w : World) (e : Ending) (w' : World) : Prop := ∃ p' v', e = .returned (.pointer (some ⟨p', 0, none⟩)) ∧ TabAt w' w.heap.size p' v' fs lim ∧ Fresh w w' ∧ w.heap.size ≤ p' ∧ ∀ k, v'.ownBlock = some k → w.heap.size ≤ k
end Go.Proofs.YtapikjhfgcbifaaGreatDoor

