/-
  Package reg: Get, Fail.
-/
import Derived.Test.YtjediikcfhdgiaaDoorRegC
namespace Go.Proofs.YtjediikcfhdgiaaDoor
set_option maxRecDepth 100000
set_option linter.unusedVariables false
set_option linter.unusedSimpArgs false
open Go.RowKit Go.Maps
open Go.ChangeMaps (setBlock heap_setBlock_same heap_setBlock_other)
def EntP (v : Value) (w : World) (e : Ending) (w' : World) : Prop := e = .returned v ∧ Fresh w w'
set_option maxHeartbeats 3200000 in
theorem rg_entry {w : World} {base g mb lb n : Nat} {q last : Int} {N : Nat} {K : Int} {X : List StD} (h : RegX w base g mb lb n q last N K X) (hn1 : 1 ≤ n) (hn2 : n ≤ 64) (s : StD) (hf : X.find? (fun t => decide (t.id = s.id)) = some s) :
    Calls Tryd.prog 28 #[.pointer (some ⟨g, 0, none⟩), .int .i64 s.id] w (EntP (entV n s) w) := by
  have hs := (find_mem hf).1
  obtain ⟨t, hid, ht0, ht1, _⟩ := h.ids s hs
  have hten := ten_lt (n := n) t hn1
  have hown : ownI n s.id = tenI n t := by rw [hid, own_ten]
  have HO := Lib.hid (fun W hc => rg_owner g n t (tenI n t : Int) W ht0 ht1 hn1 hn2 hten.2 hc)
  have HAT := Lib.hid (fun W (hr : RunAt W s.p s.a s.cs) => run_at s.p s.a s.cs W hr)
  obtain ⟨hrun, _⟩ := h.runs s hs
  have HSK0 : Hid (∀ W, Fresh w W → W.cell? ⟨g, 0, none⟩ = some (.int .i64 (n : Int)) ∧ W.cell? ⟨g, 3, none⟩ = some (.map (some mb)) ∧ (Instr.lookup 64 (.map (some mb)) (.int .i64 s.id) false).run Tryd.prog W = .ok (.pointer (some ⟨s.p, 0, none⟩)) W ∧ RunAt W s.p s.a s.cs) := Lib.hid (fun W hw => by
    have hr := (h.fresh hw).reg
    have hl := look_X hr.map s.id (by omega)
    rw [hf] at hl
    exact ⟨hr.blk.k0, hr.blk.k3, hl, hrun.fresh hw⟩)
  have HFIN : Hid (∀ W, Fresh w W → EntP (entV n s) w (.returned (.agg #[.int .i64 s.id, .int .i64 (tenI n t : Int), .int .i64 s.a])) W) := Lib.hid (fun W hw => ⟨by unfold entV; rw [hown], hw⟩)
  clear h hf hs hten hown hrun ht0 ht1
  generalize hPP : EntP (entV n s) w = PP at *
  clear hPP
  generalize (tenI n t : Int) = o at *
  obtain ⟨id, p, a, cs⟩ := s
  simp only at hid HO HAT HSK0 HFIN ⊢
  have HIDD := Lib.hid hid
  rw [← hid] at HO
  clear hid
  go_enter Tryd.func28, Tryd.ntmps28
  go_upto_region 1 with fail
  obtain ⟨d0, hd0⟩ : ∃ d0, w.heap.size = d0 := ⟨_, rfl⟩
  rw [hd0]
  refine wp_gen (fun W => Fresh w W ∧ Blk W d0 41 #[.int .i64 0, .int .i64 0, .int .i64 0]) ⟨Fresh.alloc _ _, Blk.mkAt hd0⟩ ?_
  rintro W1 ⟨hf1, hb2⟩
  have HSK : Hid (∀ W, Fresh W1 W → (W.cell? ⟨g, 0, none⟩ = some (.int .i64 (n : Int)) ∧ W.cell? ⟨g, 3, none⟩ = some (.map (some mb)) ∧ (Instr.lookup 64 (.map (some mb)) (.int .i64 id) false).run Tryd.prog W = .ok (.pointer (some ⟨p, 0, none⟩)) W ∧ RunAt W p a cs) ∧ (W.cell? ⟨d0, 0, none⟩ = some (.int .i64 0) ∧ W.cell? ⟨d0, 1, none⟩ = some (.int .i64 0) ∧ W.cell? ⟨d0, 2, none⟩ = some (.int .i64 0) ∧ W.frozen? ⟨d0, 0, none⟩ = false ∧ W.frozen? ⟨d0, 1, none⟩ = false ∧ W.frozen? ⟨d0, 2, none⟩ = false) ∧ Fresh W1 W) := Lib.hid (fun W hf => ⟨HSK0.out W (hf1.trans hf), ⟨(hb2.fresh hf).cell 0, (hb2.fresh hf).cell 1, (hb2.fresh hf).cell 2, (hb2.fresh hf).frozen 0, (hb2.fresh hf).frozen 1, (hb2.fresh hf).frozen 2⟩, hf⟩)
  have HEND : Hid (∀ W, Fresh W1 W → Blk ((((W.setCell ⟨d0, 0, none⟩ (.int .i64 id)).setCell ⟨d0, 1, none⟩ (.int .i64 o)).setCell ⟨d0, 2, none⟩ (.int .i64 a))) d0 41 #[.int .i64 id, .int .i64 o, .int .i64 a] ∧ Fresh w ((((W.setCell ⟨d0, 0, none⟩ (.int .i64 id)).setCell ⟨d0, 1, none⟩ (.int .i64 o)).setCell ⟨d0, 2, none⟩ (.int .i64 a)))) := Lib.hid (fun W hf => by
    have h0 : Only (fun q => q = d0) W W := Only.refl _ _
    have h1 := Only.step2 (S := fun q => q = d0) (p := ⟨d0, 0, none⟩) (v := .int .i64 id) (.inl rfl) h0
    have h2 := Only.step2 (S := fun q => q = d0) (p := ⟨d0, 1, none⟩) (v := .int .i64 o) (.inl rfl) h1
    have h3 := Only.step2 (S := fun q => q = d0) (p := ⟨d0, 2, none⟩) (v := .int .i64 a) (.inl rfl) h2
    have hfw := hf1.trans hf
    exact ⟨by simpa using ((((hb2.fresh hf).set 0 (.int .i64 id)).set 1 (.int .i64 o)).set 2 (.int .i64 a)), Below.trans hfw (Only.below h3 hfw.size (fun q e => by omega))⟩)
  clear hf1 hb2 hd0 HSK0
  obtain ⟨⟨k0, k1, k2, _⟩, ⟨n0, n1, n2, n3, n4, n5⟩, _⟩ := HSK.out _ (Fresh.drew W1)
  obtain ⟨⟨q0, q1, q2, _⟩, ⟨p0, p1, p2, p3, p4, p5⟩, _⟩ := HSK.out _ (Fresh.refl W1)
  go_region_law (go_simp; first
    | (go_at_call 31; (with_reducible refine (HO.out _ (HSK.out _ (Fresh.drew _)).1.1).mono ?_); rintro e wa ⟨rfl, hwa⟩; obtain rfl : W1.drew = wa := hwa.symm)
    | (go_at_call 34; (with_reducible refine (HAT.out _ (HSK.out _ (Fresh.drew _)).1.2.2.2).mono ?_); rintro e wa ⟨rfl, hwa⟩; obtain rfl : W1.drew = wa := hwa))
  all_goals
    refine wx_gen (fun W => Blk W d0 41 #[.int .i64 id, .int .i64 o, .int .i64 a] ∧ Fresh w W) (HEND.out _ (Fresh.drew W1)) ?_
    rintro WE ⟨hbE, hfE⟩
    have u0 := hbE.cell 0
    have u1 := hbE.cell 1
    have u2 := hbE.cell 2
    simp at u0 u1 u2
    have HX := Lib.hid (HFIN.out _ hfE)
    clear hbE hfE
    go_wp2_with fail
    exact bodyPost_ret (v := .agg #[.int .i64 id, .int .i64 o, .int .i64 a]) (by simp [results, Tryd.results28, go_sem, u0, u1, u2]) rfl HX.out
def GetP (n : Nat) (X : List StD) (id : Int) (w : World) (e : Ending) (w' : World) : Prop :=
  e = .returned (.tuple (match X.find? (fun t => decide (t.id = id)) with
    | some s => #[entV n s, .int .i64 0]
    | none => #[.agg #[.int .i64 0, .int .i64 0, .int .i64 0], .int .i64 14])) ∧ Fresh w w'
set_option maxHeartbeats 3200000 in
theorem rg_get {w : World} {base g mb lb n : Nat} {q last : Int} {N : Nat} {K : Int} {X : List StD} (h : RegX w base g mb lb n q last N K X) (hn1 : 1 ≤ n) (hn2 : n ≤ 64) (id : Int) (hid : -9223372036854775808 ≤ id ∧ id ≤ 9223372036854775807) :
    Calls Tryd.prog 13 #[.pointer (some ⟨g, 0, none⟩), .int .i64 id] w (GetP n X id w) := by
  have HL : Hid (∀ W, Fresh w W → W.cell? ⟨g, 3, none⟩ = some (.map (some mb)) ∧ (Instr.lookup 64 (.map (some mb)) (.int .i64 id) false).run Tryd.prog W = .ok (match X.find? (fun s => decide (s.id = id)) with
      | some s => .pointer (some ⟨s.p, 0, none⟩)
      | none => .pointer none) W) := Lib.hid (fun W hw => by
    have hr := (h.fresh hw).reg
    exact ⟨hr.blk.k3, look_X hr.map id hid⟩)
  have HEN := Lib.hid (fun W (hw : Fresh w W) (s : StD) (hf : X.find? (fun t => decide (t.id = s.id)) = some s) => rg_entry (h.fresh hw) hn1 hn2 s hf)
  have HFIN : Hid (∀ W v, v = (match X.find? (fun t => decide (t.id = id)) with
    | some s => #[entV n s, .int .i64 0]
    | none => #[.agg #[.int .i64 0, .int .i64 0, .int .i64 0], .int .i64 14]) → Fresh w W → GetP n X id w (.returned (.tuple v)) W) := Lib.hid (fun W v hv hw => ⟨by rw [hv], hw⟩)
  unfold EntP at HEN
  clear h hid
  generalize GetP n X id w = PP at *
  cases hf : X.find? (fun s => decide (s.id = id)) with
  | none =>
    rw [hf] at HL HFIN
    simp only at HL HFIN
    clear hf HEN
    go_enter Tryd.func13, Tryd.ntmps13
    go_upto_region 1 with fail
    obtain ⟨d0, hd0⟩ : ∃ d0, w.heap.size = d0 := ⟨_, rfl⟩
    rw [hd0]
    refine wp_gen (fun W => Fresh w W ∧ Blk W d0 41 #[.int .i64 0, .int .i64 0, .int .i64 0]) ⟨Fresh.alloc _ _, Blk.mkAt hd0⟩ ?_
    rintro W1 ⟨hf1, hb1⟩
    obtain ⟨k0, k1⟩ := HL.out W1 hf1
    have HF1 := Lib.hid hf1
    have HB1 := Lib.hid hb1
    have HD0 := Lib.hid hd0
    have n0 := hb1.frozen 0
    have n1 := hb1.frozen 1
    have n2 := hb1.frozen 2
    have m0 := hb1.cell 0
    have m1 := hb1.cell 1
    have m2 := hb1.cell 2
    simp at m0 m1 m2
    clear hf1 hb1 hd0
    go_wp2_with fail
    refine wx_gen (fun W => Blk W d0 41 #[.int .i64 0, .int .i64 0, .int .i64 0] ∧ Fresh w W) ?_ ?_
    · have h0 : Only (fun q => q = d0) W1 W1 := Only.refl _ _
      have h1 := Only.step2 (S := fun q => q = d0) (p := ⟨d0, 0, none⟩) (v := .int .i64 0) (.inl rfl) h0
      have h2 := Only.step2 (S := fun q => q = d0) (p := ⟨d0, 1, none⟩) (v := .int .i64 0) (.inl rfl) h1
      have h3 := Only.step2 (S := fun q => q = d0) (p := ⟨d0, 2, none⟩) (v := .int .i64 0) (.inl rfl) h2
      exact ⟨by simpa using (((HB1.out.set 0 (.int .i64 0)).set 1 (.int .i64 0)).set 2 (.int .i64 0)), Below.trans HF1.out (Only.below h3 HF1.out.size (fun q e => by have := HD0.out; omega))⟩
    rintro W2 ⟨hb2, hf2⟩
    have u0 := hb2.cell 0
    have u1 := hb2.cell 1
    have u2 := hb2.cell 2
    simp at u0 u1 u2
    exact bodyPost_ret (v := .tuple #[.agg #[.int .i64 0, .int .i64 0, .int .i64 0], .int .i64 14]) (by simp [results, Tryd.results13, go_sem, u0, u1, u2]) rfl (HFIN.out _ _ rfl hf2)
  | some s =>
    have hs := (find_mem hf).2
    subst hs
    have HE := Lib.hid (fun W hw => HEN.out W hw s hf)
    rw [hf] at HL HFIN
    simp only at HL HFIN
    unfold entV at HE HFIN
    clear hf HEN
    generalize (ownI n s.id : Int) = o at *
    generalize s.a = a at *
    generalize s.id = id at *
    generalize s.p = p at *
    go_enter Tryd.func13, Tryd.ntmps13
    go_upto_region 1 with fail
    obtain ⟨d0, hd0⟩ : ∃ d0, w.heap.size = d0 := ⟨_, rfl⟩
    rw [hd0]
    refine wp_gen (fun W => Fresh w W ∧ Blk W d0 41 #[.int .i64 0, .int .i64 0, .int .i64 0]) ⟨Fresh.alloc _ _, Blk.mkAt hd0⟩ ?_
    rintro W1 ⟨hf1, hb1⟩
    obtain ⟨k0, k1⟩ := HL.out W1 hf1
    have HF1 := Lib.hid hf1
    have HB1 := Lib.hid hb1
    have HD0 := Lib.hid hd0
    clear hf1 hb1 hd0
    go_wp2_with fail
    with_reducible refine (HE.out _ HF1.out).mono ?_
    rintro e w3 ⟨rfl, hf3⟩
    have hb3 := HB1.out.fresh hf3
    have HB3 := Lib.hid hb3
    have HF3 := Lib.hid (HF1.out.trans hf3)
    have n0 := hb3.frozen 0
    have n1 := hb3.frozen 1
    have n2 := hb3.frozen 2
    have m0 := hb3.cell 0
    have m1 := hb3.cell 1
    have m2 := hb3.cell 2
    simp at m0 m1 m2
    clear hb3 hf3
    go_wp2_with fail
    refine wx_gen (fun W => Blk W d0 41 #[.int .i64 id, .int .i64 o, .int .i64 a] ∧ Fresh w W) ?_ ?_
    · have h0 : Only (fun q => q = d0) w3 w3 := Only.refl _ _
      have h1 := Only.step2 (S := fun q => q = d0) (p := ⟨d0, 0, none⟩) (v := .int .i64 id) (.inl rfl) h0
      have h2 := Only.step2 (S := fun q => q = d0) (p := ⟨d0, 1, none⟩) (v := .int .i64 o) (.inl rfl) h1
      have h3 := Only.step2 (S := fun q => q = d0) (p := ⟨d0, 2, none⟩) (v := .int .i64 a) (.inl rfl) h2
      exact ⟨by simpa using (((HB3.out.set 0 (.int .i64 id)).set 1 (.int .i64 o)).set 2 (.int .i64 a)), Below.trans HF3.out (Only.below h3 HF3.out.size (fun q e => by have := HD0.out; omega))⟩
    rintro W2 ⟨hb2, hf2⟩
    have u0 := hb2.cell 0
    have u1 := hb2.cell 1
    have u2 := hb2.cell 2
    simp at u0 u1 u2
    exact bodyPost_ret (v := .tuple #[.agg #[.int .i64 id, .int .i64 o, .int .i64 a], .int .i64 0]) (by simp [results, Tryd.results13, go_sem, u0, u1, u2]) rfl (HFIN.out _ _ rfl hf2)
/-- clear(m) -/
theorem clear_X {w : World} {mb N : Nat} {D : DataW Unit} (h : w.ownsMap Tryd.prog 3 ptrR mb N D) :
    ∃ w', (∀ ty, (Builtin.clear_ #[64] ty #[.map (some mb)]).run Tryd.prog w = .ok (.tuple #[]) w') ∧ w'.ownsMap Tryd.prog 3 ptrR mb 0 (.map []) ∧ Only (· = mb) w w' := by
  obtain ⟨es, clock, hb, F, h1, h2⟩ := h
  refine ⟨setBlock w mb (.map #[] clock), fun ty => ?_, ⟨#[], clock, heap_setBlock_same hb _, ⟨by simp, MapKept.stamped_empty clock, by simp⟩, Nat.le_refl _, rfl⟩, ⟨rfl, rfl, rfl, by simp [setBlock], fun k _ hk => heap_setBlock_other hb _ hk⟩⟩
  simp [Builtin.clear_, run_underlying Tryd.underlying64, MapKept.run_getObj_map hb, MapKept.run_setObj_map _ hb, Result.andThen, setBlock]
def FailP (w : World) (base g mb lb n : Nat) (q last : Int) (X : List StD) (e : Ending) (w' : World) : Prop :=
  e = .returned (.int .i64 (X.length : Int)) ∧ RegX w' base g mb lb n q last 0 0 [] ∧ Only (blkX g mb lb X) w w'
set_option maxHeartbeats 3200000 in
theorem rg_fail {w : World} {base g mb lb n : Nat} {q last : Int} {N : Nat} {K : Int} {X : List StD} (h : RegX w base g mb lb n q last N K X) (hn1 : 1 ≤ n) (hn2 : n ≤ 64) :
    Calls Tryd.prog 26 #[.pointer (some ⟨g, 0, none⟩)] w (FailP w base g mb lb n q last X) := by
  have hlen := fun ty => h.reg.map.len (t := 64) (e := 74) Tryd.underlying64 ty
  rw [show Maps.size (dmX X) = X.length from by simp [dmX, Maps.size]] at hlen
  obtain ⟨w1, hcl1, hm1, ho1⟩ := clear_X h.reg.map
  have hr1 : RegAt w1 base g mb lb n q last (cntX n X) 0 (.map []) := { h.reg with blk := h.reg.blk.only ho1 (fun e => h.reg.gm e), live := h.reg.live.only ho1 (fun e => h.reg.ml e.symm), map := hm1 }
  obtain ⟨cs, hcz, hcb, hci⟩ := hr1.live
  obtain ⟨lc, hlc, hblk1⟩ := hr1.blk
  have hz : (Tryd.prog.info? 3).map (fun i => (i.zero, i.size, i.bytes)) = some (some (.int .i64 0), 1, 8) := rint_info
  have hvs : ((Builtin.zeroCells (Value.int .i64 0).cells n).toList) = List.replicate n (.int .i64 0) := by
    simp [Builtin.zeroCells, Value.cells, Nat.mod_one, List.map_const']
  have hcl2 := fun ty => run_clear_any (P := Tryd.prog) w1 65 3 ty (.int .i64 0) (List.replicate n (.int .i64 0)) Tryd.underlying65 (fun w => by simp only [go_sem, Tryd.zeroValue3]) lb 0 n lc (by omega) hvs (by intro v hv; rw [List.eq_of_mem_replicate hv]; rfl) (fun j hj => by
    rw [List.length_replicate] at hj
    rw [Nat.zero_add, hcb.cell, hci j hj]; rfl) (fun j hj => by rw [Nat.zero_add]; exact hcb.frozen j)
  have ho2 := Only.setCells lb (List.replicate n (.int .i64 0)) w1 0
  have hlv : LiveAt (w1.setCells lb 0 (List.replicate n (.int .i64 0))) lb n (cntX n []) := ⟨_, by rw [setL_size]; exact hcz, hcb.setCells _ 0, fun i hi => by
    rw [setL_get _ _ _ _ (by rw [List.length_replicate]; omega), if_pos ⟨by omega, by rw [List.length_replicate]; omega⟩]
    simp [cntX, hi]⟩
  have hrg : RegAt (w1.setCells lb 0 (List.replicate n (.int .i64 0))) base g mb lb n q last (cntX n []) 0 (dmX []) := { hr1 with blk := hr1.blk.only ho2 (fun e => hr1.gl e), live := hlv, map := World.ownsMap.only' hr1.map ho2 (fun e => hr1.ml e) }
  have hr2 : RegX (w1.setCells lb 0 (List.replicate n (.int .i64 0))) base g mb lb n q last 0 0 [] := ⟨hrg, by simp, by simp, by simp, by simp, by simp, by simp⟩
  have HX : Hid (FailP w base g mb lb n q last X (.returned (.int .i64 (X.length : Int))) (w1.setCells lb 0 (List.replicate n (.int .i64 0)))) := Lib.hid ⟨rfl, hr2, (ho1.mono (fun k e => .inr (.inl e))).trans (ho2.mono (fun k e => .inr (.inr (.inl e))))⟩
  have c3 := h.reg.blk.k3
  have d4 := hblk1.cell 4
  simp at d4
  clear h hr1 hr2 hm1 ho1 hblk1 hcz hcb hci hz hvs ho2 hlv hrg
  generalize FailP w base g mb lb n q last X = PP at *
  generalize X.length = xl at *
  generalize w1.setCells lb 0 (List.replicate n (.int .i64 0)) = w2 at *
  go_enter Tryd.func26, Tryd.ntmps26
  go_wp2
  exact HX.out
end Go.Proofs.YtjediikcfhdgiaaDoor

