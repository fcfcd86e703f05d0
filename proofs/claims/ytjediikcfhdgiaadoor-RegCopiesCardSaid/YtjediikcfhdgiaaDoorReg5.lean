/-
  Package reg: Do.
-/
import Derived.Test.YtjediikcfhdgiaaDoorReg4
namespace Go.Proofs.YtjediikcfhdgiaaDoor
set_option maxRecDepth 100000
set_option linter.unusedVariables false
set_option linter.unusedSimpArgs false
open Go.RowKit Go.Maps
/-- What Do answers, and the streams behind it. -/
def dV (X : List StD) (id e : Int) : Int × Int × Bool := match X.find? (fun s => decide (s.id = id)) with
  | some s => (doE s.a e, doC s.a e, doB s.a e)
  | none => (14, 0, false)
def stepX (X : List StD) (id e : Int) : List StD := match X.find? (fun s => decide (s.id = id)) with
  | some s => if doA s.a e = 4 then gone id X else led s (doA s.a e) (doL s.a e s.cs) X
  | none => X
def DoXP (w : World) (base g mb lb n : Nat) (q last : Int) (N : Nat) (K : Int) (X : List StD) (id e : Int) (en : Ending) (w' : World) : Prop :=
  en = .returned (.tuple #[.int .i64 (dV X id e).1, .agg #[.int .i64 (dV X id e).2.1, .bool (dV X id e).2.2]]) ∧ RegX w' base g mb lb n q last N (K + 1) (stepX X id e) ∧ Only (blkX g mb lb X) w w'
/-- The streams behind an event of one that lives on. -/
theorem RegX.led {w W : World} {base g mb lb n : Nat} {q last : Int} {N : Nat} {K : Int} {X : List StD} (h : RegX w base g mb lb n q last N K X) {s : StD} (hs : s ∈ X) {e : Int} (hK : 0 ≤ K) (h4 : doA s.a e ≠ 4)
    (hr : RunAt W s.p (doA s.a e) (doL s.a e s.cs)) (ho : Only (· = s.p) w W) : RegX W base g mb lb n q last N (K + 1) (led s (doA s.a e) (doL s.a e s.cs) X) := by
  have hst := h.st s hs
  have hda := doA_in (e := e) hst.1 hst.2
  obtain ⟨hrs, hb, hg, hm, hl⟩ := h.runs s hs
  have hreg : RegAt W base g mb lb n q last (cntX n X) N (dmX X) := h.reg.only ho (fun e => hg e.symm) (fun e => hm e.symm) (fun e => hl e.symm)
  refine ⟨?_, fun t ht => ?_, ?_, ?_, fun t ht => ?_, fun t ht => ?_, fun t ht => ?_⟩
  · rw [dm_same (led_ids s _ _ X), cnt_same (ids_of (led_ids s _ _ X))]
    exact hreg
  · obtain ⟨u, hu, rfl⟩ := led_mem ht
    obtain ⟨k1, k2⟩ := h.runs u hu
    by_cases hid : u.id = s.id
    · rw [if_pos hid]
      have := ris_ne h.ris hu hs hid
      subst this
      exact ⟨hr, k2⟩
    · rw [if_neg hid]
      exact ⟨k1.only ho (fun e => dist_ne h.dist hu hs (fun e => hid (by rw [e])) e), k2⟩
  · have : ((Go.Proofs.YtjediikcfhdgiaaDoor.led s (doA s.a e) (doL s.a e s.cs) X).map (fun s => (s.id, s.p))).Pairwise (fun a b => a.2 ≠ b.2) := by
      rw [led_ids]
      exact List.pairwise_map.2 h.dist
    exact pair_map (f := fun s : StD => (s.id, s.p)) this
  · have : ((Go.Proofs.YtjediikcfhdgiaaDoor.led s (doA s.a e) (doL s.a e s.cs) X).map (fun s => (s.id, s.p))).Pairwise (fun a b => a.1 < b.1) := by
      rw [led_ids]
      exact List.pairwise_map.2 h.ris
    exact pair_map (f := fun s : StD => (s.id, s.p)) this
  · obtain ⟨u, hu, rfl⟩ := led_mem ht
    have := h.ids u hu
    split <;> exact this
  · obtain ⟨u, hu, rfl⟩ := led_mem ht
    split
    · simp only; omega
    · exact h.st u hu
  · obtain ⟨u, hu, rfl⟩ := led_mem ht
    split
    · exact doL_le (h.cnt s hs) hK
    · intro c hc; have := h.cnt u hu c hc; omega
theorem gone_mem {id : Int} {X : List StD} {t : StD} (h : t ∈ gone id X) : t ∈ X ∧ t.id ≠ id := by
  unfold gone at h
  obtain ⟨h1, h2⟩ := List.mem_filter.1 h
  exact ⟨h1, by simpa using h2⟩
/-- The streams behind an event that ended one. -/
theorem RegX.gone {w W : World} {base g mb lb n : Nat} {q last : Int} {N : Nat} {K : Int} {X : List StD} (h : RegX w base g mb lb n q last N K X) {s : StD} (hs : s ∈ X)
    (hreg : RegAt W base g mb lb n q last (upI (cntX n X) (ownI n s.id) (cntX n X (ownI n s.id) - 1)) N ((dmX X).del (keyX s.id))) (ho : Only (fun k => k = g ∨ k = mb ∨ k = lb ∨ k = s.p) w W) : RegX W base g mb lb n q last N (K + 1) (gone s.id X) := by
  refine ⟨?_, fun t ht => ?_, h.dist.filter _, h.ris.filter _, fun t ht => h.ids t (gone_mem ht).1, fun t ht => h.st t (gone_mem ht).1, fun t ht c hc => by have := h.cnt t (gone_mem ht).1 c hc; omega⟩
  · rw [cnt_gone n h.ris hs, show dmX (Go.Proofs.YtjediikcfhdgiaaDoor.gone s.id X) = (dmX X).del (keyX s.id) from (dm_del X s.id).symm]
    exact hreg
  · obtain ⟨h1, h2⟩ := gone_mem ht
    obtain ⟨k1, k2, k3, k4, k5⟩ := h.runs t h1
    exact ⟨k1.only ho (fun e => by
      rcases e with e | e | e | e
      · exact k3 e
      · exact k4 e
      · exact k5 e
      · exact dist_ne h.dist h1 hs (fun e => h2 (by rw [e])) e), k2, k3, k4, k5⟩
theorem RegX.alive {w : World} {base g mb lb n : Nat} {q last : Int} {N : Nat} {K : Int} {X : List StD} (h : RegX w base g mb lb n q last N K X) : g < w.heap.size ∧ mb < w.heap.size ∧ lb < w.heap.size ∧ ∀ s ∈ X, s.p < w.heap.size := by
  obtain ⟨cs, _, hb, _⟩ := h.reg.live
  exact ⟨h.reg.blk.lt, h.reg.map.lt, hb.lt, fun s hs => (h.runs s hs).1.blk.lt⟩
theorem turned_only {w W : World} {mb : Nat} (h : w.mapTurned W mb) : Only (· = mb) w W := by
  have hg := h.grown
  exact ⟨hg.os, hg.tape, hg.output, hg.size, fun k hk hne => hg.block k hk (fun e => hne (Option.some.inj e))⟩
theorem step_blk {X : List StD} {id e : Int} {u : StD} (h : u ∈ stepX X id e) : ∃ v ∈ X, u.p = v.p := by
  unfold stepX at h
  split at h
  · split at h
    · exact ⟨u, (gone_mem h).1, rfl⟩
    · obtain ⟨v, hv, rfl⟩ := led_mem h
      exact ⟨v, hv, by split <;> rfl⟩
  · exact ⟨u, h, rfl⟩
theorem rg_do_none {w : World} {base g mb lb n : Nat} {q last : Int} {N : Nat} {K : Int} {X : List StD} (h : RegX w base g mb lb n q last N K X) (id e : Int) (hid : -9223372036854775808 ≤ id ∧ id ≤ 9223372036854775807) (hf : X.find? (fun s => decide (s.id = id)) = none) :
    Calls Tryd.prog 18 #[.pointer (some ⟨g, 0, none⟩), .int .i64 id, .int .i64 e] w (DoXP w base g mb lb n q last N K X id e) := by
  have HFIN : Hid (∀ W, Fresh w W → DoXP w base g mb lb n q last N K X id e (.returned (.tuple #[.int .i64 14, .agg #[.int .i64 0, .bool false]])) W) := Lib.hid (fun W hw => by
    refine ⟨by unfold dV; rw [hf], ?_, Only.of_fresh hw⟩
    unfold stepX
    rw [hf]
    exact (h.fresh hw).mono (Nat.le_refl _) (by omega))
  have HL : Hid (∀ W, Fresh w W → W.cell? ⟨g, 3, none⟩ = some (.map (some mb)) ∧ (Instr.lookup 64 (.map (some mb)) (.int .i64 id) false).run Tryd.prog W = .ok (.pointer none) W) := Lib.hid (fun W hw => by
    have hr := (h.fresh hw).reg
    have c3 := hr.blk.k3
    have hl := look_X hr.map id hid
    rw [hf] at hl
    exact ⟨c3, hl⟩)
  clear h hf
  generalize DoXP w base g mb lb n q last N K X id e = PP at *
  go_enter Tryd.func18, Tryd.ntmps18
  obtain ⟨QB, hQB⟩ : ∃ QB, bodyPost Tryd.prog Tryd.f18 PP = QB := ⟨_, rfl⟩
  have HQB := Lib.hid hQB
  rw [hQB]
  clear hQB
  go_upto_region 1 with fail
  refine wp_gen (fun W => Blk W w.heap.size 56 #[.int .i64 0, .bool false] ∧ Fresh w W) ⟨Blk.new w _ _, Fresh.alloc _ _⟩ ?_
  rintro W1 ⟨hb1, hf1⟩
  obtain ⟨r, hr⟩ : ∃ r, w.heap.size = r := ⟨_, rfl⟩
  have HR := Lib.hid hr
  rw [hr] at hb1 ⊢
  clear hr
  obtain ⟨c3, hlk⟩ := HL.out W1 hf1
  have y0 := hb1.cell 0
  have z0 := hb1.frozen 0
  have y1 := hb1.cell 1
  have z1 := hb1.frozen 1
  simp at y0 y1
  have HB := Lib.hid hb1
  have HF := Lib.hid hf1
  clear hb1 hf1
  go_wp2_with fail
  refine wx_gen (fun W => Blk W r 56 #[.int .i64 0, .bool false] ∧ Fresh w W) ⟨by simpa using (HB.out.set 0 (.int .i64 0)).set 1 (.bool false), ?_⟩ ?_
  · have h0 : Only (fun k => k = r) W1 W1 := Only.refl _ _
    have h1 := Only.step2 (S := fun k => k = r) (p := ⟨r, 0, none⟩) (v := .int .i64 0) (.inl rfl) h0
    have h2 := Only.step2 (S := fun k => k = r) (p := ⟨r, 1, none⟩) (v := .bool false) (.inl rfl) h1
    exact Below.trans HF.out (Only.below h2 HF.out.size (fun k e => by rw [e, ← HR.out]; exact Nat.le_refl _))
  rintro W2 ⟨hb2, hf2⟩
  have x0 := hb2.cell 0
  have x1 := hb2.cell 1
  simp at x0 x1
  rw [← HQB.out]
  exact bodyPost_ret (v := .tuple #[.int .i64 14, .agg #[.int .i64 0, .bool false]]) (by simp [results, Tryd.results18, go_sem, x0, x1]) rfl (HFIN.out _ hf2)
theorem st_done (a : Int) (w : World) (r : Bool) (h : (a == 4) = r) : Calls Tryd.prog 35 #[.int .i64 a] w fun en w' => en = .returned (.bool r) ∧ w' = w := by
  go_enter Tryd.func35, Tryd.ntmps35
  go_wp2
  go_ret
  exact ⟨rfl, rfl⟩
set_option maxHeartbeats 3200000 in
theorem rg_do_some {w : World} {base g mb lb n : Nat} {q last : Int} {N : Nat} {K : Int} {X : List StD} (h : RegX w base g mb lb n q last N K X) (hT : Tbl w) (hbT : 0 < base) (hn1 : 1 ≤ n) (hn2 : n ≤ 64) (hK0 : 0 ≤ K) (hK : K ≤ 100000000000) (hXl : X.length ≤ 1000000) (e : Int) (s : StD) (hf : X.find? (fun t => decide (t.id = s.id)) = some s) :
    Calls Tryd.prog 18 #[.pointer (some ⟨g, 0, none⟩), .int .i64 s.id, .int .i64 e] w (DoXP w base g mb lb n q last N K X s.id e) := by
  have hs := (find_mem hf).1
  obtain ⟨t, hid, ht0, ht1, _⟩ := h.ids s hs
  have hst := h.st s hs
  have hda := doA_in (e := e) hst.1 hst.2
  obtain ⟨hrun, hpb, hpg, hpm, hpl⟩ := h.runs s hs
  have hlive := h.alive
  have HFE : Hid (dV X s.id e = (doE s.a e, doC s.a e, doB s.a e)) := Lib.hid (by unfold dV; rw [hf])
  have HFX : Hid (stepX X s.id e = if doA s.a e = 4 then gone s.id X else led s (doA s.a e) (doL s.a e s.cs) X) := Lib.hid (by unfold stepX; rw [hf])
  have HL : Hid (∀ W, Fresh w W → (Instr.lookup 64 (.map (some mb)) (.int .i64 s.id) false).run Tryd.prog W = .ok (.pointer (some ⟨s.p, 0, none⟩)) W) := Lib.hid (fun W hw => by
    have hr := (h.fresh hw).reg
    have hl := look_X hr.map s.id (by omega)
    rwa [hf] at hl)
  have HDO := Lib.hid (fun W (hr : RunAt W s.p s.a s.cs) (hTW : Tbl W) => rdo s.p s.a e s.cs W hr hTW (fun c hc => by have := h.cnt s hs c hc; omega) (by omega))
  unfold DoR at HDO
  have HOWN : Hid (∃ o : Nat, o < n ∧ t % (n : Int) = (o : Int) ∧ ownI n s.id = o ∧ 0 ≤ cntX n X o ∧ cntX n X o ≤ 1000000) := Lib.hid (by
    have h1 := Int.emod_nonneg t (show (n : Int) ≠ 0 by omega)
    have h2 := Int.emod_lt_of_pos t (show (0 : Int) < (n : Int) by omega)
    have e1 : (2 * t + 1 - 1) / 2 = t := by omega
    have h3 := cnt_le n X (t % (n : Int)).toNat
    exact ⟨(t % (n : Int)).toNat, by omega, by omega, by unfold ownI; rw [hid, e1], h3.1, by omega⟩)
  obtain ⟨o, hon, hto, hoo, hc0, hc1⟩ := HOWN.out
  have HO := Lib.hid (fun W hc => rg_owner g n t (o : Int) W ht0 ht1 hn1 hn2 hto hc)
  have HLED := Lib.hid (fun (W : World) (h4 : doA s.a e ≠ 4) (hr : RunAt W s.p (doA s.a e) (doL s.a e s.cs)) (ho : Only (· = s.p) w W) => h.led hs hK0 h4 hr ho)
  have HGON := Lib.hid (fun (W : World) hreg ho => h.gone (W := W) hs hreg ho)
  rw [hoo] at HGON
  have HIDS := Lib.hid hid
  have H := Lib.hid h
  have HTT := Lib.hid hT
  have HNM := Lib.hid (show s.p ≠ g ∧ s.p ≠ mb ∧ s.p ≠ lb ∧ s.p < w.heap.size ∧ g < w.heap.size ∧ mb < w.heap.size ∧ lb < w.heap.size ∧ 0 < base ∧ base ≤ s.p from ⟨hpg, hpm, hpl, hlive.2.2.2 s hs, hlive.1, hlive.2.1, hlive.2.2.1, hbT, hpb⟩)
  have HRUN := Lib.hid hrun
  have HS4 : Hid (∀ k, (k = g ∨ k = mb ∨ k = lb ∨ k = s.p) → blkX g mb lb X k) := Lib.hid (fun k e => by
    rcases e with e | e | e | e
    · exact .inl e
    · exact .inr (.inl e)
    · exact .inr (.inr (.inl e))
    · exact .inr (.inr (.inr ⟨s, hs, e⟩)))
  have HNR : Hid (∀ k, blkX g mb lb X k → k ≠ w.heap.size) := Lib.hid (fun k hk => by
    rcases hk with rfl | rfl | rfl | ⟨u, hu, rfl⟩
    · have := hlive.1; omega
    · have := hlive.2.1; omega
    · have := hlive.2.2.1; omega
    · have := hlive.2.2.2 u hu; omega)
  have HSUB : Hid (∀ k, blkX g mb lb (stepX X s.id e) k → blkX g mb lb X k) := Lib.hid (fun k hk => by
    rcases hk with e1 | e1 | e1 | ⟨u, hu, e1⟩
    · exact .inl e1
    · exact .inr (.inl e1)
    · exact .inr (.inr (.inl e1))
    · obtain ⟨v, hv, hp⟩ := step_blk hu
      exact .inr (.inr (.inr ⟨v, hv, by rw [e1, hp]⟩)))
  have HFIN : Hid (∀ W, RegX W base g mb lb n q last N (K + 1) (stepX X s.id e) → Only (blkX g mb lb X) w W → DoXP w base g mb lb n q last N K X s.id e (.returned (.tuple #[.int .i64 (doE s.a e), .agg #[.int .i64 (doC s.a e), .bool (doB s.a e)]])) W) := Lib.hid (fun W h1 h2 => ⟨by rw [HFE.out], h1, h2⟩)
  clear h hf hs hst hrun hpb hpg hpm hpl hlive HFE hT hbT hto hoo HOWN
  generalize hPP : DoXP w base g mb lb n q last N K X s.id e = PP at *
  clear hPP
  generalize doE s.a e = ee at *
  generalize doC s.a e = cc at *
  generalize doB s.a e = bb at *
  obtain ⟨a', ha'⟩ : ∃ a', doA s.a e = a' := ⟨_, rfl⟩
  obtain ⟨cs', hcs'⟩ : ∃ cs', doL s.a e s.cs = cs' := ⟨_, rfl⟩
  rw [ha', hcs'] at HLED HDO HFX
  rw [ha'] at hda
  clear ha' hcs'
  obtain ⟨L, hL⟩ : ∃ L, cntX n X = L := ⟨_, rfl⟩
  rw [hL] at HGON hc0 hc1
  have HLL := Lib.hid hL
  clear hL
  generalize stepX X s.id e = X' at *
  have hidk : s.id = 2 * t + 1 := hid
  generalize s.id = id at *
  subst hidk
  generalize s.p = p at *
  go_enter Tryd.func18, Tryd.ntmps18
  go_upto_region 1 with fail
  refine wp_gen (fun W => Blk W w.heap.size 56 #[.int .i64 0, .bool false] ∧ Fresh w W) ⟨Blk.new w _ _, Fresh.alloc _ _⟩ ?_
  rintro W1 ⟨hb1, hf1⟩
  obtain ⟨r, hr⟩ : ∃ r, w.heap.size = r := ⟨_, rfl⟩
  have HR := Lib.hid hr
  rw [hr] at hb1 HNR ⊢
  clear hr
  have hlk := HL.out W1 hf1
  have c3 := (H.out.reg.blk.fresh hf1).k3
  have HB := Lib.hid hb1
  have HF := Lib.hid hf1
  have HRN1 := Lib.hid (HRUN.out.fresh hf1)
  have HT1 := Lib.hid (HTT.out.fresh hf1)
  clear hb1 hf1 HRUN HTT HL
  go_wp2_with fail
  with_reducible refine (HDO.out _ HRN1.out HT1.out).mono ?_
  rintro en w3 ⟨rfl, hrun3, ho3⟩
  have hb3 := HB.out.only ho3 (by have := HNM.out; have := HR.out; omega)
  have hO3 : Only (· = p) w w3 := (Only.of_fresh HF.out).trans ho3
  have HLT3 := Lib.hid hb3.lt
  have HB3 := Lib.hid hb3
  have HO3 := Lib.hid hO3
  have HR3 := Lib.hid hrun3
  clear hb3 hO3 hrun3 ho3 HRN1 HT1 HB HDO
  go_upto_region 5 with fail
  obtain ⟨f, hfz⟩ : ∃ f, w3.heap.size = f := ⟨_, rfl⟩
  have HFZ := Lib.hid hfz
  refine wp_gen (fun W => Blk W w3.heap.size 56 #[.int .i64 cc, .bool bb] ∧ Fresh w3 W) ⟨by first | exact Blk.new w3 _ _ | exact Blk.mkAt (by simp), by repeat (first | with_reducible exact Fresh.alloc _ _ | with_reducible exact Fresh.refl _)⟩ ?_
  rw [hfz]
  clear hfz
  rintro W5 ⟨hb5, hf5⟩
  have HB5 := Lib.hid hb5
  have HBR5 := Lib.hid (HB3.out.fresh hf5)
  have HO5 : Hid (Only (· = p) w W5) := Lib.hid (HO3.out.freshS hf5)
  have HR5 := Lib.hid (HR3.out.fresh hf5)
  clear hb5 hf5 HB3 HR3
  have HAT := Lib.hid (run_at p a' cs' W5 HR5.out)
  go_wp2_with fail
  with_reducible refine HAT.out.mono ?_
  rintro en w6 ⟨rfl, hw⟩
  obtain rfl : W5 = w6 := hw
  have HFRF : Hid (f ≠ p ∧ f ≠ g ∧ f ≠ mb ∧ f ≠ lb ∧ w.heap.size ≤ f ∧ f ≠ r) := Lib.hid (by
    have := HNM.out; have := HFZ.out; have := HO3.out.size; have := HR.out; have := HBR5.out.lt
    have h1 := HLT3.out
    omega)
  have HREG5 : Hid (RegAt W5 base g mb lb n q last L N (dmX X)) := Lib.hid (by
    have := H.out.reg.only HO5.out (fun e => HNM.out.1 e.symm) (fun e => HNM.out.2.1 e.symm) (fun e => HNM.out.2.2.1 e.symm)
    rwa [HLL.out] at this)
  by_cases h4 : a' = 4
  · have d4 : (a' == 4) = true := by rw [h4]; rfl
    have HDN := Lib.hid (fun W => st_done a' W true d4)
    rw [if_pos h4] at HFX
    clear h4 d4 HLED hda
    go_wp2_with fail
    with_reducible refine (HDN.out _).mono ?_
    rintro en w6 ⟨rfl, hw⟩
    obtain rfl : W5 = w6 := hw.symm
    have c3 := HREG5.out.blk.k3
    go_upto_region 7 with (at_delete; refine wpList_delete_own _ rfl _ _ 64 3 rfl 74 ikey Tryd.underlying64 ptrR mb N (dmX X) rfl HREG5.out.map _ (keyX (2 * t + 1)) rfl (keyOf_int_mk Tryd.underlying3 (key_lit (by omega))) ?_; intro w7 hm7 ht7)
    have ho7 := turned_only ht7
    refine wp_gen (fun W => RegAt W base g mb lb n q last L N ((dmX X).del (keyX (2 * t + 1))) ∧ Blk W f 56 #[.int .i64 cc, .bool bb] ∧ Blk W r 56 #[.int .i64 0, .bool false] ∧ Only (fun k => k = g ∨ k = mb ∨ k = lb ∨ k = p) w W) ⟨{ HREG5.out with blk := HREG5.out.blk.only ho7 (fun e => HREG5.out.gm e), live := HREG5.out.live.only ho7 (fun e => HREG5.out.ml e.symm), map := hm7 }, HB5.out.only ho7 (fun e => HFRF.out.2.2.1 e), HBR5.out.only ho7 (by have := HNM.out; have := HR.out; omega), (HO5.out.mono (fun k e => .inr (.inr (.inr e)))).trans' ho7 (fun k _ e => .inr (.inl e))⟩ ?_
    clear hm7 ht7 ho7 c3 HREG5 HB5 HBR5 HO5
    rintro W8 ⟨hR8, hb8, hbr8, ho8⟩
    have HR8 := Lib.hid hR8
    have HB8 := Lib.hid hb8
    have HBR8 := Lib.hid hbr8
    have HO8 := Lib.hid ho8
    have hlw : IntKind.i64.wrap (L o - 1) = L o - 1 := IntWalk.i64_in _ (by omega)
    have ho' : (o : Int) < (n : Int) := by omega
    obtain ⟨lc8, _, hblk8⟩ := HR8.out.blk
    have HSK : Hid (∀ w', Fresh W8 w' → w'.cell? ⟨g, 0, none⟩ = some (.int .i64 (n : Int)) ∧ w'.cell? ⟨g, 4, none⟩ = some (.slice (some ⟨lb, 0, none⟩) n lc8) ∧ w'.cell? ⟨lb, o, none⟩ = some (.int .i64 (L o)) ∧ w'.frozen? ⟨lb, o, none⟩ = false ∧ Fresh W8 w') := Lib.hid (fun w' hw => by
      have hb := hblk8.fresh hw
      have hl := (HR8.out.live.only (S := fun _ => False) (Only.of_fresh hw) id).at hon
      exact ⟨hb.cell 0, hb.cell 4, hl.1, hl.2, hw⟩)
    clear hR8 hb8 hbr8 ho8 hblk8
    clear hc0 hc1 hn1 hn2 ht0 ht1
    obtain ⟨k0, k2, k3, k4, _⟩ := HSK.out W8 (Fresh.refl _)
    go_region_law (go_simp; go_at_call 31; (with_reducible refine (HO.out _ (HSK.out _ (Fresh.drew _)).1).mono ?_); rintro e wa ⟨rfl, hwa⟩; obtain rfl : W8.drew = wa := hwa.symm; obtain ⟨m0, m2, m3, m4, _⟩ := HSK.out _ (Fresh.drew W8))
    all_goals
      refine wx_gen (fun W => RegX W base g mb lb n q last N (K + 1) (gone (2 * t + 1) X) ∧ Blk W f 56 #[.int .i64 cc, .bool bb] ∧ Blk W r 56 #[.int .i64 0, .bool false] ∧ Only (fun k => k = g ∨ k = mb ∨ k = lb ∨ k = p) w W) ?_ ?_
      focus
        have hr := HR8.out.fresh (Fresh.drew W8)
        have hos := Only.setCell W8.drew ⟨lb, o, none⟩ (.int .i64 (L o - 1))
        have hO : Only (fun k => k = g ∨ k = mb ∨ k = lb ∨ k = p) w (W8.drew.setCell ⟨lb, o, none⟩ (.int .i64 (L o - 1))) := (HO8.out.freshS (Fresh.drew W8)).trans (hos.mono (fun i hi => .inr (.inr (.inl hi))))
        exact ⟨HGON.out _ { hr with blk := hr.blk.only hos (fun e => hr.gl e), live := hr.live.set o (L o - 1), map := World.ownsMap.only' hr.map hos (fun e => hr.ml e) } hO, (HB8.out.drew).only hos (fun e => HFRF.out.2.2.2.1 e), (HBR8.out.drew).only hos (by have := HNM.out; have := HR.out; show r ≠ lb; omega), hO⟩
      clear k0 k2 k3 k4 m0 m2 m3 m4 HSK HR8 HB8 HBR8 HO8
      rintro W9 ⟨hX9, hb9, hbr9, ho9⟩
      rw [← HFX.out] at hX9
      have HX9 := Lib.hid hX9
      have HO9 := Lib.hid ho9
      have HBR9 := Lib.hid hbr9
      have x0 := hb9.cell 0
      have x1 := hb9.cell 1
      have y0 := hbr9.cell 0
      have z0 := hbr9.frozen 0
      have y1 := hbr9.cell 1
      have z1 := hbr9.frozen 1
      simp at x0 x1 y0 y1
      clear hX9 hb9 hbr9 ho9
      go_wp2_with fail
      go_region
      all_goals
        refine wx_gen (fun W => Blk W r 56 #[.int .i64 cc, .bool bb] ∧ RegX W base g mb lb n q last N (K + 1) X' ∧ Only (blkX g mb lb X) w W) ?_ ?_
        focus
          have h0 : Only (fun k => k = r) W9 W9 := Only.refl _ _
          have h1 := Only.step2 (S := fun k => k = r) (p := ⟨r, 0, none⟩) (v := .int .i64 cc) (.inl rfl) h0
          have h2 := Only.step2 (S := fun k => k = r) (p := ⟨r, 1, none⟩) (v := .bool bb) (.inl rfl) h1
          have h3 := h2.freshS (Fresh.drew _)
          have hbz : Blk ((W9.setCell ⟨r, 0, none⟩ (.int .i64 cc)).setCell ⟨r, 1, none⟩ (.bool bb)) r 56 #[.int .i64 cc, .bool bb] := by simpa using ((HBR9.out.set 0 (.int .i64 cc)).set 1 (.bool bb))
          exact ⟨hbz.drew, HX9.out.only h3 (fun k hk e => HNR.out k (HSUB.out k hk) e), (HO9.out.mono HS4.out).trans' h3 (fun k hk e => absurd e (by have := HR.out; omega))⟩
        rintro W10 ⟨hb10, hx10, ho10⟩
        have u0 := hb10.cell 0
        have u1 := hb10.cell 1
        simp at u0 u1
        have HX := Lib.hid (HFIN.out _ hx10 ho10)
        clear hb10 hx10 ho10 x0 x1 y0 y1 z0 z1
        go_wp2_with fail
        exact bodyPost_ret (v := .tuple #[.int .i64 ee, .agg #[.int .i64 cc, .bool bb]]) (by simp [results, Tryd.results18, go_sem, u0, u1]) rfl HX.out
  · have d4 : (a' == 4) = false := beq_eq_false_iff_ne.2 h4
    have HDN := Lib.hid (fun W => st_done a' W false d4)
    have hx5 := HLED.out W5 h4 HR5.out HO5.out
    rw [if_neg h4] at HFX
    rw [← HFX.out] at hx5
    have HX9 := Lib.hid hx5
    clear h4 d4 HLED hda hx5
    go_wp2_with fail
    with_reducible refine (HDN.out _).mono ?_
    rintro en w6 ⟨rfl, hw⟩
    obtain rfl : W5 = w6 := hw.symm
    go_upto_region 8 with fail
    refine wp_gen (fun W => RegX W base g mb lb n q last N (K + 1) X' ∧ Blk W f 56 #[.int .i64 cc, .bool bb] ∧ Blk W r 56 #[.int .i64 0, .bool false] ∧ Only (fun k => k = g ∨ k = mb ∨ k = lb ∨ k = p) w W) ⟨HX9.out, HB5.out, HBR5.out, HO5.out.mono (fun k e => .inr (.inr (.inr e)))⟩ ?_
    clear HX9 HB5 HBR5 HO5 HREG5 HR5 HAT HDN
    rintro W9 ⟨hX9, hb9, hbr9, ho9⟩
    have HX9 := Lib.hid hX9
    have HO9 := Lib.hid ho9
    have HBR9 := Lib.hid hbr9
    have x0 := hb9.cell 0
    have x1 := hb9.cell 1
    have y0 := hbr9.cell 0
    have z0 := hbr9.frozen 0
    have y1 := hbr9.cell 1
    have z1 := hbr9.frozen 1
    simp at x0 x1 y0 y1
    clear hX9 hb9 hbr9 ho9
    go_region
    all_goals
      refine wx_gen (fun W => Blk W r 56 #[.int .i64 cc, .bool bb] ∧ RegX W base g mb lb n q last N (K + 1) X' ∧ Only (blkX g mb lb X) w W) ?_ ?_
      focus
        have h0 : Only (fun k => k = r) W9 W9 := Only.refl _ _
        have h1 := Only.step2 (S := fun k => k = r) (p := ⟨r, 0, none⟩) (v := .int .i64 cc) (.inl rfl) h0
        have h2 := Only.step2 (S := fun k => k = r) (p := ⟨r, 1, none⟩) (v := .bool bb) (.inl rfl) h1
        have h3 := h2.freshS (Fresh.drew _)
        have hbz : Blk ((W9.setCell ⟨r, 0, none⟩ (.int .i64 cc)).setCell ⟨r, 1, none⟩ (.bool bb)) r 56 #[.int .i64 cc, .bool bb] := by simpa using ((HBR9.out.set 0 (.int .i64 cc)).set 1 (.bool bb))
        exact ⟨hbz.drew, HX9.out.only h3 (fun k hk e => HNR.out k (HSUB.out k hk) e), (HO9.out.mono HS4.out).trans' h3 (fun k hk e => absurd e (by have := HR.out; omega))⟩
      rintro W10 ⟨hb10, hx10, ho10⟩
      have u0 := hb10.cell 0
      have u1 := hb10.cell 1
      simp at u0 u1
      have HX := Lib.hid (HFIN.out _ hx10 ho10)
      clear hb10 hx10 ho10 x0 x1 y0 y1 z0 z1
      go_wp2_with fail
      exact bodyPost_ret (v := .tuple #[.int .i64 ee, .agg #[.int .i64 cc, .bool bb]]) (by simp [results, Tryd.results18, go_sem, u0, u1]) rfl HX.out
theorem rg_do {w : World} {base g mb lb n : Nat} {q last : Int} {N : Nat} {K : Int} {X : List StD} (h : RegX w base g mb lb n q last N K X) (hT : Tbl w) (hbT : 0 < base) (hn1 : 1 ≤ n) (hn2 : n ≤ 64) (hK0 : 0 ≤ K) (hK : K ≤ 100000000000) (hXl : X.length ≤ 1000000) (id e : Int) (hid : -9223372036854775808 ≤ id ∧ id ≤ 9223372036854775807) :
    Calls Tryd.prog 18 #[.pointer (some ⟨g, 0, none⟩), .int .i64 id, .int .i64 e] w (DoXP w base g mb lb n q last N K X id e) := by
  cases hf : X.find? (fun s => decide (s.id = id)) with
  | none => exact rg_do_none h id e hid hf
  | some s =>
    have hs := (find_mem hf).2
    subst hs
    exact rg_do_some h hT hbT hn1 hn2 hK0 hK hXl e s hf
end Go.Proofs.YtjediikcfhdgiaaDoor

