/-
  Package reg: Copy.
-/
import Derived.Test.YtjediikcfhdgiaaDoorRegL
import Derived.Maps.RangeWalk
namespace Go.Proofs.YtjediikcfhdgiaaDoor
set_option maxRecDepth 100000
set_option linter.unusedVariables false
set_option linter.unusedSimpArgs false
open Go.RowKit Go.Maps
structure CpI (w wr : World) (c mb2 r n lc : Nat) (q last : Int) (mb lb : Nat) (N : Nat) (X : List StD) (left : Lit → Bool) (cnt : Nat) (f : Int → Nat × List Int) (D : DataW Unit) : Prop where
  rng : wr.ranges Tryd.prog 3 ptrR mb r N (dmX X) left cnt
  cle : cnt ≤ X.length
  own : wr.ownsMap Tryd.prog 3 ptrR mb2 (X.length - cnt) D
  agr : Maps.Agree D (dmX (twX f X)) left
  run : ∀ s ∈ X, left (keyX s.id) = false → RunAt wr (f s.id).1 s.a (f s.id).2 ∧ w.heap.size ≤ (f s.id).1 ∧ (f s.id).1 ≠ c ∧ (f s.id).1 ≠ mb2 ∧ (f s.id).1 ≠ r ∧ ∀ z ∈ (f s.id).2, z ≤ 2
  dst : ∀ s ∈ X, ∀ t ∈ X, left (keyX s.id) = false → left (keyX t.id) = false → s.id ≠ t.id → (f s.id).1 ≠ (f t.id).1
  blk : Blk wr c 67 #[.int .i64 (n : Int), .int .i64 q, .int .i64 last, .map (some mb2), .slice (some ⟨lb, 0, none⟩) n lc]
  fr : Fresh w wr
def mkP (o : Option Nat) : Value := .pointer (o.map fun b => ⟨b, 0, none⟩)
theorem mkP_inv (v : Value) (y : DataW Unit × List MemPlace) (h : ptrR v = some y) : ∃ o, v = mkP o := by
  unfold ptrR at h
  split at h
  · exact ⟨some _, rfl⟩
  · exact ⟨none, rfl⟩
  · cases h
theorem next_X {X : List StD} {o : Option Nat} {y : DataW Unit × List MemPlace} {x : Int} (hv : ptrR (mkP o) = some y) (hat : ∀ zd, (dmX X).atKey (keyX x) zd = y.1) : ∃ s ∈ X, s.id = x ∧ o = some s.p := by
  cases hf : X.find? (fun s => decide (s.id = x)) with
  | none =>
    exfalso
    have h1 := hat .nil
    have h2 := hat (.lit (.bool true))
    rw [dm_at, hf] at h1 h2
    simp only at h1 h2
    rw [← h2] at h1
    cases h1
  | some s =>
    refine ⟨s, (find_mem hf).1, (find_mem hf).2, ?_⟩
    have h1 := hat .nil
    rw [dm_at, hf] at h1
    simp only at h1
    obtain ⟨y1, y2⟩ := y
    simp only at h1
    subst h1
    have := ptrR_inv hv
    unfold mkP at this
    cases o with
    | none => cases this
    | some b =>
      simp only [Option.map_some] at this
      injection this with this
      injection this with this
      injection this with this
      rw [this]
theorem run_mkMap {P : Program} {t k e : TypeId} (hT : P.underlying t = some (.map k e)) (n : Int) (W : World) : (Instr.makeMap t (some (.int .i64 n))).run P W = .ok (.map (some W.heap.size)) (W.alloc (.map #[] 0)) := by
  simp [Instr.makeMap, run_underlying hT, go_sem]
theorem grown_only {w w' : World} {row : Option Nat} (h : w.grownBy w' row) : Only (fun k => row = some k) w w' :=
  ⟨h.os, h.tape, h.output, h.size, fun k hk hne => h.block k hk (fun e => hne e.symm)⟩
theorem has_X {X : List StD} {s : StD} (hs : s ∈ X) : Maps.has (dmX X) (keyX s.id) = true := by
  unfold dmX
  rw [Maps.has_eq, List.any_map]
  exact List.any_eq_true.2 ⟨s, hs, by show (keyX s.id).sameKey (keyX s.id) = true; rw [key_same]; simp⟩
theorem canon_X {X : List StD} (hr : X.Pairwise (fun s t => s.id < t.id)) : Maps.Canon (dmX X) :=
  ⟨X.map entX, rfl, List.pairwise_map.2 (hr.imp (fun {a b} h => decide_eq_true h)), fun p hp => by obtain ⟨s, _, rfl⟩ := List.mem_map.1 hp; trivial⟩
theorem tw_ris {f : Int → Nat × List Int} {X : List StD} (hr : X.Pairwise (fun s t => s.id < t.id)) : (twX f X).Pairwise (fun s t => s.id < t.id) := List.pairwise_map.2 hr
theorem tw_here {f : Int → Nat × List Int} {X : List StD} (hr : X.Pairwise (fun s t => s.id < t.id)) {s : StD} (hs : s ∈ X) (z : DataW Unit) : (dmX (twX f X)).atKey (keyX s.id) z = .lit (.int .i64 ((f s.id).1 : Int)) := by
  have hm : (⟨s.id, (f s.id).1, s.a, (f s.id).2⟩ : StD) ∈ twX f X := List.mem_map.2 ⟨s, hs, rfl⟩
  rw [dm_at]
  cases hf : (twX f X).find? (fun t => decide (t.id = s.id)) with
  | none =>
    have := List.find?_eq_none.1 hf _ hm
    simp at this
  | some t =>
    have := ris_ne (tw_ris hr) (find_mem hf).1 hm (find_mem hf).2
    subst this
    rfl
theorem CpI.next {w wr w1 wa w4 : World} {c mb2 r n lc : Nat} {q last : Int} {mb lb N : Nat} {X : List StD} {left : Lit → Bool} {cnt cnt1 : Nat} {f : Int → Nat × List Int} {D : DataW Unit} (hI : CpI w wr c mb2 r n lc q last mb lb N X left cnt f D) (hris : X.Pairwise (fun s t => s.id < t.id)) {s : StD} (hs : s ∈ X) (hk1 : left (keyX s.id) = true)
    (hrg1 : w1.ranges Tryd.prog 3 ptrR mb r N (dmX X) (fun z => left z && !z.sameKey (keyX s.id)) cnt1) (hlt : cnt1 < cnt) (ho1 : Only (fun k => some r = some k) wr w1) (hfa : Fresh w1 wa) {p' : Nat} {cs' : List Int} (hra : RunAt wa p' s.a cs') (hpa : w1.heap.size ≤ p') (hca : ∀ z ∈ cs', z ≤ 2)
    (hm4 : w4.ownsMap Tryd.prog 3 ptrR mb2 (X.length - cnt + 1) (D.put (keyX s.id) (.lit (.int .i64 (p' : Int))))) (hg4 : wa.grownBy w4 (some mb2)) (hcm : c ≠ mb2) (hrm : r ≠ mb2) (hcr : c ≠ r) (hmm : mb ≠ mb2) (hw2 : w.heap.size ≤ mb2) (hwr : w.heap.size ≤ r) (hc1 : c < wr.heap.size) (hr1 : r < wr.heap.size) (hm1 : mb2 < wr.heap.size) :
    CpI w w4 c mb2 r n lc q last mb lb N X (fun z => left z && !z.sameKey (keyX s.id)) cnt1 (updF f s.id (p', cs')) (D.put (keyX s.id) (.lit (.int .i64 (p' : Int)))) := by
  have ho4 := grown_only hg4
  have hoa := Only.of_fresh (S := fun _ => False) hfa
  have hsz := ho1.size
  have hcle := hI.cle
  have old : ∀ t ∈ X, left (keyX t.id) = false → t.id ≠ s.id := fun t _ h e => by rw [e, hk1] at h; cases h
  have two : ∀ t ∈ X, (left (keyX t.id) && !(keyX t.id).sameKey (keyX s.id)) = false → left (keyX t.id) = false ∨ t = s := fun t ht h => by
    rw [key_same] at h
    by_cases e : t.id = s.id
    · exact .inr (ris_ne hris ht hs e)
    · cases hl : left (keyX t.id) with
      | false => exact .inl rfl
      | true => rw [hl] at h; simp [e] at h
  have run0 : ∀ t ∈ X, left (keyX t.id) = false → (updF f s.id (p', cs')) t.id = f t.id := fun t ht h => by unfold updF; rw [if_neg (old t ht h)]
  have runs : (updF f s.id (p', cs')) s.id = (p', cs') := by unfold updF; rw [if_pos rfl]
  refine ⟨?_, by omega, hm4.mono (by omega), ?_, fun t ht h => ?_, fun t ht u hu h1 h2 hne => ?_, ?_, ?_⟩
  · exact (hrg1.kept (row := none) ⟨hoa.os, hoa.tape, hoa.output, hoa.size, fun k hk _ => hoa.block k hk id⟩ (by simp) (by simp)).kept hg4 (fun e => hmm (Option.some.inj e)) (fun e => hrm (Option.some.inj e))
  · exact Maps.agree_step (agree_tw hI.agr hk1 (p', cs')) hI.own.isMap trivial (fun zd => by rw [tw_here hris hs, runs])
  · rcases two t ht h with h | rfl
    · rw [run0 t ht h]
      obtain ⟨r1, r2, r3, r4, r5, r6⟩ := hI.run t ht h
      exact ⟨((r1.only ho1 (fun e => r5 (Option.some.inj e).symm)).only hoa id).only ho4 (fun e => r4 (Option.some.inj e).symm), r2, r3, r4, r5, r6⟩
    · rw [runs]
      exact ⟨hra.only ho4 (fun e => by have := Option.some.inj e; omega), by have := hI.fr.size; omega, by simp only; omega, by simp only; omega, by simp only; omega, hca⟩
  · rcases two t ht h1 with k1 | e1
    · rcases two u hu h2 with k2 | e2
      · rw [run0 t ht k1, run0 u hu k2]
        exact hI.dst t ht u hu k1 k2 hne
      · rw [run0 t ht k1, e2, runs]
        have := (hI.run t ht k1).1.blk.lt
        simp only; omega
    · rcases two u hu h2 with k2 | e2
      · rw [run0 u hu k2, e1, runs]
        have := (hI.run u hu k2).1.blk.lt
        simp only; omega
      · exact absurd (by rw [e1, e2]) hne
  · exact ((hI.blk.only ho1 (fun e => hcr (Option.some.inj e).symm)).only hoa id).only ho4 (fun e => hcm (Option.some.inj e).symm)
  · exact fresh_only ((fresh_only hI.fr ho1 (fun k e => by have := Option.some.inj e; omega)).trans hfa) ho4 (fun k e => by have := Option.some.inj e; omega)
def CpyP (w : World) (n : Nat) (q last : Int) (X : List StD) (e : Ending) (w' : World) : Prop := ∃ c mb2 lb2 f, e = .returned (.pointer (some ⟨c, 0, none⟩)) ∧ RegX w' w.heap.size c mb2 lb2 n q last X.length 2 (twX f X) ∧ Fresh w w'
set_option maxHeartbeats 6400000 in
theorem rg_copy {w : World} {base g mb lb n : Nat} {q last : Int} {N : Nat} {K : Int} {X : List StD} (h : RegX w base g mb lb n q last N K X) (hT : Tbl w) (hn1 : 1 ≤ n) (hn2 : n ≤ 64) (hXl : X.length ≤ 1000) :
    Calls Tryd.prog 20 #[.pointer (some ⟨g, 0, none⟩)] w (CpyP w n q last X) := by
  obtain ⟨lc, hlc, hblk⟩ := h.reg.blk
  have H := Lib.hid h
  have HB := Lib.hid hblk
  have HT := Lib.hid hT
  have HL := Lib.hid hlc
  have hlen := fun W (hf : Fresh w W) ty => (h.fresh hf).reg.map.len (t := 64) (e := 74) Tryd.underlying64 ty
  rw [show Maps.size (dmX X) = X.length from by simp [dmX, Maps.size]] at hlen
  have HLEN := Lib.hid hlen
  have HXL := Lib.hid hXl
  obtain ⟨g0, g1, g2, g3, g4⟩ : w.cell? ⟨g, 0, none⟩ = some (.int .i64 (n : Int)) ∧ w.cell? ⟨g, 1, none⟩ = some (.int .i64 q) ∧ w.cell? ⟨g, 2, none⟩ = some (.int .i64 last) ∧ w.cell? ⟨g, 3, none⟩ = some (.map (some mb)) ∧ w.cell? ⟨g, 4, none⟩ = some (.slice (some ⟨lb, 0, none⟩) n lc) := ⟨hblk.cell 0, hblk.cell 1, hblk.cell 2, hblk.cell 3, hblk.cell 4⟩
  have HFIN : Hid (∀ c mb2 lb2 f W, RegX W w.heap.size c mb2 lb2 n q last X.length 2 (twX f X) → Fresh w W → CpyP w n q last X (.returned (.pointer (some ⟨c, 0, none⟩))) W) := Lib.hid (fun c mb2 lb2 f W a b => ⟨c, mb2, lb2, f, rfl, a, b⟩)
  clear h hblk hT hlc hlen hXl
  generalize CpyP w n q last X = PP at *
  obtain ⟨c, hc⟩ : ∃ c, w.heap.size = c := ⟨_, rfl⟩
  have HC := Lib.hid hc
  go_enter Tryd.func20, Tryd.ntmps20
  go_upto_region 2 with fail
  refine wp_gen (fun W => Fresh w W ∧ Blk W c 67 #[.int .i64 (n : Int), .int .i64 q, .int .i64 last, .map (some mb), .slice (some ⟨lb, 0, none⟩) n lc]) ⟨by repeat (first | with_reducible exact Fresh.alloc _ _ | with_reducible exact Fresh.refl _), Blk.mkAt hc⟩ ?_
  rintro W1 ⟨hf1, hb1⟩
  have HF1 := Lib.hid hf1
  have HB1 := Lib.hid hb1
  clear g0 g1 g2 g3 g4 hc hf1 hb1
  obtain ⟨g3, _⟩ : W1.cell? ⟨g, 3, none⟩ = some (.map (some mb)) ∧ True := ⟨(HB.out.fresh HF1.out).cell 3, trivial⟩
  have hlen := HLEN.out W1 HF1.out
  have hmm := fun n W => run_mkMap (P := Tryd.prog) Tryd.underlying64 n W
  have hb1 := HB1.out
  have c3 := (HB1.out.alloc (.map #[] 0)).cell 3
  have z3 := (HB1.out.alloc (.map #[] 0)).frozen 3
  simp only [List.getElem?_toArray, List.getElem?_cons_succ, List.getElem?_cons_zero] at c3
  obtain ⟨mb2, hmb⟩ : ∃ m, W1.heap.size = m := ⟨_, rfl⟩
  have HMB := Lib.hid hmb
  have hcl := HB1.out.lt
  go_upto_region 3 with fail
  refine wp_gen (fun W => Fresh w W ∧ Blk W c 67 #[.int .i64 (n : Int), .int .i64 q, .int .i64 last, .map (some mb2), .slice (some ⟨lb, 0, none⟩) n lc] ∧ W.ownsMap Tryd.prog 3 ptrR mb2 0 (.map [])) ?_ ?_
  · refine ⟨(HF1.out.trans (Fresh.alloc _ _)).step _ _ (by have := HC.out; simp; omega), ?_, ?_⟩
    · simpa [hmb] using (hb1.alloc _).set 3 (.map (some mb2))
    · have h0 := World.ownsMap_made W1 Tryd.prog 3 ptrR
      rw [hmb] at h0
      exact World.ownsMap.only' (S := fun k => k = c) h0 (Only.setCell _ ⟨c, 3, none⟩ _) (by have := HMB.out; show ¬ mb2 = c; omega)
  clear c3 z3 hmm hb1 hlen
  rintro W2 ⟨hf2, hb2, hm2⟩
  have HF2 := Lib.hid hf2
  have HB2 := Lib.hid hb2
  have HM2 := Lib.hid hm2
  clear hf2 hb2 hm2 g3
  have g3 := (HB.out.fresh HF2.out).cell 3
  simp at g3
  have hown2 := (H.out.fresh HF2.out).reg.map
  obtain ⟨r, hr⟩ : ∃ r, W2.heap.size = r := ⟨_, rfl⟩
  have HRR := Lib.hid hr
  go_wp2_with (first
    | (at_range; refine wpList_range_own _ rfl _ 64 rfl 3 74 ikey Tryd.underlying64 ptrR mb N (dmX X) rfl hown2 ?_; intro w0 hrg0 hg0 hs0)
    | fail)
  rw [hr] at hrg0 hs0 ⊢
  go_frame
  have hf0 : Fresh W2 w0 := Only.fresh (grown_only hg0) (fun i hi e => by cases e)
  have HW0 : Hid (∃ left cnt f D, CpI w w0 c mb2 r n lc q last mb lb N X left cnt f D) := Lib.hid (by
    refine ⟨_, _, fun _ => (0, []), _, hrg0, by simp [dmX, Maps.size], ?_, (show Maps.Agree (.map []) (dmX (twX _ X)) _ from ?_), fun s hs hl => ?_, fun s hs t ht hl => ?_, HB2.out.fresh hf0, HF2.out.trans hf0⟩
    · rw [show Maps.size (dmX X) = X.length by simp [dmX, Maps.size], Nat.sub_self]
      exact World.ownsMap.only' (S := fun _ => False) HM2.out (Only.of_fresh hf0) id
    · have := Maps.agree_start (dmX (twX (fun _ => (0, [])) X))
      rw [show Maps.has (dmX (twX (fun _ => (0, [])) X)) = Maps.has (dmX X) from funext (tw_has _ X)] at this
      exact this
    · rw [has_X hs] at hl; cases hl
    · rw [has_X hs] at hl; cases hl)
  clear hrg0 hg0 hs0 hf0 hown2 hr g3 hmb hcl
  go_loopw [21] (fun _ wr => ∃ (left : Lit → Bool) (cnt : Nat) (f : Int → Nat × List Int) (D : DataW Unit), CpI w wr c mb2 r n lc q last mb lb N X left cnt f D) (fun _ wr => wr.rangeLeft mb r)
  case atStart => exact HW0.out
  case round =>
    obtain ⟨left, cnt, f, D, hI⟩ := hrel
    have HI := Lib.hid hI
    have hrng := hI.rng
    clear hI HW0
    go_wp2_with (first
      | (at_next; refine wpList_next_ranges _ rfl _ rfl 3 ikey ptrR (Value.int .i64) mkP (fun key kl hkey => by obtain ⟨x, rfl, _⟩ := Maps.keyOf_int_inv Tryd.underlying3 hkey; exact ⟨x, rfl⟩) mkP_inv mb r N (dmX X) left cnt rfl hrng ?_ ?_)
      | fail)
    · intro hc0 hl0
      have hI := HI.out
      have hD : D = dmX (twX f X) := Maps.agree_end hI.agr hl0 (hI.own.canon ikey) (canon_X (tw_ris H.out.ris))
      have hlv := (H.out.fresh hI.fr).reg.live
      have HCL := Lib.hid (rl_clone lb lc n (cntX n X) wr hlv hn1 hn2)
      have g4 := (HB.out.fresh hI.fr).cell 4
      simp at g4
      have HD := Lib.hid hD
      have HL0 := Lib.hid hl0
      clear hD hI hlv hrng hl0
      go_wp2_with fail
      with_reducible refine HCL.out.mono ?_
      rintro e w5 ⟨lb2, k2, rfl, hlb, hk2, hlv5, hf5⟩
      have hI := HI.out
      have hb5 := hI.blk.fresh hf5
      have c4 := hb5.cell 4
      have z4 := hb5.frozen 4
      simp at c4
      have hcr := hI.blk.lt
      have hmr := hI.own.lt
      have hcm : c ≠ mb2 := by have := HB1.out.lt; have := HMB.out; omega
      have hos := Only.setCell w5 ⟨c, 4, none⟩ (.slice (some ⟨lb2, 0, none⟩) n k2)
      have HXX : Hid (PP (.returned (.pointer (some ⟨c, 0, none⟩))) (w5.setCell ⟨c, 4, none⟩ (.slice (some ⟨lb2, 0, none⟩) n k2))) := Lib.hid (by
        refine HFIN.out c mb2 lb2 f _ ⟨⟨⟨k2, hk2, by simpa using hb5.set 4 (.slice (some ⟨lb2, 0, none⟩) n k2)⟩, ?_, ?_, hcm, by omega, by omega, by have := HC.out; omega, by have := HMB.out; have := HF1.out.size; omega, by have := hI.fr.size; omega⟩, fun s' hs' => ?_, ?_, tw_ris H.out.ris, fun s' hs' => ?_, fun s' hs' => ?_, fun s' hs' z hz => ?_⟩ ((hI.fr.trans hf5).step _ _ (by have := HC.out; show w.heap.size ≤ c; omega))
        · rw [tw_cnt]; exact hlv5.only hos (by show ¬ lb2 = c; omega)
        · rw [← HD.out]
          exact World.ownsMap.only' (World.ownsMap.only' (S := fun _ => False) (hI.own.mono (Nat.sub_le _ _)) (Only.of_fresh hf5) id) hos (fun e => hcm e.symm)
        · obtain ⟨s, hs, rfl⟩ := List.mem_map.1 hs'
          obtain ⟨r1, r2, r3, r4, _, _⟩ := hI.run s hs (HL0.out _)
          exact ⟨(r1.only (S := fun _ => False) (Only.of_fresh hf5) id).only hos r3, r2, r3, r4, by have := r1.blk.lt; simp only; omega⟩
        · refine List.pairwise_map.2 (H.out.ris.imp_of_mem (fun {a b} ha hb hab => ?_))
          exact hI.dst a ha b hb (HL0.out _) (HL0.out _) (by omega)
        · obtain ⟨s, hs, rfl⟩ := List.mem_map.1 hs'
          exact H.out.ids s hs
        · obtain ⟨s, hs, rfl⟩ := List.mem_map.1 hs'
          exact H.out.st s hs
        · obtain ⟨s, hs, rfl⟩ := List.mem_map.1 hs'
          exact (hI.run s hs (HL0.out _)).2.2.2.2.2 z hz)
      clear hI hb5 hcr hmr hcm hos hlv5 hf5
      go_wp2
      exact HXX.out
    · intro x o kl y yp w1 cnt1 hkey hlk hv hat hrg1 hlt hg1 hs1 hen
      obtain ⟨x', ex, rfl, hwx⟩ := Maps.keyOf_int_inv Tryd.underlying3 hkey
      cases ex
      obtain ⟨s, hs, rfl, rfl⟩ := next_X (y := (y, yp)) hv hat
      have hrp := H.out.runs s hs
      have hrl := hrp.1.blk.lt
      have hfr1 : Fresh w w1 := fresh_only HI.out.fr (grown_only hg1) (fun k e => by injection e with e; have := HRR.out; have := HF2.out.size; omega)
      have HTW := Lib.hid (fun W (hf : Fresh w W) => rg_twin s.p s.a s.cs W (hrp.1.fresh hf) (HT.out.fresh hf) (H.out.st s hs).1 (H.out.st s hs).2)
      have HFR1 := Lib.hid hfr1
      unfold mkP at hen ⊢
      simp only [Option.map_some] at hen ⊢
      have HG1 := Lib.hid (grown_only hg1)
      have c3 := (HI.out.blk.only HG1.out (fun e => by injection e with e; have := HRR.out; have := HB2.out.lt; omega)).cell 3
      simp at c3
      go_wp2_with fail
      have hcm : c ≠ mb2 := by have := HB1.out.lt; have := HMB.out; omega
      have hrm : r ≠ mb2 := by have := HM2.out.lt; have := HRR.out; omega
      have HSK : Hid (∀ w', Fresh w1 w' → w'.cell? ⟨c, 3, none⟩ = some (.map (some mb2))) := Lib.hid (fun w' hw => ((HI.out.blk.only HG1.out (fun e => by injection e with e; have := HRR.out; have := HB2.out.lt; omega)).fresh hw).cell 3)
      have HUP : Hid (∀ W, Fresh w1 W → ∀ p' : Nat, ∃ w4, (Instr.mapUpdate 64 (.map (some mb2)) (.int .i64 s.id) (.pointer (some ⟨p', 0, none⟩))).run Tryd.prog W = .ok () w4 ∧ w4.ownsMap Tryd.prog 3 ptrR mb2 (X.length - cnt + 1) (D.put (keyX s.id) (.lit (.int .i64 (p' : Int)))) ∧ W.grownBy w4 (some mb2)) := Lib.hid (fun W hw p' =>
        (World.ownsMap.only' (S := fun _ => False) (World.ownsMap.only' HI.out.own HG1.out (fun e => by injection e with e; exact hrm e)) (Only.of_fresh hw) id).update (t := 64) (e := 74) ikey Tryd.underlying64 (by have := HXL.out; unfold maxLen; omega) (key := .int .i64 s.id) (val := .pointer (some ⟨p', 0, none⟩)) (keyOf_int_mk Tryd.underlying3 hwx) rfl)
      have hk1 : left (keyX s.id) = true := hlk
      have HRG1 := Lib.hid hrg1
      have HCN := Lib.hid hlt
      have HMM : Hid (mb ≠ mb2 ∧ w.heap.size ≤ mb2 ∧ w.heap.size ≤ r ∧ c ≠ r ∧ r < wr.heap.size ∧ mb2 < wr.heap.size ∧ c < wr.heap.size) := Lib.hid (by
        have h1 := H.out.alive.2.1
        have h2 := HMB.out
        have h3 := HF1.out.size
        have h4 := HRR.out
        have h5 := HF2.out.size
        have h6 := HB2.out.lt
        have h7 := hrng.lt
        have h8 := HI.out.own.lt
        have h9 := HI.out.blk.lt
        exact ⟨by omega, by omega, by omega, by omega, h7, h8, h9⟩)
      have hmeas : w1.rangeLeft mb r = cnt1 := hrg1.left_eq
      have HLE := Lib.hid hrng.left_eq
      clear hrp hrl hfr1 hrg1 hlt hg1 hs1 hen hrng hlk hv hat hkey hwx c3 hmeas
      refine wp_noPanic ?_
      refine wp_region_held_drew (S := (fun w' => w'.cell? ⟨c, 3, none⟩ = some (.map (some mb2)))) (by kernel_rfl) (HSK.out _ (Fresh.drew _)) (fun hHeld => ?_)
      refine wpAnyH_take (i := 0) (v := ?_) rfl (by kernel_rfl) (by kernel_rfl) (by kernel_rfl) (fun _ _ _ h => h) (Or.inl ⟨by rfl, ?_⟩) (by assumption) ?_; rotate_left; focus (intro w hSw; (try dsimp only at hSw); go_simp; (try with_reducible rfl); done)
      (try simp only [Act.put, List.getElem_toArray, List.getElem_cons_zero, List.getElem_cons_succ, List.setIfInBounds_toArray, List.set_cons_zero, List.set_cons_succ])
      refine wpAnyH_take (i := 1) (v := ?_) rfl (by kernel_rfl) (by kernel_rfl) (by kernel_rfl) (fun _ _ _ h => h) (Or.inl ⟨by rfl, ?_⟩) (by assumption) ?_; rotate_left; focus (intro w hSw; (try dsimp only at hSw); go_simp; (try with_reducible rfl); done)
      (try simp only [Act.put, List.getElem_toArray, List.getElem_cons_zero, List.getElem_cons_succ, List.setIfInBounds_toArray, List.set_cons_zero, List.set_cons_succ])
      refine wpAnyH_take (i := 2) (v := ?_) rfl (by kernel_rfl) (by kernel_rfl) (by kernel_rfl) (fun _ _ _ h => h) (Or.inl ⟨by rfl, ?_⟩) (by assumption) ?_; rotate_left; focus (intro w hSw; (try dsimp only at hSw); go_simp; (try with_reducible rfl); done)
      (try simp only [Act.put, List.getElem_toArray, List.getElem_cons_zero, List.getElem_cons_succ, List.setIfInBounds_toArray, List.set_cons_zero, List.set_cons_succ])
      refine wpAnyH_take (i := 3) (v := ?_) rfl (by kernel_rfl) (by kernel_rfl) (by kernel_rfl) (fun _ _ _ h => h) (Or.inl ⟨by rfl, ?_⟩) (by assumption) ?_; rotate_left; focus (intro w hSw; (try dsimp only at hSw); go_simp; (try with_reducible rfl); done)
      (try simp only [Act.put, List.getElem_toArray, List.getElem_cons_zero, List.getElem_cons_succ, List.setIfInBounds_toArray, List.set_cons_zero, List.set_cons_succ])
      refine wpAnyH_ready (rs := [4]) (by kernel_rfl) (by simp) ?_
      refine AllReadyH.cons rfl (fun K hK => ?_) AllReadyH.nil
      (go_simp; go_at_call 36; (with_reducible refine (HTW.out _ (HFR1.out.trans (Fresh.drew _))).mono ?_); rintro e wa ⟨p', cs', rfl, hra, hpa, hca, hfa⟩; have hga : Fresh w1 wa := (Fresh.drew w1).trans hfa; obtain ⟨w4, hup, hm4, hg4⟩ := HUP.out wa hga p')
      refine hK.out _ _ (HSK.out _ hga) (fun hHeld => ?_)
      clear hK K
      (try simp only [Act.put, List.getElem_toArray, List.getElem_cons_zero, List.getElem_cons_succ, List.setIfInBounds_toArray, List.set_cons_zero, List.set_cons_succ])
      refine wpAnyH_ready (rs := [5]) (by kernel_rfl) (by simp) ?_
      refine AllReadyH.cons rfl (fun K hK => ?_) AllReadyH.nil
      go_simp
      refine hK.out _ _ (((HSK.out _ hga) ▸ (grown_only hg4).cell (p := ⟨c, 3, none⟩) (by have := hga.size; have := HG1.out.size; have := HMM.out; show c < _; omega) (fun e => hcm (Option.some.inj e).symm))) (fun hHeld => ?_)
      clear hK K
      (try simp only [Act.put, List.getElem_toArray, List.getElem_cons_zero, List.getElem_cons_succ, List.setIfInBounds_toArray, List.set_cons_zero, List.set_cons_succ])
      refine wpAnyH_done (by kernel_rfl) ?_ _
      refine NoPanic.normal ?_
      have HN := Lib.hid (HI.out.next H.out.ris hs hk1 HRG1.out HCN.out HG1.out hga hra hpa hca hm4 hg4 hcm hrm HMM.out.2.2.2.1 HMM.out.1 HMM.out.2.1 HMM.out.2.2.1 HMM.out.2.2.2.2.2.2 HMM.out.2.2.2.2.1 HMM.out.2.2.2.2.2.1)
      go_wp2_with fail
      go_roundw
      case rel => exact ⟨_, _, _, _, HN.out⟩
      case measure => rw [HN.out.rng.left_eq, HLE.out]; exact HCN.out
end Go.Proofs.YtjediikcfhdgiaaDoor

